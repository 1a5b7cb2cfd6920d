/- ClrG; FindC: joined. -/
import Derived.Test.YtooalbdlknheeaaGreatRows
import Derived.Test.YtooalbdlknheeaaGreatJ25LawMachines
import Derived.WalkKit
import Derived.Below
import Derived.Maps.AppendAt
import Derived.Laws.OwnMore
import Derived.Deep.AppendLies
import Derived.Deep.Heap
import Derived.Test.YtooalbdlknheeaaGreatOwnIJ
import Derived.Test.YtooalbdlknheeaaGreatJ23LawMachines
import Derived.Test.YtooalbdlknheeaaGreatMacOkIJ
import Derived.WalkSpells
import Derived.WalkLawsBesides
/- A row of records that are picked out of another row. -/
namespace Go.Proofs.YtooalbdlknheeaaGreat
open Go.RowKit
theorem owns_mono {W : World} {base base' n sz : Nat} {v : Value} {T : TypeId} {xs : List Value} (h : W.ownsRow base T sz v n xs) (hb : base' ≤ base) : W.ownsRow base' T sz v n xs := by
  obtain ⟨h1, h2⟩ := h
  refine ⟨h1, h2.imp id ?_⟩
  rintro ⟨g, cap, cur, rfl, r1, r2⟩
  exact ⟨g, cap, cur, rfl, Nat.le_trans hb r1, r2⟩
theorem owns_slice {W : World} {base n sz : Nat} {v : Value} {T : TypeId} {xs : List Value} (h : W.ownsRow base T sz v n xs) : ∃ a c, v = .slice a n c := by
  rcases h.2 with ⟨rfl, rfl⟩ | ⟨q, cap, cur, rfl, _⟩
  · exact ⟨none, 0, rfl⟩
  · exact ⟨_, cap, rfl⟩
theorem flat_lenG {α : Type} {cells : α → List Value} {sz : Nat} (hl : ∀ s, (cells s).length = sz) (l : List α) : (l.flatMap cells).length = l.length * sz := by
  induction l with
  | nil => simp
  | cons y l ih => rw [List.flatMap_cons, List.length_append, ih, hl, List.length_cons, Nat.add_mul]; omega
/-- The cells of record i, its Sets where they are. -/
def pickC (rs : List R4) (gr caps : Nat → Nat) (i : Nat) : List Value := rc (atR rs i) (some ⟨gr i, 0, none⟩) (caps i)
def RowK (W : World) (B : Nat) (v : Value) (rs : List R4) (gr caps : Nat → Nat) (K : List Nat) : Prop := W.ownsRow B 41 4 v K.length (K.flatMap (pickC rs gr caps))
theorem RowK.lt {W : World} {B : Nat} {v : Value} {rs : List R4} {gr caps : Nat → Nat} {K : List Nat} (h : RowK W B v rs gr caps K) {q : Nat} (e : v.ownBlock = some q) : B ≤ q ∧ q < W.heap.size := World.ownsRow.lt h q e
theorem RowK.later {W W' : World} {B : Nat} {v : Value} {rs : List R4} {gr caps : Nat → Nat} {K : List Nat} (h : RowK W B v rs gr caps K) (hb : Below W.heap.size W W') : RowK W' B v rs gr caps K := owns_keep h (fun q e => hb.block q (owns_lt h e))
theorem RowK.made (W : World) (rs : List R4) (gr caps : Nat → Nat) : RowK (W.alloc (.cells #[] 41)) W.heap.size (.slice (some ⟨W.heap.size, 0, none⟩) 0 0) rs gr caps [] := World.ownsRow_made W #[] 0 (Nat.le_refl _) (Nat.zero_le _) rfl
theorem RowK.push {W : World} {B : Nat} {v : Value} {rs : List R4} {gr caps : Nat → Nat} {K : List Nat} (h : RowK W B v rs gr caps K) (i : Nat) (hm : K.length + 1 ≤ 1048576) (ty : TypeId) (e k : Nat) (src : At W e 0 (pickC rs gr caps i)) (hbase : B ≤ W.heap.size) :
    ∃ v' W', (Builtin.append_ #[25, 25] ty #[v, .slice (some ⟨e, 0, none⟩) 1 k]).run Tryz.prog W = .ok v' W' ∧ RowK W' B v' rs gr caps (K ++ [i]) ∧ W.grownBy W' v.ownBlock := by
  obtain ⟨i0, hi0, hz0, hz1, hz2⟩ := partsOf info_recs
  have hadd : ∀ (b o j : Nat), (⟨b, o, none⟩ : Addr).add j = ⟨b, o + j, none⟩ := fun b o j => by unfold Addr.add; split <;> simp_all
  obtain ⟨v', W', hrun, hown, hg, _, _⟩ := run_append_own_at (P := Tryz.prog) W B 25 ty 41 i0 _ 4 _ Tryz.underlying25 hi0 hz0 hz1 hz2 rfl (by omega)
    v K.length _ h ⟨e, 0, none⟩ 1 k (pickC rs gr caps i) rfl (fun j u hu => by rw [hadd]; exact src j u hu)
    (fun u hu => by simp only [pickC, rc, List.mem_cons, List.not_mem_nil, or_false] at hu; rcases hu with rfl | rfl | rfl | rfl <;> rfl) (by unfold maxLen; omega) (by omega) hbase
  refine ⟨v', W', hrun, ?_, hg⟩
  unfold RowK
  rw [List.flatMap_append, List.length_append]
  simpa using hown
theorem flatG_pick (rs : List R4) (gr caps : Nat → Nat) (K : List Nat) : flatG hdR lnR (K.map (atR rs)) (fun x => gr (K[x]?.getD 0)) (fun x => caps (K[x]?.getD 0)) = K.flatMap (pickC rs gr caps) := by
  apply List.ext_getElem?
  intro j
  have hj : j / 4 * 4 + j % 4 = j := by omega
  by_cases hl : j / 4 < K.length
  · have hK := List.getElem?_eq_getElem hl
    have hm : (K.map (atR rs))[j / 4]? = some (atR rs K[j / 4]) := by rw [List.getElem?_map, hK]; rfl
    rw [← hj, flatG_at (sz := 4) (fun r => rfl) hm (Nat.mod_lt _ (by decide)), cellsG_rc, hK, flat_at (f := pickC rs gr caps) (sz := 4) (fun _ _ => rfl) hK (Nat.mod_lt _ (by decide))]
    rfl
  · rw [List.getElem?_eq_none (by rw [flatG_len, List.length_map]; omega), List.getElem?_eq_none (by rw [flat_lenG (sz := 4) (fun _ => rfl)]; omega)]
/-- The elder row's records, where there are some. -/
theorem GrowG.look {w : World} {base cl : Nat} {al : Option Addr} {rs : List R4} {g : Nat → Nat} (h : GrowG 41 4 hdR lnR AtR w base (.slice al rs.length cl) rs g) : ∃ caps : Nat → Nat, (∀ i, i < rs.length → lnR (atR rs i) ≤ caps i) ∧ (∀ i, i < rs.length → ∃ b, al = some ⟨b, 0, none⟩ ∧ b < w.heap.size ∧ At w b (i * 4) (pickC rs g caps i)) := by
  by_cases e : rs = []
  · subst e
    exact ⟨fun _ => 0, fun i hi => by simp at hi, fun i hi => by simp at hi⟩
  · obtain ⟨b, cp, ev, -, h2, -, -, -⟩ := GrowG.own (hd := hdR) (sz := 4) (fun _ => rfl) h e
    injection ev with ea _ ec
    subst ea
    obtain ⟨caps, -, hrow, hcp, -⟩ := h.rows rfl
    exact ⟨caps, hcp, fun i hi => ⟨b, rfl, h2, hrow i hi⟩⟩
/-- The picked row stands by itself. -/
theorem RowK.grow {w W : World} {base B : Nat} {v vr : Value} {rs : List R4} {gr caps : Nat → Nat} {K : List Nat} (h : RowK W B v rs gr caps K) (ho : GrowG 41 4 hdR lnR AtR w base vr rs gr) (hk : ∀ i, i < rs.length → W.heap[gr i]? = w.heap[gr i]?) (hlt : ∀ i, i < rs.length → gr i < B) (hB : base ≤ B) (hsz : w.heap.size ≤ W.heap.size) (hcp : ∀ i, i < rs.length → lnR (atR rs i) ≤ caps i) (hKn : ∀ (x i : Nat), K[x]? = some i → i < rs.length) (hKd : K.Nodup) :
    GrowG 41 4 hdR lnR AtR W base v (K.map (atR rs)) (fun x => gr (K[x]?.getD 0)) := by
  have hkx : ∀ x r, (K.map (atR rs))[x]? = some r → ∃ i, K[x]? = some i ∧ r = atR rs i := fun x r e => by
    rw [List.getElem?_map] at e
    obtain ⟨i, hi, rfl⟩ := Option.map_eq_some_iff.1 e
    exact ⟨i, hi, rfl⟩
  have hkl : ∀ x, x < (K.map (atR rs)).length → ∃ i, K[x]? = some i ∧ i < rs.length := fun x hx => by
    have h1 := List.getElem?_eq_getElem (l := K) (i := x) (by simpa using hx)
    exact ⟨_, h1, hKn x _ h1⟩
  refine ⟨⟨fun x => caps (K[x]?.getD 0), ?_, fun x r e => ?_⟩, fun x hx => ?_, fun x hx => ?_, fun x hx => ?_, fun x r e => ?_, fun x y hx hy e => ?_⟩
  · rw [List.length_map, flatG_pick]
    exact owns_mono h hB
  · obtain ⟨i, hi, rfl⟩ := hkx x r e
    simp only [hi, Option.getD_some]
    exact hcp i (hKn x i hi)
  · obtain ⟨i, hi, hin⟩ := hkl x hx
    simp only [hi, Option.getD_some]
    exact ho.low i hin
  · obtain ⟨i, hi, hin⟩ := hkl x hx
    simp only [hi, Option.getD_some]
    exact Nat.lt_of_lt_of_le (ho.lt i hin) hsz
  · obtain ⟨i, hi, hin⟩ := hkl x hx
    simp only [hi, Option.getD_some]
    exact fun e => by have := (h.lt e).1; have := hlt i hin; omega
  · obtain ⟨i, hi, rfl⟩ := hkx x r e
    simp only [hi, Option.getD_some]
    have hin := hKn x i hi
    exact AtR.of_block _ _ _ _ (hk i hin) (ho.sub i _ (atR_of hin))
  · obtain ⟨i, hi, hin⟩ := hkl x hx
    obtain ⟨j, hj, hjn⟩ := hkl y hy
    simp only [hi, hj, Option.getD_some] at e
    have hij := ho.inj i j hin hjn e
    subst hij
    obtain ⟨a1, b1⟩ := List.getElem?_eq_some_iff.1 hi
    obtain ⟨a2, b2⟩ := List.getElem?_eq_some_iff.1 hj
    have hp := List.pairwise_iff_getElem.1 hKd
    rcases Nat.lt_trichotomy x y with hxy | hxy | hxy
    · exact absurd (b1.trans b2.symm) (hp x y a1 a2 hxy)
    · exact hxy
    · exact absurd (b2.trans b1.symm) (hp y x a2 a1 hxy)
/-- A machine under way with records picked out of its log. -/
theorem MR.picked {base p B : Nat} {X W : World} {vk vr vr' vd : Value} {ks : List K2} {rs : List R4} {zs : List Int} {gk gr caps : Nat → Nat} {K : List Nat} (h : MR base p X vk vr vd ks rs zs gk gr) (hb : Below X.heap.size X W) (hB : X.heap.size ≤ B) (hX : base ≤ X.heap.size) (hp : p < X.heap.size) (hr : RowK W B vr' rs gr caps K) (hcp : ∀ i, i < rs.length → lnR (atR rs i) ≤ caps i) (hKn : ∀ (x i : Nat), K[x]? = some i → i < rs.length) (hKd : K.Nodup) :
    MR base p W vk vr' vd ks (K.map (atR rs)) zs gk (fun x => gr (K[x]?.getD 0)) := by
  have hl := h.later hb
  have old : ∀ q, blocksG vr' (K.map (atR rs)) (fun x => gr (K[x]?.getD 0)) q → blocksG vr rs gr q ∨ B ≤ q := fun q hq => by
    rcases hq with hq | ⟨x, hx, hq⟩
    · exact .inr (hr.lt hq).1
    · have h1 := List.getElem?_eq_getElem (l := K) (i := x) (by simpa using hx)
      refine .inl (.inr ⟨K[x]'(by simpa using hx), hKn x _ h1, ?_⟩)
      simpa only [h1, Option.getD_some] using hq
  refine ⟨hl.gK, hr.grow h.gR (fun i hi => hb.block _ (h.gR.lt i hi)) (fun i hi => Nat.lt_of_lt_of_le (h.gR.lt i hi) hB) (Nat.le_trans hX hB) hb.size hcp hKn hKd, hl.gD, fun q hq hq' => ?_, h.kd, fun q hq e => ?_, h.kp, fun q hq => ?_, h.dp⟩
  · rcases old q hq' with ho | ho
    · exact h.kr q hq ho
    · have := (h.gK.blocks hq).2; omega
  · rcases old q hq with ho | ho
    · exact h.rd q ho e
    · have := owns_lt h.gD e; omega
  · rcases old q hq with ho | ho
    · exact h.rp q ho
    · omega
end Go.Proofs.YtooalbdlknheeaaGreat
/- The program's search for a copy: cmp.Compare, slices.BinarySearchFunc over copies that rise, findCopy. -/
namespace Go.Proofs.YtooalbdlknheeaaGreat
open Go.RowKit
theorem byRegion_any (w : World) (k : K2) (a : Option Addr) (cap : Nat) (y : Int) : Calls Tryz.prog 121 #[k.val a cap, .int .i64 y] w fun e w' => e = .returned (.int .i64 (cmpI k.region y)) ∧ Below w.heap.size w w' := by
  simp only [K2.val]
  have b0 : Below w.heap.size w (w.alloc (.cells #[.int .i64 k.region, .slice a k.cells.length cap] 97)) := (Below.refl _ _).alloc (Nat.le_refl _) _
  generalize k.cells.length = n at *
  go_enter Tryz.func121, Tryz.ntmps121
  go_wp2_with (go_at_call 122; refine (compare_any _ _ _).mono ?_; rintro e w' ⟨rfl, rfl⟩)
  go_ret
  exact ⟨rfl, b0⟩
/-- Copies whose regions rise. -/
def UpR (ks : List K2) : Prop := ∀ i j, i < j → j < ks.length → (atK ks i).region < (atK ks j).region
theorem UpR.of_all {ks : List K2} (h : (List.range ks.length).all (upK ks) = true) : UpR ks := by
  intro i j hij hj
  induction j with
  | zero => omega
  | succ j ih =>
    have h2 := List.all_eq_true.1 h (j + 1) (List.mem_range.2 hj)
    simp [upK] at h2
    by_cases e : i = j
    · rw [e]; exact h2
    · have := ih (by omega) (by omega); omega
/-- Where region y is, or would have to be put. -/
structure PosK (ks : List K2) (y : Int) (i : Nat) : Prop where
  le : i ≤ ks.length
  lo : ∀ t, t < i → (atK ks t).region < y
  hi : ∀ t, i ≤ t → t < ks.length → y ≤ (atK ks t).region
def foundK (ks : List K2) (y : Int) (i : Nat) : Bool := decide (i < ks.length) && decide ((atK ks i).region = y)
set_option maxHeartbeats 4000000 in
theorem bsearch_any (w : World) (a : Option Addr) (n cap : Nat) (ks : List K2) (y : Int) (hn : n ≤ 1000) (hu : UpR ks) (hs : SlK w w.heap.size a n ks) :
    Calls Tryz.prog 123 #[.slice a n cap, .int .i64 y, .func (.func 121) #[] #[]] w fun e w' => ∃ i : Nat, e = .returned (.tuple #[.int .i64 i, .bool (foundK ks y i)]) ∧ PosK ks y i ∧ Below w.heap.size w w' := by
  obtain ⟨hx, hs⟩ := hs
  have HU : Hid (UpR ks ∧ ks.length = n) := ⟨hu, hx⟩
  clear hu hx
  go_enter Tryz.func123, Tryz.ntmps123
  go_wp2
  go_loopw [9, 10] (fun v9 v10 wr => ∃ i j : Nat, i ≤ j ∧ j ≤ n ∧ v9 = .int .i64 i ∧ v10 = .int .i64 j ∧ Below w.heap.size w wr ∧ (∀ t, t < i → (atK ks t).region < y) ∧ (∀ t, j ≤ t → t < n → y ≤ (atK ks t).region)) (fun v9 v10 _ => (intOf v10).toNat - (intOf v9).toNat)
  case atStart => exact ⟨0, n, Nat.zero_le _, Nat.le_refl _, rfl, rfl, Below.refl _ _, fun t h => by omega, fun t h1 h2 => by omega⟩
  case round =>
    obtain ⟨i, j, hij, hjn, rfl, rfl, hbl, hlo, hhi⟩ := hrel
    by_cases hlt : i < j
    · rcases hs with hs | ⟨b, off, rfl, hb, h1⟩
      · omega
      have hd : (i + j) / 2 < n := by omega
      have hr := (h1 ((i + j) / 2) _ (atK_of (by rw [HU.out.2]; exact hd))).below hbl hb
      have k0 := hr.c0
      obtain ⟨a1, p1, k1, _, _⟩ := hr.c1
      have K : Hid (Below w.heap.size w wr ∧ (∀ t, t < i → (atK ks t).region < y) ∧ (∀ t, j ≤ t → t < n → y ≤ (atK ks t).region)) := ⟨hbl, hlo, hhi⟩
      have hc := byRegion_any wr (atK ks ((i + j) / 2)) a1 p1 y
      simp only [K2.val] at hc
      clear h1 hr hbl hlo hhi
      have HI : Hid (∀ t, t ≤ (i + j) / 2 → (atK ks t).region ≤ (atK ks ((i + j) / 2)).region) := fun t ht => by
        by_cases e : t = (i + j) / 2
        · rw [e]; exact Int.le_refl _
        · exact Int.le_of_lt (HU.out.1 t _ (by omega) (by rw [HU.out.2]; exact hd))
      have HJ : Hid (∀ t, (i + j) / 2 ≤ t → t < n → (atK ks ((i + j) / 2)).region ≤ (atK ks t).region) := fun t ht htn => by
        by_cases e : t = (i + j) / 2
        · rw [e]; exact Int.le_refl _
        · exact Int.le_of_lt (HU.out.1 _ t (by omega) (by rw [HU.out.2]; exact htn))
      generalize (atK ks ((i + j) / 2)).region = x at *
      generalize (atK ks ((i + j) / 2)).cells.length = lx at *
      by_cases hq : x < y
      · rw [show cmpI x y = -1 from if_pos hq] at hc
        have HQ := hidOf hq
        clear hq
        go_wp2_with fail
        refine hc.mono ?_
        clear hc
        rintro e w1 ⟨rfl, b1⟩
        go_wp2
        exact ⟨⟨(i + j) / 2 + 1, j, by omega, hjn, by simp, rfl, K.out.1.trans (b1.mono K.out.1.size), fun t ht => by have := HI.out t (by omega); have := HQ.out; omega, K.out.2.2⟩, by simp [intOf]; omega⟩
      · have hc0 : decide (cmpI x y < 0) = false := by
          rw [cmpI, if_neg hq]
          by_cases h2 : y < x
          · rw [if_pos h2]; rfl
          · rw [if_neg h2]; rfl
        have HQ := hidOf hq
        clear hq
        generalize cmpI x y = cv at *
        go_wp2_with fail
        refine hc.mono ?_
        clear hc
        rintro e w1 ⟨rfl, b1⟩
        go_wp2
        exact ⟨⟨i, (i + j) / 2, by omega, by omega, rfl, by simp, K.out.1.trans (b1.mono K.out.1.size), K.out.2.1, fun t ht htn => by have := HJ.out t ht htn; have := HQ.out; omega⟩, by simp [intOf]; omega⟩
    · obtain rfl : i = j := by omega
      have hd : decide ((i : Int) < (i : Int)) = false := by simp
      have HP : Hid (PosK ks y i) := ⟨by rw [HU.out.2]; exact hjn, hlo, fun t h1 h2 => hhi t h1 (by rw [← HU.out.2]; exact h2)⟩
      clear hlo hhi
      by_cases hin : i < n
      · rcases hs with hs | ⟨b, off, rfl, hb, h1⟩
        · omega
        have hr := (h1 i _ (atK_of (by rw [HU.out.2]; exact hin))).below hbl hb
        have k0 := hr.c0
        obtain ⟨a1, p1, k1, _, _⟩ := hr.c1
        have hc := byRegion_any wr (atK ks i) a1 p1 y
        simp only [K2.val] at hc
        have HF : Hid (foundK ks y i = decide ((atK ks i).region = y) ∧ Below w.heap.size w wr) := ⟨by simp [foundK, HU.out.2, hin], hbl⟩
        clear h1 hr hbl
        generalize (atK ks i).region = x at *
        generalize (atK ks i).cells.length = lx at *
        have he : (cmpI x y == 0) = decide (x = y) := by
          unfold cmpI
          by_cases h1 : x < y
          · rw [if_pos h1]; simp; omega
          · rw [if_neg h1]
            by_cases h2 : y < x
            · rw [if_pos h2]; simp; omega
            · rw [if_neg h2]; simp; omega
        generalize cmpI x y = cv at *
        go_wp2_with fail
        refine hc.mono ?_
        clear hc
        rintro e w1 ⟨rfl, b1⟩
        have HE := hidOf he
        clear he
        go_wp2
        refine bodyPost_ret (v := .tuple #[.int .i64 i, .bool (cv == 0)]) (by simp [results, Tryz.results123, go_sem]) rfl ⟨i, by rw [HF.out.1, ← HE.out], HP.out, HF.out.2.trans (b1.mono HF.out.2.size)⟩
      · have hdn : decide ((i : Int) < (n : Int)) = false := by simp; omega
        have HF : Hid (foundK ks y i = false) := by unfold Hid; simp [foundK, HU.out.2, hin]
        clear hs
        go_wp2
        refine bodyPost_ret (v := .tuple #[.int .i64 i, .bool false]) (by simp [results, Tryz.results123, go_sem]) rfl ⟨i, by rw [HF.out], HP.out, hbl⟩
set_option maxHeartbeats 1000000 in
theorem findCopy_any (w : World) (s : Nat) (a : Option Addr) (cap : Nat) (ks : List K2) (y : Int) (hn : ks.length ≤ 1000) (hu : UpR ks) (hs : SlK w w.heap.size a ks.length ks) (hc : w.cell? ⟨s, 2, none⟩ = some (.slice a ks.length cap)) :
    Calls Tryz.prog 62 #[.pointer (some ⟨s, 0, none⟩), .int .i64 y] w fun e w' => ∃ i : Nat, e = .returned (.tuple #[.int .i64 i, .bool (foundK ks y i)]) ∧ PosK ks y i ∧ Below w.heap.size w w' := by
  have hb := bsearch_any w a ks.length cap ks y hn hu hs
  clear hs hu
  generalize ks.length = n at *
  go_enter Tryz.func62, Tryz.ntmps62
  go_wp2_with fail
  refine hb.mono ?_
  clear hb
  rintro e w1 ⟨i, rfl, hp, b1⟩
  have K := hidOf hp
  clear hp
  go_wp2
  exact bodyPost_ret (v := .tuple #[.int .i64 i, .bool (foundK ks y i)]) (by simp [results, Tryz.results62, go_sem]) rfl ⟨i, rfl, K.out, b1⟩
end Go.Proofs.YtooalbdlknheeaaGreat
