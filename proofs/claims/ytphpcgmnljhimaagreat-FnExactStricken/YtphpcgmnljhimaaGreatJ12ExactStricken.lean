/- YWanA; YChkA; VoX1; HomL; VoX: joined. -/
import Derived.Test.YtphpcgmnljhimaaGreatRows
import Derived.Test.YtphpcgmnljhimaaGreatJ8ExactStricken
import Derived.Test.YtphpcgmnljhimaaGreatJ7ExactStricken
import Derived.Test.YtphpcgmnljhimaaGreatJ11ExactStricken
import Derived.WalkKit
import Derived.WalkSpells
import Derived.WalkLawsBesides
import Derived.Below
import Derived.Test.YtphpcgmnljhimaaGreatJ10ExactStricken
import Derived.Lib.QuietBelow
import Derived.BigQuiet
import Derived.Deep.CutRange
import Derived.LaidEql
import Derived.RowKitTokens
import Derived.Test.YtphpcgmnljhimaaGreatJ3ExactStricken
namespace Go.Proofs.YtphpcgmnljhimaaGreat.tx
open Go.RowKit
def OwnIn (w : World) (P : Nat → Prop) (a : Option Addr) (zs : List Int) : Prop := zs = [] ∨ ∃ b, a = some ⟨b, 0, none⟩ ∧ P b ∧ b < w.heap.size ∧ NumsAt w b 0 zs ∧ Room w b zs.length
theorem NumsAt.of_blk {w w' : World} {b off : Nat} {zs : List Int} (h : NumsAt w b off zs) (e : w'.heap[b]? = w.heap[b]?) : NumsAt w' b off zs := fun i z hz => (World.cell?_of_block (a := ⟨b, off + i, none⟩) e).trans (h i z hz)
theorem OwnIn.keep {w w' : World} {P : Nat → Prop} {a : Option Addr} {zs : List Int} (h : OwnIn w P a zs) (hs : w.heap.size ≤ w'.heap.size) (hk : ∀ q, q < w.heap.size → P q → w'.heap[q]? = w.heap[q]?) : OwnIn w' P a zs := by
  rcases h with h | ⟨b, ha, hp, hl, hn, hr⟩
  · exact .inl h
  · exact .inr ⟨b, ha, hp, Nat.lt_of_lt_of_le hl hs, hn.of_blk (hk b hl hp), hr.of_block (hk b hl hp)⟩
theorem OwnIn.sl {w : World} {P : Nat → Prop} {a : Option Addr} {zs : List Int} (h : OwnIn w P a zs) : SlN w w.heap.size a zs.length zs := by
  rcases h with e | ⟨b, ha, _, hl, hn, _⟩
  · exact ⟨rfl, .inl (by rw [e]; rfl)⟩
  · exact ⟨rfl, .inr ⟨b, 0, ha, hl, hn⟩⟩
def intC (z : Int) : List Value := [.int .i64 z]
def RowI (W : World) (base : Nat) (v : Value) (zs : List Int) : Prop := W.ownsRow base 2 1 v zs.length (zs.flatMap intC)
theorem infoNum : (Tryz.prog.info? 2).map (fun i => (i.zero, i.size, i.bytes)) = some (some (.int .i64 0), 1, 8) := by kernel_rfl
theorem pushI {W : World} {base : Nat} {v : Value} {zs : List Int} (h : RowI W base v zs) (z : Int) (hm : zs.length + 1 ≤ 1048576) (ty : TypeId) (b k : Nat) (src : W.cell? ⟨b, 0, none⟩ = some (.int .i64 z)) (hbase : base ≤ W.heap.size) :
    ∃ v' W', (Builtin.append_ #[54, 54] ty #[v, .slice (some ⟨b, 0, none⟩) 1 k]).run Tryz.prog W = .ok v' W' ∧ RowI W' base v' (zs ++ [z]) ∧ W.grownBy W' v.ownBlock ∧ (v'.ownBlock = v.ownBlock ∨ v'.ownBlock = some W.heap.size) := by
  obtain ⟨i0, hi0, hz0, hz1, hz2⟩ := partsOf infoNum
  exact pushX (cells := intC) (sz := 1) (by_ := 8) (fun _ => rfl) (fun s u hu => by simp only [intC, List.mem_cons, List.not_mem_nil, or_false] at hu; subst hu; rfl) (by omega) Tryz.underlying54 hi0 hz0 hz1 hz2 rfl (by omega) h [z] hm ty b 0 k (fun i s e t u hu => by
    rcases i with _ | i
    · simp at e; subst e
      rcases t with _ | t
      · simp [intC] at hu; subst hu; exact src
      · simp [intC] at hu
    · simp at e) hbase
theorem RowI.nil (W : World) (base : Nat) : RowI W base (.slice none 0 0) [] := ⟨rfl, .inl ⟨rfl, rfl⟩⟩
theorem RowI.lt {W : World} {base : Nat} {v : Value} {zs : List Int} (h : RowI W base v zs) {q : Nat} (e : v.ownBlock = some q) : base ≤ q ∧ q < W.heap.size := World.ownsRow.lt h q e
theorem RowI.later {W W' : World} {base : Nat} {v : Value} {zs : List Int} (h : RowI W base v zs) (hb : Below W.heap.size W W') : RowI W' base v zs := row_keep h (fun q e => hb.block q (h.lt e).2)
theorem RowI.made (W : World) : RowI (W.alloc (.cells #[] 2)) W.heap.size (.slice (some ⟨W.heap.size, 0, none⟩) 0 0) [] := World.ownsRow_made W #[] 0 (Nat.le_refl _) (Nat.zero_le _) rfl
theorem intC_map (zs : List Int) : zs.flatMap intC = zs.map (Value.int .i64) := List.map_eq_flatMap.symm
theorem RowI.form {W : World} {base : Nat} {v : Value} {zs : List Int} (h : RowI W base v zs) : ∃ a c, v = .slice a zs.length c ∧ OwnIn W (fun q => v.ownBlock = some q) a zs ∧ zs.length ≤ c ∧ (zs ≠ [] → ∃ q, a = some ⟨q, 0, none⟩) := by
  have h' := h
  rcases h.2 with ⟨rfl, h0⟩ | ⟨q, cap, cur, rfl, hb, hg, hl, _⟩
  · have hz := List.eq_nil_of_length_eq_zero h0
    exact ⟨none, 0, by rw [h0], .inl hz, by omega, fun e => absurd hz e⟩
  · refine ⟨some ⟨q, 0, none⟩, cap, rfl, .inr ⟨q, rfl, rfl, (World.ownsRow.lt h q rfl).2, fun i z ez => ?_, fun j hj => ⟨.int .i64 (zs[j]'hj), ?_, World.ownsRow.frozenAt h j⟩⟩, hl, fun _ => ⟨q, rfl⟩⟩
    · have hi := (List.getElem?_eq_some_iff.1 ez).1
      rw [Nat.zero_add, World.ownsRow.cellAt h i (by omega), intC_map, List.getElem?_map, ez]; rfl
    · rw [World.ownsRow.cellAt h j (by omega), intC_map, List.getElem?_map, List.getElem?_eq_getElem hj]; rfl
def IAns (w : World) (zs : List Int) (e : Ending) (w' : World) : Prop :=
  ∃ (a : Option Addr) (c : Nat) (P : Nat → Prop), e = .returned (.slice a zs.length c) ∧ OwnIn w' P a zs ∧ (∀ q, P q → w.heap.size ≤ q ∧ q < w'.heap.size) ∧ Below w.heap.size w w'
theorem IAns.of {w w' : World} {base : Nat} {v : Value} {zs : List Int} (h : RowI w' base v zs) (hb : w.heap.size ≤ base) (b : Below w.heap.size w w') : IAns w zs (.returned v) w' := by
  obtain ⟨a, c, e, ho, _⟩ := h.form
  exact ⟨a, c, _, by rw [e], ho, fun q hq => ⟨Nat.le_trans hb (h.lt hq).1, (h.lt hq).2⟩, b⟩
theorem IAns.none {w w' : World} (a : Option Addr) (c : Nat) (b : Below w.heap.size w w') : IAns w [] (.returned (.slice a 0 c)) w' := ⟨a, c, fun _ => False, rfl, .inl rfl, fun _ h => h.elim, b⟩
def wln (zs : List Int) : Nat → List Int
  | 0 => []
  | j + 1 => if hasB (wln zs j) (atN zs j) = true then wln zs j else wln zs j ++ [atN zs j]
theorem wln_le (zs : List Int) : ∀ j, (wln zs j).length ≤ j
  | 0 => by simp [wln]
  | j + 1 => by have := wln_le zs j; rw [wln]; split <;> simp <;> omega
theorem has_mem {zs : List Int} {z : Int} : hasB zs z = true ↔ z ∈ zs := by
  rw [hasB, List.any_eq_true]
  constructor
  · rintro ⟨y, hy, e⟩; simp at e; rw [← e]; exact hy
  · intro h; exact ⟨z, h, by simp⟩
theorem cpn_wln {zs : List Int} (h : ∀ i, i + 1 < zs.length → atN zs i ≤ atN zs (i + 1)) : ∀ j, j ≤ zs.length → cpn zs j = wln zs j ∧ (∀ z ∈ cpn zs j, ∃ i, i < j ∧ z = atN zs i) ∧ (0 < j → atN zs (j - 1) ∈ cpn zs j)
  | 0, _ => ⟨rfl, fun z hz => by simp [cpn] at hz, fun h => by omega⟩
  | j + 1, hj => by
    obtain ⟨e, hm, hl⟩ := cpn_wln h j (by omega)
    have up : ∀ d i, i + d < zs.length → atN zs i ≤ atN zs (i + d) := by
      intro d
      induction d with
      | zero => intro i _; exact Int.le_refl _
      | succ d ih => intro i hi; exact Int.le_trans (ih i (by omega)) (h (i + d) (by omega))
    by_cases hs : j ≠ 0 ∧ atN zs j = atN zs (j - 1)
    · have e1 : cpn zs (j + 1) = cpn zs j := by rw [cpn]; exact if_pos hs
      have hin : atN zs j ∈ cpn zs j := by rw [hs.2]; exact hl (by omega)
      have e2 : wln zs (j + 1) = wln zs j := by rw [wln]; exact if_pos (has_mem.2 (by rw [← e]; exact hin))
      refine ⟨by rw [e1, e2, e], fun z hz => ?_, fun _ => by rw [e1]; simpa using hin⟩
      rw [e1] at hz
      obtain ⟨i, hi, ez⟩ := hm z hz
      exact ⟨i, by omega, ez⟩
    · have e1 : cpn zs (j + 1) = cpn zs j ++ [atN zs j] := by rw [cpn]; exact if_neg hs
      have hno : ¬ hasB (wln zs j) (atN zs j) = true := fun hh => by
        rw [has_mem, ← e] at hh
        obtain ⟨i, hi, ez⟩ := hm _ hh
        have g1 := up (j - 1 - i) i (by omega)
        rw [show i + (j - 1 - i) = j - 1 by omega] at g1
        have g2 := h (j - 1) (by omega)
        rw [show j - 1 + 1 = j by omega] at g2
        exact hs ⟨by omega, by omega⟩
      have e2 : wln zs (j + 1) = wln zs j ++ [atN zs j] := by rw [wln]; exact if_neg hno
      refine ⟨by rw [e1, e2, e], fun z hz => ?_, fun _ => by rw [e1]; simp⟩
      rw [e1] at hz
      rcases List.mem_append.1 hz with hz | hz
      · obtain ⟨i, hi, ez⟩ := hm z hz
        exact ⟨i, by omega, ez⟩
      · simp at hz
        exact ⟨j, by omega, hz⟩
def rgs (xs : List S5) : List Int := xs.map S5.region
theorem rgs_at {xs : List S5} {k : Nat} (h : k < xs.length) : atN (rgs xs) k = (atSe xs k).region := by
  unfold atN atSe rgs
  rw [List.getElem?_map, List.getElem?_eq_getElem h]; rfl
theorem rgs_take {xs : List S5} {k : Nat} (h : k < xs.length) : rgs (xs.take (k + 1)) = rgs (xs.take k) ++ [(atSe xs k).region] := by
  unfold rgs
  rw [List.take_add_one, atSe_of h, List.map_append]; rfl
theorem rgs_up {t : T7} (h : txB t = true) : ∀ i, i + 1 < (rgs t.sets).length → atN (rgs t.sets) i ≤ atN (rgs t.sets) (i + 1) := by
  intro i hi
  have hl : (rgs t.sets).length = t.sets.length := by simp [rgs]
  rw [hl] at hi
  rw [rgs_at (by omega), rgs_at hi]
  simp only [txB, Bool.and_eq_true] at h
  have := List.all_eq_true.1 h.2 (i + 1) (List.mem_range.2 hi)
  simp only [seAt, Bool.and_eq_true, Bool.or_eq_true, decide_eq_true_eq, lessB] at this
  rcases this.2 with e | e | e
  · omega
  · simp at e; omega
  · have := e.1; simp at this; omega
theorem txB_sets {t : T7} (h : txB t = true) : t.reads.length ≤ 12 ∧ t.sets.length ≤ 12 := by
  simp only [txB, Bool.and_eq_true, decide_eq_true_eq] at h
  exact ⟨h.1.1.1.2, h.1.1.2⟩
def wantsT (t : T7) : List Int := if txB t = true then wln (rgs t.sets) t.sets.length else []
theorem compact_none (w : World) (a : Option Addr) (cap : Nat) : Calls Tryz.prog 57 #[.slice a 0 cap] w fun e w' => e = .returned (.slice a 0 cap) ∧ w' = w := by
  go_enter Tryz.func57, Tryz.ntmps57
  go_wp2
  go_ret
  exact ⟨rfl, rfl⟩
def WAns (w : World) (zs : List Int) (e : Ending) (w' : World) : Prop := ∃ v, e = .returned v ∧ RowI w' w.heap.size v zs ∧ Below w.heap.size w w'
theorem WAns.i {w : World} {zs : List Int} {e : Ending} {w' : World} (h : WAns w zs e w') : IAns w zs e w' := by
  obtain ⟨v, rfl, h1, h2⟩ := h
  exact IAns.of h1 (Nat.le_refl _) h2
theorem RowI.up {W : World} {base base' : Nat} {v : Value} {zs : List Int} (h : RowI W base' v zs) (hb : base ≤ base') : RowI W base v zs := by
  obtain ⟨h1, h2⟩ := h
  refine ⟨h1, h2.imp id ?_⟩
  rintro ⟨g, cap, cur, e, hg, r⟩
  exact ⟨g, cap, cur, e, Nat.le_trans hb hg, r⟩
theorem RowI.cut {w w' : World} {base b k : Nat} {zs C : List Int} (h : RowI w base (.slice (some ⟨b, 0, none⟩) zs.length k) zs) (hs : Shp b w w') (hn : NumsAt w' b 0 C) (hl : C.length ≤ zs.length) : RowI w' base (.slice (some ⟨b, 0, none⟩) C.length k) C := by
  obtain ⟨_, h2⟩ := h
  rcases h2 with ⟨e, _⟩ | ⟨g, cap, cur, e, hb, hg, hn1, hm, hsz, _⟩
  · cases e
  · cases e
    obtain ⟨cur', h3, h4⟩ := hs cur _ _ hg
    refine ⟨by rw [intC_map]; simp, .inr ⟨b, k, cur', rfl, hb, h3, by omega, hm, h4.trans hsz, ?_⟩⟩
    rw [intC_map, Nat.mul_one]
    refine List.ext_getElem? fun i => ?_
    rw [List.getElem?_take, List.getElem?_map]
    by_cases hi : i < C.length
    · have := hn i _ (List.getElem?_eq_getElem hi)
      rw [Nat.zero_add] at this
      simp only [World.cell?, h3] at this
      rw [if_pos hi, List.getElem?_eq_getElem hi, Option.map_some, Array.getElem?_toList]
      simpa using this
    · rw [if_neg hi, List.getElem?_eq_none (by omega)]; rfl
set_option maxHeartbeats 4000000 in
theorem implWantsR_any (w : World) (v : TV) (t : T7) (hl : TL t) (hs : SlT w v t) :
    Calls Tryz.prog 26 #[v.val t] w (WAns w (wantsT t)) := by
  obtain ⟨ar, cr, ah, ch⟩ := v
  simp only [TV.val]
  obtain ⟨W, hW⟩ : ∃ W, W = w.alloc (.cells #[.int .i64 t.id, .int .i64 t.home, .int .i64 t.phase, .int .i64 t.count, .slice ar t.reads.length cr, .slice ah t.sets.length ch, .int .i64 t.stamp] 47) := ⟨_, rfl⟩
  have b0 : Below w.heap.size w W := by rw [hW]; exact (Below.refl _ _).alloc (Nat.le_refl _) _
  have x0 : BT W w.heap.size ⟨ar, cr, ah, ch⟩ t := by rw [hW]; exact BT.box w ⟨ar, cr, ah, ch⟩ t _
  have c1 := implTxOk_any W ⟨ar, cr, ah, ch⟩ t hl (hs.later b0)
  simp only [TV.val] at c1
  have H : Hid (SlT W ⟨ar, cr, ah, ch⟩ t ∧ BT W w.heap.size ⟨ar, cr, ah, ch⟩ t ∧ Below w.heap.size w W) := ⟨hs.later b0, x0, b0⟩
  clear hs b0 x0 hl
  cases hB : txB t with
  | false =>
    rw [hB] at c1
    have HN : Hid (wantsT t = []) := by unfold Hid; simp [wantsT, hB]
    go_enter Tryz.func26, Tryz.ntmps26
    go_wp2_with fail
    rw [← hW]
    clear hW
    refine c1.mono ?_
    clear c1
    rintro e w1 ⟨rfl, b1⟩
    have KB : Hid (Below w.heap.size w w1) := H.out.2.2.trans (b1.mono H.out.2.2.size)
    clear b1
    go_wp2
    go_ret
    rw [HN.out]
    exact ⟨_, rfl, RowI.nil _ _, KB.out⟩
  | true =>
    rw [hB] at c1
    have hlr : (rgs t.sets).length = t.sets.length := by simp [rgs]
    have HN : Hid (wantsT t = cpn (rgs t.sets) (rgs t.sets).length) := by
      unfold Hid
      rw [(cpn_wln (rgs_up hB) _ (Nat.le_refl _)).1, hlr]
      simp [wantsT, hB]
    have HR : Hid ((rgs t.sets).length = t.sets.length) := hlr
    have hl12 := (txB_sets hB).2
    clear hlr
    go_enter Tryz.func26, Tryz.ntmps26
    go_wp2_with fail
    rw [← hW]
    clear hW
    refine c1.mono ?_
    clear c1
    rintro e w1 ⟨rfl, b1⟩
    have p5 := (H.out.2.1.later b1).c5
    dsimp only at p5
    have K1 : Hid (SlT w1 ⟨ar, cr, ah, ch⟩ t ∧ Below w.heap.size w w1) := ⟨H.out.1.later b1, H.out.2.2.trans (b1.mono H.out.2.2.size)⟩
    clear b1 H
    go_wp2
    clear p5
    go_loopw [3, 12] (fun v3 v12 wr => ∃ k : Nat, k ≤ t.sets.length ∧ v12 = .int .i64 k ∧ RowI wr w1.heap.size v3 (rgs (t.sets.take k)) ∧ Below w1.heap.size w1 wr) (fun _ v12 _ => t.sets.length - (intOf v12).toNat)
    case atStart => exact ⟨0, Nat.zero_le _, rfl, by simpa [rgs] using RowI.nil w1 _, Below.refl _ _⟩
    case round =>
      obtain ⟨k, hk, rfl, hrow, hbl⟩ := hrel
      obtain ⟨h1, h2⟩ := K1.out
      have hsz := hbl.size
      by_cases hlt : k < t.sets.length
      · obtain ⟨_, hsk⟩ := (h1.later hbl).s
        dsimp only at hsk
        rcases hsk with hsk | ⟨b, off, rfl, hb, hx⟩
        · omega
        obtain ⟨c0, c1, c2, c3, c4⟩ := hx k _ (atSe_of hlt)
        obtain ⟨U, hU⟩ : ∃ V, V = wr.alloc (.cells #[.int .i64 (atSe t.sets k).region, .int .i64 (atSe t.sets k).slot, .int .i64 (atSe t.sets k).value, .bool (atSe t.sets k).used, .int .i64 (atSe t.sets k).version] 93) := ⟨_, rfl⟩
        have bU : Below wr.heap.size wr U := by rw [hU]; exact (Below.refl _ _).alloc (Nat.le_refl _) _
        have zU : U.heap.size = wr.heap.size + 1 := by rw [hU]; simp
        obtain ⟨V, hV⟩ : ∃ V, V = U.alloc (.cells #[.int .i64 (atSe t.sets k).region] 2) := ⟨_, rfl⟩
        have bV : Below wr.heap.size wr V := by rw [hV]; exact bU.alloc bU.size _
        have hone : V.cell? ⟨wr.heap.size + 1, 0, none⟩ = some (.int .i64 (atSe t.sets k).region) := by rw [hV, ← zU]; go_simp
        have hlk : (rgs (t.sets.take k)).length + 1 ≤ 1048576 := by unfold rgs; rw [List.length_map, List.length_take]; omega
        obtain ⟨v', Y, hr, hrow', hgr, hlies⟩ := pushI (hrow.later bV) (atSe t.sets k).region hlk 54 (wr.heap.size + 1) 1 hone (by have := bV.size; omega)
        have KE : Hid (RowI Y w1.heap.size v' (rgs (t.sets.take (k + 1))) ∧ Below w1.heap.size w1 Y) := by
          refine ⟨by rw [rgs_take hlt]; exact hrow', ?_⟩
          exact (hbl.trans (bV.mono (by omega))).grown hgr (by have := bV.size; omega) (fun q e => (hrow.lt e).1)
        rw [hV, hU] at hr
        clear hV hU bV bU zU hone hrow' hgr hlies hrow hbl h1 h2 hx hlk
        go_wp2_with (at_builtin; refine append_known _ rfl (.tmp 16) (.tmp 19) 54 rfl _ _ _ _ rfl rfl hr ?_)
        exact ⟨⟨k + 1, by omega, by simp, KE.out.1, KE.out.2⟩, by simp [intOf]; omega⟩
      · obtain rfl : k = t.sets.length := by omega
        have hd : decide ((t.sets.length : Int) < (t.sets.length : Int)) = false := by simp
        rw [List.take_length] at hrow
        obtain ⟨a3, k3, rfl, ho3, hc3, hs3⟩ := hrow.form
        have KE : Hid (Below w.heap.size w wr ∧ w.heap.size ≤ w1.heap.size ∧ RowI wr w1.heap.size (.slice a3 (rgs t.sets).length k3) (rgs t.sets)) := ⟨h2.trans (hbl.mono h2.size), h2.size, hrow⟩
        clear hrow hbl h1 h2
        rcases ho3 with hnil | ⟨b3, rfl, hp3, hl3, hn3, hr3⟩
        · have HZ : Hid (wantsT t = [] ∧ (rgs t.sets).length = 0) := ⟨by rw [HN.out, hnil]; rfl, by rw [hnil]; rfl⟩
          have KI : Hid (RowI wr w.heap.size (.slice a3 0 k3) []) := by
            have := KE.out.2.2.up KE.out.2.1
            rw [hnil] at this
            exact this
          have e0 := HZ.out.2
          rw [e0]
          clear hnil hc3 hs3 e0
          have hc := compact_none wr a3 k3
          go_wp2_with fail
          refine hc.mono ?_
          clear hc
          rintro e w' ⟨rfl, rfl⟩
          go_wp2
          go_ret
          rw [HZ.out.1]
          exact ⟨_, rfl, KI.out, KE.out.1⟩
        · have hc := compact_own wr b3 k3 (rgs t.sets) (by rw [HR.out]; omega) hc3 hn3 hr3 hl3
          have KB : Hid (w1.heap.size ≤ b3 ∧ b3 < wr.heap.size) := KE.out.2.2.lt rfl
          clear hc3 hs3 hp3 hl3 hn3 hr3
          have HW : Hid (WAns w (wantsT t) = WAns w (cpn (rgs t.sets) (rgs t.sets).length)) := by unfold Hid; rw [HN.out]
          have HLE : Hid ((cpn (rgs t.sets) (rgs t.sets).length).length ≤ (rgs t.sets).length) := cpn_le _ _
          generalize cpn (rgs t.sets) (rgs t.sets).length = C at *
          go_wp2_with fail
          refine hc.mono ?_
          clear hc
          rintro e w' ⟨rfl, ht, hn, hr⟩
          have KF : Hid (TurnS b3 wr w' ∧ NumsAt w' b3 0 C ∧ Room w' b3 (rgs t.sets).length) := ⟨ht, hn, hr⟩
          clear ht hn hr
          go_wp2
          go_ret
          rw [HW.out]
          obtain ⟨f1, f2, f3⟩ := KF.out
          have g1 := KB.out
          have g2 := KE.out.2.1
          have bb : Below w.heap.size w w' := KE.out.1.trans (f1.t.below (by omega) KE.out.1.size)
          exact ⟨_, rfl, (RowI.cut KE.out.2.2 f1.s f2 HLE.out).up KE.out.2.1, bb⟩
end Go.Proofs.YtphpcgmnljhimaaGreat.tx
namespace Go.Proofs.YtphpcgmnljhimaaGreat.tx
open Go.RowKit
open Go.Sort (grow)
set_option maxHeartbeats 4000000 in
theorem implChecks_any (w : World) (v : TV) (t : T7) (hl : TL t) (hs : SlT w v t) :
    Calls Tryz.prog 58 #[v.val t] w (CAns w (checksT t)) := by
  obtain ⟨ar, cr, ah, ch⟩ := v
  simp only [TV.val]
  obtain ⟨W, hW⟩ : ∃ W, W = w.alloc (.cells #[.int .i64 t.id, .int .i64 t.home, .int .i64 t.phase, .int .i64 t.count, .slice ar t.reads.length cr, .slice ah t.sets.length ch, .int .i64 t.stamp] 47) := ⟨_, rfl⟩
  have b0 : Below w.heap.size w W := by rw [hW]; exact (Below.refl _ _).alloc (Nat.le_refl _) _
  have x0 : BT W w.heap.size ⟨ar, cr, ah, ch⟩ t := by rw [hW]; exact BT.box w ⟨ar, cr, ah, ch⟩ t _
  have c1 := implTxOk_any W ⟨ar, cr, ah, ch⟩ t hl (hs.later b0)
  simp only [TV.val] at c1
  have H : Hid (SlT W ⟨ar, cr, ah, ch⟩ t ∧ BT W w.heap.size ⟨ar, cr, ah, ch⟩ t ∧ Below w.heap.size w W) := ⟨hs.later b0, x0, b0⟩
  clear hs b0 x0 hl
  cases hB : txB t with
  | false =>
    rw [hB] at c1
    have HN : Hid (checksT t = []) := by unfold Hid; simp [checksT, hB]
    go_enter Tryz.func58, Tryz.ntmps58
    go_wp2_with fail
    rw [← hW]
    clear hW
    refine c1.mono ?_
    clear c1
    rintro e w1 ⟨rfl, b1⟩
    have KB : Hid (Below w.heap.size w w1) := H.out.2.2.trans (b1.mono H.out.2.2.size)
    clear b1
    go_wp2
    go_ret
    rw [HN.out]
    exact CAns.none KB.out
  | true =>
    rw [hB] at c1
    have HN : Hid (checksT t = ofC t.sets t.reads) := by unfold Hid; simp [checksT, hB]
    obtain ⟨l12, l12'⟩ := txB_lens hB
    have HT : Hid ((∀ s ∈ t.reads, noteOkB s = true) ∧ (∀ s ∈ t.sets, setOkB s = true) ∧ seUp2 t.sets) := ⟨(txB_no hB).1, (txB_se hB).1, (txB_se hB).2⟩
    go_enter Tryz.func58, Tryz.ntmps58
    go_wp2_with fail
    rw [← hW]
    clear hW
    refine c1.mono ?_
    clear c1
    rintro e w1 ⟨rfl, b1⟩
    have p5 := (H.out.2.1.later b1).c5
    dsimp only at p5
    have c2 := sePileOf_any w1 ah ch t.sets (by omega) ((H.out.1.later b1).s) HT.out.2.1 HT.out.2.2
    have K1 : Hid (SlT w1 ⟨ar, cr, ah, ch⟩ t ∧ BT w1 w.heap.size ⟨ar, cr, ah, ch⟩ t ∧ Below w.heap.size w w1) := ⟨H.out.1.later b1, H.out.2.1.later b1, H.out.2.2.trans (b1.mono H.out.2.2.size)⟩
    clear b1 H
    go_wp2_with fail
    refine c2.mono ?_
    clear c2 p5
    rintro e w2 ⟨pp, mb, n, pv, rfl, hp, hn, b2⟩
    have p4 := (K1.out.2.1.later b2).c4
    dsimp only at p4
    have K2 : Hid (SlT w2 ⟨ar, cr, ah, ch⟩ t ∧ PisB w2 w1.heap.size pp mb n pv t.sets ∧ Below w.heap.size w w2) := ⟨K1.out.1.later b2, hp, K1.out.2.2.trans (b2.mono K1.out.2.2.size)⟩
    clear b2 hp K1
    go_wp2
    clear p4
    go_loopw [4, 16] (fun v4 v16 wr => ∃ k : Nat, k ≤ t.reads.length ∧ v16 = .int .i64 k ∧ RowN wr w2.heap.size v4 (ofC t.sets (t.reads.take k)) ∧ Below w2.heap.size w2 wr) (fun _ v16 _ => t.reads.length - (intOf v16).toNat)
    case atStart => exact ⟨0, Nat.zero_le _, rfl, by simpa [ofC] using RowN.nil w2 _, Below.refl _ _⟩
    case round =>
      obtain ⟨k, hk, rfl, hrow, hbl⟩ := hrel
      obtain ⟨h1, h2, h3⟩ := K2.out
      have hsz := hbl.size
      by_cases hlt : k < t.reads.length
      · obtain ⟨_, hsk⟩ := (h1.later hbl).r
        dsimp only at hsk
        rcases hsk with hsk | ⟨b, off, rfl, hb, hx⟩
        · omega
        obtain ⟨c0, c1, c2, c3, c4⟩ := hx k _ (atNo_of hlt)
        have hrs := noOk_in (HT.out.1 _ (List.mem_of_getElem? (atNo_of hlt)))
        obtain ⟨U, hU⟩ : ∃ V, V = wr.alloc (.cells #[.int .i64 (atNo t.reads k).region, .int .i64 (atNo t.reads k).slot, .int .i64 (atNo t.reads k).version, .int .i64 (atNo t.reads k).value, .bool (atNo t.reads k).used] 91) := ⟨_, rfl⟩
        have bU : Below wr.heap.size wr U := by rw [hU]; exact (Below.refl _ _).alloc (Nat.le_refl _) _
        have hbox : NoteAt U wr.heap.size 0 (atNo t.reads k) := by rw [hU]; exact NoteAt.box wr _ _
        have hzU : wr.heap.size < U.heap.size := by rw [hU]; simp
        have cc := noCell_any U (atNo t.reads k)
        have KA : Hid (PisB U w1.heap.size pp mb n pv t.sets ∧ RowN U w2.heap.size u4 (ofC t.sets (t.reads.take k)) ∧ Below w2.heap.size w2 U ∧ NoteAt U wr.heap.size 0 (atNo t.reads k) ∧ wr.heap.size < U.heap.size ∧ w2.heap.size ≤ U.heap.size) := ⟨(h2.later hbl).later bU, hrow.later bU, hbl.trans (bU.mono hbl.size), hbox, hzU, by omega⟩
        have hd : decide ((k : Int) < (t.reads.length : Int)) = true := by simp; omega
        clear hrow hbl h1 h2 h3 hx bU hbox hzU
        go_wp2_with fail
        rw [← hU]
        clear hU c0 c1 c2 c3 c4
        refine cc.mono ?_
        clear cc
        rintro e w3 ⟨rfl, b3⟩
        have ch := seHas_any w3 w1.heap.size pp mb n pv t.sets (atNo t.reads k).region (atNo t.reads k).slot (KA.out.1.later b3) hrs.1 hrs.2
        have K3 : Hid (Below U.heap.size U w3) := b3
        clear b3
        go_wp2_with fail
        refine ch.mono ?_
        clear ch
        rintro e w4 ⟨rfl, b4⟩
        have b04 : Below U.heap.size U w4 := K3.out.trans (b4.mono K3.out.size)
        obtain ⟨f0, f1, f2, f3, f4⟩ := KA.out.2.2.2.1.below b04 KA.out.2.2.2.2.1
        simp only [Nat.zero_add] at f1 f2 f3 f4
        have K4 : Hid (RowN w4 w2.heap.size u4 (ofC t.sets (t.reads.take k)) ∧ Below w2.heap.size w2 w4 ∧ w2.heap.size ≤ w4.heap.size) := ⟨KA.out.2.1.later b04, KA.out.2.2.1.trans (b04.mono KA.out.2.2.2.2.2), Nat.le_trans KA.out.2.2.2.2.2 b04.size⟩
        clear b4 b04 K3 KA
        cases hg : (seW t.sets (atNo t.reads k).region (atNo t.reads k).slot).isSome with
        | false =>
          obtain ⟨V, hV⟩ : ∃ V, V = w4.alloc (.cells #[.int .i64 (atNo t.reads k).region, .int .i64 (atNo t.reads k).slot, .int .i64 (atNo t.reads k).version, .int .i64 (atNo t.reads k).value, .bool (atNo t.reads k).used] 91) := ⟨_, rfl⟩
          have bV : Below w4.heap.size w4 V := by rw [hV]; exact (Below.refl _ _).alloc (Nat.le_refl _) _
          have hone : NotesAt V w4.heap.size 0 [atNo t.reads k] := by rw [hV]; exact (NoteAt.box w4 _ _).one
          obtain ⟨v', Y, hr', hrow', hgr, hlies⟩ := pushNo (K4.out.1.later bV) [atNo t.reads k] (by have := ofC_len t.sets (t.reads.take k); rw [List.length_take] at this; simp; omega) 44 w4.heap.size 0 1 hone (by have := bV.size; have := K4.out.2.2; omega)
          have KE : Hid (RowN Y w2.heap.size v' (ofC t.sets (t.reads.take (k + 1))) ∧ Below w2.heap.size w2 Y) := by
            refine ⟨by rw [ofC_yes (atNo_of hlt) hg]; exact hrow', ?_⟩
            exact (K4.out.2.1.trans (bV.mono K4.out.2.2)).grown hgr (by have := bV.size; have := K4.out.2.2; omega) (fun q e => (K4.out.1.lt e).1)
          rw [hV] at hr'
          clear hV bV hone hrow' hgr hlies
          simp only [List.length_cons, List.length_nil, Nat.zero_add] at hr'
          go_wp2_with (at_builtin; refine append_known _ rfl (.tmp 25) (.tmp 27) 44 rfl _ _ _ _ rfl rfl hr' ?_)
          exact ⟨⟨k + 1, by omega, by simp, KE.out.1, KE.out.2⟩, by simp [intOf]; omega⟩
        | true =>
          have KE : Hid (RowN w4 w2.heap.size u4 (ofC t.sets (t.reads.take (k + 1))) ∧ Below w2.heap.size w2 w4) := ⟨by rw [ofC_no (atNo_of hlt) hg]; exact K4.out.1, K4.out.2.1⟩
          clear f0 f1 f2 f3 f4
          go_wp2
          exact ⟨⟨k + 1, by omega, by simp, KE.out.1, KE.out.2⟩, by simp [intOf]; omega⟩
      · obtain rfl : k = t.reads.length := by omega
        have hd : decide ((t.reads.length : Int) < (t.reads.length : Int)) = false := by simp
        rw [List.take_length] at hrow
        have KE : Hid (RowN wr w2.heap.size u4 (ofC t.sets t.reads) ∧ Below w.heap.size w wr ∧ w.heap.size ≤ w2.heap.size) := ⟨hrow, h3.trans (hbl.mono h3.size), h3.size⟩
        clear hrow hbl h1 h2 h3
        go_wp2
        go_ret
        rw [HN.out]
        exact CAns.of KE.out.1 KE.out.2.2 KE.out.2.1
end Go.Proofs.YtphpcgmnljhimaaGreat.tx
namespace Go.Proofs.YtphpcgmnljhimaaGreat
open Go.RowKit
open Go.Sort (grow)
attribute [local go_sem] Oper.semAt_some
def wayB (p : Int) : Bool := !(p == 1) && !(p == 7) && !(p == 9)
theorem underWay_any (w : World) (p : Int) : Calls Tryz.prog 23 #[.int .i64 p] w fun e w' => e = .returned (.bool (wayB p)) ∧ w' = w := by
  unfold wayB
  cases h1 : (p == 1) <;> cases h7 : (p == 7) <;> cases h9 : (p == 9)
  all_goals
    (have d1 : (p != 1) = !(p == 1) := rfl
     have d7 : (p != 7) = !(p == 7) := rfl
     have d9 : (p != 9) = !(p == 9) := rfl
     rw [h1] at d1; rw [h7] at d7; rw [h9] at d9
     clear h1 h7 h9
     go_enter Tryz.func23, Tryz.ntmps23
     go_wp2
     go_ret
     exact ⟨rfl, rfl⟩)
theorem tx.rgN_take {xs : List tx.N5} {k : Nat} (h : k < xs.length) : (xs.take (k + 1)).map tx.N5.region = (xs.take k).map tx.N5.region ++ [(tx.atNo xs k).region] := by
  rw [List.take_add_one, tx.atNo_of h]; simp
set_option maxHeartbeats 4000000 in
theorem checkedRegions_any (w : World) (ar : Option Addr) (cr : Nat) (ah : Option Addr) (ch : Nat) (t : tx.T7) (hl : tx.TL t) (hB : tx.txB t = true) (hs : tx.SlT w ⟨ar, cr, ah, ch⟩ t) :
    Calls Tryz.prog 27 #[.agg #[.int .i64 t.id, .int .i64 t.home, .int .i64 t.phase, .int .i64 t.count, .slice ar t.reads.length cr, .slice ah t.sets.length ch, .int .i64 t.stamp]] w (tx.WAns w ((tx.ofC t.sets t.reads).map tx.N5.region)) := by
  obtain ⟨W, hW⟩ : ∃ W, W = w.alloc (.cells #[.int .i64 t.id, .int .i64 t.home, .int .i64 t.phase, .int .i64 t.count, .slice ar t.reads.length cr, .slice ah t.sets.length ch, .int .i64 t.stamp] 47) := ⟨_, rfl⟩
  have b0 : Below w.heap.size w W := by rw [hW]; exact (Below.refl _ _).alloc (Nat.le_refl _) _
  have c1 := tx.implChecks_any W ⟨ar, cr, ah, ch⟩ t hl (hs.later b0)
  simp only [tx.TV.val] at c1
  rw [show tx.checksT t = tx.ofC t.sets t.reads by simp [tx.checksT, hB]] at c1
  have hlen : (tx.ofC t.sets t.reads).length ≤ 12 := Nat.le_trans (tx.ofC_len _ _) (tx.txB_sets hB).1
  have H : Hid (Below w.heap.size w W) := b0
  clear hs b0 hl hB
  generalize tx.ofC t.sets t.reads = ns at *
  go_enter Tryz.func27, Tryz.ntmps27
  go_wp2_with fail
  rw [← hW]
  clear hW
  refine c1.mono ?_
  clear c1
  rintro e w1 ⟨na, nc, PN, rfl, hon, hPN, b1⟩
  have K1 : Hid (tx.OwnNo w1 PN na ns ∧ Below w.heap.size w w1) := ⟨hon, bstep H.out b1⟩
  clear b1 H hon hPN
  go_wp2
  go_loopw [3, 9] (fun v3 v9 wr => ∃ k : Nat, k ≤ ns.length ∧ v9 = .int .i64 k ∧ tx.RowI wr w1.heap.size v3 ((ns.take k).map tx.N5.region) ∧ Below w1.heap.size w1 wr) (fun _ v9 _ => ns.length - (intOf v9).toNat)
  case atStart => exact ⟨0, Nat.zero_le _, rfl, by simpa using tx.RowI.nil w1 _, Below.refl _ _⟩
  case round =>
    obtain ⟨k, hk, rfl, hrow, hbl⟩ := hrel
    obtain ⟨h1, h2⟩ := K1.out
    have hsz := hbl.size
    by_cases hlt : k < ns.length
    · rcases h1 with e0 | ⟨b, rfl, -, hb, hx, -⟩
      · rw [e0] at hlt; simp at hlt
      obtain ⟨d0, d1, d2, d3, d4⟩ := hx k _ (tx.atNo_of hlt)
      have c0 := (hbl.cell (p := ⟨b, 0 + k * 5, none⟩) hb).trans d0
      have c1 := (hbl.cell (p := ⟨b, 0 + k * 5 + 1, none⟩) hb).trans d1
      have c2 := (hbl.cell (p := ⟨b, 0 + k * 5 + 2, none⟩) hb).trans d2
      have c3 := (hbl.cell (p := ⟨b, 0 + k * 5 + 3, none⟩) hb).trans d3
      have c4 := (hbl.cell (p := ⟨b, 0 + k * 5 + 4, none⟩) hb).trans d4
      rw [Nat.zero_add] at c0 c1 c2 c3 c4
      obtain ⟨U, hU⟩ : ∃ V, V = wr.alloc (.cells #[.int .i64 (tx.atNo ns k).region, .int .i64 (tx.atNo ns k).slot, .int .i64 (tx.atNo ns k).version, .int .i64 (tx.atNo ns k).value, .bool (tx.atNo ns k).used] 91) := ⟨_, rfl⟩
      have bU : Below wr.heap.size wr U := by rw [hU]; exact (Below.refl _ _).alloc (Nat.le_refl _) _
      have zU : U.heap.size = wr.heap.size + 1 := by rw [hU]; simp
      obtain ⟨V, hV⟩ : ∃ V, V = U.alloc (.cells #[.int .i64 (tx.atNo ns k).region] 2) := ⟨_, rfl⟩
      have bV : Below wr.heap.size wr V := by rw [hV]; exact bU.alloc bU.size _
      have hone : V.cell? ⟨wr.heap.size + 1, 0, none⟩ = some (.int .i64 (tx.atNo ns k).region) := by rw [hV, ← zU]; go_simp
      have hlk : ((ns.take k).map tx.N5.region).length + 1 ≤ 1048576 := by rw [List.length_map, List.length_take]; omega
      obtain ⟨v', Y, hr, hrow', hgr, hlies⟩ := tx.pushI (hrow.later bV) (tx.atNo ns k).region hlk 54 (wr.heap.size + 1) 1 hone (by have := bV.size; omega)
      have KE : Hid (tx.RowI Y w1.heap.size v' ((ns.take (k + 1)).map tx.N5.region) ∧ Below w1.heap.size w1 Y) := by
        refine ⟨by rw [tx.rgN_take hlt]; exact hrow', ?_⟩
        exact (hbl.trans (bV.mono (by omega))).grown hgr (by have := bV.size; omega) (fun q e => (hrow.lt e).1)
      rw [hV, hU] at hr
      clear hV hU bV bU zU hone hrow' hgr hlies hrow hbl h2 hx hlk d0 d1 d2 d3 d4
      go_wp2_with (at_builtin; refine append_known _ rfl (.tmp 13) (.tmp 16) 54 rfl _ _ _ _ rfl rfl hr ?_)
      exact ⟨⟨k + 1, by omega, by simp, KE.out.1, KE.out.2⟩, by simp [intOf]; omega⟩
    · obtain rfl : k = ns.length := by omega
      have hd : decide ((ns.length : Int) < (ns.length : Int)) = false := by simp
      rw [List.take_length] at hrow
      obtain ⟨va, vc, rfl, -⟩ := hrow.form
      have KE : Hid (Below w.heap.size w wr ∧ tx.RowI wr w.heap.size (.slice va (ns.map tx.N5.region).length vc) (ns.map tx.N5.region)) := ⟨h2.trans (hbl.mono h2.size), hrow.up h2.size⟩
      clear hrow hbl h1 h2
      go_wp2
      go_ret
      exact ⟨_, rfl, KE.out.2, KE.out.1⟩
theorem down_keep {k : C6} (hk : clusterB k = true) {r : Nat} (hr : r < k.places.length) : decide (((keepL (k.machines.map M4.alive) (atP k.places r)).length : Int) < ((atP k.places r).length : Int)) = downB k (atP k.places r) := by
  have hz : ∀ z ∈ atP k.places r, livesB (k.machines.map M4.alive) z = alB k z := fun z hz => by
    obtain ⟨i, hi, rfl⟩ := List.getElem_of_mem hz
    have h2 := clu_z hk hr (j := i) hi
    rw [atN, List.getElem?_eq_getElem hi] at h2
    simp only [Option.getD_some] at h2
    exact livesB_alB h2.1 h2.2
  have e : keepL (k.machines.map M4.alive) (atP k.places r) = (atP k.places r).filter (alB k) := List.filter_congr hz
  rw [e, Bool.eq_iff_iff, decide_eq_true_eq, downB, List.any_eq_true]
  have := List.length_filter_lt_length_iff_exists (p := alB k) (l := atP k.places r)
  constructor
  · intro h
    obtain ⟨z, h1, h2⟩ := this.1 (by omega)
    exact ⟨z, h1, by simpa using h2⟩
  · rintro ⟨z, h1, h2⟩
    have := this.2 ⟨z, h1, by simpa using h2⟩
    omega
set_option maxRecDepth 100000 in
set_option maxHeartbeats 8000000 in
theorem lacksOne_any (w : World) (a1 : Option Addr) (c1 : Nat) (a2 : Option Addr) (c2 : Nat) (a3 : Option Addr) (c3 : Nat) (k : C6) (r : Nat) (hk : clusterB k = true) (hr : r < k.places.length) (h : KCl.Rd w a1 c1 a2 c2 a3 c3 k) :
    Calls Tryz.prog 25 #[.agg #[.int .i64 k.config, .int .i64 k.clock, .slice a1 k.places.length c1, .slice a2 k.machines.length c2, .slice a3 k.txs.length c3, .bool k.lost], .int .i64 (r : Int)] w fun e w' => e = .returned (.bool (downB k (atP k.places r))) ∧ Below w.heap.size w w' := by
  have hdk := down_keep hk hr
  have hl3 := ((CSm.of hk).ps _ (List.mem_of_getElem? (atP_of hr)))
  obtain ⟨_, hsp⟩ := h.p
  rcases hsp with hsp | ⟨pb, po, rfl, hpb, hpl⟩
  · omega
  obtain ⟨ra, rc, hc, -, -⟩ := hpl r _ (atP_of hr)
  obtain ⟨U1, hU1⟩ : ∃ Y, Y = w.alloc (.cells #[.int .i64 k.config, .int .i64 k.clock, .slice (some ⟨pb, po, none⟩) k.places.length c1, .slice a2 k.machines.length c2, .slice a3 k.txs.length c3, .bool k.lost] 33) := ⟨_, rfl⟩
  obtain ⟨U, hU⟩ : ∃ Y, Y = U1.alloc (.cells #[.int .i64 0] 3) := ⟨_, rfl⟩
  have b1 : Below w.heap.size w U1 := by rw [hU1]; exact (Below.refl _ _).alloc (Nat.le_refl _) _
  have b2 : Below U1.heap.size U1 U := by rw [hU]; exact (Below.refl _ _).alloc (Nat.le_refl _) _
  have s1 : U1.heap.size = w.heap.size + 1 := by rw [hU1]; simp
  have s2 : U.heap.size = w.heap.size + 2 := by rw [hU]; simp [s1]
  have x1 : Bx U1 w.heap.size [.int .i64 k.config, .int .i64 k.clock, .slice (some ⟨pb, po, none⟩) k.places.length c1, .slice a2 k.machines.length c2, .slice a3 k.txs.length c3, .bool k.lost] := by rw [hU1]; exact Bx.made w [.int .i64 k.config, .int .i64 k.clock, .slice (some ⟨pb, po, none⟩) k.places.length c1, .slice a2 k.machines.length c2, .slice a3 k.txs.length c3, .bool k.lost] _
  have x2 : Boxed U (w.heap.size + 1) 3 (.int .i64 0) := by
    have := Boxed.new U1 3 (.int .i64 0)
    rw [s1] at this
    rw [hU]; exact this
  have FA : Hid (Bx U w.heap.size [.int .i64 k.config, .int .i64 k.clock, .slice (some ⟨pb, po, none⟩) k.places.length c1, .slice a2 k.machines.length c2, .slice a3 k.txs.length c3, .bool k.lost]) := x1.later b2
  have VX := hidOf x2
  have BU : Hid (Below w.heap.size w U) := bstep b1 b2
  have hlv := livingIn_any w U (some ⟨pb, po, none⟩) c1 a2 c2 a3 c3 k r hk hr h BU.out
  have SU := hidOf s2
  have HC : Hid (w.cell? ⟨pb, po + r, none⟩ = some (.slice ra (atP k.places r).length rc) ∧ pb < w.heap.size) := ⟨hc, hpb⟩
  have HK : Hid (clusterB k = true ∧ 0 < (atP k.places r).length ∧ (atP k.places r).length ≤ 3) := ⟨hk, hl3⟩
  have HDK := hidOf hdk
  have hUU : U = (w.alloc (.cells #[.int .i64 k.config, .int .i64 k.clock, .slice (some ⟨pb, po, none⟩) k.places.length c1, .slice a2 k.machines.length c2, .slice a3 k.txs.length c3, .bool k.lost] 33)).alloc (.cells #[.int .i64 0] 3) := by rw [hU, hU1]
  have q0 := FA.out.1 0 _ rfl
  have q1 := FA.out.1 1 _ rfl
  have q2 := FA.out.1 2 _ rfl
  have q3 := FA.out.1 3 _ rfl
  have q4 := FA.out.1 4 _ rfl
  have q5 := FA.out.1 5 _ rfl
  rw [hUU] at q0 q1 q2 q3 q4 q5
  clear x1 x2 b1 b2 s1 s2 hU1 hU hdk hl3 hc hpl hpb h hk
  refine (callsIn_wide (n := 8)).1 ?_
  refine callsIn_of_wp_marks Tryz.func25 rfl trivial ?_ rfl
  simp only [Tryz.ntmps25, List.size_toArray, List.length_cons, List.length_nil, Nat.reduceAdd, Nat.reduceSub, Array.replicate_succ, Array.replicate_zero, List.push_toArray, List.append_toArray, List.nil_append, List.cons_append]
  refine wpIn_wide.2 ?_
  go_wp2_with fail
  rw [← hUU]
  clear hUU q0 q1 q2 q3 q4 q5
  refine hlv.mono ?_
  clear hlv
  rintro e X ⟨Bm, Ba, Bs, q, b, off, cap, rfl, hL⟩
  have hsU := SU.out
  have hBkX : w.heap.size + 1 < X.heap.size := Nat.lt_of_lt_of_le VX.out.lt hL.bw.size
  have vX : Boxed X (w.heap.size + 1) 3 (.int .i64 0) := (hL.bw.block _ VX.out.lt).trans VX.out
  have bwX : Below w.heap.size w X := bstep BU.out hL.bw
  obtain ⟨ms, hms⟩ := macs_of (M := (k.machines.length : Int) - 1) (atP k.places r) (fun z hz => by
    obtain ⟨i, hi, rfl⟩ := List.getElem_of_mem hz
    have h2 := clu_z HK.out.1 hr (j := i) hi
    rw [atN, List.getElem?_eq_getElem hi] at h2
    simp only [Option.getD_some] at h2
    omega)
  have hml : ms.length = (atP k.places r).length := by rw [← hms, valsM_len]
  have hk3 := HK.out.2.2
  have gm := hL.gm
  have ga := hL.ga
  have gs := hL.gs
  have gq := hL.gq
  have bl := hL.bl
  have hin := values2_stops 6 (by omega) Bs (w.heap.size + 1) b off cap ms (by omega) X hL.bs.lt (by omega) (Nat.lt_of_lt_of_le bl bwX.size) (by rw [hml]; exact hL.bs.cell)
    (fun j x e => (hL.bw.cell (p := ⟨b, off + j, none⟩) (Nat.lt_of_lt_of_le bl (by omega))).trans (hL.ns j x.1 (by rw [← hms, valsM, List.getElem?_map, e]; rfl)))
  have hseq := living2_seq 7 (by omega) Bm Ba (w.heap.size + 1) _ _ ms ms.length (k.machines.map M4.alive) (some ⟨q, 0, none⟩) k.machines.length k.machines.length X (enters_of Tryz.func147 (by kernel_rfl) rfl) hin hL.bm hL.ba hL.sl (fun b' off' e => by cases e; omega) (by omega) (by omega)
  have hvi : VI (w.heap.size + 1) 3 (.int .i64 ((([] : List { x : Int // 0 ≤ x ∧ x ≤ (k.machines.length : Int) - 1 }).length : Nat) : Int)) w X X := ⟨vX, KpC.refl _ _, bwX⟩
  have HX : Hid (w.heap.size + 1 < X.heap.size ∧ ms.length ≤ 3) := ⟨hBkX, by omega⟩
  have FX : Hid (Bx X w.heap.size [.int .i64 k.config, .int .i64 k.clock, .slice (some ⟨pb, po, none⟩) k.places.length c1, .slice a2 k.machines.length c2, .slice a3 k.txs.length c3, .bool k.lost]) := FA.out.later hL.bw
  have HMS : Hid (valsM ms = atP k.places r) := hms
  clear hL hin vX bwX hms hml gm ga gs gq bl hBkX hsU hk3
  go_wp2_with fail
  refine (wpIn_wide (n := 8)).1 ?_
  refine wpIn_rangeO (by omega) (gf := 145) (lb := #[.pointer (some ⟨Bm, 0, none⟩), .pointer (some ⟨Ba, 0, none⟩)]) rfl (enters_of Tryz.func145 (by kernel_rfl) rfl)
    hseq (fun h k => h.trans k) (fun W o o' h hc => KpV.put W o o' h hc) (fun _ => rfl)
    (fun pre W => VI (w.heap.size + 1) 3 (.int .i64 ((pre.length : Nat) : Int)) w X W)
    (fun _ _ _ => False)
    (VI.own (by have := HX.out; omega)) (fun _ _ _ _ _ h _ _ => h) hvi
    (fun x => { tmps := #[.agg #[.int .i64 k.config, .int .i64 k.clock, .slice (some ⟨pb, po, none⟩) k.places.length c1, .slice a2 k.machines.length c2, .slice a3 k.txs.length c3, .bool k.lost], .int .i64 (r : Int), .pointer (some ⟨w.heap.size, 0, none⟩), undef, .bool false, .pointer (some ⟨w.heap.size + 1, 0, none⟩), .agg #[.int .i64 k.config, .int .i64 k.clock, .slice (some ⟨pb, po, none⟩) k.places.length c1, .slice a2 k.machines.length c2, .slice a3 k.txs.length c3, .bool k.lost], .int .i64 (r : Int), .func (.func 145) #[] #[.pointer (some ⟨Bm, 0, none⟩), .pointer (some ⟨Ba, 0, none⟩)], .int .i64 x.1, undef, undef, undef, undef, undef, undef, undef, undef, undef, undef, undef], defers := [] }) ?assign ?body ?done ?stop
  case assign =>
    intro l x W K hK
    simp only [macE]
    gi_wp2
    simpa using hK
  case body =>
    rintro l pre x W hv hlen
    have hX := HX.out
    have cv := hv.vb.cell
    have fv := hv.vb.frozen
    have hpl : ((pre.length : Nat) : Int) + 1 ≤ 4 := by omega
    have HLE : Hid (pre.length < 3) := by unfold Hid; omega
    have KE : Hid (∀ u : Int, u = ((pre.length : Nat) : Int) + 1 → KeepsOthers W (W.setCell ⟨w.heap.size + 1, 0, none⟩ (.int .i64 u)) ∧ KpV (w.heap.size + 1) (X.heap.size + 1) W (W.setCell ⟨w.heap.size + 1, 0, none⟩ (.int .i64 u)) ∧ VI (w.heap.size + 1) 3 (.int .i64 (((pre ++ [x]).length : Nat) : Int)) w X (W.setCell ⟨w.heap.size + 1, 0, none⟩ (.int .i64 u))) := fun u hu => by
      have hB : ∃ o : Obj, W.heap[w.heap.size + 1]? = some o ∧ o.isCells = true := ⟨_, hv.vb, rfl⟩
      have kv : KpV (w.heap.size + 1) (X.heap.size + 1) W (W.setCell ⟨w.heap.size + 1, 0, none⟩ (.int .i64 u)) := KpV.step (Below.refl _ _) 0 _ hB
      have he : (((pre ++ [x]).length : Nat) : Int) = u := by rw [hu]; simp
      refine ⟨⟨kv.c.size, fun q o hq hc => ?_⟩, kv, ⟨by rw [he]; exact Boxed.set _ hv.vb, hv.kp.trans kv.c, hv.bel.setCell (p := ⟨w.heap.size + 1, 0, none⟩) (by simp) _⟩⟩
      refine (Below.heap_setCell _ _ _ _ (fun e => ?_)).trans hq
      obtain ⟨o', h1, h2⟩ := hB
      rw [show q = w.heap.size + 1 from e, h1] at hq
      cases hq; rw [hc] at h2; cases h2
    clear hseq hvi hX hv hlen
    gi_wp2
    exact KE.out _ rfl
  case stop =>
    rintro c pre W _ h _
    exact h.elim
  case done =>
    rintro xs Y rfl hv hD
    have hlv : (livM (k.machines.map M4.alive) ms).length = (keepL (k.machines.map M4.alive) (atP k.places r)).length := by rw [← valsM_len, keep_vals, HMS.out]
    rw [hlv] at hv
    have HY := hidOf hv
    have HD := hidOf hD
    have cv := hv.vb.cell
    have p2 := (FX.out.kpc hv.kp (by omega) (by simp)).1 2 _ rfl
    have pc := (hv.bel.cell (p := ⟨pb, po + r, none⟩) HC.out.2).trans HC.out.1
    have jr : (r : Int) < (k.places.length : Int) := by omega
    have hdk := HDK.out
    obtain ⟨cnt, hcnt⟩ : ∃ c : Int, (((keepL (k.machines.map M4.alive) (atP k.places r)).length : Nat) : Int) = c := ⟨_, rfl⟩
    rw [hcnt] at cv hdk
    have hDl : X.heap.size < Y.heap.size := (Array.getElem?_eq_some_iff.1 hD).1
    have HDL := hidOf hDl
    clear hv hseq hvi hD hlv hcnt hDl
    cases hd : decide (cnt < ((atP k.places r).length : Int)) with
    | true =>
      rw [hd] at hdk
      have HDB := hidOf hdk
      clear hdk
      go_wp2_with fail
      go_quiet (fail)
      go_wp2
      refine ⟨by simp, .inl ⟨_, _, rfl, run_takeDeferred HD.out, ?_⟩⟩
      exact ⟨.bool true, by simp [results, Tryz.results25, go_sem], by rw [← HDB.out], (below_dn HY.out.bel _).trans (below_put _ (by have := HX.out; omega) HDL.out)⟩
    | false =>
      rw [hd] at hdk
      have HDB := hidOf hdk
      clear hdk
      go_wp2_with fail
      go_quiet (fail)
      go_wp2
      refine ⟨by simp, .inl ⟨_, _, rfl, run_takeDeferred HD.out, ?_⟩⟩
      exact ⟨.bool false, by simp [results, Tryz.results25, go_sem], by rw [← HDB.out], (below_dn HY.out.bel _).trans (below_put _ (by have := HX.out; omega) HDL.out)⟩
set_option maxHeartbeats 1000000 in
theorem homeLives_any (w : World) (a1 : Option Addr) (c1 : Nat) (a2 : Option Addr) (c2 : Nat) (a3 : Option Addr) (c3 : Nat) (k : C6) (i : Nat) (hi : i < k.machines.length) (h : KCl.Rd w a1 c1 a2 c2 a3 c3 k) : Calls Tryz.prog 22 #[.agg #[.int .i64 k.config, .int .i64 k.clock, .slice a1 k.places.length c1, .slice a2 k.machines.length c2, .slice a3 k.txs.length c3, .bool k.lost], .int .i64 (i : Int)] w fun e w' => e = .returned (.bool (atM k.machines i).alive) ∧ Below w.heap.size w w' := by
  obtain ⟨W, hW⟩ : ∃ Y, Y = w.alloc (.cells #[.int .i64 k.config, .int .i64 k.clock, .slice a1 k.places.length c1, .slice a2 k.machines.length c2, .slice a3 k.txs.length c3, .bool k.lost] 33) := ⟨_, rfl⟩
  have bW : Below w.heap.size w W := by rw [hW]; exact (Below.refl _ _).alloc (Nat.le_refl _) _
  have p3 : W.cell? ⟨w.heap.size, 3, none⟩ = some (.slice a2 k.machines.length c2) := by rw [hW]; go_simp
  rcases (h.later bW).m with h0 | ⟨b, off, rfl, hb, hrd⟩
  · rw [h0] at hi; simp at hi
  obtain ⟨⟨m0, m1, m2, m3, m4, m5⟩, hel, -⟩ := hrd i _ (atM_of hi)
  have e0 : W.cell? ⟨b, off + i * 4, none⟩ = some (.bool (atM k.machines i).alive) := hel 0 _ rfl
  have e1 : W.cell? ⟨b, off + i * 4 + 1, none⟩ = some (.slice m0 (atM k.machines i).copies.length m1) := hel 1 _ rfl
  have e2 : W.cell? ⟨b, off + i * 4 + 2, none⟩ = some (.slice m2 (atM k.machines i).log.length m3) := hel 2 _ rfl
  have e3 : W.cell? ⟨b, off + i * 4 + 3, none⟩ = some (.slice m4 (atM k.machines i).cleared.length m5) := hel 3 _ rfl
  have d0 : decide (0 ≤ (i : Int)) = true := by simp
  have d1 : decide ((i : Int) < (k.machines.length : Int)) = true := by simp; omega
  have i0 : 0 ≤ (i : Int) := by omega
  have i1 : (i : Int) < (k.machines.length : Int) := by omega
  have BW : Hid (Below w.heap.size w W) := bW
  rw [hW] at p3 e0 e1 e2 e3
  have hmb := memberOf_any W m0 m1 m2 m3 m4 m5 (atM k.machines i)
  clear bW h hrd hel hb
  have hmL : ∀ (a : Option Addr) (n c : Nat) (w : World), (method 371 146 (.agg #[.slice a n c]) "loop.example/g00153/impl.lives").run Tryz.prog w = .ok (236, .agg #[.slice a n c]) w := fun _ _ _ _ => by kernel_rfl
  have hmD : ∀ w : World, (method 371 148 (.agg #[]) "loop.example/g00153/impl.lives").run Tryz.prog w = .ok (238, .agg #[]) w := fun _ => by kernel_rfl
  go_enter Tryz.func22, Tryz.ntmps22
  go_wp2_with fail
  rw [← hW]
  clear hW
  refine hmb.mono ?_
  clear hmb
  rintro e w1 ⟨rfl, b1⟩
  have B1 : Hid (Below w.heap.size w w1) := bstep BW.out b1
  clear b1 p3 e0 e1 e2 e3
  unfold memV
  cases ha : (atM k.machines i).alive with
  | true =>
    simp only [if_true]
    go_wp2_with fail
    refine (livesL_any w1 m0 (atM k.machines i).copies.length m1).mono ?_
    rintro e w2 ⟨rfl, b2⟩
    have B2 : Hid (Below w.heap.size w w2) := bstep B1.out b2
    clear b2
    go_wp2
    go_ret
    exact ⟨by rw [ha]; rfl, B2.out⟩
  | false =>
    simp only [Bool.false_eq_true, if_false]
    go_wp2_with fail
    refine (livesD_any w1).mono ?_
    rintro e w2 ⟨rfl, b2⟩
    have B2 : Hid (Below w.heap.size w w2) := bstep B1.out b2
    clear b2
    go_wp2
    go_ret
    exact ⟨by rw [ha]; rfl, B2.out⟩
theorem tx.pushIAny {W : World} {base : Nat} {v : Value} {xs : List Int} (h : tx.RowI W base v xs) (ys : List Int) (hm : xs.length + ys.length ≤ 1048576) (ty : TypeId) (a : Option Addr) (k : Nat) (src : tx.SlN W W.heap.size a ys.length ys) (hbase : base ≤ W.heap.size) :
    ∃ a' c' W', (Builtin.append_ #[54, 54] ty #[v, .slice a ys.length k]).run Tryz.prog W = .ok (.slice a' (xs ++ ys).length c') W' ∧ tx.RowI W' base (.slice a' (xs ++ ys).length c') (xs ++ ys) ∧ W.grownBy W' v.ownBlock := by
  by_cases e : ys = []
  · subst e
    obtain ⟨i0, hi0, hz0, hz1, hz2⟩ := partsOf tx.infoNum
    obtain ⟨a0, c0, rfl, -, hle, -⟩ := h.form
    simp only [List.append_nil]
    refine ⟨a0, c0, W, ?_, h, ⟨rfl, rfl, rfl, Nat.le_refl _, fun _ _ _ => rfl⟩⟩
    refine run_append_nothing W 54 54 ty 2 i0 Tryz.underlying54 hi0 a0 xs.length c0 hle (.slice a 0 k) ?_
    cases a with
    | none => exact Src.ofNil W Tryz.underlying54 k
    | some x => exact Src.ofSlice W Tryz.underlying54 x 0 k [] (by simp) (fun j u hu => by simp at hu) (fun u hu => by cases hu)
  · have hpos : 0 < ys.length := List.length_pos_iff.2 e
    obtain ⟨_, src⟩ := src
    rcases src with src | ⟨b, off, rfl, hb, hx⟩
    · omega
    obtain ⟨i0, hi0, hz0, hz1, hz2⟩ := partsOf tx.infoNum
    obtain ⟨v', W', h1, h2, h3, h4⟩ := tx.pushX (cells := tx.intC) (sz := 1) (by_ := 8) (fun _ => rfl) (fun s u hu => by simp only [tx.intC, List.mem_cons, List.not_mem_nil, or_false] at hu; subst hu; rfl) (by omega) Tryz.underlying54 hi0 hz0 hz1 hz2 rfl (by omega) h ys hm ty b off k (fun i s e t u hu => by
      have ht : t = 0 := by have := (List.getElem?_eq_some_iff.1 hu).1; simp [tx.intC] at this; exact this
      subst ht
      simp only [tx.intC, List.getElem?_cons_zero, Option.some.injEq] at hu
      subst hu
      simpa using hx i s e) hbase
    obtain ⟨a', c', rfl, -⟩ := tx.RowI.form h2
    exact ⟨a', c', W', h1, h2, h3⟩
theorem wln_mem (zs : List Int) (z : Int) : ∀ j, z ∈ tx.wln zs j ↔ ∃ i, i < j ∧ atN zs i = z
  | 0 => by simp [tx.wln]
  | j + 1 => by
    have ih := wln_mem zs z j
    rw [tx.wln]
    split
    · rename_i h
      rw [ih]
      constructor
      · rintro ⟨i, hi, e⟩; exact ⟨i, by omega, e⟩
      · rintro ⟨i, hi, e⟩
        by_cases h2 : i = j
        · subst h2
          have h3 : tx.atN zs i ∈ tx.wln zs i := tx.has_mem.1 h
          rw [show tx.atN zs i = z from e] at h3
          exact ih.1 h3
        · exact ⟨i, by omega, e⟩
    · rw [List.mem_append, ih, List.mem_singleton]
      constructor
      · rintro (⟨i, hi, e⟩ | e)
        · exact ⟨i, by omega, e⟩
        · exact ⟨j, by omega, e.symm⟩
      · rintro ⟨i, hi, e⟩
        by_cases h2 : i = j
        · subst h2; exact .inr e.symm
        · exact .inl ⟨i, by omega, e⟩
theorem wants_any {t : tx.T7} (h : tx.txB t = true) (f : Int → Bool) : (tx.wantsT t).any f = t.sets.any fun s => f s.region := by
  rw [tx.wantsT, if_pos h, Bool.eq_iff_iff, List.any_eq_true, List.any_eq_true]
  constructor
  · rintro ⟨z, hz, hf⟩
    obtain ⟨i, hi, e⟩ := (wln_mem _ _ _).1 hz
    refine ⟨t.sets[i], List.getElem_mem hi, ?_⟩
    rw [← e, atN, tx.rgs, List.getElem?_map, List.getElem?_eq_getElem hi] at hf
    exact hf
  · rintro ⟨s, hs, hf⟩
    obtain ⟨i, hi, rfl⟩ := List.getElem_of_mem hs
    exact ⟨_, (wln_mem _ _ _).2 ⟨i, hi, by rw [atN, tx.rgs, List.getElem?_map, List.getElem?_eq_getElem hi]; rfl⟩, hf⟩
theorem wants_in {k : C6} (hk : clusterB k = true) {i : Nat} (hi : i < k.txs.length) : ∀ z ∈ tx.wantsT (atT k.txs i) ++ (tx.ofC (atT k.txs i).sets (atT k.txs i).reads).map tx.N5.region, 0 ≤ z ∧ z < (k.places.length : Int) := fun z hz => by
  rcases List.mem_append.1 hz with hz | hz
  · rw [tx.wantsT, if_pos ((clu_up hk).2.1 i hi)] at hz
    obtain ⟨j, hj, e⟩ := (wln_mem _ _ _).1 hz
    have := clu_set hk hi (List.getElem_mem hj)
    rw [← e, atN, tx.rgs, List.getElem?_map, List.getElem?_eq_getElem hj]
    exact this
  · obtain ⟨s, hs, rfl⟩ := List.mem_map.1 hz
    exact clu_read hk hi (List.mem_filter.1 hs).1
theorem strT_dead {k : C6} {t : tx.T7} (h : alB k t.home = false) : strT k t = ((t.phase == 1) || wayB t.phase) := by
  unfold strT wayB
  by_cases h1 : t.phase = 1
  · simp [h1, h]
  · by_cases h7 : t.phase = 7
    · simp [h7]
    · by_cases h9 : t.phase = 9
      · simp [h9]
      · simp [h1, h7, h9, h]
theorem strT_live {k : C6} {t : tx.T7} (h : alB k t.home = true) (ht : tx.txB t = true) : strT k t = (wayB t.phase && (tx.wantsT t ++ (tx.ofC t.sets t.reads).map tx.N5.region).any fun z => downB k (atP k.places z.toNat)) := by
  rw [List.any_append, wants_any ht, List.any_map]
  unfold strT wayB dwS dwN
  by_cases h1 : t.phase = 1
  · simp [h1, h]
  · by_cases h7 : t.phase = 7
    · simp [h7]
    · by_cases h9 : t.phase = 9
      · simp [h9]
      · have e1 : (t.phase == 1) = false := beq_eq_false_iff_ne.2 h1
        have e7 : (t.phase == 7) = false := beq_eq_false_iff_ne.2 h7
        have e9 : (t.phase == 9) = false := beq_eq_false_iff_ne.2 h9
        rw [if_neg h1, if_neg (by omega), if_neg (by rw [h]; simp), e1, e7, e9]
        rfl
set_option maxHeartbeats 1000000 in
theorem lack1_any (w : World) (g : Nat) (a1 : Option Addr) (c1 : Nat) (a2 : Option Addr) (c2 : Nat) (a3 : Option Addr) (c3 : Nat) (k : C6) (r : Nat) (hk : clusterB k = true) (hr : r < k.places.length) (h : KCl.Rd w a1 c1 a2 c2 a3 c3 k) (hx : Bx w g [.int .i64 k.config, .int .i64 k.clock, .slice a1 k.places.length c1, .slice a2 k.machines.length c2, .slice a3 k.txs.length c3, .bool k.lost]) :
    Calls Tryz.prog 24 #[.int .i64 (r : Int), .pointer (some ⟨g, 0, none⟩)] w fun e w' => e = .returned (.bool (downB k (atP k.places r))) ∧ Below w.heap.size w w' := by
  have hc := lacksOne_any w a1 c1 a2 c2 a3 c3 k r hk hr h
  have q0 := hx.1 0 _ rfl
  have q1 := hx.1 1 _ rfl
  have q2 := hx.1 2 _ rfl
  have q3 := hx.1 3 _ rfl
  have q4 := hx.1 4 _ rfl
  have q5 := hx.1 5 _ rfl
  clear hx h hr hk
  go_enter Tryz.func24, Tryz.ntmps24
  go_wp2_with fail
  refine hc.mono ?_
  clear hc
  rintro e w1 ⟨rfl, b1⟩
  clear q0 q1 q2 q3 q4 q5
  obtain ⟨d, hd⟩ : ∃ d, downB k (atP k.places r) = d := ⟨_, rfl⟩
  rw [hd]
  have HD := hidOf hd
  clear hd
  go_wp2
  go_ret
  exact ⟨by rw [HD.out]; rfl, b1⟩
def idxLackF (w : World) (n : Nat) (rs : List Int) (g : Nat) (f : Nat → Bool) : Prop :=
  ∀ (X : World) (i : Nat) , Below w.heap.size w X → i < n → True → Calls Tryz.prog 24 #[.int .i64 (atN rs i), .pointer (some ⟨g, 0, none⟩)] X fun e w' => e = .returned (.bool (f i)) ∧ Below X.heap.size X w'
set_option maxHeartbeats 2000000 in
theorem idxLack (w : World) (a : Option Addr) (n cap : Nat) (rs : List Int) (g : Nat) (f : Nat → Bool) (hn : n ≤ maxLen) (hs : SlN w w.heap.size a n rs) (hf : idxLackF w n rs g f) :
    Calls Tryz.prog 59 #[.slice a n cap, .func (.func 24) #[] #[.pointer (some ⟨g, 0, none⟩)]] w fun e w' => (∃ i : Int, e = .returned (.int .i64 i) ∧ FirstAt f n i) ∧ Below w.heap.size w w' := by
  unfold maxLen at hn
  obtain ⟨hx, hs⟩ := hs
  have HF := hidOf hf
  clear hf
  go_enter Tryz.func59, Tryz.ntmps59
  go_wp2
  go_loopw [8] (fun v wr => ∃ j : Nat, j ≤ n ∧ v = .int .i64 j ∧ Below w.heap.size w wr ∧ ∀ i, i < j → f i = false) (fun v _ => n - (intOf v).toNat)
  case atStart => exact ⟨0, Nat.zero_le _, rfl, Below.refl _ _, fun i h => absurd h (by omega)⟩
  case round =>
    obtain ⟨j, hj, rfl, hbl, hall⟩ := hrel
    by_cases hlt : j < n
    · rcases hs with hs | ⟨b, off, rfl, hb, h1⟩
      · omega
      · have c0 := (hbl.cell (p := ⟨b, off + j, none⟩) hb).trans (h1 j _ (atN_of (by omega)))
        have KA : Hid ((∀ i, i < j → f i = false) ∧ Below w.heap.size w wr) := ⟨hall, hbl⟩
        have hw := HF.out wr j hbl hlt trivial
        clear h1 hall hbl
        cases hp : f j with
        | true =>
          rw [hp] at hw
          go_wp2_with fail
          refine hw.mono ?_
          clear hw
          rintro e w1 ⟨rfl, b1⟩
          go_wp2
          go_ret
          exact ⟨⟨_, rfl, .inr ⟨j, rfl, hlt, hp, KA.out.1⟩⟩, KA.out.2.trans (b1.mono KA.out.2.size)⟩
        | false =>
          rw [hp] at hw
          go_wp2_with fail
          refine hw.mono ?_
          clear hw
          rintro e w1 ⟨rfl, b1⟩
          go_wp2
          exact ⟨⟨j + 1, by omega, by simp, KA.out.2.trans (b1.mono KA.out.2.size), fun i hi => by
            by_cases e : i = j
            · rw [e]; exact hp
            · exact KA.out.1 i (by omega)⟩, by simp [intOf]; omega⟩
    · have : j = n := by omega
      subst this
      have hd : decide ((j : Int) < (j : Int)) = false := by simp
      have KA : Hid (∀ i, i < j → f i = false) := hall
      clear hs hall
      go_wp2
      go_ret
      exact ⟨⟨_, rfl, .inl ⟨rfl, KA.out⟩⟩, hbl⟩
theorem firstN_any {l : List Int} {p : Int → Bool} {i : Int} (h : FirstAt (fun j => p (atN l j)) l.length i) : decide (0 ≤ i) = l.any p := by
  rcases h with ⟨rfl, h⟩ | ⟨j, rfl, hj, h1, _⟩
  · have : l.any p = false := by
      rw [List.any_eq_false]
      intro r hr
      obtain ⟨t, ht, rfl⟩ := List.getElem_of_mem hr
      have := h t ht
      simpa [atN, List.getElem?_eq_getElem ht] using this
    rw [this]; rfl
  · have : l.any p = true := by
      rw [List.any_eq_true]
      exact ⟨l[j], List.getElem_mem hj, by simpa [atN, List.getElem?_eq_getElem hj] using h1⟩
    rw [this]; simp
set_option maxHeartbeats 1000000 in
theorem someLack_any (w : World) (a : Option Addr) (cap g : Nat) (zs : List Int) (a1 : Option Addr) (c1 : Nat) (a2 : Option Addr) (c2 : Nat) (a3 : Option Addr) (c3 : Nat) (k : C6) (hk : clusterB k = true) (hz : ∀ z ∈ zs, 0 ≤ z ∧ z < (k.places.length : Int)) (hn : zs.length ≤ 1000) (hs : SlN w w.heap.size a zs.length zs) (h : KCl.Rd w a1 c1 a2 c2 a3 c3 k) (hx : Bx w g [.int .i64 k.config, .int .i64 k.clock, .slice a1 k.places.length c1, .slice a2 k.machines.length c2, .slice a3 k.txs.length c3, .bool k.lost]) :
    Calls Tryz.prog 28 #[.slice a zs.length cap, .func (.func 24) #[] #[.pointer (some ⟨g, 0, none⟩)]] w fun e w' => e = .returned (.bool (zs.any fun z => downB k (atP k.places z.toNat))) ∧ Below w.heap.size w w' := by
  have hc := idxLack w a zs.length cap zs g (fun i => downB k (atP k.places (atN zs i).toNat)) (by unfold maxLen; omega) hs (fun X i hX hi _ => by
    have hr := hz _ (List.mem_of_getElem? (atN_of hi))
    obtain ⟨r, hr'⟩ := Int.eq_ofNat_of_zero_le hr.1
    show Calls Tryz.prog _ #[.int .i64 (atN zs i), _] X fun e w' => e = .returned (.bool (downB k (atP k.places (atN zs i).toNat))) ∧ _
    rw [hr'] at hr ⊢
    exact lack1_any X g a1 c1 a2 c2 a3 c3 k r hk (by omega) (h.later hX) (hx.later hX))
  clear hs h hx hz hk
  go_enter Tryz.func28, Tryz.ntmps28
  go_wp2_with fail
  refine hc.mono ?_
  clear hc
  rintro e w1 ⟨⟨i, rfl, hfi⟩, b1⟩
  have HF : Hid (decide (0 ≤ i) = zs.any fun z => downB k (atP k.places z.toNat)) := firstN_any (p := fun z => downB k (atP k.places z.toNat)) hfi
  clear hfi
  obtain ⟨d, hd⟩ : ∃ d, decide (0 ≤ i) = d := ⟨_, rfl⟩
  rw [hd] at HF
  go_wp2
  go_ret
  exact ⟨by rw [← HF.out]; first | rfl | (rw [← hd]; rfl), b1⟩
set_option maxRecDepth 100000 in
set_option maxHeartbeats 8000000 in
theorem implStricken_any (w : World) (a1 : Option Addr) (c1 : Nat) (a2 : Option Addr) (c2 : Nat) (a3 : Option Addr) (c3 : Nat) (k : C6) (y : Int) (hl : KCl.L k) (h : KCl.Rd w a1 c1 a2 c2 a3 c3 k) :
    Calls Tryz.prog 8 #[.agg #[.int .i64 k.config, .int .i64 k.clock, .slice a1 k.places.length c1, .slice a2 k.machines.length c2, .slice a3 k.txs.length c3, .bool k.lost], .int .i64 y] w fun e w' => e = .returned (.bool (strB k y)) ∧ Below w.heap.size w w' := by
  obtain ⟨U, hU⟩ : ∃ Y, Y = w.alloc (.cells #[.int .i64 k.config, .int .i64 k.clock, .slice a1 k.places.length c1, .slice a2 k.machines.length c2, .slice a3 k.txs.length c3, .bool k.lost] 33) := ⟨_, rfl⟩
  have BU : Hid (Below w.heap.size w U) := by unfold Hid; rw [hU]; exact (Below.refl _ _).alloc (Nat.le_refl _) _
  have FA : Hid (Bx U w.heap.size [.int .i64 k.config, .int .i64 k.clock, .slice a1 k.places.length c1, .slice a2 k.machines.length c2, .slice a3 k.txs.length c3, .bool k.lost]) := by unfold Hid; rw [hU]; exact Bx.made w [.int .i64 k.config, .int .i64 k.clock, .slice a1 k.places.length c1, .slice a2 k.machines.length c2, .slice a3 k.txs.length c3, .bool k.lost] _
  have HR : Hid (KCl.Rd w a1 c1 a2 c2 a3 c3 k ∧ KCl.L k) := ⟨h, hl⟩
  have hf := implFind_any U a1 c1 a2 c2 a3 c3 k y hl (h.later BU.out)
  clear h hl
  go_enter Tryz.func8, Tryz.ntmps8
  go_wp2_with fail
  rw [← hU]
  clear hU
  refine hf.mono ?_
  clear hf
  rintro e W1 ⟨ta, tb, tc, td, PT, rfl, hOw, b4⟩
  have B1 : Hid (Below U.heap.size U W1) := b4
  have HOW : Hid (tx.SlT W1 ⟨ta, tb, tc, td⟩ (findT k y)) := hOw.sl
  clear hOw b4
  cases hfb : findB k y with
  | false =>
    have HV : Hid (strB k y = false) := by
      unfold Hid
      cases hk : clusterB k with
      | false => simp [strB, hk]
      | true =>
        rw [findB, findO_at y hk] at hfb
        have hge : ¬ atId k.txs y < k.txs.length := fun hlt => by rw [List.getElem?_eq_getElem hlt] at hfb; cases hfb
        simp [strB, hge]
    clear hfb HOW
    generalize findT k y = t at *
    go_wp2
    go_ret
    exact ⟨by rw [HV.out]; rfl, (bstep BU.out B1.out).alloc (bstep BU.out B1.out).size _⟩
  | true =>
  have hk : clusterB k = true := by
    cases hk : clusterB k with
    | true => rfl
    | false => rw [findB, findO, hk] at hfb; cases hfb
  have hat : atId k.txs y < k.txs.length := by
    rcases Nat.lt_or_ge (atId k.txs y) k.txs.length with h | h
    · exact h
    · rw [findB, findO_at y hk, List.getElem?_eq_none h] at hfb; cases hfb
  have hft : findT k y = atT k.txs (atId k.txs y) := by rw [findT, findO_at y hk]; simp [atT, List.getElem?_eq_getElem hat]
  have HV : Hid (strB k y = strT k (findT k y)) := by unfold Hid; rw [strB, if_pos hk, if_pos hat, hft]
  have HTB : Hid (tx.txB (findT k y) = true) := by unfold Hid; rw [hft]; exact (clu_up hk).2.1 _ hat
  have HK := hidOf hk
  have HTL : Hid (tx.TL (findT k y)) := by unfold Hid; rw [hft]; exact HR.out.2.ts _ (List.mem_of_getElem? (atT_of hat))
  have HHM : Hid (0 ≤ (findT k y).home ∧ (findT k y).home < (k.machines.length : Int)) := by unfold Hid; rw [hft]; exact clu_homeV hk hat
  have HWI : Hid (∀ z ∈ tx.wantsT (findT k y) ++ (tx.ofC (findT k y).sets (findT k y).reads).map tx.N5.region, 0 ≤ z ∧ z < (k.places.length : Int)) := by unfold Hid; rw [hft]; exact wants_in hk hat
  clear hfb hk hat hft
  obtain ⟨t, ht⟩ : ∃ t, findT k y = t := ⟨_, rfl⟩
  rw [ht] at HV HTB HTL HHM HWI HOW ⊢
  clear ht
  obtain ⟨V, hV⟩ : ∃ Y, Y = W1.alloc (.cells #[.int .i64 t.id, .int .i64 t.home, .int .i64 t.phase, .int .i64 t.count, .slice ta t.reads.length tb, .slice tc t.sets.length td, .int .i64 t.stamp] 47) := ⟨_, rfl⟩
  have bV : Below W1.heap.size W1 V := by rw [hV]; exact (Below.refl _ _).alloc (Nat.le_refl _) _
  have BV : Hid (Below U.heap.size U V) := bstep B1.out bV
  have XT : Hid (Bx V W1.heap.size [.int .i64 t.id, .int .i64 t.home, .int .i64 t.phase, .int .i64 t.count, .slice ta t.reads.length tb, .slice tc t.sets.length td, .int .i64 t.stamp]) := by unfold Hid; rw [hV]; exact Bx.made W1 [.int .i64 t.id, .int .i64 t.home, .int .i64 t.phase, .int .i64 t.count, .slice ta t.reads.length tb, .slice tc t.sets.length td, .int .i64 t.stamp] _
  have HST : Hid (tx.SlT V ⟨ta, tb, tc, td⟩ t) := HOW.out.later bV
  obtain ⟨i, hi⟩ := Int.eq_ofNat_of_zero_le HHM.out.1
  have hil : i < k.machines.length := by have := HHM.out.2; omega
  have hhl := homeLives_any V a1 c1 a2 c2 a3 c3 k i hil (HR.out.1.later (bstep BU.out BV.out))
  have HAL : Hid ((atM k.machines i).alive = alB k t.home) := by unfold Hid alB; rw [hi]; rfl
  rw [HAL.out] at hhl
  have f0 := (FA.out.later BV.out).1 0 _ rfl
  have f1 := (FA.out.later BV.out).1 1 _ rfl
  have f2 := (FA.out.later BV.out).1 2 _ rfl
  have f3 := (FA.out.later BV.out).1 3 _ rfl
  have f4 := (FA.out.later BV.out).1 4 _ rfl
  have f5 := (FA.out.later BV.out).1 5 _ rfl
  have f6 := XT.out.1 1 _ rfl
  rw [← hi] at hhl
  have hi' := hidOf hi
  rw [hV] at f0 f1 f2 f3 f4 f5 f6
  clear bV B1 HOW HAL hil hi
  go_wp2_with fail
  rw [← hV]
  clear hV f0 f1 f2 f3 f4 f5 f6
  refine hhl.mono ?_
  clear hhl
  rintro e W2 ⟨rfl, b2⟩
  have B2 : Hid (Below V.heap.size V W2) := b2
  clear b2
  cases hal : alB k t.home with
  | false =>
    have HS : Hid (strB k y = ((t.phase == 1) || wayB t.phase)) := by unfold Hid; rw [HV.out, strT_dead hal]
    have g2 := (XT.out.later B2.out).1 2 _ rfl
    clear hal
    cases hp : (t.phase == 1) with
    | true =>
      rw [hp] at HS
      go_wp2
      go_ret
      exact ⟨by rw [HS.out]; rfl, bstep BU.out (bstep BV.out B2.out)⟩
    | false =>
      rw [hp] at HS
      have hu := underWay_any W2 t.phase
      go_wp2_with fail
      refine hu.mono ?_
      clear hu g2 hp
      rintro e w3 ⟨rfl, hw3⟩
      subst hw3
      go_wp2
      go_ret
      exact ⟨by rw [HS.out]; rfl, bstep BU.out (bstep BV.out B2.out)⟩
  | true =>
  have HS : Hid (strB k y = (wayB t.phase && (tx.wantsT t ++ (tx.ofC t.sets t.reads).map tx.N5.region).any fun z => downB k (atP k.places z.toNat))) := by unfold Hid; rw [HV.out, strT_live hal HTB.out]
  clear hal HV
  have hwl : (tx.wantsT t).length ≤ 12 := by
    rw [tx.wantsT, if_pos HTB.out]
    exact Nat.le_trans (tx.wln_le _ _) (tx.txB_sets HTB.out).2
  have hcl : ((tx.ofC t.sets t.reads).map tx.N5.region).length ≤ 12 := by
    rw [List.length_map]
    exact Nat.le_trans (tx.ofC_len _ _) (tx.txB_sets HTB.out).1
  obtain ⟨zs, hzs⟩ : ∃ zs, tx.wantsT t ++ (tx.ofC t.sets t.reads).map tx.N5.region = zs := ⟨_, rfl⟩
  rw [hzs] at HS HWI
  have HZS := hidOf hzs
  have HZL : Hid (zs.length ≤ 1000) := by unfold Hid; rw [← hzs, List.length_append]; omega
  clear hzs
  go_wp2_with fail
  have bd : Below W2.heap.size W2 W2.drew := (Below.refl _ _).drew
  have hS : (fun X : World => Below W2.heap.size W2 X) W2.drew := bd
  refine wp_region_z (fun _ => false) (fun X : World => Below W2.heap.size W2 X) (by kernel_rfl) ?_
  generalize W2.drew = Wd at *
  refine wpZ_take (i := 0) (v := ?_) rfl (by kernel_rfl) (fun _ _ _ h => h) (Or.inl ⟨by rfl, ?_⟩) hS ?_
  rotate_left
  · (intro X hSw; have q0 := ((XT.out.later B2.out).later hSw).1 0 _ rfl; have q1 := ((XT.out.later B2.out).later hSw).1 1 _ rfl; have q2 := ((XT.out.later B2.out).later hSw).1 2 _ rfl; have q3 := ((XT.out.later B2.out).later hSw).1 3 _ rfl; have q4 := ((XT.out.later B2.out).later hSw).1 4 _ rfl; have q5 := ((XT.out.later B2.out).later hSw).1 5 _ rfl; have q6 := ((XT.out.later B2.out).later hSw).1 6 _ rfl; go_simp; first | done | with_reducible rfl | rfl | (rw [if_pos (by omega)]))
  simp only [Act.put]
  refine wpZ_take (i := 2) (v := ?_) rfl (by kernel_rfl) (fun _ _ _ h => h) (Or.inl ⟨by rfl, ?_⟩) hS ?_
  rotate_left
  · (intro X hSw; have q0 := ((XT.out.later B2.out).later hSw).1 0 _ rfl; have q1 := ((XT.out.later B2.out).later hSw).1 1 _ rfl; have q2 := ((XT.out.later B2.out).later hSw).1 2 _ rfl; have q3 := ((XT.out.later B2.out).later hSw).1 3 _ rfl; have q4 := ((XT.out.later B2.out).later hSw).1 4 _ rfl; have q5 := ((XT.out.later B2.out).later hSw).1 5 _ rfl; have q6 := ((XT.out.later B2.out).later hSw).1 6 _ rfl; go_simp; first | done | with_reducible rfl | rfl | (rw [if_pos (by omega)]))
  simp only [Act.put]
  refine wpZ_ready (rs := [1]) (by kernel_rfl) (by simp) ?_
  refine AllZ.cons rfl (fun K hK => ?_) AllZ.nil
  go_simp
  have hw := tx.implWantsR_any Wd ⟨ta, tb, tc, td⟩ t HTL.out ((HST.out.later B2.out).later bd)
  simp only [tx.TV.val] at hw
  refine hw.mono ?_
  clear hw
  rintro e X1 ⟨v1, rfl, hr1, b1⟩
  have bX := bstep bd b1
  refine hK.out _ _ (fun _ => bX) ?_
  clear hK K
  refine wpZ_ready (rs := [3]) (by kernel_rfl) (by simp) ?_
  refine AllZ.cons rfl (fun K hK => ?_) AllZ.nil
  go_simp
  have hw := checkedRegions_any X1 ta tb tc td t HTL.out HTB.out ((HST.out.later B2.out).later bX)
  refine hw.mono ?_
  clear hw
  rintro e X2 ⟨v2, rfl, hr2, b2⟩
  have bY := bstep bX b2
  refine hK.out _ _ (fun _ => bY) ?_
  clear hK K
  obtain ⟨va, vc, rfl, ho2, -⟩ := tx.RowI.form hr2
  have hr1' := tx.RowI.later hr1 b2
  obtain ⟨na, nc, X3, run1, hr3, hg3⟩ := tx.pushIAny hr1' ((tx.ofC t.sets t.reads).map tx.N5.region) (by omega) 54 va vc ho2.sl (by have := b1.size; have := b2.size; omega)
  rw [HZS.out] at run1 hr3
  have bZ : Below W2.heap.size W2 X3 := bY.grown hg3 bY.size (fun q e => Nat.le_trans bd.size (tx.RowI.lt hr1' e).1)
  refine wpZ_ready (rs := [4]) (by kernel_rfl) (by simp) ?_
  refine AllZ.cons (o := ⟨some 35, _, _, _, _, _⟩) rfl (fun K hK => ?_) AllZ.nil
  refine step_known _ rfl (.tmp 32) (.tmp 34) 54 rfl _ _ _ _ (by first | rfl | simp [Act.eval, Act.put]) (by first | rfl | simp [Act.eval, Act.put]) run1 ?_
  refine hK.out _ _ (fun _ => bZ) ?_
  clear hK K run1
  simp only [Act.put]
  refine wpZ_ready (rs := [5]) (by kernel_rfl) (by simp) ?_
  refine AllZ.cons rfl (fun K hK => ?_) AllZ.nil
  go_simp
  refine hK.out _ _ (fun _ => bZ) ?_
  clear hK K
  refine wpZ_done (by kernel_rfl) ?_ _
  have HON : Hid (SlN X3 X3.heap.size na zs.length zs) := by
    obtain ⟨na', nc', e, ho3, -⟩ := tx.RowI.form hr3
    cases e
    exact ho3.sl
  have B3 : Hid (Below V.heap.size V X3) := bstep B2.out bZ
  clear bd hS b1 b2 bX bY bZ hr1 hr2 hr1' ho2 hr3 hg3 hwl hcl B2
  clear HZS
  have g2 := (XT.out.later B3.out).1 2 _ rfl
  have hu := underWay_any X3 t.phase
  go_wp2_with fail
  refine hu.mono ?_
  clear hu g2
  rintro e w3 ⟨rfl, hw3⟩
  subst hw3
  generalize w3 = X4 at *
  cases hwy : wayB t.phase with
  | false =>
    rw [hwy] at HS
    clear hwy
    go_wp2
    go_ret
    exact ⟨by rw [HS.out]; rfl, bstep BU.out (bstep BV.out B3.out)⟩
  | true =>
    rw [hwy] at HS
    clear hwy
    have hsl := someLack_any X4 na nc w.heap.size zs a1 c1 a2 c2 a3 c3 k HK.out HWI.out HZL.out HON.out (HR.out.1.later (bstep BU.out (bstep BV.out B3.out))) ((FA.out.later BV.out).later B3.out)
    obtain ⟨d, hd⟩ : ∃ d, (zs.any fun z => downB k (atP k.places z.toNat)) = d := ⟨_, rfl⟩
    rw [hd] at hsl HS
    clear hd
    go_wp2_with fail
    refine hsl.mono ?_
    clear hsl
    rintro e w5 ⟨rfl, b5⟩
    have B5 : Hid (Below V.heap.size V w5) := bstep B3.out b5
    clear b5
    go_wp2
    go_ret
    exact ⟨by rw [HS.out]; rfl, bstep BU.out (bstep BV.out B5.out)⟩
end Go.Proofs.YtphpcgmnljhimaaGreat