/- What both Wants answer at every transaction: the regions of its Sets, rising, in memory of the call's own. -/
import Derived.Test.YtijphfbcojfjpaaRows
import Derived.Test.YtijphfbcojfjpaaRowA
import Derived.Test.YtijphfbcojfjpaaTxI
import Derived.Test.YtijphfbcojfjpaaWanC
import Derived.WalkKit
import Derived.WalkSpells
import Derived.WalkLawsBesides
import Derived.Below
namespace Go.Proofs.Ytijphfbcojfjpaa
open Go.RowKit
/-- Numbers of a call's own in a block of P: none, or at the head of one. -/
def OwnIn (w : World) (P : Nat → Prop) (a : Option Addr) (zs : List Int) : Prop := zs = [] ∨ ∃ b, a = some ⟨b, 0, none⟩ ∧ P b ∧ b < w.heap.size ∧ NumsAt w b 0 zs ∧ Room w b zs.length
theorem NumsAt.of_blk {w w' : World} {b off : Nat} {zs : List Int} (h : NumsAt w b off zs) (e : w'.heap[b]? = w.heap[b]?) : NumsAt w' b off zs := fun i z hz => (World.cell?_of_block (a := ⟨b, off + i, none⟩) e).trans (h i z hz)
theorem OwnIn.keep {w w' : World} {P : Nat → Prop} {a : Option Addr} {zs : List Int} (h : OwnIn w P a zs) (hs : w.heap.size ≤ w'.heap.size) (hk : ∀ q, q < w.heap.size → P q → w'.heap[q]? = w.heap[q]?) : OwnIn w' P a zs := by
  rcases h with h | ⟨b, ha, hp, hl, hn, hr⟩
  · exact .inl h
  · exact .inr ⟨b, ha, hp, Nat.lt_of_lt_of_le hl hs, hn.of_blk (hk b hl hp), hr.of_block (hk b hl hp)⟩
theorem OwnIn.sl {w : World} {P : Nat → Prop} {a : Option Addr} {zs : List Int} (h : OwnIn w P a zs) : SlN w w.heap.size a zs.length zs := by
  rcases h with e | ⟨b, ha, _, hl, hn, _⟩
  · exact ⟨rfl, .inl (by rw [e]; rfl)⟩
  · exact ⟨rfl, .inr ⟨b, 0, ha, hl, hn⟩⟩
theorem markIn (w : World) (P : Nat → Prop) (a : Option Addr) (cap : Nat) (zs : List Int) (k : Int) (hk : 0 ≤ k) (hk' : k ≤ 1000000000) (hn : zs.length ≤ 1048576) (h : OwnIn w P a zs) :
    Calls Try.prog 40 #[.slice a zs.length cap, .int .i64 k] w fun e w' => e = .returned (.int .i64 (k + zs.length)) ∧ KeptP P w w' ∧ OwnIn w' P a (marks zs.length k) := by
  rcases h with rfl | ⟨b, rfl, hp, hb, hx, hr⟩
  · refine (markInt64S_none w a cap k).mono ?_
    rintro e w' ⟨rfl, rfl⟩
    exact ⟨by simp, KeptP.refl _ _, .inl rfl⟩
  · refine (markInt64S_own w b zs.length cap k hn hk hk' hr).mono ?_
    rintro e w' ⟨rfl, ho, hx', hr'⟩
    exact ⟨rfl, KeptP.of_only ho hp, .inr ⟨b, rfl, hp, by rw [ho.size]; exact hb, hx', by rw [marks_len]; exact hr'⟩⟩
/-- A row of numbers that append makes. -/
def intC (z : Int) : List Value := [.int .i64 z]
def RowI (W : World) (base : Nat) (v : Value) (zs : List Int) : Prop := W.ownsRow base 2 1 v zs.length (zs.flatMap intC)
theorem infoNum : (Try.prog.info? 2).map (fun i => (i.zero, i.size, i.bytes)) = some (some (.int .i64 0), 1, 8) := by kernel_rfl
theorem pushI {W : World} {base : Nat} {v : Value} {zs : List Int} (h : RowI W base v zs) (z : Int) (hm : zs.length + 1 ≤ 1048576) (ty : TypeId) (b k : Nat) (src : W.cell? ⟨b, 0, none⟩ = some (.int .i64 z)) (hbase : base ≤ W.heap.size) :
    ∃ v' W', (Builtin.append_ #[42, 42] ty #[v, .slice (some ⟨b, 0, none⟩) 1 k]).run Try.prog W = .ok v' W' ∧ RowI W' base v' (zs ++ [z]) ∧ W.grownBy W' v.ownBlock ∧ (v'.ownBlock = v.ownBlock ∨ v'.ownBlock = some W.heap.size) := by
  obtain ⟨i0, hi0, hz0, hz1, hz2⟩ := partsOf infoNum
  exact pushX (cells := intC) (sz := 1) (by_ := 8) (fun _ => rfl) (fun s u hu => by simp only [intC, List.mem_cons, List.not_mem_nil, or_false] at hu; subst hu; rfl) (by omega) Try.underlying42 hi0 hz0 hz1 hz2 rfl (by omega) h [z] hm ty b 0 k (fun i s e t u hu => by
    rcases i with _ | i
    · simp at e; subst e
      rcases t with _ | t
      · simp [intC] at hu; subst hu; exact src
      · simp [intC] at hu
    · simp at e) hbase
theorem RowI.nil (W : World) (base : Nat) : RowI W base (.slice none 0 0) [] := ⟨rfl, .inl ⟨rfl, rfl⟩⟩
theorem RowI.lt {W : World} {base : Nat} {v : Value} {zs : List Int} (h : RowI W base v zs) {q : Nat} (e : v.ownBlock = some q) : base ≤ q ∧ q < W.heap.size := World.ownsRow.lt h q e
theorem RowI.later {W W' : World} {base : Nat} {v : Value} {zs : List Int} (h : RowI W base v zs) (hb : Below W.heap.size W W') : RowI W' base v zs := row_keep h (fun q e => hb.block q (h.lt e).2)
theorem RowI.made (W : World) : RowI (W.alloc (.cells #[] 2)) W.heap.size (.slice (some ⟨W.heap.size, 0, none⟩) 0 0) [] := World.ownsRow_made W #[] 0 (Nat.le_refl _) (Nat.zero_le _) rfl
theorem intC_map (zs : List Int) : zs.flatMap intC = zs.map (Value.int .i64) := List.map_eq_flatMap.symm
theorem RowI.form {W : World} {base : Nat} {v : Value} {zs : List Int} (h : RowI W base v zs) : ∃ a c, v = .slice a zs.length c ∧ OwnIn W (fun q => v.ownBlock = some q) a zs ∧ zs.length ≤ c ∧ (zs ≠ [] → ∃ q, a = some ⟨q, 0, none⟩) := by
  have h' := h
  rcases h.2 with ⟨rfl, h0⟩ | ⟨q, cap, cur, rfl, hb, hg, hl, _⟩
  · have hz := List.eq_nil_of_length_eq_zero h0
    exact ⟨none, 0, by rw [h0], .inl hz, by omega, fun e => absurd hz e⟩
  · refine ⟨some ⟨q, 0, none⟩, cap, rfl, .inr ⟨q, rfl, rfl, (World.ownsRow.lt h q rfl).2, fun i z ez => ?_, fun j hj => ⟨.int .i64 (zs[j]'hj), ?_, World.ownsRow.frozenAt h j⟩⟩, hl, fun _ => ⟨q, rfl⟩⟩
    · have hi := (List.getElem?_eq_some_iff.1 ez).1
      rw [Nat.zero_add, World.ownsRow.cellAt h i (by omega), intC_map, List.getElem?_map, ez]; rfl
    · rw [World.ownsRow.cellAt h j (by omega), intC_map, List.getElem?_map, List.getElem?_eq_getElem hj]; rfl
/-- Numbers answered in memory of the call's own. -/
def IAns (w : World) (zs : List Int) (e : Ending) (w' : World) : Prop :=
  ∃ (a : Option Addr) (c : Nat) (P : Nat → Prop), e = .returned (.slice a zs.length c) ∧ OwnIn w' P a zs ∧ (∀ q, P q → w.heap.size ≤ q ∧ q < w'.heap.size) ∧ Below w.heap.size w w'
theorem IAns.of {w w' : World} {base : Nat} {v : Value} {zs : List Int} (h : RowI w' base v zs) (hb : w.heap.size ≤ base) (b : Below w.heap.size w w') : IAns w zs (.returned v) w' := by
  obtain ⟨a, c, e, ho, _⟩ := h.form
  exact ⟨a, c, _, by rw [e], ho, fun q hq => ⟨Nat.le_trans hb (h.lt hq).1, (h.lt hq).2⟩, b⟩
theorem IAns.none {w w' : World} (a : Option Addr) (c : Nat) (b : Below w.heap.size w w') : IAns w [] (.returned (.slice a 0 c)) w' := ⟨a, c, fun _ => False, rfl, .inl rfl, fun _ h => h.elim, b⟩
/-- Of the first j numbers one of each, in their order. -/
def wln (zs : List Int) : Nat → List Int
  | 0 => []
  | j + 1 => if hasB (wln zs j) (atN zs j) = true then wln zs j else wln zs j ++ [atN zs j]
theorem wln_le (zs : List Int) : ∀ j, (wln zs j).length ≤ j
  | 0 => by simp [wln]
  | j + 1 => by have := wln_le zs j; rw [wln]; split <;> simp <;> omega
theorem has_mem {zs : List Int} {z : Int} : hasB zs z = true ↔ z ∈ zs := by
  rw [hasB, List.any_eq_true]
  constructor
  · rintro ⟨y, hy, e⟩; simp at e; rw [← e]; exact hy
  · intro h; exact ⟨z, h, by simp⟩
/-- Where the numbers never fall the two are one. -/
theorem cpn_wln {zs : List Int} (h : ∀ i, i + 1 < zs.length → atN zs i ≤ atN zs (i + 1)) : ∀ j, j ≤ zs.length → cpn zs j = wln zs j ∧ (∀ z ∈ cpn zs j, ∃ i, i < j ∧ z = atN zs i) ∧ (0 < j → atN zs (j - 1) ∈ cpn zs j)
  | 0, _ => ⟨rfl, fun z hz => by simp [cpn] at hz, fun h => by omega⟩
  | j + 1, hj => by
    obtain ⟨e, hm, hl⟩ := cpn_wln h j (by omega)
    have up : ∀ d i, i + d < zs.length → atN zs i ≤ atN zs (i + d) := by
      intro d
      induction d with
      | zero => intro i _; exact Int.le_refl _
      | succ d ih => intro i hi; exact Int.le_trans (ih i (by omega)) (h (i + d) (by omega))
    by_cases hs : j ≠ 0 ∧ atN zs j = atN zs (j - 1)
    · have e1 : cpn zs (j + 1) = cpn zs j := by rw [cpn]; exact if_pos hs
      have hin : atN zs j ∈ cpn zs j := by rw [hs.2]; exact hl (by omega)
      have e2 : wln zs (j + 1) = wln zs j := by rw [wln]; exact if_pos (has_mem.2 (by rw [← e]; exact hin))
      refine ⟨by rw [e1, e2, e], fun z hz => ?_, fun _ => by rw [e1]; simpa using hin⟩
      rw [e1] at hz
      obtain ⟨i, hi, ez⟩ := hm z hz
      exact ⟨i, by omega, ez⟩
    · have e1 : cpn zs (j + 1) = cpn zs j ++ [atN zs j] := by rw [cpn]; exact if_neg hs
      have hno : ¬ hasB (wln zs j) (atN zs j) = true := fun hh => by
        rw [has_mem, ← e] at hh
        obtain ⟨i, hi, ez⟩ := hm _ hh
        have g1 := up (j - 1 - i) i (by omega)
        rw [show i + (j - 1 - i) = j - 1 by omega] at g1
        have g2 := h (j - 1) (by omega)
        rw [show j - 1 + 1 = j by omega] at g2
        exact hs ⟨by omega, by omega⟩
      have e2 : wln zs (j + 1) = wln zs j ++ [atN zs j] := by rw [wln]; exact if_neg hno
      refine ⟨by rw [e1, e2, e], fun z hz => ?_, fun _ => by rw [e1]; simp⟩
      rw [e1] at hz
      rcases List.mem_append.1 hz with hz | hz
      · obtain ⟨i, hi, ez⟩ := hm z hz
        exact ⟨i, by omega, ez⟩
      · simp at hz
        exact ⟨j, by omega, hz⟩
def rgs (xs : List S5) : List Int := xs.map S5.region
theorem rgs_at {xs : List S5} {k : Nat} (h : k < xs.length) : atN (rgs xs) k = (atSe xs k).region := by
  unfold atN atSe rgs
  rw [List.getElem?_map, List.getElem?_eq_getElem h]; rfl
theorem rgs_take {xs : List S5} {k : Nat} (h : k < xs.length) : rgs (xs.take (k + 1)) = rgs (xs.take k) ++ [(atSe xs k).region] := by
  unfold rgs
  rw [List.take_add_one, atSe_of h, List.map_append]; rfl
theorem rgs_up {t : T7} (h : txB t = true) : ∀ i, i + 1 < (rgs t.sets).length → atN (rgs t.sets) i ≤ atN (rgs t.sets) (i + 1) := by
  intro i hi
  have hl : (rgs t.sets).length = t.sets.length := by simp [rgs]
  rw [hl] at hi
  rw [rgs_at (by omega), rgs_at hi]
  simp only [txB, Bool.and_eq_true] at h
  have := List.all_eq_true.1 h.2 (i + 1) (List.mem_range.2 hi)
  simp only [seAt, Bool.and_eq_true, Bool.or_eq_true, decide_eq_true_eq, lessB] at this
  rcases this.2 with e | e | e
  · omega
  · simp at e; omega
  · have := e.1; simp at this; omega
theorem txB_sets {t : T7} (h : txB t = true) : t.reads.length ≤ 12 ∧ t.sets.length ≤ 12 := by
  simp only [txB, Bool.and_eq_true, decide_eq_true_eq] at h
  exact ⟨h.1.1.1.2, h.1.1.2⟩
def wantsT (t : T7) : List Int := if txB t = true then wln (rgs t.sets) t.sets.length else []
theorem wantsT_short (t : T7) : (wantsT t).length ≤ 1048576 := by
  unfold wantsT
  split
  · rename_i h
    have := wln_le (rgs t.sets) t.sets.length
    have := (txB_sets h).2
    omega
  · simp
set_option maxHeartbeats 4000000 in
theorem l7Wants_any (w : World) (v : TV) (t : T7) (hl : t.sets.length ≤ 1000) (hs : SlT w v t) :
    Calls Try.prog 86 #[v.val t] w (IAns w (wln (rgs t.sets) t.sets.length)) := by
  obtain ⟨ar, cr, ah, ch⟩ := v
  simp only [TV.val]
  obtain ⟨W0, hW0⟩ : ∃ W, W = w.alloc (.cells #[.int .i64 t.id, .int .i64 t.home, .int .i64 t.phase, .int .i64 t.count, .slice ar t.reads.length cr, .slice ah t.sets.length ch, .int .i64 t.stamp] 27) := ⟨_, rfl⟩
  have b0 : Below w.heap.size w W0 := by rw [hW0]; exact (Below.refl _ _).alloc (Nat.le_refl _) _
  have x0 : BT W0 w.heap.size ⟨ar, cr, ah, ch⟩ t := by rw [hW0]; exact BT.box w ⟨ar, cr, ah, ch⟩ t _
  have z0 : W0.heap.size = w.heap.size + 1 := by rw [hW0]; simp
  obtain ⟨W, hW⟩ : ∃ W, W = W0.alloc (.cells #[] 2) := ⟨_, rfl⟩
  have b1 : Below W0.heap.size W0 W := by rw [hW]; exact (Below.refl _ _).alloc (Nat.le_refl _) _
  have r1 : RowI W (w.heap.size + 1) (.slice (some ⟨w.heap.size + 1, 0, none⟩) 0 0) [] := by rw [hW, ← z0]; exact RowI.made W0
  have H : Hid (SlT w ⟨ar, cr, ah, ch⟩ t ∧ BT W w.heap.size ⟨ar, cr, ah, ch⟩ t ∧ Below w.heap.size w W ∧ RowI W (w.heap.size + 1) (.slice (some ⟨w.heap.size + 1, 0, none⟩) 0 0) [] ∧ w.heap.size + 1 ≤ W.heap.size) := ⟨hs, x0.later b1, b0.trans (b1.mono b0.size), r1, by rw [← z0]; exact b1.size⟩
  clear hs b0 x0 z0 b1 r1
  rw [hW0] at hW
  clear hW0
  go_enter Try.func86, Try.ntmps86
  go_wp2
  rw [← hW]
  clear hW
  go_loopw [3, 4] (fun v3 v4 wr => ∃ k : Nat, k ≤ t.sets.length ∧ v4 = .int .i64 k ∧ RowI wr (w.heap.size + 1) v3 (wln (rgs t.sets) k) ∧ Below (w.heap.size + 1) W wr) (fun _ v4 _ => t.sets.length - (intOf v4).toNat)
  case atStart => exact ⟨0, Nat.zero_le _, rfl, H.out.2.2.2.1, Below.refl _ _⟩
  case round =>
    obtain ⟨k, hk, rfl, hrow, hbl⟩ := hrel
    obtain ⟨h1, h2, h3, h4, h5⟩ := H.out
    have hsz := hbl.size
    have bw : Below w.heap.size w wr := h3.trans (hbl.mono (by omega))
    have p5 := (h2.of_block (hbl.block w.heap.size (by omega)) hbl.size).c5
    dsimp only at p5
    by_cases hlt : k < t.sets.length
    · obtain ⟨_, hsk⟩ := (h1.later bw).s
      dsimp only at hsk
      rcases hsk with hsk | ⟨b, off, rfl, hb, hx⟩
      · omega
      obtain ⟨c0, c1, c2, c3, c4⟩ := hx k _ (atSe_of hlt)
      clear c1 c2 c3 c4
      obtain ⟨a3, k3, rfl, ho3, -⟩ := hrow.form
      have hL := wln_le (rgs t.sets) k
      have hc := l3Has_any wr a3 (wln (rgs t.sets) k).length k3 (atSe t.sets k).region (wln (rgs t.sets) k) (by unfold maxLen; omega) ho3.sl
      have er := rgs_at (xs := t.sets) hlt
      by_cases hg : hasB (wln (rgs t.sets) k) (atSe t.sets k).region = true
      · rw [hg] at hc
        have KE : Hid (RowI wr (w.heap.size + 1) (.slice a3 (wln (rgs t.sets) k).length k3) (wln (rgs t.sets) (k + 1)) ∧ Below (w.heap.size + 1) W wr) := by
          have e : wln (rgs t.sets) (k + 1) = wln (rgs t.sets) k := by rw [wln]; exact if_pos (by rw [er]; exact hg)
          exact ⟨by rw [e]; exact hrow, hbl⟩
        clear hg hrow hbl h1 h2 h3 h4 h5 bw hx ho3 er hL
        generalize (wln (rgs t.sets) k).length = L3 at *
        go_wp2_with fail
        refine hc.mono ?_
        clear hc
        rintro e w' ⟨rfl, rfl⟩
        go_wp2
        exact ⟨⟨k + 1, by omega, by simp, KE.out.1, KE.out.2⟩, by simp [intOf]; omega⟩
      · have hg' : hasB (wln (rgs t.sets) k) (atSe t.sets k).region = false := by simpa using hg
        rw [hg'] at hc
        obtain ⟨V, hV⟩ : ∃ V, V = wr.alloc (.cells #[.int .i64 (atSe t.sets k).region] 2) := ⟨_, rfl⟩
        have bV : Below wr.heap.size wr V := by rw [hV]; exact (Below.refl _ _).alloc (Nat.le_refl _) _
        have hone : V.cell? ⟨wr.heap.size, 0, none⟩ = some (.int .i64 (atSe t.sets k).region) := by rw [hV]; go_simp
        obtain ⟨v', Y, hr, hrow', hgr, hlies⟩ := pushI (hrow.later bV) (atSe t.sets k).region (by omega) 42 wr.heap.size 1 hone (by have := bV.size; omega)
        have KE : Hid (RowI Y (w.heap.size + 1) v' (wln (rgs t.sets) (k + 1)) ∧ Below (w.heap.size + 1) W Y) := by
          have e : wln (rgs t.sets) (k + 1) = wln (rgs t.sets) k ++ [(atSe t.sets k).region] := by rw [wln, if_neg (by rw [er]; exact hg), er]
          exact ⟨by rw [e]; exact hrow', (hbl.trans (bV.mono (by omega))).grown hgr (by have := bV.size; omega) (fun q e => (hrow.lt e).1)⟩
        rw [hV] at hr
        clear hg hg' hV bV hone hrow' hgr hlies hrow hbl h1 h2 h3 h4 h5 bw hx ho3 er hL
        generalize (wln (rgs t.sets) k).length = L3 at *
        go_wp2_with fail
        refine hc.mono ?_
        clear hc
        rintro e w' ⟨rfl, rfl⟩
        go_wp2_with (at_builtin; refine append_known _ rfl (.tmp 22) (.tmp 29) 42 rfl _ _ _ _ rfl rfl hr ?_)
        exact ⟨⟨k + 1, by omega, by simp, KE.out.1, KE.out.2⟩, by simp [intOf]; omega⟩
    · obtain rfl : k = t.sets.length := by omega
      have hd : decide ((t.sets.length : Int) < (t.sets.length : Int)) = false := by simp
      have KE : Hid (RowI wr (w.heap.size + 1) u3 (wln (rgs t.sets) t.sets.length) ∧ Below w.heap.size w wr) := ⟨hrow, bw⟩
      clear hrow hbl h1 h2 h3 h4 h5 bw
      go_wp2
      go_ret
      exact IAns.of KE.out.1 (by omega) KE.out.2
set_option maxHeartbeats 2000000 in
theorem specWants_any (w : World) (v : TV) (t : T7) (hl : TL t) (hs : SlT w v t) :
    Calls Try.prog 25 #[v.val t] w (IAns w (wantsT t)) := by
  obtain ⟨ar, cr, ah, ch⟩ := v
  simp only [TV.val]
  obtain ⟨W, hW⟩ : ∃ W, W = w.alloc (.cells #[.int .i64 t.id, .int .i64 t.home, .int .i64 t.phase, .int .i64 t.count, .slice ar t.reads.length cr, .slice ah t.sets.length ch, .int .i64 t.stamp] 27) := ⟨_, rfl⟩
  have b0 : Below w.heap.size w W := by rw [hW]; exact (Below.refl _ _).alloc (Nat.le_refl _) _
  have x0 : BT W w.heap.size ⟨ar, cr, ah, ch⟩ t := by rw [hW]; exact BT.box w ⟨ar, cr, ah, ch⟩ t _
  have c1 := specTxOk_any W ⟨ar, cr, ah, ch⟩ t hl (hs.later b0)
  simp only [TV.val] at c1
  have H : Hid (SlT W ⟨ar, cr, ah, ch⟩ t ∧ BT W w.heap.size ⟨ar, cr, ah, ch⟩ t ∧ Below w.heap.size w W) := ⟨hs.later b0, x0, b0⟩
  clear hs b0 x0 hl
  cases hB : txB t with
  | false =>
    rw [hB] at c1
    have HN : Hid (wantsT t = []) := by unfold Hid; simp [wantsT, hB]
    go_enter Try.func25, Try.ntmps25
    go_wp2_with fail
    rw [← hW]
    clear hW
    refine c1.mono ?_
    clear c1
    rintro e w1 ⟨rfl, b1⟩
    have KB : Hid (∀ o, Below w.heap.size w (w1.alloc o)) := fun o => (H.out.2.2.trans (b1.mono H.out.2.2.size)).alloc (Nat.le_trans H.out.2.2.size b1.size) _
    clear b1
    go_wp2
    go_ret
    rw [HN.out]
    exact IAns.none _ _ (KB.out _)
  | true =>
    rw [hB] at c1
    have HN : Hid (wantsT t = wln (rgs t.sets) t.sets.length) := by unfold Hid; simp [wantsT, hB]
    have HL := hidOf (txB_sets hB).2
    go_enter Try.func25, Try.ntmps25
    go_wp2_with fail
    rw [← hW]
    clear hW
    refine c1.mono ?_
    clear c1
    rintro e w1 ⟨rfl, b1⟩
    obtain ⟨p0, p1, p2, p3, p4, p5, p6, -, -⟩ := H.out.2.1.later b1
    have c2 := l7Wants_any w1 ⟨ar, cr, ah, ch⟩ t (by have := HL.out; omega) (H.out.1.later b1)
    simp only [TV.val] at c2
    have KB : Hid (Below w.heap.size w w1) := H.out.2.2.trans (b1.mono H.out.2.2.size)
    clear b1
    go_wp2_with fail
    refine c2.mono ?_
    clear c2
    rintro e w2 ⟨a, c, PS, rfl, h1, h2, h3⟩
    have KE : Hid (OwnIn w2 PS a (wln (rgs t.sets) t.sets.length) ∧ (∀ q, PS q → w.heap.size ≤ q ∧ q < w2.heap.size) ∧ Below w.heap.size w w2) := ⟨h1, fun q hq => ⟨Nat.le_trans KB.out.size (h2 q hq).1, (h2 q hq).2⟩, KB.out.trans (h3.mono KB.out.size)⟩
    clear h1 h2 h3
    go_wp2
    go_ret
    rw [HN.out]
    exact ⟨a, c, PS, rfl, KE.out.1, KE.out.2.1, KE.out.2.2⟩
theorem compact_none (w : World) (a : Option Addr) (cap : Nat) : Calls Try.prog 84 #[.slice a 0 cap] w fun e w' => e = .returned (.slice a 0 cap) ∧ w' = w := by
  go_enter Try.func84, Try.ntmps84
  go_wp2
  go_ret
  exact ⟨rfl, rfl⟩
set_option maxHeartbeats 4000000 in
theorem implWants_any (w : World) (v : TV) (t : T7) (hl : TL t) (hs : SlT w v t) :
    Calls Try.prog 22 #[v.val t] w (IAns w (wantsT t)) := by
  obtain ⟨ar, cr, ah, ch⟩ := v
  simp only [TV.val]
  obtain ⟨W, hW⟩ : ∃ W, W = w.alloc (.cells #[.int .i64 t.id, .int .i64 t.home, .int .i64 t.phase, .int .i64 t.count, .slice ar t.reads.length cr, .slice ah t.sets.length ch, .int .i64 t.stamp] 27) := ⟨_, rfl⟩
  have b0 : Below w.heap.size w W := by rw [hW]; exact (Below.refl _ _).alloc (Nat.le_refl _) _
  have x0 : BT W w.heap.size ⟨ar, cr, ah, ch⟩ t := by rw [hW]; exact BT.box w ⟨ar, cr, ah, ch⟩ t _
  have c1 := implTxOk_any W ⟨ar, cr, ah, ch⟩ t hl (hs.later b0)
  simp only [TV.val] at c1
  have H : Hid (SlT W ⟨ar, cr, ah, ch⟩ t ∧ BT W w.heap.size ⟨ar, cr, ah, ch⟩ t ∧ Below w.heap.size w W) := ⟨hs.later b0, x0, b0⟩
  clear hs b0 x0 hl
  cases hB : txB t with
  | false =>
    rw [hB] at c1
    have HN : Hid (wantsT t = []) := by unfold Hid; simp [wantsT, hB]
    go_enter Try.func22, Try.ntmps22
    go_wp2_with fail
    rw [← hW]
    clear hW
    refine c1.mono ?_
    clear c1
    rintro e w1 ⟨rfl, b1⟩
    have KB : Hid (Below w.heap.size w w1) := H.out.2.2.trans (b1.mono H.out.2.2.size)
    clear b1
    go_wp2
    go_ret
    rw [HN.out]
    exact IAns.none _ _ KB.out
  | true =>
    rw [hB] at c1
    have hlr : (rgs t.sets).length = t.sets.length := by simp [rgs]
    have HN : Hid (wantsT t = cpn (rgs t.sets) (rgs t.sets).length) := by
      unfold Hid
      rw [(cpn_wln (rgs_up hB) _ (Nat.le_refl _)).1, hlr]
      simp [wantsT, hB]
    have HR : Hid ((rgs t.sets).length = t.sets.length) := hlr
    have hl12 := (txB_sets hB).2
    clear hlr
    go_enter Try.func22, Try.ntmps22
    go_wp2_with fail
    rw [← hW]
    clear hW
    refine c1.mono ?_
    clear c1
    rintro e w1 ⟨rfl, b1⟩
    have p5 := (H.out.2.1.later b1).c5
    dsimp only at p5
    have K1 : Hid (SlT w1 ⟨ar, cr, ah, ch⟩ t ∧ Below w.heap.size w w1) := ⟨H.out.1.later b1, H.out.2.2.trans (b1.mono H.out.2.2.size)⟩
    clear b1 H
    go_wp2
    clear p5
    go_loopw [3, 12] (fun v3 v12 wr => ∃ k : Nat, k ≤ t.sets.length ∧ v12 = .int .i64 k ∧ RowI wr w1.heap.size v3 (rgs (t.sets.take k)) ∧ Below w1.heap.size w1 wr) (fun _ v12 _ => t.sets.length - (intOf v12).toNat)
    case atStart => exact ⟨0, Nat.zero_le _, rfl, by simpa [rgs] using RowI.nil w1 _, Below.refl _ _⟩
    case round =>
      obtain ⟨k, hk, rfl, hrow, hbl⟩ := hrel
      obtain ⟨h1, h2⟩ := K1.out
      have hsz := hbl.size
      by_cases hlt : k < t.sets.length
      · obtain ⟨_, hsk⟩ := (h1.later hbl).s
        dsimp only at hsk
        rcases hsk with hsk | ⟨b, off, rfl, hb, hx⟩
        · omega
        obtain ⟨c0, c1, c2, c3, c4⟩ := hx k _ (atSe_of hlt)
        obtain ⟨U, hU⟩ : ∃ V, V = wr.alloc (.cells #[.int .i64 (atSe t.sets k).region, .int .i64 (atSe t.sets k).slot, .int .i64 (atSe t.sets k).value, .bool (atSe t.sets k).used, .int .i64 (atSe t.sets k).version] 36) := ⟨_, rfl⟩
        have bU : Below wr.heap.size wr U := by rw [hU]; exact (Below.refl _ _).alloc (Nat.le_refl _) _
        have zU : U.heap.size = wr.heap.size + 1 := by rw [hU]; simp
        obtain ⟨V, hV⟩ : ∃ V, V = U.alloc (.cells #[.int .i64 (atSe t.sets k).region] 2) := ⟨_, rfl⟩
        have bV : Below wr.heap.size wr V := by rw [hV]; exact bU.alloc bU.size _
        have hone : V.cell? ⟨wr.heap.size + 1, 0, none⟩ = some (.int .i64 (atSe t.sets k).region) := by rw [hV, ← zU]; go_simp
        have hlk : (rgs (t.sets.take k)).length + 1 ≤ 1048576 := by unfold rgs; rw [List.length_map, List.length_take]; omega
        obtain ⟨v', Y, hr, hrow', hgr, hlies⟩ := pushI (hrow.later bV) (atSe t.sets k).region hlk 42 (wr.heap.size + 1) 1 hone (by have := bV.size; omega)
        have KE : Hid (RowI Y w1.heap.size v' (rgs (t.sets.take (k + 1))) ∧ Below w1.heap.size w1 Y) := by
          refine ⟨by rw [rgs_take hlt]; exact hrow', ?_⟩
          exact (hbl.trans (bV.mono (by omega))).grown hgr (by have := bV.size; omega) (fun q e => (hrow.lt e).1)
        rw [hV, hU] at hr
        clear hV hU bV bU zU hone hrow' hgr hlies hrow hbl h1 h2 hx hlk
        go_wp2_with (at_builtin; refine append_known _ rfl (.tmp 16) (.tmp 19) 42 rfl _ _ _ _ rfl rfl hr ?_)
        exact ⟨⟨k + 1, by omega, by simp, KE.out.1, KE.out.2⟩, by simp [intOf]; omega⟩
      · obtain rfl : k = t.sets.length := by omega
        have hd : decide ((t.sets.length : Int) < (t.sets.length : Int)) = false := by simp
        rw [List.take_length] at hrow
        obtain ⟨a3, k3, rfl, ho3, hc3, hs3⟩ := hrow.form
        have KE : Hid (Below w.heap.size w wr ∧ w.heap.size ≤ w1.heap.size ∧ RowI wr w1.heap.size (.slice a3 (rgs t.sets).length k3) (rgs t.sets)) := ⟨h2.trans (hbl.mono h2.size), h2.size, hrow⟩
        clear hrow hbl h1 h2
        rcases ho3 with hnil | ⟨b3, rfl, hp3, hl3, hn3, hr3⟩
        · have HZ : Hid (wantsT t = [] ∧ (rgs t.sets).length = 0) := ⟨by rw [HN.out, hnil]; rfl, by rw [hnil]; rfl⟩
          have e0 := HZ.out.2
          rw [e0]
          clear hnil hc3 hs3 e0
          have hc := compact_none wr a3 k3
          go_wp2_with fail
          refine hc.mono ?_
          clear hc
          rintro e w' ⟨rfl, rfl⟩
          go_wp2
          go_ret
          rw [HZ.out.1]
          exact IAns.none _ _ KE.out.1
        · have hc := compact_own wr b3 k3 (rgs t.sets) (by rw [HR.out]; omega) hc3 hn3 hr3 hl3
          have KB : Hid (w1.heap.size ≤ b3 ∧ b3 < wr.heap.size) := KE.out.2.2.lt rfl
          clear hc3 hs3 hp3 hl3 hn3 hr3
          have HW : Hid (IAns w (wantsT t) = IAns w (cpn (rgs t.sets) (rgs t.sets).length)) := by unfold Hid; rw [HN.out]
          have HLE : Hid ((cpn (rgs t.sets) (rgs t.sets).length).length ≤ (rgs t.sets).length) := cpn_le _ _
          generalize cpn (rgs t.sets) (rgs t.sets).length = C at *
          go_wp2_with fail
          refine hc.mono ?_
          clear hc
          rintro e w' ⟨c', rfl, ht, hn, hr⟩
          have KF : Hid (Turned b3 wr w' ∧ NumsAt w' b3 0 C ∧ Room w' b3 (rgs t.sets).length) := ⟨ht, hn, hr⟩
          clear ht hn hr
          go_wp2
          go_ret
          rw [HW.out]
          obtain ⟨f1, f2, f3⟩ := KF.out
          have g1 := KB.out
          have g2 := KE.out.2.1
          have bb : Below w.heap.size w w' := KE.out.1.trans (f1.below (by omega) KE.out.1.size)
          refine ⟨some ⟨b3, 0, none⟩, c', fun q => q = b3, rfl, .inr ⟨b3, rfl, rfl, Nat.lt_of_lt_of_le g1.2 f1.size, f2, fun i hi => f3 i (Nat.lt_of_lt_of_le hi HLE.out)⟩, fun q hq => ?_, bb⟩
          have := f1.size
          omega
end Go.Proofs.Ytijphfbcojfjpaa
