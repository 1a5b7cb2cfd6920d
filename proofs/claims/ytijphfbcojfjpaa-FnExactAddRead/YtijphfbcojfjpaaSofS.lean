/- What both SetsOf answer: the Sets of a region, in memory of the call's own. -/
import Derived.Test.YtijphfbcojfjpaaRows
import Derived.Test.YtijphfbcojfjpaaRowA
import Derived.Test.YtijphfbcojfjpaaTxI
import Derived.WalkKit
import Derived.WalkSpells
import Derived.WalkLawsBesides
import Derived.Below
namespace Go.Proofs.Ytijphfbcojfjpaa
open Go.RowKit
/-- Sets answered in memory of the call's own. -/
def SAns (w : World) (xs : List S5) (e : Ending) (w' : World) : Prop :=
  ∃ (a : Option Addr) (c : Nat) (PS : Nat → Prop), e = .returned (.slice a xs.length c) ∧ OwnSe w' PS a xs ∧ (∀ q, PS q → w.heap.size ≤ q ∧ q < w'.heap.size) ∧ Below w.heap.size w w'
theorem SAns.of {w w' : World} {base : Nat} {v : Value} {xs : List S5} (h : RowS w' base v xs) (hb : w.heap.size ≤ base) (b : Below w.heap.size w w') : SAns w xs (.returned v) w' := by
  obtain ⟨a, c, e, ho⟩ := h.form
  exact ⟨a, c, _, by rw [e], ho, fun q hq => ⟨Nat.le_trans hb (h.lt hq).1, (h.lt hq).2⟩, b⟩
theorem SAns.none {w w' : World} (b : Below w.heap.size w w') : SAns w [] (.returned (.slice Option.none 0 0)) w' := ⟨Option.none, 0, fun _ => False, rfl, .inl rfl, fun _ h => h.elim, b⟩
def ofR (g : Int) (xs : List S5) : List S5 := xs.filter fun s => decide (s.region = g)
theorem ofR_yes {g : Int} {xs : List S5} {k : Nat} {s : S5} (h : xs[k]? = some s) (hg : s.region = g) : ofR g (xs.take (k + 1)) = ofR g (xs.take k) ++ [s] := by
  rw [List.take_add_one, h, ofR, List.filter_append]; simp [hg, ofR]
theorem ofR_no {g : Int} {xs : List S5} {k : Nat} {s : S5} (h : xs[k]? = some s) (hg : ¬ s.region = g) : ofR g (xs.take (k + 1)) = ofR g (xs.take k) := by
  rw [List.take_add_one, h, ofR, List.filter_append]; simp [hg, ofR]
theorem ofR_len (g : Int) (xs : List S5) : (ofR g xs).length ≤ xs.length := List.length_filter_le _ _
set_option maxHeartbeats 4000000 in
theorem l7SetsOf_any (w : World) (v : TV) (t : T7) (g : Int) (hl : t.sets.length ≤ 1000) (hs : SlT w v t) :
    Calls Try.prog 95 #[v.val t, .int .i64 g] w (SAns w (ofR g t.sets)) := by
  obtain ⟨ar, cr, ah, ch⟩ := v
  simp only [TV.val]
  obtain ⟨W0, hW0⟩ : ∃ W, W = w.alloc (.cells #[.int .i64 t.id, .int .i64 t.home, .int .i64 t.phase, .int .i64 t.count, .slice ar t.reads.length cr, .slice ah t.sets.length ch, .int .i64 t.stamp] 27) := ⟨_, rfl⟩
  have b0 : Below w.heap.size w W0 := by rw [hW0]; exact (Below.refl _ _).alloc (Nat.le_refl _) _
  have x0 : BT W0 w.heap.size ⟨ar, cr, ah, ch⟩ t := by rw [hW0]; exact BT.box w ⟨ar, cr, ah, ch⟩ t _
  have z0 : W0.heap.size = w.heap.size + 1 := by rw [hW0]; simp
  obtain ⟨W, hW⟩ : ∃ W, W = W0.alloc (.cells #[] 36) := ⟨_, rfl⟩
  have b1 : Below W0.heap.size W0 W := by rw [hW]; exact (Below.refl _ _).alloc (Nat.le_refl _) _
  have r1 : RowS W (w.heap.size + 1) (.slice (some ⟨w.heap.size + 1, 0, none⟩) 0 0) [] := by rw [hW, ← z0]; exact RowS.made W0
  have H : Hid (SlT w ⟨ar, cr, ah, ch⟩ t ∧ BT W w.heap.size ⟨ar, cr, ah, ch⟩ t ∧ Below w.heap.size w W ∧ RowS W (w.heap.size + 1) (.slice (some ⟨w.heap.size + 1, 0, none⟩) 0 0) [] ∧ w.heap.size + 1 ≤ W.heap.size) := ⟨hs, x0.later b1, b0.trans (b1.mono b0.size), r1, by rw [← z0]; exact b1.size⟩
  clear hs b0 x0 z0 b1 r1
  rw [hW0] at hW
  clear hW0
  go_enter Try.func95, Try.ntmps95
  go_wp2
  rw [← hW]
  clear hW
  go_loopw [5, 6] (fun v5 v6 wr => ∃ k : Nat, k ≤ t.sets.length ∧ v6 = .int .i64 k ∧ RowS wr (w.heap.size + 1) v5 (ofR g (t.sets.take k)) ∧ Below (w.heap.size + 1) W wr) (fun _ v6 _ => t.sets.length - (intOf v6).toNat)
  case atStart => exact ⟨0, Nat.zero_le _, rfl, by simpa [ofR] using H.out.2.2.2.1, Below.refl _ _⟩
  case round =>
    obtain ⟨k, hk, rfl, hrow, hbl⟩ := hrel
    obtain ⟨h1, h2, h3, h4, h5⟩ := H.out
    have hsz := hbl.size
    have bw : Below w.heap.size w wr := h3.trans (hbl.mono (by omega))
    have p5 := (h2.of_block (hbl.block w.heap.size (by omega)) hbl.size).c5
    dsimp only at p5
    by_cases hlt : k < t.sets.length
    · obtain ⟨_, hsk⟩ := (h1.later bw).s
      dsimp only at hsk
      rcases hsk with hsk | ⟨b, off, rfl, hb, hx⟩
      · omega
      have hat := hx k _ (atSe_of hlt)
      obtain ⟨c0, c1, c2, c3, c4⟩ := hat
      by_cases hg : (atSe t.sets k).region = g
      · have dg : ((atSe t.sets k).region == g) = true := by simpa using hg
        obtain ⟨V, hV⟩ : ∃ V, V = wr.alloc (.cells #[.int .i64 (atSe t.sets k).region, .int .i64 (atSe t.sets k).slot, .int .i64 (atSe t.sets k).value, .bool (atSe t.sets k).used, .int .i64 (atSe t.sets k).version] 36) := ⟨_, rfl⟩
        have bV : Below wr.heap.size wr V := by rw [hV]; exact (Below.refl _ _).alloc (Nat.le_refl _) _
        have hone : SetsAt V wr.heap.size 0 [atSe t.sets k] := by rw [hV]; exact (SetAt.box wr _ _).one
        obtain ⟨v', Y, hr, hrow', hgr, hlies⟩ := pushSe (hrow.later bV) [atSe t.sets k] (by have := ofR_len g (t.sets.take k); rw [List.length_take] at this; simp; omega) 25 wr.heap.size 0 1 hone (by have := bV.size; omega)
        have KE : Hid (RowS Y (w.heap.size + 1) v' (ofR g (t.sets.take (k + 1))) ∧ Below (w.heap.size + 1) W Y) := by
          refine ⟨by rw [ofR_yes (atSe_of hlt) hg]; exact hrow', ?_⟩
          exact (hbl.trans (bV.mono (by omega))).grown hgr (by have := bV.size; omega) (fun q e => (hrow.lt e).1)
        rw [hV] at hr
        clear hV bV hone hrow' hgr hlies hrow hbl h1 h2 h3 h4 h5 bw hx hg
        simp only [List.length_cons, List.length_nil, Nat.zero_add] at hr
        go_wp2_with (at_builtin; refine append_known _ rfl (.tmp 23) (.tmp 29) 25 rfl _ _ _ _ rfl rfl hr ?_)
        exact ⟨⟨k + 1, by omega, by simp, KE.out.1, KE.out.2⟩, by simp [intOf]; omega⟩
      · have dg : ((atSe t.sets k).region == g) = false := by simpa using hg
        have KE : Hid (RowS wr (w.heap.size + 1) u5 (ofR g (t.sets.take (k + 1))) ∧ Below (w.heap.size + 1) W wr) := ⟨by rw [ofR_no (atSe_of hlt) hg]; exact hrow, hbl⟩
        clear hrow hbl h1 h2 h3 h4 h5 bw hx hg
        go_wp2
        exact ⟨⟨k + 1, by omega, by simp, KE.out.1, KE.out.2⟩, by simp [intOf]; omega⟩
    · obtain rfl : k = t.sets.length := by omega
      have hd : decide ((t.sets.length : Int) < (t.sets.length : Int)) = false := by simp
      rw [List.take_length] at hrow
      have KE : Hid (RowS wr (w.heap.size + 1) u5 (ofR g t.sets) ∧ Below w.heap.size w wr) := ⟨hrow, bw⟩
      clear hrow hbl h1 h2 h3 h4 h5 bw
      go_wp2
      go_ret
      exact SAns.of KE.out.1 (by omega) KE.out.2
end Go.Proofs.Ytijphfbcojfjpaa
