/- A record copied whole into memory of a call's own: the program's ownRecord, the specification's l6Record. -/
import Derived.Test.YtcockcdhendplaaGreatRows
import Derived.Test.YtcockcdhendplaaGreatOwnC
import Derived.WalkKit
import Derived.WalkSpells
import Derived.WalkLawsBesides
import Derived.Below
namespace Go.Proofs.YtcockcdhendplaaGreat
open Go.RowKit
/-- Two boxes of a record: the argument's at s, the answer's at s + 1. -/
structure TR (s : Nat) (k t r : Int) (u : Value) (X : World) : Prop where
  d0 : X.cell? ⟨s, 0, none⟩ = some (.int .i64 k)
  d1 : X.cell? ⟨s, 1, none⟩ = some (.int .i64 t)
  d2 : X.cell? ⟨s, 2, none⟩ = some (.int .i64 r)
  d3 : X.cell? ⟨s, 3, none⟩ = some u
  fd : ∀ j, X.frozen? ⟨s, j, none⟩ = false
  e0 : X.cell? ⟨s + 1, 0, none⟩ = some (.int .i64 0)
  e1 : X.cell? ⟨s + 1, 1, none⟩ = some (.int .i64 0)
  e2 : X.cell? ⟨s + 1, 2, none⟩ = some (.int .i64 0)
  e3 : X.cell? ⟨s + 1, 3, none⟩ = some (.slice none 0 0)
  fe : ∀ j, X.frozen? ⟨s + 1, j, none⟩ = false
theorem TR.keep {s : Nat} {k t r : Int} {u : Value} {X Y : World} (h : TR s k t r u X) (ea : Y.heap[s]? = X.heap[s]?) (eb : Y.heap[s + 1]? = X.heap[s + 1]?) : TR s k t r u Y := by
  have c : ∀ {b j : Nat} {u : Value}, Y.heap[b]? = X.heap[b]? → X.cell? ⟨b, j, none⟩ = some u → Y.cell? ⟨b, j, none⟩ = some u := fun {b j u} e h => (World.cell?_of_block (a := ⟨b, j, none⟩) e).trans h
  exact ⟨c ea h.d0, c ea h.d1, c ea h.d2, c ea h.d3, fun j => (World.frozen?_of_block (a := ⟨s, j, none⟩) ea).trans (h.fd j), c eb h.e0, c eb h.e1, c eb h.e2, c eb h.e3, fun j => (World.frozen?_of_block (a := ⟨s + 1, j, none⟩) eb).trans (h.fe j)⟩
theorem AtR.far {w : World} {q : Nat} {r : R4} (h : AtR w q r) {p : Addr} (hp : p.block ≠ q) (v : Value) : AtR (w.setCell p v) q r := AtR.of_block _ _ _ _ (Below.heap_setCell _ _ _ _ (fun e => hp e.symm)) h
set_option maxHeartbeats 2000000 in
theorem ownRecord_any (w : World) (r : R4) (a : Option Addr) (cap : Nat) (hx : 0 < r.sets.length) (hm : r.sets.length ≤ 1048576) (hs : Sl w w.heap.size a r.sets.length r.sets) :
    Calls Tryz.prog 131 #[r.val a cap] w fun e w' => ∃ q cp, e = .returned (r.val (some ⟨q, 0, none⟩) cp) ∧ w.heap.size ≤ q ∧ q < w'.heap.size ∧ r.sets.length ≤ cp ∧ AtR w' q r ∧ Below w.heap.size w w' := by
  simp only [R4.val]
  obtain ⟨_, hs⟩ := hs
  rcases hs with hs | ⟨b, off, rfl, hb, h1⟩
  · omega
  obtain ⟨W, hW⟩ : ∃ W, W = (w.alloc (.cells #[.int .i64 r.kind, .int .i64 r.tx, .int .i64 r.region, .slice (some ⟨b, off, none⟩) r.sets.length cap] 41)).alloc (.cells #[.int .i64 0, .int .i64 0, .int .i64 0, .slice none 0 0] 41) := ⟨_, rfl⟩
  have hsz : W.heap.size = w.heap.size + 2 := by subst hW; simp
  have bW : Below w.heap.size w W := by subst hW; exact ((Below.refl _ _).alloc (Nat.le_refl _) _).alloc (by simp) _
  have tW : TR w.heap.size r.kind r.tx r.region (.slice (some ⟨b, off, none⟩) r.sets.length cap) W := by
    subst hW
    refine ⟨?_, ?_, ?_, ?_, ?_, ?_, ?_, ?_, ?_, ?_⟩
    all_goals first | (intro j; go_simp; done) | (go_simp; done)
  obtain ⟨q, cp, W', hr, h2, h3, h4, h5, h6, h7, h8⟩ := appendS W W.heap.size (.slice none 0 0) (owns_nil _ _ _ _) r.sets hx hm 39 b off cap (h1.below bW hb) (Nat.le_refl _)
  have b7 : Below W.heap.size W W' := (Below.refl _ _).grown h7 (Nat.le_refl _) (fun k h => by cases h)
  have tW' := tW.keep (Y := W') (b7.block _ (by omega)) (b7.block _ (by omega))
  have K : Hid (w.heap.size + 2 ≤ q ∧ q < W'.heap.size ∧ r.sets.length ≤ cp ∧ AtR W' q r ∧ Below w.heap.size w W') := ⟨by omega, h3, h4, ⟨h5, h6⟩, bW.trans (b7.mono bW.size)⟩
  obtain ⟨d0, d1, d2, d3, fd, e0, e1, e2, e3, fe⟩ := tW'
  have z3 := tW.d3
  have f3 := fd 3
  have g0 := fe 0
  have g1 := fe 1
  have g2 := fe 2
  have g3 := fe 3
  clear h1 h2 h3 h4 h5 h6 h7 h8 hx hm bW tW b7 hsz fd fe
  generalize r.sets.length = n at *
  subst hW
  go_enter Tryz.func131, Tryz.ntmps131
  go_wp2_with (at_builtin; refine append_known _ rfl (.const (.slice none 0 0)) (.tmp 4) 39 rfl _ _ _ _ rfl rfl hr ?_)
  obtain ⟨k1, k2, k3, k4, k5⟩ := K.out
  refine bodyPost_ret (v := .agg #[.int .i64 r.kind, .int .i64 r.tx, .int .i64 r.region, .slice (some ⟨q, 0, none⟩) n cp]) (by simp [results, Tryz.results131, go_sem, e0, e1, e2, e3]) rfl ⟨q, cp, rfl, by omega, ?_, k3, ?_, ?_⟩
  · simpa [World.setCell] using k2
  · exact ((((k4.far (by simp; omega) _).far (by simp; omega) _).far (by simp; omega) _).far (by simp; omega) _).far (by simp; omega) _
  · exact ((((k5.setCell (p := ⟨_, _, none⟩) (by simp) _).setCell (p := ⟨_, _, none⟩) (by simp) _).setCell (p := ⟨_, _, none⟩) (by simp) _).setCell (p := ⟨_, _, none⟩) (by simp) _).setCell (p := ⟨_, _, none⟩) (by simp) _
set_option maxHeartbeats 2000000 in
theorem l6Record_any (w : World) (r : R4) (a : Option Addr) (cap : Nat) (hx : 0 < r.sets.length) (hm : r.sets.length ≤ 1048576) (hs : Sl w w.heap.size a r.sets.length r.sets) :
    Calls Tryz.prog 65 #[r.val a cap] w fun e w' => ∃ q cp, e = .returned (r.val (some ⟨q, 0, none⟩) cp) ∧ w.heap.size ≤ q ∧ q < w'.heap.size ∧ r.sets.length ≤ cp ∧ AtR w' q r ∧ Below w.heap.size w w' := by
  simp only [R4.val]
  obtain ⟨_, hs⟩ := hs
  rcases hs with hs | ⟨b, off, rfl, hb, h1⟩
  · omega
  obtain ⟨W0, hW0⟩ : ∃ W0, W0 = (w.alloc (.cells #[.int .i64 r.kind, .int .i64 r.tx, .int .i64 r.region, .slice (some ⟨b, off, none⟩) r.sets.length cap] 41)).alloc (.cells #[.int .i64 0, .int .i64 0, .int .i64 0, .slice none 0 0] 41) := ⟨_, rfl⟩
  have hsz : W0.heap.size = w.heap.size + 2 := by subst hW0; simp
  have bW : Below w.heap.size w W0 := by subst hW0; exact ((Below.refl _ _).alloc (Nat.le_refl _) _).alloc (by simp) _
  have tW : TR w.heap.size r.kind r.tx r.region (.slice (some ⟨b, off, none⟩) r.sets.length cap) W0 := by
    subst hW0
    refine ⟨?_, ?_, ?_, ?_, ?_, ?_, ?_, ?_, ?_, ?_⟩
    all_goals first | (intro j; go_simp; done) | (go_simp; done)
  have b0 : Below W0.heap.size W0 (W0.alloc (.cells #[] 136)) := (Below.refl _ _).alloc (Nat.le_refl _) _
  have hrow : (W0.alloc (.cells #[] 136)).ownsRow W0.heap.size 136 5 (.slice (some ⟨W0.heap.size, 0, none⟩) 0 0) 0 [] := World.ownsRow_made W0 #[] 0 (Nat.le_refl _) (Nat.zero_le _) rfl
  obtain ⟨q, cp, W', hr, h2, h3, h4, h5, h6, h7, h8⟩ := appendS (W0.alloc (.cells #[] 136)) W0.heap.size _ hrow r.sets hx hm 39 b off cap ((h1.below bW hb).below b0 (Nat.lt_of_lt_of_le hb bW.size)) b0.size
  have b7 : Below W0.heap.size W0 W' := b0.grown h7 b0.size (fun k h => by cases h; exact Nat.le_refl _)
  have tA := tW.keep (Y := W0.alloc (.cells #[] 136)) (b0.block _ (by omega)) (b0.block _ (by omega))
  have tW' := tW.keep (Y := W') (b7.block _ (by omega)) (b7.block _ (by omega))
  have K : Hid (w.heap.size + 2 ≤ q ∧ q < W'.heap.size ∧ r.sets.length ≤ cp ∧ AtR W' q r ∧ Below w.heap.size w W') := ⟨by omega, h3, h4, ⟨h5, h6⟩, bW.trans (b7.mono bW.size)⟩
  obtain ⟨d0, d1, d2, d3, fd, e0, e1, e2, e3, fe⟩ := tW'
  have z3 := tA.d3
  have f3 := fd 3
  have g0 := fe 0
  have g1 := fe 1
  have g2 := fe 2
  have g3 := fe 3
  rw [hsz] at hr
  clear h1 h2 h3 h4 h5 h6 h7 h8 hx hm bW tW tA b7 b0 hrow hsz fd fe
  generalize r.sets.length = n at *
  subst hW0
  go_enter Tryz.func65, Tryz.ntmps65
  go_wp2_with (at_builtin; refine append_known _ rfl (.tmp 3) (.tmp 5) 39 rfl _ _ _ _ rfl rfl hr ?_)
  obtain ⟨k1, k2, k3, k4, k5⟩ := K.out
  refine bodyPost_ret (v := .agg #[.int .i64 r.kind, .int .i64 r.tx, .int .i64 r.region, .slice (some ⟨q, 0, none⟩) n cp]) (by simp [results, Tryz.results65, go_sem, e0, e1, e2, e3]) rfl ⟨q, cp, rfl, by omega, ?_, k3, ?_, ?_⟩
  · simpa [World.setCell] using k2
  · exact ((((k4.far (by simp; omega) _).far (by simp; omega) _).far (by simp; omega) _).far (by simp; omega) _).far (by simp; omega) _
  · exact ((((k5.setCell (p := ⟨_, _, none⟩) (by simp) _).setCell (p := ⟨_, _, none⟩) (by simp) _).setCell (p := ⟨_, _, none⟩) (by simp) _).setCell (p := ⟨_, _, none⟩) (by simp) _).setCell (p := ⟨_, _, none⟩) (by simp) _
end Go.Proofs.YtcockcdhendplaaGreat
