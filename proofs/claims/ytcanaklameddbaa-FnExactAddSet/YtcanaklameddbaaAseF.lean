/- AddSet: a Set found in the pile, and one put over it. -/
import Derived.Test.YtcanaklameddbaaRows
import Derived.Test.YtcanaklameddbaaAseB
import Derived.Test.YtcanaklameddbaaPutS
import Derived.WalkKit
import Derived.WalkSpells
import Derived.WalkLawsBesides
import Derived.Below
import Derived.Lib.QuietBelow
import Derived.BigQuiet
import Derived.Deep.CutRange
namespace Go.Proofs.Ytcanaklameddbaa
open Go.RowKit
open Go.Sort (grow)
/-- What find answers. -/
def foundS (xs : List S5) (r s : Int) : S5 := match seW xs r s with | some i => atSe xs i | none => ⟨0, 0, 0, false, 0⟩
theorem BS.set5 {X : World} {q : Nat} {y0 : S5} (h : BS X q y0) (y : S5) : BS ((((((X).setCell ⟨q, 0, none⟩ (.int .i64 y.region)).setCell ⟨q, 0 + 1, none⟩ (.int .i64 y.slot)).setCell ⟨q, 0 + 2, none⟩ (.int .i64 y.value)).setCell ⟨q, 0 + 3, none⟩ (.bool y.used)).setCell ⟨q, 0 + 4, none⟩ (.int .i64 y.version)) q y := by
  obtain ⟨⟨c0, c1, c2, c3, c4⟩, f⟩ := h
  simp only [Nat.zero_add] at *
  refine ⟨?_, fun j => by simp only [World.frozen?_setCell]; exact f j⟩
  have := SetAt.put (o := 0) y c0 (by simpa using c1) (by simpa using c2) (by simpa using c3) (by simpa using c4)
  simpa using this
set_option maxHeartbeats 4000000 in
theorem seFind_any (w : World) (base p mb n : Nat) (v : Value) (xs : List S5) (r s : Int) (h : PisB w base p mb n v xs) (_ : xs.length ≤ 1000) (h1 : inB 0 5 r = true) (h2 : inB 0 5 s = true) :
    Calls Try.prog 50 #[.pointer (some ⟨p, 0, none⟩), .agg #[.int .i64 r, .int .i64 s]] w fun e w' => e = .returned (.tuple #[.agg #[.int .i64 (foundS xs r s).region, .int .i64 (foundS xs r s).slot, .int .i64 (foundS xs r s).value, .bool (foundS xs r s).used, .int .i64 (foundS xs r s).version], .bool (seW xs r s).isSome]) ∧ Below w.heap.size w w' := by
  obtain ⟨W1, hW1⟩ : ∃ W, W = w.alloc (.cells #[.int .i64 r, .int .i64 s] 68) := ⟨_, rfl⟩
  have b1 : Below w.heap.size w W1 := by rw [hW1]; exact (Below.refl _ _).alloc (Nat.le_refl _) _
  have z1 : W1.heap.size = w.heap.size + 1 := by rw [hW1]; simp
  obtain ⟨W0, hW0⟩ : ∃ W, W = W1.alloc (.cells #[.int .i64 0, .int .i64 0, .int .i64 0, .bool false, .int .i64 0] 36) := ⟨_, rfl⟩
  have b2 : Below W1.heap.size W1 W0 := by rw [hW0]; exact (Below.refl _ _).alloc (Nat.le_refl _) _
  have b0 : Below w.heap.size w W0 := b1.trans (b2.mono b1.size)
  have z0 : W0.heap.size = w.heap.size + 2 := by rw [hW0]; simp [z1]
  have y0 : BS W0 (w.heap.size + 1) ⟨0, 0, 0, false, 0⟩ := by rw [hW0, ← z1]; exact BS.box W1 ⟨0, 0, 0, false, 0⟩ _
  have h0 := h.later b0
  have lk : ∀ d os, (Instr.lookup 100 (.map (some mb)) (cKey r s) true).run Try.prog (grow (redrawn W0 d) os) = .ok (.tuple #[.int .i64 (((seW xs r s).getD 0 : Nat) : Int), .bool (seW xs r s).isSome]) (grow (redrawn W0 d) os) := fun d os => ((h0.mp).later (below_regrown W0 d os)).look h1 h2
  have m1 : ∀ d os, (grow (redrawn W0 d) os).cell? ⟨p, 1, none⟩ = some (.map (some mb)) := fun d os => ((below_regrown W0 d os).cell (p := ⟨p, 1, none⟩) h0.lp).trans h0.c1
  have t0 : ∀ d os, (grow (redrawn W0 d) os).cell? ⟨w.heap.size, 0, none⟩ = some (.int .i64 r) := fun d os => ((below_regrown W0 d os).cell (p := ⟨w.heap.size, 0, none⟩) (by rw [z0]; simp)).trans ((b2.cell (p := ⟨w.heap.size, 0, none⟩) (by rw [z1]; simp)).trans (by rw [hW1]; go_simp))
  have t1 : ∀ d os, (grow (redrawn W0 d) os).cell? ⟨w.heap.size, 1, none⟩ = some (.int .i64 s) := fun d os => ((below_regrown W0 d os).cell (p := ⟨w.heap.size, 1, none⟩) (by rw [z0]; simp)).trans ((b2.cell (p := ⟨w.heap.size, 1, none⟩) (by rw [z1]; simp)).trans (by rw [hW1]; go_simp))
  have H : Hid (Below w.heap.size w W0 ∧ PisB W0 base p mb n v xs ∧ BS W0 (w.heap.size + 1) ⟨0, 0, 0, false, 0⟩ ∧ W0.heap.size = w.heap.size + 2) := ⟨b0, h0, y0, z0⟩
  rw [hW1] at hW0
  clear h h0 b0 z0 h1 h2 b1 b2 y0 z1 hW1 W1
  simp only [cKey] at lk
  cases hW : seW xs r s with
  | none =>
    have e1 : foundS xs r s = ⟨0, 0, 0, false, 0⟩ := by simp [foundS, hW]
    rw [e1]
    rw [hW] at lk
    simp only [Option.getD_none, Option.isSome_none] at lk ⊢
    go_enter Try.func50, Try.ntmps50
    go_wp2_with fail
    rw [← hW0]
    clear hW0
    refine wp_region_quiet_below (by kernel_rfl) (by kernel_rfl) ?_
    repeat (go_big_quiet_step (fail))
    refine wpQuiet_nil ?_
    intro _ hw'
    obtain ⟨⟨dq', osq⟩, hw''⟩ := hw'
    subst hw''
    have bq := below_regrown W0 dq' osq
    have K1 : Hid (Below w.heap.size w (grow (redrawn W0 dq') osq) ∧ BS (grow (redrawn W0 dq') osq) (w.heap.size + 1) ⟨0, 0, 0, false, 0⟩ ∧ w.heap.size + 2 ≤ (grow (redrawn W0 dq') osq).heap.size) := ⟨H.out.1.trans (bq.mono H.out.1.size), H.out.2.2.1.below bq (by have := H.out.2.2.2; omega), by have := bq.size; have := H.out.2.2.2; omega⟩
    clear bq lk m1 t0 t1
    generalize grow (redrawn W0 dq') osq = U at *
    obtain ⟨V, hV⟩ : ∃ V, V = U.alloc (.cells #[.int .i64 0, .int .i64 0, .int .i64 0, .bool false, .int .i64 0] 36) := ⟨_, rfl⟩
    have bV : Below U.heap.size U V := by rw [hV]; exact (Below.refl _ _).alloc (Nat.le_refl _) _
    obtain ⟨⟨n0, n1, n2, n3, n4⟩, nf⟩ := K1.out.2.1.below bV (by have := K1.out.2.2; omega)
    simp only [Nat.zero_add] at n0 n1 n2 n3 n4
    have f0 := nf 0
    have f1 := nf 1
    have f2 := nf 2
    have f3 := nf 3
    have f4 := nf 4
    have u := (K1.out.2.1.below bV (by have := K1.out.2.2; omega)).set5 ⟨0, 0, 0, false, 0⟩
    obtain ⟨⟨u0, u1, u2, u3, u4⟩, -⟩ := u
    simp only [Nat.zero_add] at u0 u1 u2 u3 u4
    have KU := hidOf (And.intro u0 (And.intro u1 (And.intro u2 (And.intro u3 u4))))
    have KV : Hid (Below w.heap.size w V) := K1.out.1.trans (bV.mono K1.out.1.size)
    clear nf bV u0 u1 u2 u3 u4
    rw [hV] at n0 n1 n2 n3 n4 f0 f1 f2 f3 f4
    go_wp2
    rw [← hV]
    obtain ⟨u0, u1, u2, u3, u4⟩ := KU.out
    refine bodyPost_ret (v := .tuple #[.agg #[.int .i64 0, .int .i64 0, .int .i64 0, .bool false, .int .i64 0], .bool false]) (by simp [results, Try.results50, go_sem, u0, u1, u2, u3, u4]) rfl ⟨rfl, ?_⟩
    exact ((((KV.out.setCell (p := ⟨w.heap.size + 1, 0, none⟩) (by simp) _).setCell (p := ⟨w.heap.size + 1, 1, none⟩) (by simp) _).setCell (p := ⟨w.heap.size + 1, 2, none⟩) (by simp) _).setCell (p := ⟨w.heap.size + 1, 3, none⟩) (by simp) _).setCell (p := ⟨w.heap.size + 1, 4, none⟩) (by simp) _
  | some i =>
    have e1 : foundS xs r s = atSe xs i := by simp [foundS, hW]
    obtain ⟨hi, -, -⟩ := seW_at hW
    rw [e1]
    rw [hW] at lk
    simp only [Option.getD_some, Option.isSome_some] at lk ⊢
    go_enter Try.func50, Try.ntmps50
    go_wp2_with fail
    rw [← hW0]
    clear hW0
    refine wp_region_quiet_below (by kernel_rfl) (by kernel_rfl) ?_
    repeat (go_big_quiet_step (fail))
    refine wpQuiet_nil ?_
    intro _ hw'
    obtain ⟨⟨dq', osq⟩, hw''⟩ := hw'
    subst hw''
    have bq := below_regrown W0 dq' osq
    have K1 : Hid (Below w.heap.size w (grow (redrawn W0 dq') osq) ∧ BS (grow (redrawn W0 dq') osq) (w.heap.size + 1) ⟨0, 0, 0, false, 0⟩ ∧ w.heap.size + 2 ≤ (grow (redrawn W0 dq') osq).heap.size ∧ PisB (grow (redrawn W0 dq') osq) base p mb n v xs) := ⟨H.out.1.trans (bq.mono H.out.1.size), H.out.2.2.1.below bq (by have := H.out.2.2.2; omega), by have := bq.size; have := H.out.2.2.2; omega, H.out.2.1.later bq⟩
    clear bq lk m1 t0 t1
    generalize grow (redrawn W0 dq') osq = U at *
    obtain ⟨⟨n0, n1, n2, n3, n4⟩, nf⟩ := K1.out.2.1
    simp only [Nat.zero_add] at n0 n1 n2 n3 n4
    have f0 := nf 0
    have f1 := nf 1
    have f2 := nf 2
    have f3 := nf 3
    have f4 := nf 4
    obtain ⟨⟨u0, u1, u2, u3, u4⟩, -⟩ := K1.out.2.1.set5 (atSe xs i)
    simp only [Nat.zero_add] at u0 u1 u2 u3 u4
    have KU := hidOf (And.intro u0 (And.intro u1 (And.intro u2 (And.intro u3 u4))))
    obtain ⟨a, c, rfl, ho⟩ := K1.out.2.2.2.row.form
    rcases ho with ho | ⟨q, rfl, hq, hlq, hsa, -⟩
    · rw [ho] at hi; simp at hi
    have m0 := K1.out.2.2.2.c0
    obtain ⟨c0, c1, c2, c3, c4⟩ := hsa i _ (atSe_of hi)
    simp only [Nat.zero_add] at c0 c1 c2 c3 c4
    have ii : (i : Int) < (xs.length : Int) := by omega
    clear nf u0 u1 u2 u3 u4 hsa hq hlq
    go_wp2
    obtain ⟨u0, u1, u2, u3, u4⟩ := KU.out
    refine bodyPost_ret (v := .tuple #[.agg #[.int .i64 (atSe xs i).region, .int .i64 (atSe xs i).slot, .int .i64 (atSe xs i).value, .bool (atSe xs i).used, .int .i64 (atSe xs i).version], .bool true]) (by simp [results, Try.results50, go_sem, u0, u1, u2, u3, u4]) rfl ⟨rfl, ?_⟩
    exact ((((K1.out.1.setCell (p := ⟨w.heap.size + 1, 0, none⟩) (by simp) _).setCell (p := ⟨w.heap.size + 1, 1, none⟩) (by simp) _).setCell (p := ⟨w.heap.size + 1, 2, none⟩) (by simp) _).setCell (p := ⟨w.heap.size + 1, 3, none⟩) (by simp) _).setCell (p := ⟨w.heap.size + 1, 4, none⟩) (by simp) _
set_option maxRecDepth 100000 in
set_option maxHeartbeats 8000000 in
theorem sePutOver (w : World) (base p mb n : Nat) (v : Value) (xs : List S5) (x : S5) (i : Nat) (h : PisB w base p mb n v xs) (_ : n ≤ 1000) (_ : xs.length ≤ 100) (hok : setOkB x = true) (hyes : seW xs x.region x.slot = some i) (hbs : base ≤ w.heap.size) :
    Calls Try.prog 53 #[.pointer (some ⟨p, 0, none⟩), .agg #[.int .i64 x.region, .int .i64 x.slot, .int .i64 x.value, .bool x.used, .int .i64 x.version]] w fun e w' => e = .returned (.tuple #[]) ∧ ∃ q cap, Pis w' base p q mb n cap (xs.set i x) ∧ Below base w w' := by
  obtain ⟨W0, hW0⟩ : ∃ W, W = w.alloc (.cells #[.int .i64 x.region, .int .i64 x.slot, .int .i64 x.value, .bool x.used, .int .i64 x.version] 36) := ⟨_, rfl⟩
  have b0 : Below w.heap.size w W0 := by rw [hW0]; exact (Below.refl _ _).alloc (Nat.le_refl _) _
  have z0 : W0.heap.size = w.heap.size + 1 := by rw [hW0]; simp
  have x0 : SetAt W0 w.heap.size 0 x := by rw [hW0]; exact SetAt.box w x _
  have h0 := h.later b0
  have hk := seOk_in hok
  have hpw : p < w.heap.size := h.lp
  have hmw : mb < w.heap.size := h.mp.lt
  have lk : ∀ d os, (Instr.lookup 100 (.map (some mb)) (cKey x.region x.slot) true).run Try.prog (grow (redrawn W0 d) os) = .ok (.tuple #[.int .i64 (i : Int), .bool true]) (grow (redrawn W0 d) os) := fun d os => by
    have hu := ((h0.mp).later (below_regrown W0 d os)).look hk.1 hk.2
    rw [hyes] at hu
    exact hu
  have lift : ∀ {b o : Nat} {u : Value}, b < W0.heap.size → W0.cell? ⟨b, o, none⟩ = some u → ∀ d os, (grow (redrawn W0 d) os).cell? ⟨b, o, none⟩ = some u := fun {b o u} hb hh d os => ((below_regrown W0 d os).cell (p := ⟨b, o, none⟩) hb).trans hh
  have m1 := lift (by omega) h0.c1
  have t0 := lift (by omega) x0.c0
  have t1 := lift (by omega) x0.c1
  have t2 := lift (by omega) x0.c2
  have t3 := lift (by omega) x0.c3
  have t4 := lift (by omega) x0.c4
  have cC : ∀ d os, Calls Try.prog 51 #[.agg #[.int .i64 x.region, .int .i64 x.slot, .int .i64 x.value, .bool x.used, .int .i64 x.version]] (grow (redrawn W0 d) os) fun e w'' => e = .returned (.agg #[.int .i64 x.region, .int .i64 x.slot]) ∧ ∃ p : Regrown, w'' = grow (redrawn W0 p.d) p.os := fun d os => Calls.regrown_of (seCell_any _ _)
  have hm : ∀ w : World, (method 244 36 (.agg #[.int .i64 x.region, .int .i64 x.slot, .int .i64 x.value, .bool x.used, .int .i64 x.version]) "loop.example/g00153/impl.cell").run Try.prog w = .ok (51, .agg #[.int .i64 x.region, .int .i64 x.slot, .int .i64 x.value, .bool x.used, .int .i64 x.version]) w := fun _ => by kernel_rfl
  have hi := (seW_at hyes).1
  have H : Hid (PisB W0 base p mb n v xs ∧ SetAt W0 w.heap.size 0 x ∧ Below w.heap.size w W0 ∧ W0.heap.size = w.heap.size + 1 ∧ base ≤ w.heap.size ∧ setOkB x = true ∧ v.ownBlock ≠ some w.heap.size) := ⟨h0, x0, b0, z0, hbs, hok, fun e => by have := (h.row.lt e).2; omega⟩
  clear h h0 x0 b0 z0 hbs hok lift hyes hk
  simp only [cKey, Nat.zero_add] at lk t0 t1 t2 t3 t4
  go_enter Try.func53, Try.ntmps53
  go_wp2_with fail
  rw [← hW0]
  clear hW0
  refine wp_region_quiet_below (by kernel_rfl) (by kernel_rfl) ?_
  repeat (go_big_quiet_step (exact cC _ _))
  refine wpQuiet_nil ?_
  intro _ hw'
  obtain ⟨⟨dq', osq⟩, hw''⟩ := hw'
  subst hw''
  have bq := below_regrown W0 dq' osq
  have K1 : Hid (PisB (grow (redrawn W0 dq') osq) base p mb n v xs ∧ SetAt (grow (redrawn W0 dq') osq) w.heap.size 0 x ∧ Below w.heap.size w (grow (redrawn W0 dq') osq) ∧ w.heap.size < (grow (redrawn W0 dq') osq).heap.size) := by
    obtain ⟨g1, g2, g3, g4, _⟩ := H.out
    have := bq.size
    exact ⟨g1.later bq, g2.below bq (by omega), g3.trans (bq.mono g3.size), by omega⟩
  clear bq m1 t0 t1 t2 t3 t4 cC lk
  obtain ⟨q, cap, hv, P1⟩ := K1.out.1.pil (fun e => by rw [e] at hi; simp at hi)
  go_upto_region 3 with fail
  generalize grow (redrawn W0 dq') osq = W1 at *
  have bd : Below W1.heap.size W1 W1.drew := (Below.refl _ _).drew
  have P2 := P1.later bd
  have hS : (fun X : World => X.cell? ⟨p, 0, none⟩ = some (.slice (some ⟨q, 0, none⟩) xs.length cap) ∧ SetAt X w.heap.size 0 x) W1.drew := ⟨P2.c0, K1.out.2.1.below bd K1.out.2.2.2⟩
  have rd := P2.rm
  have KP : Hid (Pis W1.drew base p q mb n cap xs ∧ Below W1.heap.size W1 W1.drew) := ⟨P2, bd⟩
  clear P1 P2 bd hm
  refine wp_region_z (fun z => z == 7) (fun X : World => X.cell? ⟨p, 0, none⟩ = some (.slice (some ⟨q, 0, none⟩) xs.length cap) ∧ SetAt X w.heap.size 0 x) (by kernel_rfl) ?_
  generalize W1.drew = Wd at *
  obtain ⟨v0, c0, f0⟩ := rd (i * 5) (by omega)
  obtain ⟨v1, c1, f1⟩ := rd (i * 5 + 1) (by omega)
  obtain ⟨v2, c2, f2⟩ := rd (i * 5 + 2) (by omega)
  obtain ⟨v3, c3, f3⟩ := rd (i * 5 + 3) (by omega)
  obtain ⟨v4, c4, f4⟩ := rd (i * 5 + 4) (by omega)
  have ii : (i : Int) < (xs.length : Int) := by omega
  clear rd
  refine wpZ_takeP (i := 0) (v := ?_) rfl (by kernel_rfl) (fun _ _ _ h => h) (Or.inl ⟨by rfl, ?_⟩) hS ?_
  rotate_left
  · (intro w _; go_simp; first | done | with_reducible rfl | (rw [if_pos (by omega)]) | (rw [if_pos (by omega)]; go_simp))
  simp only [Act.put]
  refine wpZ_takeP (i := 1) (v := ?_) rfl (by kernel_rfl) (fun _ _ _ h => h) (Or.inl ⟨by rfl, ?_⟩) hS ?_
  rotate_left
  · (intro w _; go_simp; first | done | with_reducible rfl | (rw [if_pos (by omega)]) | (rw [if_pos (by omega)]; go_simp))
  simp only [Act.put]
  refine wpZ_takeP (i := 2) (v := ?_) rfl (by kernel_rfl) (fun _ _ _ h => h) (Or.inl ⟨by rfl, ?_⟩) hS ?_
  rotate_left
  · (intro w _; go_simp; first | done | with_reducible rfl | (rw [if_pos (by omega)]) | (rw [if_pos (by omega)]; go_simp))
  simp only [Act.put]
  refine wpZ_take (i := 3) (v := ?_) rfl (by kernel_rfl) (fun _ _ _ h => h) (Or.inl ⟨by rfl, ?_⟩) hS ?_
  rotate_left
  · (intro w hSw; obtain ⟨s0, ⟨a0, a1, a2, a3, a4⟩⟩ := hSw; simp only [Nat.zero_add] at a0 a1 a2 a3 a4; go_simp; first | done | with_reducible rfl)
  simp only [Act.put]
  refine wpZ_takeP (i := 4) (v := ?_) rfl (by kernel_rfl) (fun _ _ _ h => h) (Or.inl ⟨by rfl, ?_⟩) hS ?_
  rotate_left
  · (intro w _; go_simp; first | done | with_reducible rfl | (rw [if_pos (by omega)]) | (rw [if_pos (by omega)]; go_simp))
  simp only [Act.put]
  refine wpZ_take (i := 5) (v := ?_) rfl (by kernel_rfl) (fun _ _ _ h => h) (Or.inl ⟨by rfl, ?_⟩) hS ?_
  rotate_left
  · (intro w hSw; obtain ⟨s0, ⟨a0, a1, a2, a3, a4⟩⟩ := hSw; simp only [Nat.zero_add] at a0 a1 a2 a3 a4; go_simp; first | done | with_reducible rfl)
  simp only [Act.put]
  refine wpZ_takeP (i := 6) (v := ?_) rfl (by kernel_rfl) (fun _ _ _ h => h) (Or.inl ⟨by rfl, ?_⟩) hS ?_
  rotate_left
  · (intro w _; go_simp; first | done | with_reducible rfl | (rw [if_pos (by omega)]) | (rw [if_pos (by omega)]; go_simp))
  simp only [Act.put]
  refine wpZ_ready (rs := [7]) (by kernel_rfl) (by simp) ?_
  refine AllZ.cons rfl (fun K hK => ?_) AllZ.nil
  go_simp
  refine hK.out _ _ (fun h => absurd (show false = true from h.symm.trans (by kernel_rfl)) (by decide)) ?_
  clear hK K
  refine wpZ_done (by kernel_rfl) ?_ _
  have hx : xs[i]? = some (atSe xs i) := atSe_of hi
  have P3 := KP.out.1.put5 hx x H.out.2.2.2.2.2.1
  have b3 : Below base w ((((((Wd).setCell ⟨q, i * 5, none⟩ (.int .i64 x.region)).setCell ⟨q, i * 5 + 1, none⟩ (.int .i64 x.slot)).setCell ⟨q, i * 5 + 2, none⟩ (.int .i64 x.value)).setCell ⟨q, i * 5 + 3, none⟩ (.bool x.used)).setCell ⟨q, i * 5 + 4, none⟩ (.int .i64 x.version)) := by
    have bW : Below base w Wd := (K1.out.2.2.1.trans (KP.out.2.mono K1.out.2.2.1.size)).mono H.out.2.2.2.2.1
    have hB := KP.out.1.bq
    exact ((((bW.setCell (p := ⟨q, _, none⟩) hB _).setCell (p := ⟨q, _, none⟩) hB _).setCell (p := ⟨q, _, none⟩) hB _).setCell (p := ⟨q, _, none⟩) hB _).setCell (p := ⟨q, _, none⟩) hB _
  have KE := hidOf (And.intro P3 b3)
  clear P3 b3 hx hS c0 c1 c2 c3 c4 f0 f1 f2 f3 f4
  go_wp2
  refine bodyPost_ret (v := .tuple #[]) (by simp [results, Try.results53, go_sem]) rfl ⟨rfl, q, cap, KE.out⟩
end Go.Proofs.Ytcanaklameddbaa
