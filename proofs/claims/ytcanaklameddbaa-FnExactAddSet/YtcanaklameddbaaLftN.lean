/- The pile in memory: which of two things is less, one that is lifted. -/
import Derived.Test.YtcanaklameddbaaRows
import Derived.Test.YtcanaklameddbaaPilN
import Derived.Test.YtcanaklameddbaaHeapP
import Derived.WalkKit
import Derived.WalkSpells
import Derived.WalkLawsBesides
import Derived.Below
import Derived.Lib.QuietBelow
import Derived.BigQuiet
import Derived.Deep.RegionWith
namespace Go.Proofs.Ytcanaklameddbaa
open Go.RowKit
open Go.Sort (grow)
def noK (xs : List N5) (i : Nat) : Int := rk (atNo xs i).region (atNo xs i).slot
theorem noK_at {xs : List N5} {i : Nat} {x : N5} (h : xs[i]? = some x) : noK xs i = rk x.region x.slot := by
  unfold noK atNo; rw [h]; rfl
set_option maxHeartbeats 4000000 in
theorem noLess_any (w : World) (base p q mb n cap : Nat) (xs : List N5) (i j : Nat) (x y : N5) (h : Pin w base p q mb n cap xs) (hi : xs[i]? = some x) (hj : xs[j]? = some y) :
    Calls Try.prog 110 #[.pointer (some ⟨p, 0, none⟩), .int .i64 (i : Int), .int .i64 (j : Int)] w fun e w' => e = .returned (.bool (decide (rk x.region x.slot < rk y.region y.slot))) ∧ Below w.heap.size w w' := by
  have li := (List.getElem?_eq_some_iff.1 hi).1
  have lj := (List.getElem?_eq_some_iff.1 hj).1
  have ix : (i : Int) < (xs.length : Int) := by omega
  have jx : (j : Int) < (xs.length : Int) := by omega
  obtain ⟨t0, t1, t2, t3, t4⟩ := (show NoteAt w q (i * 5) x by simpa using h.at_ i x hi)
  obtain ⟨u0, u1, u2, u3, u4⟩ := (show NoteAt w q (j * 5) y by simpa using h.at_ j y hj)
  have lift : ∀ {o : Nat} {u : Value}, w.cell? ⟨q, o, none⟩ = some u → ∀ d os, (grow (redrawn w d) os).cell? ⟨q, o, none⟩ = some u := fun {o u} hh d os => ((below_regrown w d os).cell (p := ⟨q, o, none⟩) h.lq).trans hh
  have x0 := lift t0
  have y0 := lift u0
  have x1 := lift t1
  have y1 := lift u1
  have x2 := lift t2
  have y2 := lift u2
  have x3 := lift t3
  have y3 := lift u3
  have x4 := lift t4
  have y4 := lift u4
  have z0 : ∀ d os, (grow (redrawn w d) os).cell? ⟨p, 0, none⟩ = some (.slice (some ⟨q, 0, none⟩) xs.length cap) := fun d os => ((below_regrown w d os).cell (p := ⟨p, 0, none⟩) h.lp).trans h.c0
  have k1 := noOk_in (h.ok x (List.mem_of_getElem? hi))
  have k2 := noOk_in (h.ok y (List.mem_of_getElem? hj))
  have cA : ∀ d os, Calls Try.prog 101 #[.agg #[.int .i64 x.region, .int .i64 x.slot, .int .i64 x.version, .int .i64 x.value, .bool x.used]] (grow (redrawn w d) os) fun e w'' => e = .returned (.int .i64 (rk x.region x.slot)) ∧ ∃ p : Regrown, w'' = grow (redrawn w p.d) p.os := fun d os => Calls.regrown_of (noRank_any _ _ k1.1 k1.2)
  have cB : ∀ d os, Calls Try.prog 101 #[.agg #[.int .i64 y.region, .int .i64 y.slot, .int .i64 y.version, .int .i64 y.value, .bool y.used]] (grow (redrawn w d) os) fun e w'' => e = .returned (.int .i64 (rk y.region y.slot)) ∧ ∃ p : Regrown, w'' = grow (redrawn w p.d) p.os := fun d os => Calls.regrown_of (noRank_any _ _ k2.1 k2.2)
  clear lift t0 t1 t2 t3 t4 u0 u1 u2 u3 u4 k1 k2 h hi hj
  generalize rk x.region x.slot = rx at *
  generalize rk y.region y.slot = ry at *
  generalize x.region = a0 at *
  generalize y.region = e0 at *
  generalize x.slot = a1 at *
  generalize y.slot = e1 at *
  generalize x.version = a2 at *
  generalize y.version = e2 at *
  generalize x.value = a3 at *
  generalize y.value = e3 at *
  generalize x.used = a4 at *
  generalize y.used = e4 at *
  go_enter Try.func110, Try.ntmps110
  go_wp2_with fail
  refine wp_region_quiet_below (by kernel_rfl) (by kernel_rfl) ?_
  repeat (go_big_quiet_step (first | (go_at_call_of 101 (Value.agg #[.int .i64 a0, .int .i64 a1, .int .i64 a2, .int .i64 a3, .bool a4]); exact cA _ _) | (go_at_call_of 101 (Value.agg #[.int .i64 e0, .int .i64 e1, .int .i64 e2, .int .i64 e3, .bool e4]); exact cB _ _)))
  refine wpQuiet_nil ?_
  intro _ hw'
  obtain ⟨⟨dq', osq⟩, hw''⟩ := hw'
  subst hw''
  have bq := below_regrown w dq' osq
  go_wp2
  go_ret
  exact ⟨rfl, bq⟩
theorem noK_swap {xs : List N5} {i j : Nat} {x y : N5} (hi : xs[i]? = some x) (hj : xs[j]? = some y) (k : Nat) : noK ((xs.set i y).set j x) k = HeapP.swF (noK xs) i j k := by
  have li := (List.getElem?_eq_some_iff.1 hi).1
  have lj := (List.getElem?_eq_some_iff.1 hj).1
  unfold HeapP.swF
  by_cases e1 : k = i
  · subst e1
    rw [if_pos rfl]
    by_cases e2 : j = k
    · subst e2
      rw [noK_at (x := x) (by rw [List.getElem?_set_self (by simpa using lj)]), noK_at hi]
    · rw [noK_at (x := y) (by rw [List.getElem?_set_ne e2, List.getElem?_set_self li]), noK_at hj]
  · rw [if_neg e1]
    by_cases e2 : k = j
    · subst e2
      rw [if_pos rfl, noK_at (x := x) (by rw [List.getElem?_set_self (by simpa using lj)]), noK_at hi]
    · rw [if_neg e2]
      unfold noK atNo
      rw [List.getElem?_set_ne (Ne.symm e2), List.getElem?_set_ne (Ne.symm e1)]
set_option maxHeartbeats 4000000 in
theorem noLift_any (w : World) (base p q mb n cap : Nat) (xs : List N5) (c : Nat) (h : Pin w base p q mb n cap xs) (hn : n ≤ 10000) (hl : xs.length ≤ 1000) (hc : c < xs.length) (hu : HeapP.HpUp (noK xs) xs.length c) :
    Calls Try.prog 86 #[.pointer (some ⟨p, 0, none⟩), .int .i64 (c : Int)] w fun e w' => e = .returned (.tuple #[]) ∧ ∃ n' ys, n' ≤ n + 2 * c ∧ Pin w' base p q mb n' cap ys ∧ ys.Perm xs ∧ HeapP.Hp (noK ys) ys.length ∧ KeptP (OfP p q mb) w w' := by
  have H : Hid (Pin w base p q mb n cap xs ∧ HeapP.HpUp (noK xs) xs.length c) := ⟨h, hu⟩
  clear h hu
  go_enter Try.func86, Try.ntmps86
  go_wp2
  go_loopw [1] (fun v wr => ∃ (d n' : Nat) (ys : List N5), v = .int .i64 (d : Int) ∧ d < xs.length ∧ n' + 2 * d ≤ n + 2 * c ∧ ys.length = xs.length ∧ Pin wr base p q mb n' cap ys ∧ ys.Perm xs ∧ HeapP.HpUp (noK ys) ys.length d ∧ KeptP (OfP p q mb) w wr) (fun v _ => (intOf v).toNat)
  case atStart => exact ⟨c, n, xs, rfl, hc, by omega, rfl, H.out.1, List.Perm.refl _, H.out.2, KeptP.refl _ _⟩
  case round =>
    obtain ⟨d, n', ys, rfl, hd, hnn, hle, hp, hpm, hu, hk⟩ := hrel
    rcases d with _ | e
    · have KE : Hid (Pin wr base p q mb n' cap ys ∧ ys.Perm xs ∧ HeapP.Hp (noK ys) ys.length ∧ KeptP (OfP p q mb) w wr) := ⟨hp, hpm, hu.done (.inl rfl), hk⟩
      clear hp hpm hu hk
      have d0 : decide ((0 : Int) < ((0 : Nat) : Int)) = false := by simp
      go_wp2
      refine bodyPost_end (v := .tuple #[]) (by simp [results, Try.results86, go_sem]) rfl ⟨rfl, n', ys, by omega, KE.out.1, KE.out.2.1, KE.out.2.2.1, KE.out.2.2.2⟩
    · have d0 : decide ((0 : Int) < ((e + 1 : Nat) : Int)) = true := by simp
      obtain ⟨x, hx⟩ : ∃ x, ys[e + 1]? = some x := ⟨_, List.getElem?_eq_getElem (by omega)⟩
      obtain ⟨y, hy⟩ : ∃ y, ys[e / 2]? = some y := ⟨_, List.getElem?_eq_getElem (by omega)⟩
      have c1 := noLess_any wr base p q mb n' cap ys (e + 1) (e / 2) x y hp hx hy
      have KA : Hid (Pin wr base p q mb n' cap ys ∧ ys.Perm xs ∧ HeapP.HpUp (noK ys) ys.length (e + 1) ∧ KeptP (OfP p q mb) w wr ∧ ys[e + 1]? = some x ∧ ys[e / 2]? = some y ∧ ys.length = xs.length) := ⟨hp, hpm, hu, hk, hx, hy, hle⟩
      have hrk : rk x.region x.slot = noK ys (e + 1) := (noK_at hx).symm
      have hrk' : rk y.region y.slot = noK ys (e / 2) := (noK_at hy).symm
      rw [hrk, hrk'] at c1
      clear hp hpm hu hk hx hy hle hrk hrk'
      by_cases hlt : noK ys (e + 1) < noK ys (e / 2)
      · have dl : decide (noK ys (e + 1) < noK ys (e / 2)) = true := by simpa using hlt
        rw [dl] at c1
        have HLT := hidOf hlt
        have ea : ((e + 1 : Nat) : Int) = (e : Int) + 1 := by omega
        have eb : ((e / 2 : Nat) : Int) = (e : Int) / 2 := by omega
        rw [ea, eb] at c1
        clear hlt dl ea eb
        go_wp2_with fail
        refine c1.mono ?_
        clear c1
        rintro e' w1 ⟨rfl, b1⟩
        have c2 := noSwap_any w1 base p q mb n' cap ys (e + 1) (e / 2) x y (KA.out.1.later b1) (by omega) (by have := KA.out.2.2.2.2.2.2; omega) KA.out.2.2.2.2.1 KA.out.2.2.2.2.2.1
        have ea : ((e + 1 : Nat) : Int) = (e : Int) + 1 := by omega
        have eb : ((e / 2 : Nat) : Int) = (e : Int) / 2 := by omega
        rw [ea, eb] at c2
        have KB : Hid (Below wr.heap.size wr w1) := b1
        clear ea eb b1
        go_wp2_with fail
        refine c2.mono ?_
        clear c2
        rintro e' w2 ⟨rfl, p2, k2⟩
        have KE : Hid (Pin w2 base p q mb (n' + 1 + 1) cap ((ys.set (e + 1) y).set (e / 2) x) ∧ KeptP (OfP p q mb) w w2) := ⟨p2, (KA.out.2.2.2.1.trans (KeptP.of_below KB.out)).trans k2⟩
        clear p2 k2
        go_wp2
        obtain ⟨f1, f2, f3, f4, f5, f6, f7⟩ := KA.out
        refine ⟨⟨e / 2, n' + 1 + 1, (ys.set (e + 1) y).set (e / 2) x, by simp, by omega, by omega, by simpa using f7, KE.out.1, (HeapP.set_set_perm ys (e + 1) (e / 2) x y f5 f6).trans f2, ?_, KE.out.2⟩, by simp [intOf]; omega⟩
        have hst := f3.step (by omega) (by omega) (by simpa using HLT.out)
        rw [show (e + 1 - 1) / 2 = e / 2 by omega] at hst
        have hfun : noK ((ys.set (e + 1) y).set (e / 2) x) = HeapP.swF (noK ys) (e + 1) (e / 2) := funext fun k => noK_swap f5 f6 k
        rw [hfun]
        simpa using hst
      · have dl : decide (noK ys (e + 1) < noK ys (e / 2)) = false := by simpa using hlt
        rw [dl] at c1
        have KE : Hid (HeapP.Hp (noK ys) ys.length) := KA.out.2.2.1.done (.inr (by simp at hlt ⊢; omega))
        have ea : ((e + 1 : Nat) : Int) = (e : Int) + 1 := by omega
        have eb : ((e / 2 : Nat) : Int) = (e : Int) / 2 := by omega
        rw [ea, eb] at c1
        clear hlt dl ea eb
        go_wp2_with fail
        refine c1.mono ?_
        clear c1
        rintro e' w1 ⟨rfl, b1⟩
        have KB : Hid (Below wr.heap.size wr w1) := b1
        clear b1
        go_wp2
        refine bodyPost_ret (v := .tuple #[]) (by simp [results, Try.results86, go_sem]) rfl ⟨rfl, n', ys, by omega, KA.out.1.later KB.out, KA.out.2.1, KE.out, KA.out.2.2.2.1.trans (KeptP.of_below KB.out)⟩
end Go.Proofs.Ytcanaklameddbaa
