/- The pile in memory: which of two things is less, one that is lifted. -/
import Derived.Test.YtcanaklameddbaaRows
import Derived.Test.YtcanaklameddbaaPilS
import Derived.Test.YtcanaklameddbaaHeapP
import Derived.WalkKit
import Derived.WalkSpells
import Derived.WalkLawsBesides
import Derived.Below
import Derived.Lib.QuietBelow
import Derived.BigQuiet
import Derived.Deep.RegionWith
namespace Go.Proofs.Ytcanaklameddbaa
open Go.RowKit
open Go.Sort (grow)
def seK (xs : List S5) (i : Nat) : Int := rk (atSe xs i).region (atSe xs i).slot
theorem seK_at {xs : List S5} {i : Nat} {x : S5} (h : xs[i]? = some x) : seK xs i = rk x.region x.slot := by
  unfold seK atSe; rw [h]; rfl
set_option maxHeartbeats 4000000 in
theorem seLess_any (w : World) (base p q mb n cap : Nat) (xs : List S5) (i j : Nat) (x y : S5) (h : Pis w base p q mb n cap xs) (hi : xs[i]? = some x) (hj : xs[j]? = some y) :
    Calls Try.prog 113 #[.pointer (some ⟨p, 0, none⟩), .int .i64 (i : Int), .int .i64 (j : Int)] w fun e w' => e = .returned (.bool (decide (rk x.region x.slot < rk y.region y.slot))) ∧ Below w.heap.size w w' := by
  have li := (List.getElem?_eq_some_iff.1 hi).1
  have lj := (List.getElem?_eq_some_iff.1 hj).1
  have ix : (i : Int) < (xs.length : Int) := by omega
  have jx : (j : Int) < (xs.length : Int) := by omega
  obtain ⟨t0, t1, t2, t3, t4⟩ := (show SetAt w q (i * 5) x by simpa using h.at_ i x hi)
  obtain ⟨u0, u1, u2, u3, u4⟩ := (show SetAt w q (j * 5) y by simpa using h.at_ j y hj)
  have lift : ∀ {o : Nat} {u : Value}, w.cell? ⟨q, o, none⟩ = some u → ∀ d os, (grow (redrawn w d) os).cell? ⟨q, o, none⟩ = some u := fun {o u} hh d os => ((below_regrown w d os).cell (p := ⟨q, o, none⟩) h.lq).trans hh
  have x0 := lift t0
  have y0 := lift u0
  have x1 := lift t1
  have y1 := lift u1
  have x2 := lift t2
  have y2 := lift u2
  have x3 := lift t3
  have y3 := lift u3
  have x4 := lift t4
  have y4 := lift u4
  have z0 : ∀ d os, (grow (redrawn w d) os).cell? ⟨p, 0, none⟩ = some (.slice (some ⟨q, 0, none⟩) xs.length cap) := fun d os => ((below_regrown w d os).cell (p := ⟨p, 0, none⟩) h.lp).trans h.c0
  have k1 := seOk_in (h.ok x (List.mem_of_getElem? hi))
  have k2 := seOk_in (h.ok y (List.mem_of_getElem? hj))
  have cA : ∀ d os, Calls Try.prog 105 #[.agg #[.int .i64 x.region, .int .i64 x.slot, .int .i64 x.value, .bool x.used, .int .i64 x.version]] (grow (redrawn w d) os) fun e w'' => e = .returned (.int .i64 (rk x.region x.slot)) ∧ ∃ p : Regrown, w'' = grow (redrawn w p.d) p.os := fun d os => Calls.regrown_of (seRank_any _ _ k1.1 k1.2)
  have cB : ∀ d os, Calls Try.prog 105 #[.agg #[.int .i64 y.region, .int .i64 y.slot, .int .i64 y.value, .bool y.used, .int .i64 y.version]] (grow (redrawn w d) os) fun e w'' => e = .returned (.int .i64 (rk y.region y.slot)) ∧ ∃ p : Regrown, w'' = grow (redrawn w p.d) p.os := fun d os => Calls.regrown_of (seRank_any _ _ k2.1 k2.2)
  clear lift t0 t1 t2 t3 t4 u0 u1 u2 u3 u4 k1 k2 h hi hj
  generalize rk x.region x.slot = rx at *
  generalize rk y.region y.slot = ry at *
  generalize x.region = a0 at *
  generalize y.region = e0 at *
  generalize x.slot = a1 at *
  generalize y.slot = e1 at *
  generalize x.value = a2 at *
  generalize y.value = e2 at *
  generalize x.used = a3 at *
  generalize y.used = e3 at *
  generalize x.version = a4 at *
  generalize y.version = e4 at *
  go_enter Try.func113, Try.ntmps113
  go_wp2_with fail
  refine wp_region_quiet_below (by kernel_rfl) (by kernel_rfl) ?_
  repeat (go_big_quiet_step (first | (go_at_call_of 105 (Value.agg #[.int .i64 a0, .int .i64 a1, .int .i64 a2, .bool a3, .int .i64 a4]); exact cA _ _) | (go_at_call_of 105 (Value.agg #[.int .i64 e0, .int .i64 e1, .int .i64 e2, .bool e3, .int .i64 e4]); exact cB _ _)))
  refine wpQuiet_nil ?_
  intro _ hw'
  obtain ⟨⟨dq', osq⟩, hw''⟩ := hw'
  subst hw''
  have bq := below_regrown w dq' osq
  go_wp2
  go_ret
  exact ⟨rfl, bq⟩
theorem seK_swap {xs : List S5} {i j : Nat} {x y : S5} (hi : xs[i]? = some x) (hj : xs[j]? = some y) (k : Nat) : seK ((xs.set i y).set j x) k = HeapP.swF (seK xs) i j k := by
  have li := (List.getElem?_eq_some_iff.1 hi).1
  have lj := (List.getElem?_eq_some_iff.1 hj).1
  unfold HeapP.swF
  by_cases e1 : k = i
  · subst e1
    rw [if_pos rfl]
    by_cases e2 : j = k
    · subst e2
      rw [seK_at (x := x) (by rw [List.getElem?_set_self (by simpa using lj)]), seK_at hi]
    · rw [seK_at (x := y) (by rw [List.getElem?_set_ne e2, List.getElem?_set_self li]), seK_at hj]
  · rw [if_neg e1]
    by_cases e2 : k = j
    · subst e2
      rw [if_pos rfl, seK_at (x := x) (by rw [List.getElem?_set_self (by simpa using lj)]), seK_at hi]
    · rw [if_neg e2]
      unfold seK atSe
      rw [List.getElem?_set_ne (Ne.symm e2), List.getElem?_set_ne (Ne.symm e1)]
set_option maxHeartbeats 4000000 in
theorem seLift_any (w : World) (base p q mb n cap : Nat) (xs : List S5) (c : Nat) (h : Pis w base p q mb n cap xs) (hn : n ≤ 10000) (hl : xs.length ≤ 1000) (hc : c < xs.length) (hu : HeapP.HpUp (seK xs) xs.length c) :
    Calls Try.prog 96 #[.pointer (some ⟨p, 0, none⟩), .int .i64 (c : Int)] w fun e w' => e = .returned (.tuple #[]) ∧ ∃ n' ys, n' ≤ n + 2 * c ∧ Pis w' base p q mb n' cap ys ∧ ys.Perm xs ∧ HeapP.Hp (seK ys) ys.length ∧ KeptP (OfP p q mb) w w' := by
  have H : Hid (Pis w base p q mb n cap xs ∧ HeapP.HpUp (seK xs) xs.length c) := ⟨h, hu⟩
  clear h hu
  go_enter Try.func96, Try.ntmps96
  go_wp2
  go_loopw [1] (fun v wr => ∃ (d n' : Nat) (ys : List S5), v = .int .i64 (d : Int) ∧ d < xs.length ∧ n' + 2 * d ≤ n + 2 * c ∧ ys.length = xs.length ∧ Pis wr base p q mb n' cap ys ∧ ys.Perm xs ∧ HeapP.HpUp (seK ys) ys.length d ∧ KeptP (OfP p q mb) w wr) (fun v _ => (intOf v).toNat)
  case atStart => exact ⟨c, n, xs, rfl, hc, by omega, rfl, H.out.1, List.Perm.refl _, H.out.2, KeptP.refl _ _⟩
  case round =>
    obtain ⟨d, n', ys, rfl, hd, hnn, hle, hp, hpm, hu, hk⟩ := hrel
    rcases d with _ | e
    · have KE : Hid (Pis wr base p q mb n' cap ys ∧ ys.Perm xs ∧ HeapP.Hp (seK ys) ys.length ∧ KeptP (OfP p q mb) w wr) := ⟨hp, hpm, hu.done (.inl rfl), hk⟩
      clear hp hpm hu hk
      have d0 : decide ((0 : Int) < ((0 : Nat) : Int)) = false := by simp
      go_wp2
      refine bodyPost_end (v := .tuple #[]) (by simp [results, Try.results96, go_sem]) rfl ⟨rfl, n', ys, by omega, KE.out.1, KE.out.2.1, KE.out.2.2.1, KE.out.2.2.2⟩
    · have d0 : decide ((0 : Int) < ((e + 1 : Nat) : Int)) = true := by simp
      obtain ⟨x, hx⟩ : ∃ x, ys[e + 1]? = some x := ⟨_, List.getElem?_eq_getElem (by omega)⟩
      obtain ⟨y, hy⟩ : ∃ y, ys[e / 2]? = some y := ⟨_, List.getElem?_eq_getElem (by omega)⟩
      have c1 := seLess_any wr base p q mb n' cap ys (e + 1) (e / 2) x y hp hx hy
      have KA : Hid (Pis wr base p q mb n' cap ys ∧ ys.Perm xs ∧ HeapP.HpUp (seK ys) ys.length (e + 1) ∧ KeptP (OfP p q mb) w wr ∧ ys[e + 1]? = some x ∧ ys[e / 2]? = some y ∧ ys.length = xs.length) := ⟨hp, hpm, hu, hk, hx, hy, hle⟩
      have hrk : rk x.region x.slot = seK ys (e + 1) := (seK_at hx).symm
      have hrk' : rk y.region y.slot = seK ys (e / 2) := (seK_at hy).symm
      rw [hrk, hrk'] at c1
      clear hp hpm hu hk hx hy hle hrk hrk'
      by_cases hlt : seK ys (e + 1) < seK ys (e / 2)
      · have dl : decide (seK ys (e + 1) < seK ys (e / 2)) = true := by simpa using hlt
        rw [dl] at c1
        have HLT := hidOf hlt
        have ea : ((e + 1 : Nat) : Int) = (e : Int) + 1 := by omega
        have eb : ((e / 2 : Nat) : Int) = (e : Int) / 2 := by omega
        rw [ea, eb] at c1
        clear hlt dl ea eb
        go_wp2_with fail
        refine c1.mono ?_
        clear c1
        rintro e' w1 ⟨rfl, b1⟩
        have c2 := seSwap_any w1 base p q mb n' cap ys (e + 1) (e / 2) x y (KA.out.1.later b1) (by omega) (by have := KA.out.2.2.2.2.2.2; omega) KA.out.2.2.2.2.1 KA.out.2.2.2.2.2.1
        have ea : ((e + 1 : Nat) : Int) = (e : Int) + 1 := by omega
        have eb : ((e / 2 : Nat) : Int) = (e : Int) / 2 := by omega
        rw [ea, eb] at c2
        have KB : Hid (Below wr.heap.size wr w1) := b1
        clear ea eb b1
        go_wp2_with fail
        refine c2.mono ?_
        clear c2
        rintro e' w2 ⟨rfl, p2, k2⟩
        have KE : Hid (Pis w2 base p q mb (n' + 1 + 1) cap ((ys.set (e + 1) y).set (e / 2) x) ∧ KeptP (OfP p q mb) w w2) := ⟨p2, (KA.out.2.2.2.1.trans (KeptP.of_below KB.out)).trans k2⟩
        clear p2 k2
        go_wp2
        obtain ⟨f1, f2, f3, f4, f5, f6, f7⟩ := KA.out
        refine ⟨⟨e / 2, n' + 1 + 1, (ys.set (e + 1) y).set (e / 2) x, by simp, by omega, by omega, by simpa using f7, KE.out.1, (HeapP.set_set_perm ys (e + 1) (e / 2) x y f5 f6).trans f2, ?_, KE.out.2⟩, by simp [intOf]; omega⟩
        have hst := f3.step (by omega) (by omega) (by simpa using HLT.out)
        rw [show (e + 1 - 1) / 2 = e / 2 by omega] at hst
        have hfun : seK ((ys.set (e + 1) y).set (e / 2) x) = HeapP.swF (seK ys) (e + 1) (e / 2) := funext fun k => seK_swap f5 f6 k
        rw [hfun]
        simpa using hst
      · have dl : decide (seK ys (e + 1) < seK ys (e / 2)) = false := by simpa using hlt
        rw [dl] at c1
        have KE : Hid (HeapP.Hp (seK ys) ys.length) := KA.out.2.2.1.done (.inr (by simp at hlt ⊢; omega))
        have ea : ((e + 1 : Nat) : Int) = (e : Int) + 1 := by omega
        have eb : ((e / 2 : Nat) : Int) = (e : Int) / 2 := by omega
        rw [ea, eb] at c1
        clear hlt dl ea eb
        go_wp2_with fail
        refine c1.mono ?_
        clear c1
        rintro e' w1 ⟨rfl, b1⟩
        have KB : Hid (Below wr.heap.size wr w1) := b1
        clear b1
        go_wp2
        refine bodyPost_ret (v := .tuple #[]) (by simp [results, Try.results96, go_sem]) rfl ⟨rfl, n', ys, by omega, KA.out.1.later KB.out, KA.out.2.1, KE.out, KA.out.2.2.2.1.trans (KeptP.of_below KB.out)⟩
end Go.Proofs.Ytcanaklameddbaa
