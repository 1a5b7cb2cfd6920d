/- LftS; SnkS; TakS; InoS; PutS: joined. -/
import Derived.Test.YtiidlcjjaglkdaaRows
import Derived.Test.YtiidlcjjaglkdaaJ5LawNoted
import Derived.Test.YtiidlcjjaglkdaaJ4LawNoted
import Derived.WalkKit
import Derived.WalkSpells
import Derived.WalkLawsBesides
import Derived.Below
import Derived.Lib.QuietBelow
import Derived.BigQuiet
import Derived.Deep.RegionWith
import Derived.Deep.CutRange
namespace Go.Proofs.Ytiidlcjjaglkdaa
open Go.RowKit
open Go.Sort (grow)
def seK (xs : List S5) (i : Nat) : Int := rk (atSe xs i).region (atSe xs i).slot
theorem seK_at {xs : List S5} {i : Nat} {x : S5} (h : xs[i]? = some x) : seK xs i = rk x.region x.slot := by
  unfold seK atSe; rw [h]; rfl
set_option maxHeartbeats 4000000 in
theorem seLess_any (w : World) (base p q mb n cap : Nat) (xs : List S5) (i j : Nat) (x y : S5) (h : Pis w base p q mb n cap xs) (hi : xs[i]? = some x) (hj : xs[j]? = some y) :
    Calls Try.prog 118 #[.pointer (some ⟨p, 0, none⟩), .int .i64 (i : Int), .int .i64 (j : Int)] w fun e w' => e = .returned (.bool (decide (rk x.region x.slot < rk y.region y.slot))) ∧ Below w.heap.size w w' := by
  have li := (List.getElem?_eq_some_iff.1 hi).1
  have lj := (List.getElem?_eq_some_iff.1 hj).1
  have ix : (i : Int) < (xs.length : Int) := by omega
  have jx : (j : Int) < (xs.length : Int) := by omega
  obtain ⟨t0, t1, t2, t3, t4⟩ := (show SetAt w q (i * 5) x by simpa using h.at_ i x hi)
  obtain ⟨u0, u1, u2, u3, u4⟩ := (show SetAt w q (j * 5) y by simpa using h.at_ j y hj)
  have lift : ∀ {o : Nat} {u : Value}, w.cell? ⟨q, o, none⟩ = some u → ∀ d os, (grow (redrawn w d) os).cell? ⟨q, o, none⟩ = some u := fun {o u} hh d os => ((below_regrown w d os).cell (p := ⟨q, o, none⟩) h.lq).trans hh
  have x0 := lift t0
  have y0 := lift u0
  have x1 := lift t1
  have y1 := lift u1
  have x2 := lift t2
  have y2 := lift u2
  have x3 := lift t3
  have y3 := lift u3
  have x4 := lift t4
  have y4 := lift u4
  have z0 : ∀ d os, (grow (redrawn w d) os).cell? ⟨p, 0, none⟩ = some (.slice (some ⟨q, 0, none⟩) xs.length cap) := fun d os => ((below_regrown w d os).cell (p := ⟨p, 0, none⟩) h.lp).trans h.c0
  have k1 := seOk_in (h.ok x (List.mem_of_getElem? hi))
  have k2 := seOk_in (h.ok y (List.mem_of_getElem? hj))
  have cA : ∀ d os, Calls Try.prog 110 #[.agg #[.int .i64 x.region, .int .i64 x.slot, .int .i64 x.value, .bool x.used, .int .i64 x.version]] (grow (redrawn w d) os) fun e w'' => e = .returned (.int .i64 (rk x.region x.slot)) ∧ ∃ p : Regrown, w'' = grow (redrawn w p.d) p.os := fun d os => Calls.regrown_of (seRank_any _ _ k1.1 k1.2)
  have cB : ∀ d os, Calls Try.prog 110 #[.agg #[.int .i64 y.region, .int .i64 y.slot, .int .i64 y.value, .bool y.used, .int .i64 y.version]] (grow (redrawn w d) os) fun e w'' => e = .returned (.int .i64 (rk y.region y.slot)) ∧ ∃ p : Regrown, w'' = grow (redrawn w p.d) p.os := fun d os => Calls.regrown_of (seRank_any _ _ k2.1 k2.2)
  clear lift t0 t1 t2 t3 t4 u0 u1 u2 u3 u4 k1 k2 h hi hj
  generalize rk x.region x.slot = rx at *
  generalize rk y.region y.slot = ry at *
  generalize x.region = a0 at *
  generalize y.region = e0 at *
  generalize x.slot = a1 at *
  generalize y.slot = e1 at *
  generalize x.value = a2 at *
  generalize y.value = e2 at *
  generalize x.used = a3 at *
  generalize y.used = e3 at *
  generalize x.version = a4 at *
  generalize y.version = e4 at *
  go_enter Try.func118, Try.ntmps118
  go_wp2_with fail
  refine wp_region_quiet_below (by kernel_rfl) (by kernel_rfl) ?_
  repeat (go_big_quiet_step (first | (go_at_call_of 110 (Value.agg #[.int .i64 a0, .int .i64 a1, .int .i64 a2, .bool a3, .int .i64 a4]); exact cA _ _) | (go_at_call_of 110 (Value.agg #[.int .i64 e0, .int .i64 e1, .int .i64 e2, .bool e3, .int .i64 e4]); exact cB _ _)))
  refine wpQuiet_nil ?_
  intro _ hw'
  obtain ⟨⟨dq', osq⟩, hw''⟩ := hw'
  subst hw''
  have bq := below_regrown w dq' osq
  go_wp2
  go_ret
  exact ⟨rfl, bq⟩
theorem seK_swap {xs : List S5} {i j : Nat} {x y : S5} (hi : xs[i]? = some x) (hj : xs[j]? = some y) (k : Nat) : seK ((xs.set i y).set j x) k = HeapP.swF (seK xs) i j k := by
  have li := (List.getElem?_eq_some_iff.1 hi).1
  have lj := (List.getElem?_eq_some_iff.1 hj).1
  unfold HeapP.swF
  by_cases e1 : k = i
  · subst e1
    rw [if_pos rfl]
    by_cases e2 : j = k
    · subst e2
      rw [seK_at (x := x) (by rw [List.getElem?_set_self (by simpa using lj)]), seK_at hi]
    · rw [seK_at (x := y) (by rw [List.getElem?_set_ne e2, List.getElem?_set_self li]), seK_at hj]
  · rw [if_neg e1]
    by_cases e2 : k = j
    · subst e2
      rw [if_pos rfl, seK_at (x := x) (by rw [List.getElem?_set_self (by simpa using lj)]), seK_at hi]
    · rw [if_neg e2]
      unfold seK atSe
      rw [List.getElem?_set_ne (Ne.symm e2), List.getElem?_set_ne (Ne.symm e1)]
set_option maxHeartbeats 4000000 in
theorem seLift_any (w : World) (base p q mb n cap : Nat) (xs : List S5) (c : Nat) (h : Pis w base p q mb n cap xs) (hn : n ≤ 10000) (hl : xs.length ≤ 1000) (hc : c < xs.length) (hu : HeapP.HpUp (seK xs) xs.length c) :
    Calls Try.prog 101 #[.pointer (some ⟨p, 0, none⟩), .int .i64 (c : Int)] w fun e w' => e = .returned (.tuple #[]) ∧ ∃ n' ys, n' ≤ n + 2 * c ∧ Pis w' base p q mb n' cap ys ∧ ys.Perm xs ∧ HeapP.Hp (seK ys) ys.length ∧ KeptP (OfP p q mb) w w' := by
  have H : Hid (Pis w base p q mb n cap xs ∧ HeapP.HpUp (seK xs) xs.length c) := ⟨h, hu⟩
  clear h hu
  go_enter Try.func101, Try.ntmps101
  go_wp2
  go_loopw [1] (fun v wr => ∃ (d n' : Nat) (ys : List S5), v = .int .i64 (d : Int) ∧ d < xs.length ∧ n' + 2 * d ≤ n + 2 * c ∧ ys.length = xs.length ∧ Pis wr base p q mb n' cap ys ∧ ys.Perm xs ∧ HeapP.HpUp (seK ys) ys.length d ∧ KeptP (OfP p q mb) w wr) (fun v _ => (intOf v).toNat)
  case atStart => exact ⟨c, n, xs, rfl, hc, by omega, rfl, H.out.1, List.Perm.refl _, H.out.2, KeptP.refl _ _⟩
  case round =>
    obtain ⟨d, n', ys, rfl, hd, hnn, hle, hp, hpm, hu, hk⟩ := hrel
    rcases d with _ | e
    · have KE : Hid (Pis wr base p q mb n' cap ys ∧ ys.Perm xs ∧ HeapP.Hp (seK ys) ys.length ∧ KeptP (OfP p q mb) w wr) := ⟨hp, hpm, hu.done (.inl rfl), hk⟩
      clear hp hpm hu hk
      have d0 : decide ((0 : Int) < ((0 : Nat) : Int)) = false := by simp
      go_wp2
      refine bodyPost_end (v := .tuple #[]) (by simp [results, Try.results101, go_sem]) rfl ⟨rfl, n', ys, by omega, KE.out.1, KE.out.2.1, KE.out.2.2.1, KE.out.2.2.2⟩
    · have d0 : decide ((0 : Int) < ((e + 1 : Nat) : Int)) = true := by simp
      obtain ⟨x, hx⟩ : ∃ x, ys[e + 1]? = some x := ⟨_, List.getElem?_eq_getElem (by omega)⟩
      obtain ⟨y, hy⟩ : ∃ y, ys[e / 2]? = some y := ⟨_, List.getElem?_eq_getElem (by omega)⟩
      have c1 := seLess_any wr base p q mb n' cap ys (e + 1) (e / 2) x y hp hx hy
      have KA : Hid (Pis wr base p q mb n' cap ys ∧ ys.Perm xs ∧ HeapP.HpUp (seK ys) ys.length (e + 1) ∧ KeptP (OfP p q mb) w wr ∧ ys[e + 1]? = some x ∧ ys[e / 2]? = some y ∧ ys.length = xs.length) := ⟨hp, hpm, hu, hk, hx, hy, hle⟩
      have hrk : rk x.region x.slot = seK ys (e + 1) := (seK_at hx).symm
      have hrk' : rk y.region y.slot = seK ys (e / 2) := (seK_at hy).symm
      rw [hrk, hrk'] at c1
      clear hp hpm hu hk hx hy hle hrk hrk'
      by_cases hlt : seK ys (e + 1) < seK ys (e / 2)
      · have dl : decide (seK ys (e + 1) < seK ys (e / 2)) = true := by simpa using hlt
        rw [dl] at c1
        have HLT := hidOf hlt
        have ea : ((e + 1 : Nat) : Int) = (e : Int) + 1 := by omega
        have eb : ((e / 2 : Nat) : Int) = (e : Int) / 2 := by omega
        rw [ea, eb] at c1
        clear hlt dl ea eb
        go_wp2_with fail
        refine c1.mono ?_
        clear c1
        rintro e' w1 ⟨rfl, b1⟩
        have c2 := seSwap_any w1 base p q mb n' cap ys (e + 1) (e / 2) x y (KA.out.1.later b1) (by omega) (by have := KA.out.2.2.2.2.2.2; omega) KA.out.2.2.2.2.1 KA.out.2.2.2.2.2.1
        have ea : ((e + 1 : Nat) : Int) = (e : Int) + 1 := by omega
        have eb : ((e / 2 : Nat) : Int) = (e : Int) / 2 := by omega
        rw [ea, eb] at c2
        have KB : Hid (Below wr.heap.size wr w1) := b1
        clear ea eb b1
        go_wp2_with fail
        refine c2.mono ?_
        clear c2
        rintro e' w2 ⟨rfl, p2, k2⟩
        have KE : Hid (Pis w2 base p q mb (n' + 1 + 1) cap ((ys.set (e + 1) y).set (e / 2) x) ∧ KeptP (OfP p q mb) w w2) := ⟨p2, (KA.out.2.2.2.1.trans (KeptP.of_below KB.out)).trans k2⟩
        clear p2 k2
        go_wp2
        obtain ⟨f1, f2, f3, f4, f5, f6, f7⟩ := KA.out
        refine ⟨⟨e / 2, n' + 1 + 1, (ys.set (e + 1) y).set (e / 2) x, by simp, by omega, by omega, by simpa using f7, KE.out.1, (HeapP.set_set_perm ys (e + 1) (e / 2) x y f5 f6).trans f2, ?_, KE.out.2⟩, by simp [intOf]; omega⟩
        have hst := f3.step (by omega) (by omega) (by simpa using HLT.out)
        rw [show (e + 1 - 1) / 2 = e / 2 by omega] at hst
        have hfun : seK ((ys.set (e + 1) y).set (e / 2) x) = HeapP.swF (seK ys) (e + 1) (e / 2) := funext fun k => seK_swap f5 f6 k
        rw [hfun]
        simpa using hst
      · have dl : decide (seK ys (e + 1) < seK ys (e / 2)) = false := by simpa using hlt
        rw [dl] at c1
        have KE : Hid (HeapP.Hp (seK ys) ys.length) := KA.out.2.2.1.done (.inr (by simp at hlt ⊢; omega))
        have ea : ((e + 1 : Nat) : Int) = (e : Int) + 1 := by omega
        have eb : ((e / 2 : Nat) : Int) = (e : Int) / 2 := by omega
        rw [ea, eb] at c1
        clear hlt dl ea eb
        go_wp2_with fail
        refine c1.mono ?_
        clear c1
        rintro e' w1 ⟨rfl, b1⟩
        have KB : Hid (Below wr.heap.size wr w1) := b1
        clear b1
        go_wp2
        refine bodyPost_ret (v := .tuple #[]) (by simp [results, Try.results101, go_sem]) rfl ⟨rfl, n', ys, by omega, KA.out.1.later KB.out, KA.out.2.1, KE.out, KA.out.2.2.2.1.trans (KeptP.of_below KB.out)⟩
end Go.Proofs.Ytiidlcjjaglkdaa
namespace Go.Proofs.Ytiidlcjjaglkdaa
open Go.RowKit
set_option maxHeartbeats 8000000 in
theorem seSink_any (w : World) (base p q mb n cap : Nat) (xs : List S5) (h : Pis w base p q mb n cap xs) (hn : n ≤ 10000) (hl : xs.length ≤ 1000) (hu : HeapP.HpDn (seK xs) xs.length 0) :
    Calls Try.prog 120 #[.pointer (some ⟨p, 0, none⟩), .int .i64 0] w fun e w' => e = .returned (.tuple #[]) ∧ ∃ n' ys, n' ≤ n + 2 * xs.length ∧ Pis w' base p q mb n' cap ys ∧ ys.Perm xs ∧ HeapP.Hp (seK ys) ys.length ∧ KeptP (OfP p q mb) w w' := by
  have H : Hid (Pis w base p q mb n cap xs ∧ HeapP.HpDn (seK xs) xs.length 0) := ⟨h, hu⟩
  clear h hu
  go_enter Try.func120, Try.ntmps120
  go_wp2
  go_loopw [1] (fun v wr => ∃ (d n' : Nat) (ys : List S5), v = .int .i64 (d : Int) ∧ (d < xs.length ∨ d = 0) ∧ n' ≤ n + 2 * d ∧ ys.length = xs.length ∧ Pis wr base p q mb n' cap ys ∧ ys.Perm xs ∧ HeapP.HpDn (seK ys) ys.length d ∧ KeptP (OfP p q mb) w wr) (fun v _ => 2000 - (intOf v).toNat)
  case atStart => exact ⟨0, n, xs, rfl, .inr rfl, by omega, rfl, H.out.1, List.Perm.refl _, H.out.2, KeptP.refl _ _⟩
  case round =>
    obtain ⟨d, n', ys, rfl, hd, hnn, hle, hp, hpm, hu, hk⟩ := hrel
    have KA : Hid (Pis wr base p q mb n' cap ys ∧ ys.Perm xs ∧ HeapP.HpDn (seK ys) ys.length d ∧ KeptP (OfP p q mb) w wr ∧ ys.length = xs.length) := ⟨hp, hpm, hu, hk, hle⟩
    clear hp hpm hu hk hle
    have hd1 : d ≤ 1000 := by omega
    go_wp2
    generalize wr = W0 at *
    go_loopw [4, 5] (fun v4 v5 wr => ∃ l b : Nat, v4 = .int .i64 (l : Int) ∧ v5 = .int .i64 (b : Int) ∧ 2 * d + 1 ≤ b ∧ b ≤ 2 * d + 3 ∧ Below W0.heap.size W0 wr ∧ (l = d ∨ (2 * d + 1 ≤ l ∧ l < b ∧ l < ys.length ∧ seK ys l < seK ys d)) ∧ (∀ j, 2 * d + 1 ≤ j → j < b → j < ys.length → seK ys l ≤ seK ys j)) (fun _ v5 _ => 2 * d + 3 - (intOf v5).toNat)
    case atStart => exact ⟨d, 2 * d + 1, rfl, by simp, by omega, by omega, Below.refl _ _, .inl rfl, fun j h1 h2 => by omega⟩
    case round =>
      obtain ⟨l, b, rfl, rfl, hb1, hb2, hbl, hl1, hl2⟩ := hrel
      have hlen := KA.out.2.2.2.2
      by_cases hbe : b ≤ 2 * d + 2
      · have db : decide ((b : Int) ≤ 2 * (d : Int) + 2) = true := by simp; omega
        have p0 := (KA.out.1.later hbl).c0
        rw [hlen] at p0
        by_cases hbn : b < xs.length
        · have dn : decide ((b : Int) < (xs.length : Int)) = true := by simp; omega
          have hln : l < ys.length := by omega
          obtain ⟨x, hx⟩ : ∃ x, ys[b]? = some x := ⟨_, List.getElem?_eq_getElem (by omega)⟩
          obtain ⟨y, hy⟩ : ∃ y, ys[l]? = some y := ⟨_, List.getElem?_eq_getElem hln⟩
          have c1 := seLess_any wr base p q mb n' cap ys b l x y (KA.out.1.later hbl) hx hy
          rw [(seK_at hx).symm, (seK_at hy).symm] at c1
          have KB : Hid (Below W0.heap.size W0 wr ∧ (l = d ∨ (2 * d + 1 ≤ l ∧ l < b ∧ l < ys.length ∧ seK ys l < seK ys d)) ∧ (∀ j, 2 * d + 1 ≤ j → j < b → j < ys.length → seK ys l ≤ seK ys j) ∧ ys.length = xs.length) := ⟨hbl, hl1, hl2, hlen⟩
          clear hx hy hbl hl1 hl2 hlen hln
          by_cases hlt : seK ys b < seK ys l
          · have dl : decide (seK ys b < seK ys l) = true := by simpa using hlt
            rw [dl] at c1
            have HLT := hidOf hlt
            clear hlt dl
            go_wp2_with fail
            refine c1.mono ?_
            clear c1
            rintro e' w1 ⟨rfl, b1⟩
            have KC : Hid (Below W0.heap.size W0 w1) := KB.out.1.trans (b1.mono KB.out.1.size)
            clear b1 p0
            go_wp2
            obtain ⟨_, g1, g2, g3⟩ := KB.out
            have g4 := HLT.out
            refine ⟨⟨b, b + 1, rfl, by simp, by omega, by omega, KC.out, .inr ⟨by omega, by omega, by omega, ?_⟩, fun j h1 h2 h3 => ?_⟩, by simp [intOf]; omega⟩
            · rcases g1 with rfl | g1
              · exact g4
              · have := g1.2.2.2; omega
            · by_cases e : j = b
              · subst e; exact Int.le_refl _
              · have := g2 j h1 (by omega) h3; omega
          · have dl : decide (seK ys b < seK ys l) = false := by simpa using hlt
            rw [dl] at c1
            have HLT := hidOf hlt
            clear hlt dl
            go_wp2_with fail
            refine c1.mono ?_
            clear c1
            rintro e' w1 ⟨rfl, b1⟩
            have KC : Hid (Below W0.heap.size W0 w1) := KB.out.1.trans (b1.mono KB.out.1.size)
            clear b1 p0
            go_wp2
            obtain ⟨_, g1, g2, g3⟩ := KB.out
            have g4 := HLT.out
            refine ⟨⟨l, b + 1, rfl, by simp, by omega, by omega, KC.out, ?_, fun j h1 h2 h3 => ?_⟩, by simp [intOf]; omega⟩
            · rcases g1 with g1 | g1
              · exact .inl g1
              · exact .inr ⟨g1.1, by omega, g1.2.2.1, g1.2.2.2⟩
            · by_cases e : j = b
              · subst e; omega
              · exact g2 j h1 (by omega) h3
        · have dn : decide ((b : Int) < (xs.length : Int)) = false := by simp; omega
          have KB : Hid (Below W0.heap.size W0 wr ∧ (l = d ∨ (2 * d + 1 ≤ l ∧ l < b ∧ l < ys.length ∧ seK ys l < seK ys d)) ∧ (∀ j, 2 * d + 1 ≤ j → j < b → j < ys.length → seK ys l ≤ seK ys j) ∧ ys.length = xs.length) := ⟨hbl, hl1, hl2, hlen⟩
          clear hbl hl1 hl2 hlen
          go_wp2
          obtain ⟨g0, g1, g2, g3⟩ := KB.out
          refine ⟨⟨l, b + 1, rfl, by simp, by omega, by omega, g0, ?_, fun j h1 h2 h3 => ?_⟩, by simp [intOf]; omega⟩
          · rcases g1 with g1 | g1
            · exact .inl g1
            · exact .inr ⟨g1.1, by omega, g1.2.2.1, g1.2.2.2⟩
          · exact g2 j h1 (by omega) h3
      · have db : decide ((b : Int) ≤ 2 * (d : Int) + 2) = false := by simp; omega
        have KB : Hid (Below W0.heap.size W0 wr ∧ (l = d ∨ (2 * d + 1 ≤ l ∧ l ≤ 2 * d + 2 ∧ l < ys.length ∧ seK ys l < seK ys d)) ∧ (∀ j, 2 * d + 1 ≤ j → j ≤ 2 * d + 2 → j < ys.length → seK ys l ≤ seK ys j)) := ⟨hbl, by
          rcases hl1 with g | g
          · exact .inl g
          · exact .inr ⟨g.1, by omega, g.2.2.1, g.2.2.2⟩, fun j h1 h2 h3 => hl2 j h1 (by omega) h3⟩
        clear hl1 hl2 hbl hb1 hb2 hbe
        by_cases hld : l = d
        · have ql : ((l : Int) == (d : Int)) = true := by simp; omega
          have KE : Hid (HeapP.Hp (seK ys) ys.length) := KA.out.2.2.1.done (fun h1 => by have := KB.out.2.2 (2 * d + 1) (by omega) (by omega) h1; rwa [hld] at this) (fun h1 => by have := KB.out.2.2 (2 * d + 2) (by omega) (by omega) h1; rwa [hld] at this)
          have HD : Hid (d < xs.length ∨ d = 0) := hd
          clear hld hlen hd
          go_wp2
          obtain ⟨f1, f2, f3, f4, f5⟩ := KA.out
          have f6 := HD.out
          refine bodyPost_ret (v := .tuple #[]) (by simp [results, Try.results120, go_sem]) rfl ⟨rfl, n', ys, by omega, f1.later KB.out.1, f2, KE.out, f4.trans (KeptP.of_below KB.out.1)⟩
        · have ql : ((l : Int) == (d : Int)) = false := by simp; omega
          have hl3 : 2 * d + 1 ≤ l ∧ l ≤ 2 * d + 2 ∧ l < ys.length ∧ seK ys l < seK ys d := KB.out.2.1.resolve_left hld
          obtain ⟨x, hx⟩ : ∃ x, ys[d]? = some x := ⟨_, List.getElem?_eq_getElem (by omega)⟩
          obtain ⟨y, hy⟩ : ∃ y, ys[l]? = some y := ⟨_, List.getElem?_eq_getElem hl3.2.2.1⟩
          have c2 := seSwap_any wr base p q mb n' cap ys d l x y (KA.out.1.later KB.out.1) (by omega) (by omega) hx hy
          have KX : Hid (ys[d]? = some x ∧ ys[l]? = some y ∧ 2 * d + 1 ≤ l ∧ l ≤ 2 * d + 2 ∧ l < ys.length ∧ seK ys l < seK ys d) := ⟨hx, hy, hl3⟩
          clear hx hy hl3 hld hlen
          go_wp2_with fail
          refine c2.mono ?_
          clear c2
          rintro e' w2 ⟨rfl, p2, k2⟩
          have KE : Hid (Pis w2 base p q mb (n' + 1 + 1) cap ((ys.set d y).set l x) ∧ KeptP (OfP p q mb) w w2) := ⟨p2, (KA.out.2.2.2.1.trans (KeptP.of_below KB.out.1)).trans k2⟩
          clear p2 k2
          go_wp2
          obtain ⟨f1, f2, f3, f4, f5⟩ := KA.out
          obtain ⟨g1, g2, g3, g4, g5, g6⟩ := KX.out
          refine ⟨⟨l, n' + 1 + 1, (ys.set d y).set l x, rfl, .inl (by omega), by omega, by simpa using f5, KE.out.1, (HeapP.set_set_perm ys d l x y g1 g2).trans f2, ?_, KE.out.2⟩, by simp [intOf]; omega⟩
          have hst := f3.step (l := l) (by omega) g5 g6 (fun h1 => KB.out.2.2 _ (by omega) (by omega) h1) (fun h1 => KB.out.2.2 _ (by omega) (by omega) h1)
          have hfun : seK ((ys.set d y).set l x) = HeapP.swF (seK ys) d l := funext fun k => seK_swap g1 g2 k
          rw [hfun]
          simpa using hst
theorem SetAt.of_blk {W V : World} {b o : Nat} {s : S5} (h : SetAt W b o s) (e : V.heap[b]? = W.heap[b]?) : SetAt V b o s :=
  ⟨(World.cell?_of_block (a := ⟨b, o, none⟩) e).trans h.c0, (World.cell?_of_block (a := ⟨b, o + 1, none⟩) e).trans h.c1, (World.cell?_of_block (a := ⟨b, o + 2, none⟩) e).trans h.c2, (World.cell?_of_block (a := ⟨b, o + 3, none⟩) e).trans h.c3, (World.cell?_of_block (a := ⟨b, o + 4, none⟩) e).trans h.c4⟩
theorem Pis.trunc {W : World} {base p q mb n cap : Nat} {xs : List S5} (h : Pis W base p q mb n cap xs) (m : Nat) (hm : m ≤ xs.length) : Pis (W.setCell ⟨p, 0, none⟩ (.slice (some ⟨q, 0, none⟩) m cap)) base p q mb n cap (xs.take m) := by
  have hlm : (xs.take m).length = m := by rw [List.length_take]; omega
  have hq : (W.setCell ⟨p, 0, none⟩ (.slice (some ⟨q, 0, none⟩) m cap)).heap[q]? = W.heap[q]? := Below.heap_setCell _ _ _ _ (fun e => h.pq e.symm)
  refine ⟨by rw [hlm]; exact cell_set_same h.c0, (cell_set_other (by omega)).trans h.c1, fun j => by rw [World.frozen?_setCell]; exact h.fz j, fun i s e => ?_, fun j hj => ?_, by have := h.cp; omega, h.mp.of_block (Below.heap_setCell _ _ _ _ (fun e => h.pm e.symm)), fun s hs => h.ok s (List.mem_of_mem_take hs), h.pq, h.pm, h.qm, h.bp, h.bq, h.bm, by simpa [World.setCell] using h.lp, by simpa [World.setCell] using h.lq⟩
  · rw [List.getElem?_take] at e
    split at e
    · exact (h.at_.of_block hq) i s e
    · cases e
  · exact (h.rm.of_block hq) j (by rw [hlm] at hj; have : m * 5 ≤ xs.length * 5 := Nat.mul_le_mul_right 5 hm; omega)
theorem seLast {xs : List S5} {m : Nat} {x y : S5} (hl : xs.length = m + 1) (hx : xs[0]? = some x) (hy : xs[m]? = some y) : ((xs.set 0 y).set m x)[m]? = some x ∧ xs.Perm (x :: ((xs.set 0 y).set m x).take m) := by
  have h1 : ((xs.set 0 y).set m x)[m]? = some x := by rw [List.getElem?_set_self (by simp; omega)]
  have h2 := HeapP.set_set_perm xs 0 m x y hx hy
  have hlz : ((xs.set 0 y).set m x).length = m + 1 := by simpa using hl
  refine ⟨h1, h2.symm.trans ?_⟩
  generalize (xs.set 0 y).set m x = zs at *
  have h3 : zs = zs.take m ++ [x] := by
    have e : zs.take (m + 1) = zs := List.take_of_length_le (by omega)
    have := List.take_add_one (l := zs) (i := m)
    rw [h1, e] at this
    simpa using this
  exact (List.Perm.of_eq h3).trans List.perm_append_comm
set_option maxRecDepth 100000 in
set_option maxHeartbeats 8000000 in
theorem seTake_any (w : World) (base p q mb n cap m : Nat) (xs : List S5) (x : S5) (h : Pis w base p q mb n cap xs) (hn : n ≤ 9000) (hl : xs.length = m + 1) (hl2 : m ≤ 100) (hx : xs[0]? = some x) (hu : HeapP.Hp (seK xs) xs.length) :
    Calls Try.prog 102 #[.pointer (some ⟨p, 0, none⟩)] w fun e w' => e = .returned (.agg #[.int .i64 x.region, .int .i64 x.slot, .int .i64 x.value, .bool x.used, .int .i64 x.version]) ∧ ∃ n' ys, n' ≤ n + 2 + 2 * m ∧ Pis w' base p q mb n' cap ys ∧ xs.Perm (x :: ys) ∧ HeapP.Hp (seK ys) ys.length ∧ KeptP (OfP p q mb) w w' := by
  obtain ⟨y, hy⟩ : ∃ y, xs[m]? = some y := ⟨_, List.getElem?_eq_getElem (by omega)⟩
  obtain ⟨W0, hW0⟩ : ∃ W, W = w.alloc (.cells #[.int .i64 0, .int .i64 0, .int .i64 0, .bool false, .int .i64 0] 36) := ⟨_, rfl⟩
  have b0 : Below w.heap.size w W0 := by rw [hW0]; exact (Below.refl _ _).alloc (Nat.le_refl _) _
  have h0 := h.later b0
  have zr : W0.heap[w.heap.size]? = some (.cells #[.int .i64 0, .int .i64 0, .int .i64 0, .bool false, .int .i64 0] 36 (0, 0)) := by rw [hW0]; exact heap_alloc_new w _
  have p0 := h0.c0
  rw [hl, hW0] at p0
  have hgs : IntKind.i64.wrap (((m + 1 : Nat) : Int) - 1) = (m : Int) := by simp [IntKind.wrap, IntKind.bits, IntKind.signed]; omega
  have c1 := seSwap_any W0 base p q mb n cap xs 0 m x y h0 (by omega) (by omega) hx hy
  obtain ⟨hz1, hz2⟩ := seLast hl hx hy
  have hdn : HeapP.HpDn (seK (((xs.set 0 y).set m x).take m)) m 0 := by
    rw [hl] at hu
    have hd := HeapP.HpDn.of_top hu
    have hfun : seK ((xs.set 0 y).set m x) = HeapP.swF (seK xs) 0 m := funext fun k => seK_swap hx hy k
    rw [← hfun] at hd
    refine hd.congr (fun i hi => ?_)
    unfold seK atSe
    rw [List.getElem?_take, if_pos hi]
  have H : Hid (Below w.heap.size w W0 ∧ w.heap.size < W0.heap.size ∧ W0.heap[w.heap.size]? = some (.cells #[.int .i64 0, .int .i64 0, .int .i64 0, .bool false, .int .i64 0] 36 (0, 0)) ∧ ((xs.set 0 y).set m x)[m]? = some x ∧ xs.Perm (x :: ((xs.set 0 y).set m x).take m) ∧ HeapP.HpDn (seK (((xs.set 0 y).set m x).take m)) m 0 ∧ setOkB x = true ∧ p ≠ w.heap.size ∧ q ≠ w.heap.size ∧ mb ≠ w.heap.size) := ⟨b0, by rw [hW0]; simp, zr, hz1, hz2, hdn, h.ok x (List.mem_of_getElem? hx), by have := h.lp; omega, by have := h.lq; omega, by have := h.mp.lt; omega⟩
  have hzl : ((xs.set 0 y).set m x).length = m + 1 := by simpa using hl
  clear h h0 b0 zr hz1 hz2 hdn hu hx hy
  generalize (xs.set 0 y).set m x = zs at *
  go_enter Try.func102, Try.ntmps102
  go_wp2_with fail
  rw [← hW0]
  clear hW0
  refine c1.mono ?_
  clear c1 p0
  rintro e w1 ⟨rfl, p1, k1⟩
  have e0 := p1.c0
  rw [hzl] at e0
  obtain ⟨t0, t1, t2, t3, t4⟩ := (show SetAt w1 q (m * 5) x by simpa using p1.at_ m x H.out.2.2.2.1)
  have mx : (m : Int) < ((m + 1 : Nat) : Int) := by omega
  obtain ⟨W1, hW1⟩ : ∃ W, W = w1.alloc (.cells #[.int .i64 x.region, .int .i64 x.slot, .int .i64 x.value, .bool x.used, .int .i64 x.version] 36) := ⟨_, rfl⟩
  have b1 : Below w1.heap.size w1 W1 := by rw [hW1]; exact (Below.refl _ _).alloc (Nat.le_refl _) _
  have z1 : W1.heap.size = w1.heap.size + 1 := by rw [hW1]; simp
  have e1 : W1.cell? ⟨p, 0, none⟩ = some (.slice (some ⟨q, 0, none⟩) (m + 1) cap) := (b1.cell (p := ⟨p, 0, none⟩) p1.lp).trans e0
  have f1 := (p1.later b1).fz 0
  have hcap := p1.cp
  rw [hzl] at hcap
  have bx1 : SetAt W1 w1.heap.size 0 x := by rw [hW1]; exact SetAt.box w1 x _
  have pt := (p1.later b1).trunc m (by omega)
  obtain ⟨W2, hW2⟩ : ∃ W, W = W1.setCell ⟨p, 0, none⟩ (.slice (some ⟨q, 0, none⟩) m cap) := ⟨_, rfl⟩
  rw [← hW2] at pt
  have hpw : p ≠ w1.heap.size := by have := p1.lp; omega
  have bx2 : SetAt W2 w1.heap.size 0 x := by
    rw [hW2]
    exact SetAt.of_blk bx1 (Below.heap_setCell _ _ _ _ (fun e => hpw e.symm))
  have K2 : Hid (Pis W2 base p q mb (n + 1 + 1) cap (zs.take m) ∧ SetAt W2 w1.heap.size 0 x ∧ KeptP (OfP p q mb) w W2 ∧ w1.heap.size < W2.heap.size ∧ W2.heap[w.heap.size]? = some (.cells #[.int .i64 0, .int .i64 0, .int .i64 0, .bool false, .int .i64 0] 36 (0, 0)) ∧ w.heap.size < w1.heap.size ∧ p ≠ w1.heap.size ∧ q ≠ w1.heap.size ∧ mb ≠ w1.heap.size) := by
    have kk : KeptP (OfP p q mb) w1 W2 := by
      rw [hW2]
      exact (KeptP.of_below b1).trans (KeptP.of_set _ _ (.inl rfl))
    have hnw : ¬ OfP p q mb w.heap.size := by
      rintro (e | e | e)
      · exact H.out.2.2.2.2.2.2.2.1 e.symm
      · exact H.out.2.2.2.2.2.2.2.2.1 e.symm
      · exact H.out.2.2.2.2.2.2.2.2.2 e.symm
    have k02 := k1.trans kk
    exact ⟨pt, bx2, (KeptP.of_below H.out.1).trans k02, by rw [hW2]; simp [World.setCell, z1], (k02.block _ H.out.2.1 hnw).trans H.out.2.2.1, Nat.lt_of_lt_of_le H.out.2.1 k1.size, hpw, by have := p1.lq; omega, by have := p1.mp.lt; omega⟩
  clear p1 k1 b1 z1 bx1 bx2 pt hpw
  rw [hW1] at hW2 e1 f1
  have hmc : (m : Int) ≤ (cap : Int) := by omega
  go_upto_region 5 with fail
  rw [← hW2]
  clear hW2 hW1 e0 e1 f1 t0 t1 t2 t3 t4 W1
  have hk := seOk_in H.out.2.2.2.2.2.2.1
  obtain ⟨lb, hlb⟩ : ∃ lb, lb = w1.heap.size := ⟨_, rfl⟩
  rw [← hlb] at K2 ⊢
  have HLB : Hid (lb = w1.heap.size) := hlb
  clear hlb
  have hS : (fun X : World => X.cell? ⟨p, 1, none⟩ = some (.map (some mb)) ∧ SetAt X lb 0 x) W2.drew := ⟨K2.out.1.c1, K2.out.2.1.below ((Below.refl W2.heap.size W2).drew) K2.out.2.2.2.1⟩
  have hm : ∀ w : World, (method 247 36 (.agg #[.int .i64 x.region, .int .i64 x.slot, .int .i64 x.value, .bool x.used, .int .i64 x.version]) "loop.example/g00153/impl.cell").run Try.prog w = .ok (57, .agg #[.int .i64 x.region, .int .i64 x.slot, .int .i64 x.value, .bool x.used, .int .i64 x.version]) w := fun _ => by kernel_rfl
  refine wp_region_z (fun _ => false) (fun X : World => X.cell? ⟨p, 1, none⟩ = some (.map (some mb)) ∧ SetAt X lb 0 x) (by kernel_rfl) ?_
  have KD : Hid (Below W2.heap.size W2 W2.drew) := (Below.refl _ _).drew
  generalize W2.drew = Wd at *
  refine wpZ_takeP (i := 0) (v := ?_) rfl (by kernel_rfl) (fun _ _ _ h => h) (Or.inl ⟨by rfl, ?_⟩) hS ?_
  rotate_left
  · (intro w _; go_simp; first | done | with_reducible rfl | (rw [if_pos (by omega)]) | (rw [if_pos (by omega)]; go_simp))
  simp only [Act.put]
  refine wpZ_takeP (i := 1) (v := ?_) rfl (by kernel_rfl) (fun _ _ _ h => h) (Or.inl ⟨by rfl, ?_⟩) hS ?_
  rotate_left
  · (intro w _; go_simp; first | done | with_reducible rfl | (rw [if_pos (by omega)]) | (rw [if_pos (by omega)]; go_simp))
  simp only [Act.put]
  refine wpZ_takeP (i := 2) (v := ?_) rfl (by kernel_rfl) (fun _ _ _ h => h) (Or.inl ⟨by rfl, ?_⟩) hS ?_
  rotate_left
  · (intro w _; go_simp; first | done | with_reducible rfl | (rw [if_pos (by omega)]) | (rw [if_pos (by omega)]; go_simp))
  simp only [Act.put]
  refine wpZ_take (i := 3) (v := ?_) rfl (by kernel_rfl) (fun _ _ _ h => h) (Or.inl ⟨by rfl, ?_⟩) hS ?_
  rotate_left
  · (intro w hSw; obtain ⟨s1, ⟨a0, a1, a2, a3, a4⟩⟩ := hSw; go_simp; first | done | with_reducible rfl)
  simp only [Act.put]
  refine wpZ_take (i := 4) (v := ?_) rfl (by kernel_rfl) (fun _ _ _ h => h) (Or.inl ⟨by rfl, ?_⟩) hS ?_
  rotate_left
  · (intro w hSw; obtain ⟨s1, ⟨a0, a1, a2, a3, a4⟩⟩ := hSw; go_simp; first | done | with_reducible rfl)
  simp only [Act.put]
  refine wpZ_takeP (i := 5) (v := ?_) rfl (by kernel_rfl) (fun _ _ _ h => h) (Or.inl ⟨by rfl, ?_⟩) hS ?_
  rotate_left
  · (intro w _; go_simp; first | done | with_reducible rfl | (rw [if_pos (by omega)]) | (rw [if_pos (by omega)]; go_simp))
  simp only [Act.put]
  refine wpZ_ready (rs := [6]) (by kernel_rfl) (by simp) ?_
  refine AllZ.cons rfl (fun K hK => ?_) AllZ.nil
  go_simp
  refine (seCell_any Wd x).mono ?_
  rintro e X2 ⟨rfl, b2⟩
  have bX : Below W2.heap.size W2 X2 := KD.out.trans (b2.mono KD.out.size)
  have P2 := K2.out.1.later bX
  obtain ⟨Y, hst, hmY, htY, hsY⟩ := P2.mp.drop hk.1 hk.2 0
  have P3 := P2.turnM htY hmY hsY
  have hS2 : (fun X : World => X.cell? ⟨p, 1, none⟩ = some (.map (some mb)) ∧ SetAt X lb 0 x) X2 := ⟨P2.c1, K2.out.2.1.below bX K2.out.2.2.2.1⟩
  have K3 : Hid (Pis Y base p q mb (n + 1 + 1) cap (zs.take m) ∧ SetAt Y lb 0 x ∧ KeptP (OfP p q mb) w Y ∧ lb < Y.heap.size ∧ Y.heap[w.heap.size]? = some (.cells #[.int .i64 0, .int .i64 0, .int .i64 0, .bool false, .int .i64 0] 36 (0, 0)) ∧ w.heap.size < lb ∧ p ≠ lb ∧ q ≠ lb ∧ mb ≠ lb) := by
    obtain ⟨_, g1, g2, g3, g4, g5, g6, g7, g8⟩ := K2.out
    have hbx := bX.size
    refine ⟨P3, SetAt.of_blk (hS2.2) (htY.block lb (by omega) (Ne.symm g8)), (g2.trans (KeptP.of_below bX)).trans (KeptP.of_turned htY (.inr (.inr rfl))), by rw [hsY]; omega, ?_, g5, g6, g7, g8⟩
    exact (htY.block _ (by omega) (fun e => H.out.2.2.2.2.2.2.2.2.2 e.symm)).trans ((bX.block _ (by omega)).trans g4)
  simp only [cKey] at hst
  refine hK.out _ _ (fun _ => hS2) ?_
  have hS3 : (fun X : World => X.cell? ⟨p, 1, none⟩ = some (.map (some mb)) ∧ SetAt X lb 0 x) Y := ⟨K3.out.1.c1, K3.out.2.1⟩
  clear hK K hS2 hS P2 P3 bX KD hmY htY hsY hm hk b2 K2
  refine wpZ_ready (rs := [7]) (by kernel_rfl) (by simp) ?_
  refine AllZ.cons rfl (fun K hK => ?_) AllZ.nil
  go_simp
  refine hK.out _ _ (fun _ => hS3) ?_
  clear hK K hst hS3
  refine wpZ_done (by kernel_rfl) ?_ _
  have hlt : (zs.take m).length = m := by rw [List.length_take]; omega
  have c3 := seSink_any Y base p q mb (n + 1 + 1) cap (zs.take m) K3.out.1 (by omega) (by omega) (by rw [hlt]; exact H.out.2.2.2.2.2.1)
  rw [hlt] at c3
  have HLT := hidOf hlt
  clear hlt
  go_wp2_with fail
  refine c3.mono ?_
  clear c3
  rintro e w5 ⟨rfl, n5, ys, hn5, p5, pm5, hp5, k5⟩
  have nOf : ∀ b, b ≠ p → b ≠ q → b ≠ mb → ¬ OfP p q mb b := fun b h1 h2 h3 h => by rcases h with h | h | h; exact h1 h; exact h2 h; exact h3 h
  obtain ⟨_, g1, g2, g3, g4, g5, g6, g7, g8⟩ := K3.out
  obtain ⟨t0, t1, t2, t3, t4⟩ := SetAt.of_blk g1 (k5.block lb g3 (nOf lb (Ne.symm g6) (Ne.symm g7) (Ne.symm g8)))
  have zr5 := (k5.block w.heap.size (by omega) (nOf _ (Ne.symm H.out.2.2.2.2.2.2.2.1) (Ne.symm H.out.2.2.2.2.2.2.2.2.1) (Ne.symm H.out.2.2.2.2.2.2.2.2.2))).trans g4
  have r0 : w5.cell? ⟨w.heap.size, 0, none⟩ = some (.int .i64 0) := by rw [cell_of_row w5 _ 0 _ _ _ zr5]; rfl
  have r1 : w5.cell? ⟨w.heap.size, 1, none⟩ = some (.int .i64 0) := by rw [cell_of_row w5 _ 1 _ _ _ zr5]; rfl
  have r2 : w5.cell? ⟨w.heap.size, 2, none⟩ = some (.int .i64 0) := by rw [cell_of_row w5 _ 2 _ _ _ zr5]; rfl
  have r3 : w5.cell? ⟨w.heap.size, 3, none⟩ = some (.bool false) := by rw [cell_of_row w5 _ 3 _ _ _ zr5]; rfl
  have r4 : w5.cell? ⟨w.heap.size, 4, none⟩ = some (.int .i64 0) := by rw [cell_of_row w5 _ 4 _ _ _ zr5]; rfl
  have q0 : w5.frozen? ⟨w.heap.size, 0, none⟩ = false := frozen_of_row w5 _ 0 _ _ zr5
  have q1 : w5.frozen? ⟨w.heap.size, 1, none⟩ = false := frozen_of_row w5 _ 1 _ _ zr5
  have q2 : w5.frozen? ⟨w.heap.size, 2, none⟩ = false := frozen_of_row w5 _ 2 _ _ zr5
  have q3 : w5.frozen? ⟨w.heap.size, 3, none⟩ = false := frozen_of_row w5 _ 3 _ _ zr5
  have q4 : w5.frozen? ⟨w.heap.size, 4, none⟩ = false := frozen_of_row w5 _ 4 _ _ zr5
  have KE : Hid (n5 ≤ n + 2 + 2 * m ∧ Pis w5 base p q mb n5 cap ys ∧ xs.Perm (x :: ys) ∧ HeapP.Hp (seK ys) ys.length ∧ KeptP (OfP p q mb) w w5) := ⟨by omega, p5, H.out.2.2.2.2.1.trans (List.Perm.cons x pm5.symm), hp5, g2.trans k5⟩
  have HP : Hid (p ≠ w.heap.size ∧ q ≠ w.heap.size ∧ mb ≠ w.heap.size) := H.out.2.2.2.2.2.2.2
  simp only [Nat.zero_add] at t0 t1 t2 t3 t4
  clear g1 g2 g3 g4 g5 g6 g7 g8 zr5 nOf p5 pm5 hp5 k5 hn5 H K3 hzl HLT hcap
  go_wp2
  refine bodyPost_ret (v := .agg #[.int .i64 x.region, .int .i64 x.slot, .int .i64 x.value, .bool x.used, .int .i64 x.version]) (by simp [results, Try.results102, go_sem, r0, r1, r2, r3, r4]) rfl ⟨rfl, n5, ys, KE.out.1, ?_, KE.out.2.2.1, KE.out.2.2.2.1, ?_⟩
  · refine KE.out.2.1.keep (by simp [World.setCell]) (fun b hb => ?_)
    have hbn : b ≠ w.heap.size := by
      rcases hb with rfl | rfl | rfl
      · exact HP.out.1
      · exact HP.out.2.1
      · exact HP.out.2.2
    exact (Below.heap_setCell _ _ _ _ hbn).trans ((Below.heap_setCell _ _ _ _ hbn).trans ((Below.heap_setCell _ _ _ _ hbn).trans ((Below.heap_setCell _ _ _ _ hbn).trans (Below.heap_setCell _ _ _ _ hbn))))
  · have kk := KE.out.2.2.2.2
    refine ⟨kk.os, kk.tape, kk.output, by simpa [World.setCell] using kk.size, fun b hb hnb => ?_⟩
    have hbn : b ≠ w.heap.size := by omega
    exact ((Below.heap_setCell _ _ _ _ hbn).trans ((Below.heap_setCell _ _ _ _ hbn).trans ((Below.heap_setCell _ _ _ _ hbn).trans ((Below.heap_setCell _ _ _ _ hbn).trans (Below.heap_setCell _ _ _ _ hbn))))).trans (kk.block b hb hnb)
def seR (s : S5) : Int := rk s.region s.slot
def seLen : Value → Nat
  | .slice _ n _ => n
  | _ => 0
theorem seK_R {xs : List S5} {i : Nat} {x : S5} (h : xs[i]? = some x) : seK xs i = seR x := seK_at h
theorem seTop {ys : List S5} {x : S5} (h : HeapP.Hp (seK ys) ys.length) (hx : ys[0]? = some x) : ∀ b ∈ ys, seR x ≤ seR b := fun b hb => by
  obtain ⟨i, hi, rfl⟩ := List.getElem_of_mem hb
  have := h.top i hi
  rwa [seK_R hx, seK_R (List.getElem?_eq_getElem hi)] at this
set_option maxHeartbeats 8000000 in
theorem seInOrder_any (w : World) (base p q mb n cap : Nat) (xs : List S5) (h : Pis w base p q mb n cap xs) (hn : n ≤ 5000) (hl : xs.length ≤ 13) (hu : HeapP.Hp (seK xs) xs.length) (hd : xs.Pairwise (fun a b => seR a ≠ seR b)) :
    Calls Try.prog 60 #[.pointer (some ⟨p, 0, none⟩)] w fun e w' => ∃ v out, e = .returned v ∧ RowS w' w.heap.size v out ∧ out.Perm xs ∧ out.Pairwise (fun a b => seR a < seR b) ∧ KeptP (OfP p q mb) w w' := by
  have hlow : p < w.heap.size ∧ q < w.heap.size ∧ mb < w.heap.size := ⟨h.lp, h.lq, h.mp.lt⟩
  have H : Hid (Pis w base p q mb n cap xs ∧ HeapP.Hp (seK xs) xs.length ∧ xs.Pairwise (fun a b => seR a ≠ seR b) ∧ p < w.heap.size ∧ q < w.heap.size ∧ mb < w.heap.size) := ⟨h, hu, hd, hlow⟩
  clear h hu hd hlow
  go_enter Try.func60, Try.ntmps60
  go_wp2
  go_loopw [3] (fun v wr => ∃ (n' : Nat) (ys out : List S5), RowS wr w.heap.size v out ∧ Pis wr base p q mb n' cap ys ∧ HeapP.Hp (seK ys) ys.length ∧ (out ++ ys).Perm xs ∧ out.Pairwise (fun a b => seR a < seR b) ∧ (∀ a ∈ out, ∀ b ∈ ys, seR a < seR b) ∧ n' + 60 * ys.length ≤ n + 60 * xs.length ∧ KeptP (OfP p q mb) w wr) (fun v _ => 100 - seLen v)
  case atStart => exact ⟨n, xs, [], RowS.nil _ _, H.out.1, H.out.2.1, by simp, by simp, by simp, Nat.le_refl _, KeptP.refl _ _⟩
  case round =>
    obtain ⟨n', ys, out, hrow, hp, hu, hpm, hso, hlt, hnn, hk⟩ := hrel
    obtain ⟨a3, k3, rfl, -⟩ := hrow.form
    have hlen : out.length + ys.length = xs.length := by have := hpm.length_eq; simpa using this
    have p0 := hp.c0
    cases hys : ys with
    | nil =>
      subst hys
      have KE : Hid (RowS wr w.heap.size (.slice a3 out.length k3) out ∧ out.Perm xs ∧ out.Pairwise (fun a b => seR a < seR b) ∧ KeptP (OfP p q mb) w wr) := ⟨hrow, by simpa using hpm, hso, hk⟩
      simp only [List.length_nil] at p0
      clear hrow hp hu hpm hso hlt hk hlen hnn
      go_wp2
      go_ret
      exact ⟨_, out, rfl, KE.out.1, KE.out.2.1, KE.out.2.2.1, KE.out.2.2.2⟩
    | cons x r =>
      have hx : ys[0]? = some x := by rw [hys]; rfl
      have hyl : ys.length = r.length + 1 := by rw [hys]; rfl
      have c1 := seTake_any wr base p q mb n' cap r.length ys x hp (by omega) hyl (by omega) hx hu
      rw [hyl] at p0
      have d0 : decide ((0 : Int) < ((r.length + 1 : Nat) : Int)) = true := by simp
      have hdist : (out ++ ys).Pairwise (fun a b => seR a ≠ seR b) := (hpm.symm.pairwise_iff (fun {a b} (h : seR a ≠ seR b) => h.symm)).1 H.out.2.2.1
      have KA : Hid (RowS wr w.heap.size (.slice a3 out.length k3) out ∧ (out ++ ys).Perm xs ∧ out.Pairwise (fun a b => seR a < seR b) ∧ (∀ a ∈ out, ∀ b ∈ ys, seR a < seR b) ∧ KeptP (OfP p q mb) w wr ∧ (∀ b ∈ ys, seR x ≤ seR b) ∧ x ∈ ys ∧ (out ++ ys).Pairwise (fun a b => seR a ≠ seR b) ∧ ys.length = r.length + 1) := ⟨hrow, hpm, hso, hlt, hk, seTop hu hx, List.mem_of_getElem? hx, hdist, hyl⟩
      clear hrow hp hu hpm hso hlt hk hx hdist hys
      go_wp2_with fail
      refine c1.mono ?_
      clear c1 p0
      rintro e w1 ⟨rfl, n1, zs, hn1, p1, pm1, hp1, k1⟩
      obtain ⟨g1, g2, g3, g4, g5, g6, g7, g8, g9⟩ := KA.out
      have hnot : ∀ b, w.heap.size ≤ b → ¬ OfP p q mb b := fun b hb h => by
        obtain ⟨_, _, _, l1, l2, l3⟩ := H.out
        rcases h with h | h | h <;> omega
      have row1 : RowS w1 w.heap.size (.slice a3 out.length k3) out := g1.keep (fun b hb hlt _ => k1.block b hlt (hnot b hb))
      obtain ⟨V, hV⟩ : ∃ V, V = w1.alloc (.cells #[.int .i64 x.region, .int .i64 x.slot, .int .i64 x.value, .bool x.used, .int .i64 x.version] 36) := ⟨_, rfl⟩
      have bV : Below w1.heap.size w1 V := by rw [hV]; exact (Below.refl _ _).alloc (Nat.le_refl _) _
      have hone : SetsAt V w1.heap.size 0 [x] := by rw [hV]; exact (SetAt.box w1 _ _).one
      have hws : w.heap.size ≤ w1.heap.size := Nat.le_trans g5.size k1.size
      obtain ⟨v', Y, hr, hrow', hgr, hlies⟩ := pushSe (row1.later bV) [x] (by simp; omega) 25 w1.heap.size 0 1 hone (by have := bV.size; omega)
      have hzl : zs.length = r.length := by have := pm1.length_eq; simp at this; omega
      have hxz : ∀ b ∈ zs, seR x < seR b := fun b hb => by
        have h1 := g6 b (pm1.mem_iff.2 (by simp [hb]))
        have h2 : (x :: zs).Pairwise (fun a b => seR a ≠ seR b) := (pm1.pairwise_iff (fun {a b} (h : seR a ≠ seR b) => h.symm)).1 ((List.pairwise_append.1 g8).2.1)
        have h3 := (List.pairwise_cons.1 h2).1 b hb
        omega
      have kY : KeptP (OfP p q mb) w Y := by
        have k0 : KeptP (OfP p q mb) w V := (g5.trans k1).trans (KeptP.of_below bV)
        exact ⟨hgr.os.trans k0.os, hgr.tape.trans k0.tape, hgr.output.trans k0.output, Nat.le_trans k0.size hgr.size, fun b hb hnb => (hgr.block b (Nat.lt_of_lt_of_le hb k0.size) (fun e => by have := (row1.lt e.symm).1; omega)).trans (k0.block b hb hnb)⟩
      have KE : Hid (RowS Y w.heap.size v' (out ++ [x]) ∧ Pis Y base p q mb n1 cap zs ∧ HeapP.Hp (seK zs) zs.length ∧ ((out ++ [x]) ++ zs).Perm xs ∧ (out ++ [x]).Pairwise (fun a b => seR a < seR b) ∧ (∀ a ∈ out ++ [x], ∀ b ∈ zs, seR a < seR b) ∧ n1 + 60 * zs.length ≤ n + 60 * xs.length ∧ KeptP (OfP p q mb) w Y) := by
        refine ⟨hrow', ?_, hp1, ?_, ?_, ?_, by omega, kY⟩
        · refine (p1.later bV).keep hgr.size (fun b hb => hgr.block b ?_ (fun e => ?_))
          · have := bV.size
            rcases hb with rfl | rfl | rfl
            · have := p1.lp; omega
            · have := p1.lq; omega
            · have := p1.mp.lt; omega
          · exact hnot b (row1.lt e.symm).1 hb
        · rw [List.append_assoc]
          exact ((List.Perm.refl out).append (pm1.symm : (x :: zs).Perm ys)).trans g2
        · rw [List.pairwise_append]
          exact ⟨g3, by simp, fun a ha b hb => by simp at hb; subst hb; exact g4 a ha b g7⟩
        · intro a ha b hb
          rcases List.mem_append.1 ha with ha | ha
          · exact g4 a ha b (pm1.mem_iff.2 (by simp [hb]))
          · simp at ha; subst ha; exact hxz b hb
      have HL : Hid (out.length < 13 ∧ ∃ a c, v' = .slice a (out ++ [x]).length c) := ⟨by omega, by obtain ⟨a, c, e, _⟩ := hrow'.form; exact ⟨a, c, e⟩⟩
      rw [hV] at hr
      clear hV bV hone hrow' hgr hlies row1 hnot hzl hxz kY g1 g2 g3 g4 g5 g6 g7 g8 g9 p1 pm1 hp1 k1 hws
      simp only [List.length_cons, List.length_nil, Nat.zero_add] at hr
      go_wp2_with (at_builtin; refine append_known _ rfl (.tmp 10) (.tmp 13) 25 rfl _ _ _ _ rfl rfl hr ?_)
      obtain ⟨g1, a, c, rfl⟩ := HL.out
      exact ⟨⟨n1, zs, out ++ [x], KE.out⟩, by simp [seLen]; omega⟩
end Go.Proofs.Ytiidlcjjaglkdaa
namespace Go.Proofs.Ytiidlcjjaglkdaa
open Go.RowKit
open Go.Sort (grow)
def seW (xs : List S5) (r s : Int) : Option Nat := xs.findIdx? fun x => decide (x.region = r) && decide (x.slot = s)
theorem seW_snoc {xs : List S5} {x : S5} (h : seW xs x.region x.slot = none) : seW (xs ++ [x]) = putF (seW xs) x.region x.slot xs.length := by
  funext r s
  unfold seW putF
  rw [List.findIdx?_append]
  by_cases e : r = x.region ∧ s = x.slot
  · obtain ⟨rfl, rfl⟩ := e
    unfold seW at h
    rw [h]
    simp [List.findIdx?_cons]
  · rw [if_neg e]
    have : [x].findIdx? (fun x => decide (x.region = r) && decide (x.slot = s)) = none := by
      simp [List.findIdx?_cons]
      intro h1 h2
      exact e ⟨h1.symm, h2.symm⟩
    rw [this]
    simp
theorem seW_none {xs : List S5} {r s : Int} : seW xs r s = none ↔ ∀ x ∈ xs, ¬ (x.region = r ∧ x.slot = s) := by
  unfold seW
  rw [List.findIdx?_eq_none_iff]
  constructor
  · intro h x hx e; have := h x hx; simp [e.1, e.2] at this
  · intro h x hx
    have := h x hx
    simp only [Bool.and_eq_false_iff, decide_eq_false_iff_not]
    by_cases e : x.region = r
    · exact .inr (fun e' => this ⟨e, e'⟩)
    · exact .inl e
structure PisB (W : World) (base p mb n : Nat) (v : Value) (xs : List S5) : Prop where
  c0 : W.cell? ⟨p, 0, none⟩ = some v
  c1 : W.cell? ⟨p, 1, none⟩ = some (.map (some mb))
  fz : ∀ j, W.frozen? ⟨p, j, none⟩ = false
  row : RowS W base v xs
  mp : MapF W mb n (seW xs)
  ok : ∀ s ∈ xs, setOkB s = true
  vp : v.ownBlock ≠ some p
  vm : v.ownBlock ≠ some mb
  pm : p ≠ mb
  bp : base ≤ p
  bm : base ≤ mb
  lp : p < W.heap.size
theorem PisB.later {W V : World} {base p mb n : Nat} {v : Value} {xs : List S5} (h : PisB W base p mb n v xs) (hb : Below W.heap.size W V) : PisB V base p mb n v xs :=
  ⟨(hb.cell (p := ⟨p, 0, none⟩) h.lp).trans h.c0, (hb.cell (p := ⟨p, 1, none⟩) h.lp).trans h.c1, fun j => (hb.frozen (p := ⟨p, j, none⟩) h.lp).trans (h.fz j), h.row.later hb, h.mp.later hb, h.ok, h.vp, h.vm, h.pm, h.bp, h.bm, Nat.lt_of_lt_of_le h.lp hb.size⟩
theorem PisB.pil {W : World} {base p mb n : Nat} {v : Value} {xs : List S5} (h : PisB W base p mb n v xs) (hx : xs ≠ []) : ∃ q cap, v = .slice (some ⟨q, 0, none⟩) xs.length cap ∧ Pis W base p q mb n cap xs := by
  obtain ⟨a, c, e, ho⟩ := h.row.form
  rcases ho with ho | ⟨q, rfl, hq, hl, ha, hr⟩
  · exact absurd ho hx
  · refine ⟨q, c, e, ⟨by rw [← e]; exact h.c0, h.c1, h.fz, ha, hr, ?_, h.mp.any, h.ok, fun e' => h.vp (by rw [hq, e']), h.pm, fun e' => h.vm (by rw [hq, e']), h.bp, (h.row.lt hq).1, h.bm, h.lp, hl⟩⟩
    rcases h.row.2 with ⟨h0, _⟩ | ⟨q', cap', cur, h0, _, _, hc, _⟩
    · rw [h0] at e; cases e
    · rw [h0] at e; cases e; exact hc
set_option maxHeartbeats 4000000 in
theorem seLiftStay (w : World) (base p q mb n cap : Nat) (xs : List S5) (c : Nat) (h : Pis w base p q mb n cap xs) (hl : xs.length ≤ 1000) (hc : c < xs.length) (hs : c = 0 ∨ seK xs ((c - 1) / 2) ≤ seK xs c) :
    Calls Try.prog 101 #[.pointer (some ⟨p, 0, none⟩), .int .i64 (c : Int)] w fun e w' => e = .returned (.tuple #[]) ∧ Below w.heap.size w w' := by
  have H := hidOf h
  clear h
  go_enter Try.func101, Try.ntmps101
  go_wp2
  go_loopw [1] (fun v wr => v = .int .i64 (c : Int) ∧ wr = w) (fun _ _ => 0)
  case atStart => exact ⟨rfl, rfl⟩
  case round =>
    obtain ⟨rfl, rfl⟩ := hrel
    rcases c with _ | e
    · have d0 : decide ((0 : Int) < ((0 : Nat) : Int)) = false := by simp
      go_wp2
      refine bodyPost_end (v := .tuple #[]) (by simp [results, Try.results101, go_sem]) rfl ⟨rfl, Below.refl _ _⟩
    · have d0 : decide ((0 : Int) < ((e + 1 : Nat) : Int)) = true := by simp
      obtain ⟨x, hx⟩ : ∃ x, xs[e + 1]? = some x := ⟨_, List.getElem?_eq_getElem (by omega)⟩
      obtain ⟨y, hy⟩ : ∃ y, xs[e / 2]? = some y := ⟨_, List.getElem?_eq_getElem (by omega)⟩
      have c1 := seLess_any wr base p q mb n cap xs (e + 1) (e / 2) x y H.out hx hy
      rw [(seK_at hx).symm, (seK_at hy).symm] at c1
      have dl : decide (seK xs (e + 1) < seK xs (e / 2)) = false := by
        have := hs.resolve_left (by omega)
        rw [show (e + 1 - 1) / 2 = e / 2 by omega] at this
        simpa using this
      rw [dl] at c1
      have ea : ((e + 1 : Nat) : Int) = (e : Int) + 1 := by omega
      have eb : ((e / 2 : Nat) : Int) = (e : Int) / 2 := by omega
      rw [ea, eb] at c1
      clear dl ea eb hx hy hs
      go_wp2_with fail
      refine c1.mono ?_
      clear c1
      rintro e' w1 ⟨rfl, b1⟩
      have KB := hidOf b1
      clear b1
      go_wp2
      refine bodyPost_ret (v := .tuple #[]) (by simp [results, Try.results101, go_sem]) rfl ⟨rfl, KB.out⟩
set_option maxRecDepth 100000 in
set_option maxHeartbeats 8000000 in
theorem sePutLast (w : World) (base p mb n : Nat) (v : Value) (xs : List S5) (x : S5) (h : PisB w base p mb n v xs) (hn : n ≤ 1000) (hl : xs.length ≤ 100) (hok : setOkB x = true) (hno : seW xs x.region x.slot = none) (hbs : base ≤ w.heap.size) (hs : xs = [] ∨ seK (xs ++ [x]) ((xs.length - 1) / 2) ≤ seK (xs ++ [x]) xs.length) :
    Calls Try.prog 59 #[.pointer (some ⟨p, 0, none⟩), .agg #[.int .i64 x.region, .int .i64 x.slot, .int .i64 x.value, .bool x.used, .int .i64 x.version]] w fun e w' => e = .returned (.tuple #[]) ∧ ∃ v', PisB w' base p mb (n + 1) v' (xs ++ [x]) ∧ Below base w w' := by
  obtain ⟨W0, hW0⟩ : ∃ W, W = w.alloc (.cells #[.int .i64 x.region, .int .i64 x.slot, .int .i64 x.value, .bool x.used, .int .i64 x.version] 36) := ⟨_, rfl⟩
  have b0 : Below w.heap.size w W0 := by rw [hW0]; exact (Below.refl _ _).alloc (Nat.le_refl _) _
  have z0 : W0.heap.size = w.heap.size + 1 := by rw [hW0]; simp
  have x0 : SetAt W0 w.heap.size 0 x := by rw [hW0]; exact SetAt.box w x _
  have h0 := h.later b0
  have hk := seOk_in hok
  have hpw : p < w.heap.size := h.lp
  have hmw : mb < w.heap.size := h.mp.lt
  have lk : ∀ d os, (Instr.lookup 103 (.map (some mb)) (cKey x.region x.slot) true).run Try.prog (grow (redrawn W0 d) os) = .ok (.tuple #[.int .i64 0, .bool false]) (grow (redrawn W0 d) os) := fun d os => by
    have hu := ((h0.mp).later (below_regrown W0 d os)).look hk.1 hk.2
    rw [hno] at hu
    exact hu
  have lift : ∀ {b o : Nat} {u : Value}, b < W0.heap.size → W0.cell? ⟨b, o, none⟩ = some u → ∀ d os, (grow (redrawn W0 d) os).cell? ⟨b, o, none⟩ = some u := fun {b o u} hb hh d os => ((below_regrown W0 d os).cell (p := ⟨b, o, none⟩) hb).trans hh
  have m1 := lift (by omega) h0.c1
  have t0 := lift (by omega) x0.c0
  have t1 := lift (by omega) x0.c1
  have t2 := lift (by omega) x0.c2
  have t3 := lift (by omega) x0.c3
  have t4 := lift (by omega) x0.c4
  have cC : ∀ d os, Calls Try.prog 57 #[.agg #[.int .i64 x.region, .int .i64 x.slot, .int .i64 x.value, .bool x.used, .int .i64 x.version]] (grow (redrawn W0 d) os) fun e w'' => e = .returned (.agg #[.int .i64 x.region, .int .i64 x.slot]) ∧ ∃ p : Regrown, w'' = grow (redrawn W0 p.d) p.os := fun d os => Calls.regrown_of (seCell_any _ _)
  have hm : ∀ w : World, (method 247 36 (.agg #[.int .i64 x.region, .int .i64 x.slot, .int .i64 x.value, .bool x.used, .int .i64 x.version]) "loop.example/g00153/impl.cell").run Try.prog w = .ok (57, .agg #[.int .i64 x.region, .int .i64 x.slot, .int .i64 x.value, .bool x.used, .int .i64 x.version]) w := fun _ => by kernel_rfl
  have H : Hid (PisB W0 base p mb n v xs ∧ SetAt W0 w.heap.size 0 x ∧ Below w.heap.size w W0 ∧ W0.heap.size = w.heap.size + 1 ∧ base ≤ w.heap.size ∧ seW xs x.region x.slot = none ∧ setOkB x = true ∧ v.ownBlock ≠ some w.heap.size) := ⟨h0, x0, b0, z0, hbs, hno, hok, fun e => by have := (h.row.lt e).2; omega⟩
  have HS := hidOf hs
  clear h h0 x0 b0 z0 hbs hno hok hs lift
  simp only [cKey, Nat.zero_add] at lk t0 t1 t2 t3 t4
  go_enter Try.func59, Try.ntmps59
  go_wp2_with fail
  rw [← hW0]
  clear hW0
  refine wp_region_quiet_below (by kernel_rfl) (by kernel_rfl) ?_
  repeat (go_big_quiet_step (exact cC _ _))
  refine wpQuiet_nil ?_
  intro _ hw'
  obtain ⟨⟨dq', osq⟩, hw''⟩ := hw'
  subst hw''
  have bq := below_regrown W0 dq' osq
  have K1 : Hid (PisB (grow (redrawn W0 dq') osq) base p mb n v xs ∧ SetAt (grow (redrawn W0 dq') osq) w.heap.size 0 x ∧ Below w.heap.size w (grow (redrawn W0 dq') osq) ∧ w.heap.size < (grow (redrawn W0 dq') osq).heap.size) := by
    obtain ⟨g1, g2, g3, g4, _⟩ := H.out
    have := bq.size
    exact ⟨g1.later bq, g2.below bq (by omega), g3.trans (bq.mono g3.size), by omega⟩
  clear bq m1 t0 t1 t2 t3 t4 cC lk
  obtain ⟨av, ac, hav, -⟩ := K1.out.1.row.form
  have m0 := K1.out.1.c0
  rw [hav] at m0
  have HV := hidOf hav
  clear hav
  go_upto_region 5 with fail
  clear m0
  generalize grow (redrawn W0 dq') osq = W1 at *
  have hS : (fun X : World => X.cell? ⟨p, 0, none⟩ = some v ∧ SetAt X w.heap.size 0 x) W1.drew := ⟨K1.out.1.c0, K1.out.2.1.below ((Below.refl W1.heap.size W1).drew) K1.out.2.2.2⟩
  refine wp_region_z (fun z => z == 10) (fun X : World => X.cell? ⟨p, 0, none⟩ = some v ∧ SetAt X w.heap.size 0 x) (by kernel_rfl) ?_
  have KD : Hid (Below W1.heap.size W1 W1.drew) := (Below.refl _ _).drew
  generalize W1.drew = Wd at *
  refine wpZ_takeP (i := 0) (v := ?_) rfl (by kernel_rfl) (fun _ _ _ h => h) (Or.inl ⟨by rfl, ?_⟩) hS ?_
  rotate_left
  · (intro w _; go_simp; first | done | with_reducible rfl | (rw [if_pos (by omega)]) | (rw [if_pos (by omega)]; go_simp))
  simp only [Act.put]
  refine wpZ_takeP (i := 1) (v := ?_) rfl (by kernel_rfl) (fun _ _ _ h => h) (Or.inl ⟨by rfl, ?_⟩) hS ?_
  rotate_left
  · (intro w _; go_simp; first | done | with_reducible rfl | (rw [if_pos (by omega)]) | (rw [if_pos (by omega)]; go_simp))
  simp only [Act.put]
  refine wpZ_takeP (i := 2) (v := ?_) rfl (by kernel_rfl) (fun _ _ _ h => h) (Or.inl ⟨by rfl, ?_⟩) hS ?_
  rotate_left
  · (intro w _; go_simp; first | done | with_reducible rfl | (rw [if_pos (by omega)]) | (rw [if_pos (by omega)]; go_simp))
  simp only [Act.put]
  refine wpZ_takeP (i := 3) (v := ?_) rfl (by kernel_rfl) (fun _ _ _ h => h) (Or.inl ⟨by rfl, ?_⟩) hS ?_
  rotate_left
  · (intro w _; go_simp; first | done | with_reducible rfl | (rw [if_pos (by omega)]) | (rw [if_pos (by omega)]; go_simp))
  simp only [Act.put]
  refine wpZ_take (i := 4) (v := ?_) rfl (by kernel_rfl) (fun _ _ _ h => h) (Or.inl ⟨by rfl, ?_⟩) hS ?_
  rotate_left
  · (intro w hSw; obtain ⟨s0, ⟨a0, a1, a2, a3, a4⟩⟩ := hSw; go_simp; first | done | with_reducible rfl)
  simp only [Act.put]
  refine wpZ_take (i := 5) (v := ?_) rfl (by kernel_rfl) (fun _ _ _ h => h) (Or.inl ⟨by rfl, ?_⟩) hS ?_
  rotate_left
  · (intro w hSw; obtain ⟨s0, ⟨a0, a1, a2, a3, a4⟩⟩ := hSw; go_simp; first | done | with_reducible rfl)
  simp only [Act.put]
  obtain ⟨V, hV⟩ : ∃ V, V = Wd.alloc (.cells #[.int .i64 x.region, .int .i64 x.slot, .int .i64 x.value, .bool x.used, .int .i64 x.version] 36) := ⟨_, rfl⟩
  have bV : Below Wd.heap.size Wd V := by rw [hV]; exact (Below.refl _ _).alloc (Nat.le_refl _) _
  have bWV : Below W1.heap.size W1 V := KD.out.trans (bV.mono KD.out.size)
  have hone : SetsAt V Wd.heap.size 0 [x] := by rw [hV]; exact (SetAt.box Wd _ _).one
  have hB1 := (K1.out.1.later bWV)
  obtain ⟨v5, Y5, hr, hrow5, hgr, hlies⟩ := pushSe hB1.row [x] (by simp; omega) 25 Wd.heap.size 0 1 hone (by have := hB1.bp; have := hB1.lp; omega)
  obtain ⟨a5, k5, rfl⟩ : ∃ a5 k5, v5 = Value.slice a5 (xs.length + 1) k5 := by
    obtain ⟨a5, k5, e5, -⟩ := hrow5.form
    exact ⟨a5, k5, by simpa using e5⟩
  have hwsz : w.heap.size < V.heap.size := Nat.lt_of_lt_of_le K1.out.2.2.2 bWV.size
  have hSV : (fun X : World => X.cell? ⟨p, 0, none⟩ = some v ∧ SetAt X w.heap.size 0 x) V := ⟨hB1.c0, K1.out.2.1.below bWV K1.out.2.2.2⟩
  have kb : ∀ b, b < V.heap.size → v.ownBlock ≠ some b → Y5.heap[b]? = V.heap[b]? := fun b hb hne => hgr.block b hb (fun e => hne e.symm)
  have hSY : (fun X : World => X.cell? ⟨p, 0, none⟩ = some v ∧ SetAt X w.heap.size 0 x) Y5 := ⟨(World.cell?_of_block (a := ⟨p, 0, none⟩) (kb p hB1.lp hB1.vp)).trans hB1.c0, SetAt.of_blk hSV.2 (kb _ hwsz H.out.2.2.2.2.2.2.2)⟩
  have own5 : ∀ b, b < V.heap.size → v.ownBlock ≠ some b → (Value.slice a5 (xs.length + 1) k5).ownBlock ≠ some b := fun b hb hne e => by
    rcases hlies with h | h
    · rw [h] at e; exact hne e
    · rw [h] at e; cases e; omega
  have K5 : Hid (RowS Y5 base (Value.slice a5 (xs.length + 1) k5) (xs ++ [x]) ∧ Y5.cell? ⟨p, 0, none⟩ = some v ∧ Y5.cell? ⟨p, 1, none⟩ = some (.map (some mb)) ∧ (∀ j, Y5.frozen? ⟨p, j, none⟩ = false) ∧ MapF Y5 mb n (seW xs) ∧ (Value.slice a5 (xs.length + 1) k5).ownBlock ≠ some p ∧ (Value.slice a5 (xs.length + 1) k5).ownBlock ≠ some mb ∧ p < Y5.heap.size ∧ Below base w Y5 ∧ SetAt Y5 w.heap.size 0 x ∧ w.heap.size < Y5.heap.size ∧ (Value.slice a5 (xs.length + 1) k5).ownBlock ≠ some w.heap.size ∧ mb < V.heap.size) := by
    have hp5 := kb p hB1.lp hB1.vp
    have hm5 := kb mb hB1.mp.lt hB1.vm
    have bwV : Below base w V := (K1.out.2.2.1.mono H.out.2.2.2.2.1).trans (bWV.mono (by have := K1.out.1.bp; have := K1.out.1.lp; omega))
    refine ⟨hrow5, hSY.1, (World.cell?_of_block (a := ⟨p, 1, none⟩) hp5).trans hB1.c1, fun j => (World.frozen?_of_block (a := ⟨p, j, none⟩) hp5).trans (hB1.fz j), hB1.mp.of_block hm5, own5 p hB1.lp hB1.vp, own5 mb hB1.mp.lt hB1.vm, Nat.lt_of_lt_of_le hB1.lp hgr.size, ?_, hSY.2, Nat.lt_of_lt_of_le hwsz hgr.size, own5 _ hwsz H.out.2.2.2.2.2.2.2, hB1.mp.lt⟩
    exact bwV.grown hgr (by have := hB1.bp; have := hB1.lp; omega) (fun b e => (hB1.row.lt e).1)
  rw [hV] at hr
  have f0 := K5.out.2.2.2.1 0
  have e0 := K5.out.2.1
  simp only [List.length_cons, List.length_nil, Nat.zero_add] at hr
  refine wpZ_ready (rs := [6]) (by kernel_rfl) (by simp) ?_
  refine AllZ.cons rfl (fun K hK => ?_) AllZ.nil
  go_simp
  refine hK.out _ _ (fun _ => by rw [← hV]; exact hSV) ?_
  clear hK K
  refine wpZ_ready (rs := [7]) (by kernel_rfl) (by simp) ?_
  refine AllZ.cons rfl (fun K hK => ?_) AllZ.nil
  refine step_known _ rfl (.tmp 34) (.tmp 36) 25 rfl _ _ _ _ (by first | rfl | simp [Act.eval, Act.put]) (by first | rfl | simp [Act.eval, Act.put]) hr ?_
  refine hK.out _ _ (fun _ => hSY) ?_
  clear hK K hr
  simp only [Act.put]
  refine wpZ_takeP (i := 8) (v := ?_) rfl (by kernel_rfl) (fun _ _ _ h => h) (Or.inl ⟨by rfl, ?_⟩) hSY ?_
  rotate_left
  · (intro w _; go_simp; first | done | with_reducible rfl | (rw [if_pos (by omega)]) | (rw [if_pos (by omega)]; go_simp))
  simp only [Act.put]
  refine wpZ_takeP (i := 9) (v := ?_) rfl (by kernel_rfl) (fun _ _ _ h => h) (Or.inl ⟨by rfl, ?_⟩) hSY ?_
  rotate_left
  · (intro w _; go_simp; first | done | with_reducible rfl | (rw [if_pos (by omega)]) | (rw [if_pos (by omega)]; go_simp))
  simp only [Act.put]
  refine wpZ_ready (rs := [10]) (by kernel_rfl) (by simp) ?_
  refine AllZ.cons rfl (fun K hK => ?_) AllZ.nil
  go_simp
  refine hK.out _ _ (fun h => absurd (show false = true from h.symm.trans (by kernel_rfl)) (by decide)) ?_
  clear hK K
  refine wpZ_done (by kernel_rfl) ?_ _
  have KU : Hid (SetAt (Y5.setCell ⟨p, 0, none⟩ (Value.slice a5 (xs.length + 1) k5)) w.heap.size 0 x ∧ RowS (Y5.setCell ⟨p, 0, none⟩ (Value.slice a5 (xs.length + 1) k5)) base (Value.slice a5 (xs.length + 1) k5) (xs ++ [x]) ∧ (Y5.setCell ⟨p, 0, none⟩ (Value.slice a5 (xs.length + 1) k5)).cell? ⟨p, 0, none⟩ = some (Value.slice a5 (xs.length + 1) k5) ∧ (Y5.setCell ⟨p, 0, none⟩ (Value.slice a5 (xs.length + 1) k5)).cell? ⟨p, 1, none⟩ = some (.map (some mb)) ∧ (∀ j, (Y5.setCell ⟨p, 0, none⟩ (Value.slice a5 (xs.length + 1) k5)).frozen? ⟨p, j, none⟩ = false) ∧ MapF (Y5.setCell ⟨p, 0, none⟩ (Value.slice a5 (xs.length + 1) k5)) mb n (seW xs) ∧ (Value.slice a5 (xs.length + 1) k5).ownBlock ≠ some p ∧ (Value.slice a5 (xs.length + 1) k5).ownBlock ≠ some mb ∧ p < (Y5.setCell ⟨p, 0, none⟩ (Value.slice a5 (xs.length + 1) k5)).heap.size ∧ Below base w (Y5.setCell ⟨p, 0, none⟩ (Value.slice a5 (xs.length + 1) k5)) ∧ w.heap.size < (Y5.setCell ⟨p, 0, none⟩ (Value.slice a5 (xs.length + 1) k5)).heap.size ∧ (Value.slice a5 (xs.length + 1) k5).ownBlock ≠ some w.heap.size) := by
    obtain ⟨g1, g2, g3, g4, g5, g6, g7, g8, g9, g10, g11, g12, g13⟩ := K5.out
    have bp := K1.out.1.bp
    have far : ∀ b, b ≠ p → (Y5.setCell ⟨p, 0, none⟩ (Value.slice a5 (xs.length + 1) k5)).heap[b]? = Y5.heap[b]? := fun b hb => Below.heap_setCell _ _ _ _ hb
    refine ⟨SetAt.of_blk g10 (far _ (by omega)), g1.keep (fun b _ _ e => far b (fun e' => g6 (by rw [e, e']))), cell_set_same g2, (cell_set_other (by omega)).trans g3, fun j => by rw [World.frozen?_setCell]; exact g4 j, g5.of_block (far mb (fun e => K1.out.1.pm e.symm)), g6, g7, by simpa [World.setCell] using g8, g9.setCell (p := ⟨p, 0, none⟩) bp _, by simpa [World.setCell] using g11, g12⟩
  clear K5 hS hSV hSY kb own5 hgr hlies hrow5 hB1 hone bWV bV hV V hwsz f0 e0 KD
  generalize Y5.setCell ⟨p, 0, none⟩ (Value.slice a5 (xs.length + 1) k5) = W5 at *
  clear Y5
  have hS : (fun X : World => X.cell? ⟨p, 1, none⟩ = some (.map (some mb)) ∧ SetAt X w.heap.size 0 x) W5.drew := ⟨KU.out.2.2.2.1, KU.out.1.below ((Below.refl W5.heap.size W5).drew) KU.out.2.2.2.2.2.2.2.2.2.2.1⟩
  go_upto_region 6 with fail
  refine wp_region_z (fun z => z == 8) (fun X : World => X.cell? ⟨p, 1, none⟩ = some (.map (some mb)) ∧ SetAt X w.heap.size 0 x) (by kernel_rfl) ?_
  have KD : Hid (Below W5.heap.size W5 W5.drew) := (Below.refl _ _).drew
  generalize W5.drew = We at *
  refine wpZ_takeP (i := 0) (v := ?_) rfl (by kernel_rfl) (fun _ _ _ h => h) (Or.inl ⟨by rfl, ?_⟩) hS ?_
  rotate_left
  · (intro w _; go_simp; first | done | with_reducible rfl | (rw [if_pos (by omega)]) | (rw [if_pos (by omega)]; go_simp))
  simp only [Act.put]
  refine wpZ_takeP (i := 1) (v := ?_) rfl (by kernel_rfl) (fun _ _ _ h => h) (Or.inl ⟨by rfl, ?_⟩) hS ?_
  rotate_left
  · (intro w _; go_simp; first | done | with_reducible rfl | (rw [if_pos (by omega)]) | (rw [if_pos (by omega)]; go_simp))
  simp only [Act.put]
  refine wpZ_takeP (i := 2) (v := ?_) rfl (by kernel_rfl) (fun _ _ _ h => h) (Or.inl ⟨by rfl, ?_⟩) hS ?_
  rotate_left
  · (intro w _; go_simp; first | done | with_reducible rfl | (rw [if_pos (by omega)]) | (rw [if_pos (by omega)]; go_simp))
  simp only [Act.put]
  refine wpZ_take (i := 3) (v := ?_) rfl (by kernel_rfl) (fun _ _ _ h => h) (Or.inl ⟨by rfl, ?_⟩) hS ?_
  rotate_left
  · (intro w hSw; obtain ⟨s0, ⟨a0, a1, a2, a3, a4⟩⟩ := hSw; go_simp; first | done | with_reducible rfl)
  simp only [Act.put]
  refine wpZ_take (i := 4) (v := ?_) rfl (by kernel_rfl) (fun _ _ _ h => h) (Or.inl ⟨by rfl, ?_⟩) hS ?_
  rotate_left
  · (intro w hSw; obtain ⟨s0, ⟨a0, a1, a2, a3, a4⟩⟩ := hSw; go_simp; first | done | with_reducible rfl)
  simp only [Act.put]
  refine wpZ_takeP (i := 5) (v := ?_) rfl (by kernel_rfl) (fun _ _ _ h => h) (Or.inl ⟨by rfl, ?_⟩) hS ?_
  rotate_left
  · (intro w _; go_simp; first | done | with_reducible rfl | (rw [if_pos (by omega)]) | (rw [if_pos (by omega)]; go_simp))
  simp only [Act.put]
  refine wpZ_takeP (i := 7) (v := ?_) rfl (by kernel_rfl) (fun _ _ _ h => h) (Or.inl ⟨by rfl, ?_⟩) hS ?_
  rotate_left
  · (intro w _; go_simp; first | done | with_reducible rfl | (rw [if_pos (by omega)]) | (rw [if_pos (by omega)]; go_simp))
  simp only [Act.put]
  refine wpZ_ready (rs := [6]) (by kernel_rfl) (by simp) ?_
  refine AllZ.cons rfl (fun K hK => ?_) AllZ.nil
  go_simp
  refine (seCell_any We x).mono ?_
  rintro e X2 ⟨rfl, b2⟩
  have bX : Below W5.heap.size W5 X2 := KD.out.trans (b2.mono KD.out.size)
  obtain ⟨Y, hst, hmY, htY, hsY⟩ := (KU.out.2.2.2.2.2.1.later bX).store (by omega) hk.1 hk.2 xs.length (by omega)
  rw [← seW_snoc H.out.2.2.2.2.2.1] at hmY
  have hS2 : (fun X : World => X.cell? ⟨p, 1, none⟩ = some (.map (some mb)) ∧ SetAt X w.heap.size 0 x) X2 := by
    obtain ⟨g1, g2, g3, g4, g5, g6, g7, g8, g9, g10, g11, g12⟩ := KU.out
    exact ⟨(bX.cell (p := ⟨p, 1, none⟩) g9).trans g4, g1.below bX g11⟩
  have K7 : Hid (PisB Y base p mb (n + 1) (Value.slice a5 (xs.length + 1) k5) (xs ++ [x]) ∧ Below base w Y) := by
    obtain ⟨g1, g2, g3, g4, g5, g6, g7, g8, g9, g10, g11, g12⟩ := KU.out
    have hpm := K1.out.1.pm
    have hp5 := (htY.block p (Nat.lt_of_lt_of_le g9 bX.size) hpm).trans (bX.block p g9)
    refine ⟨⟨(World.cell?_of_block (a := ⟨p, 0, none⟩) hp5).trans g3, (World.cell?_of_block (a := ⟨p, 1, none⟩) hp5).trans g4, fun j => (World.frozen?_of_block (a := ⟨p, j, none⟩) hp5).trans (g5 j), g2.keep (fun b _ hb e => (htY.block b (Nat.lt_of_lt_of_le hb bX.size) (fun e' => g8 (by rw [e, e']))).trans (bX.block b hb)), hmY, fun s hs => ?_, g7, g8, hpm, K1.out.1.bp, K1.out.1.bm, by rw [hsY]; exact Nat.lt_of_lt_of_le g9 bX.size⟩, ?_⟩
    · rcases List.mem_append.1 hs with hs | hs
      · exact K1.out.1.ok s hs
      · simp at hs; subst hs; exact H.out.2.2.2.2.2.2.1
    · have hbW : base ≤ W5.heap.size := by have := K1.out.1.bp; omega
      exact (g10.trans (bX.mono hbW)).trans (htY.below K1.out.1.bm (Nat.le_trans hbW bX.size))
  simp only [cKey] at hst
  refine hK.out _ _ (fun _ => hS2) ?_
  clear hK K hS2 hS bX KD hmY htY hsY hm hk b2
  refine wpZ_ready (rs := [8]) (by kernel_rfl) (by simp) ?_
  refine AllZ.cons rfl (fun K hK => ?_) AllZ.nil
  go_simp
  refine hK.out _ _ (fun h => absurd (show false = true from h.symm.trans (by kernel_rfl)) (by decide)) ?_
  clear hK K hst
  refine wpZ_done (by kernel_rfl) ?_ _
  obtain ⟨q5, cap5, hv5, P7⟩ := K7.out.1.pil (by simp)
  have c7 := seLiftStay Y base p q5 mb (n + 1) cap5 (xs ++ [x]) xs.length P7 (by simp; omega) (by simp) (by
    rcases HS.out with h | h
    · exact .inl (by rw [h]; rfl)
    · exact .inr h)
  go_wp2_with fail
  refine c7.mono ?_
  clear c7
  rintro e w8 ⟨rfl, b8⟩
  have KE : Hid (PisB w8 base p mb (n + 1) (Value.slice a5 (xs.length + 1) k5) (xs ++ [x]) ∧ Below base w w8) := ⟨K7.out.1.later b8, K7.out.2.trans (b8.mono (by have := K7.out.1.bp; have := K7.out.1.lp; omega))⟩
  clear b8
  go_wp2
  refine bodyPost_end (v := .tuple #[]) (by simp [results, Try.results59, go_sem]) rfl ⟨rfl, (Value.slice a5 (xs.length + 1) k5), KE.out.1, KE.out.2⟩
set_option maxRecDepth 100000 in
set_option maxHeartbeats 8000000 in
theorem sePutAny (w : World) (base p mb n : Nat) (v : Value) (xs : List S5) (x : S5) (h : PisB w base p mb n v xs) (hn : n ≤ 1000) (hl : xs.length ≤ 100) (hok : setOkB x = true) (hno : seW xs x.region x.slot = none) (hbs : base ≤ w.heap.size) (hs : HeapP.Hp (seK xs) xs.length) :
    Calls Try.prog 59 #[.pointer (some ⟨p, 0, none⟩), .agg #[.int .i64 x.region, .int .i64 x.slot, .int .i64 x.value, .bool x.used, .int .i64 x.version]] w fun e w' => e = .returned (.tuple #[]) ∧ ∃ q cap n' ys, n' ≤ n + 1 + 2 * xs.length ∧ Pis w' base p q mb n' cap ys ∧ ys.Perm (xs ++ [x]) ∧ HeapP.Hp (seK ys) ys.length ∧ Below base w w' := by
  obtain ⟨W0, hW0⟩ : ∃ W, W = w.alloc (.cells #[.int .i64 x.region, .int .i64 x.slot, .int .i64 x.value, .bool x.used, .int .i64 x.version] 36) := ⟨_, rfl⟩
  have b0 : Below w.heap.size w W0 := by rw [hW0]; exact (Below.refl _ _).alloc (Nat.le_refl _) _
  have z0 : W0.heap.size = w.heap.size + 1 := by rw [hW0]; simp
  have x0 : SetAt W0 w.heap.size 0 x := by rw [hW0]; exact SetAt.box w x _
  have h0 := h.later b0
  have hk := seOk_in hok
  have hpw : p < w.heap.size := h.lp
  have hmw : mb < w.heap.size := h.mp.lt
  have lk : ∀ d os, (Instr.lookup 103 (.map (some mb)) (cKey x.region x.slot) true).run Try.prog (grow (redrawn W0 d) os) = .ok (.tuple #[.int .i64 0, .bool false]) (grow (redrawn W0 d) os) := fun d os => by
    have hu := ((h0.mp).later (below_regrown W0 d os)).look hk.1 hk.2
    rw [hno] at hu
    exact hu
  have lift : ∀ {b o : Nat} {u : Value}, b < W0.heap.size → W0.cell? ⟨b, o, none⟩ = some u → ∀ d os, (grow (redrawn W0 d) os).cell? ⟨b, o, none⟩ = some u := fun {b o u} hb hh d os => ((below_regrown W0 d os).cell (p := ⟨b, o, none⟩) hb).trans hh
  have m1 := lift (by omega) h0.c1
  have t0 := lift (by omega) x0.c0
  have t1 := lift (by omega) x0.c1
  have t2 := lift (by omega) x0.c2
  have t3 := lift (by omega) x0.c3
  have t4 := lift (by omega) x0.c4
  have cC : ∀ d os, Calls Try.prog 57 #[.agg #[.int .i64 x.region, .int .i64 x.slot, .int .i64 x.value, .bool x.used, .int .i64 x.version]] (grow (redrawn W0 d) os) fun e w'' => e = .returned (.agg #[.int .i64 x.region, .int .i64 x.slot]) ∧ ∃ p : Regrown, w'' = grow (redrawn W0 p.d) p.os := fun d os => Calls.regrown_of (seCell_any _ _)
  have hm : ∀ w : World, (method 247 36 (.agg #[.int .i64 x.region, .int .i64 x.slot, .int .i64 x.value, .bool x.used, .int .i64 x.version]) "loop.example/g00153/impl.cell").run Try.prog w = .ok (57, .agg #[.int .i64 x.region, .int .i64 x.slot, .int .i64 x.value, .bool x.used, .int .i64 x.version]) w := fun _ => by kernel_rfl
  have H : Hid (PisB W0 base p mb n v xs ∧ SetAt W0 w.heap.size 0 x ∧ Below w.heap.size w W0 ∧ W0.heap.size = w.heap.size + 1 ∧ base ≤ w.heap.size ∧ seW xs x.region x.slot = none ∧ setOkB x = true ∧ v.ownBlock ≠ some w.heap.size) := ⟨h0, x0, b0, z0, hbs, hno, hok, fun e => by have := (h.row.lt e).2; omega⟩
  have HS := hidOf hs
  clear h h0 x0 b0 z0 hbs hno hok hs lift
  simp only [cKey, Nat.zero_add] at lk t0 t1 t2 t3 t4
  go_enter Try.func59, Try.ntmps59
  go_wp2_with fail
  rw [← hW0]
  clear hW0
  refine wp_region_quiet_below (by kernel_rfl) (by kernel_rfl) ?_
  repeat (go_big_quiet_step (exact cC _ _))
  refine wpQuiet_nil ?_
  intro _ hw'
  obtain ⟨⟨dq', osq⟩, hw''⟩ := hw'
  subst hw''
  have bq := below_regrown W0 dq' osq
  have K1 : Hid (PisB (grow (redrawn W0 dq') osq) base p mb n v xs ∧ SetAt (grow (redrawn W0 dq') osq) w.heap.size 0 x ∧ Below w.heap.size w (grow (redrawn W0 dq') osq) ∧ w.heap.size < (grow (redrawn W0 dq') osq).heap.size) := by
    obtain ⟨g1, g2, g3, g4, _⟩ := H.out
    have := bq.size
    exact ⟨g1.later bq, g2.below bq (by omega), g3.trans (bq.mono g3.size), by omega⟩
  clear bq m1 t0 t1 t2 t3 t4 cC lk
  obtain ⟨av, ac, hav, -⟩ := K1.out.1.row.form
  have m0 := K1.out.1.c0
  rw [hav] at m0
  have HV := hidOf hav
  clear hav
  go_upto_region 5 with fail
  clear m0
  generalize grow (redrawn W0 dq') osq = W1 at *
  have hS : (fun X : World => X.cell? ⟨p, 0, none⟩ = some v ∧ SetAt X w.heap.size 0 x) W1.drew := ⟨K1.out.1.c0, K1.out.2.1.below ((Below.refl W1.heap.size W1).drew) K1.out.2.2.2⟩
  refine wp_region_z (fun z => z == 10) (fun X : World => X.cell? ⟨p, 0, none⟩ = some v ∧ SetAt X w.heap.size 0 x) (by kernel_rfl) ?_
  have KD : Hid (Below W1.heap.size W1 W1.drew) := (Below.refl _ _).drew
  generalize W1.drew = Wd at *
  refine wpZ_takeP (i := 0) (v := ?_) rfl (by kernel_rfl) (fun _ _ _ h => h) (Or.inl ⟨by rfl, ?_⟩) hS ?_
  rotate_left
  · (intro w _; go_simp; first | done | with_reducible rfl | (rw [if_pos (by omega)]) | (rw [if_pos (by omega)]; go_simp))
  simp only [Act.put]
  refine wpZ_takeP (i := 1) (v := ?_) rfl (by kernel_rfl) (fun _ _ _ h => h) (Or.inl ⟨by rfl, ?_⟩) hS ?_
  rotate_left
  · (intro w _; go_simp; first | done | with_reducible rfl | (rw [if_pos (by omega)]) | (rw [if_pos (by omega)]; go_simp))
  simp only [Act.put]
  refine wpZ_takeP (i := 2) (v := ?_) rfl (by kernel_rfl) (fun _ _ _ h => h) (Or.inl ⟨by rfl, ?_⟩) hS ?_
  rotate_left
  · (intro w _; go_simp; first | done | with_reducible rfl | (rw [if_pos (by omega)]) | (rw [if_pos (by omega)]; go_simp))
  simp only [Act.put]
  refine wpZ_takeP (i := 3) (v := ?_) rfl (by kernel_rfl) (fun _ _ _ h => h) (Or.inl ⟨by rfl, ?_⟩) hS ?_
  rotate_left
  · (intro w _; go_simp; first | done | with_reducible rfl | (rw [if_pos (by omega)]) | (rw [if_pos (by omega)]; go_simp))
  simp only [Act.put]
  refine wpZ_take (i := 4) (v := ?_) rfl (by kernel_rfl) (fun _ _ _ h => h) (Or.inl ⟨by rfl, ?_⟩) hS ?_
  rotate_left
  · (intro w hSw; obtain ⟨s0, ⟨a0, a1, a2, a3, a4⟩⟩ := hSw; go_simp; first | done | with_reducible rfl)
  simp only [Act.put]
  refine wpZ_take (i := 5) (v := ?_) rfl (by kernel_rfl) (fun _ _ _ h => h) (Or.inl ⟨by rfl, ?_⟩) hS ?_
  rotate_left
  · (intro w hSw; obtain ⟨s0, ⟨a0, a1, a2, a3, a4⟩⟩ := hSw; go_simp; first | done | with_reducible rfl)
  simp only [Act.put]
  obtain ⟨V, hV⟩ : ∃ V, V = Wd.alloc (.cells #[.int .i64 x.region, .int .i64 x.slot, .int .i64 x.value, .bool x.used, .int .i64 x.version] 36) := ⟨_, rfl⟩
  have bV : Below Wd.heap.size Wd V := by rw [hV]; exact (Below.refl _ _).alloc (Nat.le_refl _) _
  have bWV : Below W1.heap.size W1 V := KD.out.trans (bV.mono KD.out.size)
  have hone : SetsAt V Wd.heap.size 0 [x] := by rw [hV]; exact (SetAt.box Wd _ _).one
  have hB1 := (K1.out.1.later bWV)
  obtain ⟨v5, Y5, hr, hrow5, hgr, hlies⟩ := pushSe hB1.row [x] (by simp; omega) 25 Wd.heap.size 0 1 hone (by have := hB1.bp; have := hB1.lp; omega)
  obtain ⟨a5, k5, rfl⟩ : ∃ a5 k5, v5 = Value.slice a5 (xs.length + 1) k5 := by
    obtain ⟨a5, k5, e5, -⟩ := hrow5.form
    exact ⟨a5, k5, by simpa using e5⟩
  have hwsz : w.heap.size < V.heap.size := Nat.lt_of_lt_of_le K1.out.2.2.2 bWV.size
  have hSV : (fun X : World => X.cell? ⟨p, 0, none⟩ = some v ∧ SetAt X w.heap.size 0 x) V := ⟨hB1.c0, K1.out.2.1.below bWV K1.out.2.2.2⟩
  have kb : ∀ b, b < V.heap.size → v.ownBlock ≠ some b → Y5.heap[b]? = V.heap[b]? := fun b hb hne => hgr.block b hb (fun e => hne e.symm)
  have hSY : (fun X : World => X.cell? ⟨p, 0, none⟩ = some v ∧ SetAt X w.heap.size 0 x) Y5 := ⟨(World.cell?_of_block (a := ⟨p, 0, none⟩) (kb p hB1.lp hB1.vp)).trans hB1.c0, SetAt.of_blk hSV.2 (kb _ hwsz H.out.2.2.2.2.2.2.2)⟩
  have own5 : ∀ b, b < V.heap.size → v.ownBlock ≠ some b → (Value.slice a5 (xs.length + 1) k5).ownBlock ≠ some b := fun b hb hne e => by
    rcases hlies with h | h
    · rw [h] at e; exact hne e
    · rw [h] at e; cases e; omega
  have K5 : Hid (RowS Y5 base (Value.slice a5 (xs.length + 1) k5) (xs ++ [x]) ∧ Y5.cell? ⟨p, 0, none⟩ = some v ∧ Y5.cell? ⟨p, 1, none⟩ = some (.map (some mb)) ∧ (∀ j, Y5.frozen? ⟨p, j, none⟩ = false) ∧ MapF Y5 mb n (seW xs) ∧ (Value.slice a5 (xs.length + 1) k5).ownBlock ≠ some p ∧ (Value.slice a5 (xs.length + 1) k5).ownBlock ≠ some mb ∧ p < Y5.heap.size ∧ Below base w Y5 ∧ SetAt Y5 w.heap.size 0 x ∧ w.heap.size < Y5.heap.size ∧ (Value.slice a5 (xs.length + 1) k5).ownBlock ≠ some w.heap.size ∧ mb < V.heap.size) := by
    have hp5 := kb p hB1.lp hB1.vp
    have hm5 := kb mb hB1.mp.lt hB1.vm
    have bwV : Below base w V := (K1.out.2.2.1.mono H.out.2.2.2.2.1).trans (bWV.mono (by have := K1.out.1.bp; have := K1.out.1.lp; omega))
    refine ⟨hrow5, hSY.1, (World.cell?_of_block (a := ⟨p, 1, none⟩) hp5).trans hB1.c1, fun j => (World.frozen?_of_block (a := ⟨p, j, none⟩) hp5).trans (hB1.fz j), hB1.mp.of_block hm5, own5 p hB1.lp hB1.vp, own5 mb hB1.mp.lt hB1.vm, Nat.lt_of_lt_of_le hB1.lp hgr.size, ?_, hSY.2, Nat.lt_of_lt_of_le hwsz hgr.size, own5 _ hwsz H.out.2.2.2.2.2.2.2, hB1.mp.lt⟩
    exact bwV.grown hgr (by have := hB1.bp; have := hB1.lp; omega) (fun b e => (hB1.row.lt e).1)
  rw [hV] at hr
  have f0 := K5.out.2.2.2.1 0
  have e0 := K5.out.2.1
  simp only [List.length_cons, List.length_nil, Nat.zero_add] at hr
  refine wpZ_ready (rs := [6]) (by kernel_rfl) (by simp) ?_
  refine AllZ.cons rfl (fun K hK => ?_) AllZ.nil
  go_simp
  refine hK.out _ _ (fun _ => by rw [← hV]; exact hSV) ?_
  clear hK K
  refine wpZ_ready (rs := [7]) (by kernel_rfl) (by simp) ?_
  refine AllZ.cons rfl (fun K hK => ?_) AllZ.nil
  refine step_known _ rfl (.tmp 34) (.tmp 36) 25 rfl _ _ _ _ (by first | rfl | simp [Act.eval, Act.put]) (by first | rfl | simp [Act.eval, Act.put]) hr ?_
  refine hK.out _ _ (fun _ => hSY) ?_
  clear hK K hr
  simp only [Act.put]
  refine wpZ_takeP (i := 8) (v := ?_) rfl (by kernel_rfl) (fun _ _ _ h => h) (Or.inl ⟨by rfl, ?_⟩) hSY ?_
  rotate_left
  · (intro w _; go_simp; first | done | with_reducible rfl | (rw [if_pos (by omega)]) | (rw [if_pos (by omega)]; go_simp))
  simp only [Act.put]
  refine wpZ_takeP (i := 9) (v := ?_) rfl (by kernel_rfl) (fun _ _ _ h => h) (Or.inl ⟨by rfl, ?_⟩) hSY ?_
  rotate_left
  · (intro w _; go_simp; first | done | with_reducible rfl | (rw [if_pos (by omega)]) | (rw [if_pos (by omega)]; go_simp))
  simp only [Act.put]
  refine wpZ_ready (rs := [10]) (by kernel_rfl) (by simp) ?_
  refine AllZ.cons rfl (fun K hK => ?_) AllZ.nil
  go_simp
  refine hK.out _ _ (fun h => absurd (show false = true from h.symm.trans (by kernel_rfl)) (by decide)) ?_
  clear hK K
  refine wpZ_done (by kernel_rfl) ?_ _
  have KU : Hid (SetAt (Y5.setCell ⟨p, 0, none⟩ (Value.slice a5 (xs.length + 1) k5)) w.heap.size 0 x ∧ RowS (Y5.setCell ⟨p, 0, none⟩ (Value.slice a5 (xs.length + 1) k5)) base (Value.slice a5 (xs.length + 1) k5) (xs ++ [x]) ∧ (Y5.setCell ⟨p, 0, none⟩ (Value.slice a5 (xs.length + 1) k5)).cell? ⟨p, 0, none⟩ = some (Value.slice a5 (xs.length + 1) k5) ∧ (Y5.setCell ⟨p, 0, none⟩ (Value.slice a5 (xs.length + 1) k5)).cell? ⟨p, 1, none⟩ = some (.map (some mb)) ∧ (∀ j, (Y5.setCell ⟨p, 0, none⟩ (Value.slice a5 (xs.length + 1) k5)).frozen? ⟨p, j, none⟩ = false) ∧ MapF (Y5.setCell ⟨p, 0, none⟩ (Value.slice a5 (xs.length + 1) k5)) mb n (seW xs) ∧ (Value.slice a5 (xs.length + 1) k5).ownBlock ≠ some p ∧ (Value.slice a5 (xs.length + 1) k5).ownBlock ≠ some mb ∧ p < (Y5.setCell ⟨p, 0, none⟩ (Value.slice a5 (xs.length + 1) k5)).heap.size ∧ Below base w (Y5.setCell ⟨p, 0, none⟩ (Value.slice a5 (xs.length + 1) k5)) ∧ w.heap.size < (Y5.setCell ⟨p, 0, none⟩ (Value.slice a5 (xs.length + 1) k5)).heap.size ∧ (Value.slice a5 (xs.length + 1) k5).ownBlock ≠ some w.heap.size) := by
    obtain ⟨g1, g2, g3, g4, g5, g6, g7, g8, g9, g10, g11, g12, g13⟩ := K5.out
    have bp := K1.out.1.bp
    have far : ∀ b, b ≠ p → (Y5.setCell ⟨p, 0, none⟩ (Value.slice a5 (xs.length + 1) k5)).heap[b]? = Y5.heap[b]? := fun b hb => Below.heap_setCell _ _ _ _ hb
    refine ⟨SetAt.of_blk g10 (far _ (by omega)), g1.keep (fun b _ _ e => far b (fun e' => g6 (by rw [e, e']))), cell_set_same g2, (cell_set_other (by omega)).trans g3, fun j => by rw [World.frozen?_setCell]; exact g4 j, g5.of_block (far mb (fun e => K1.out.1.pm e.symm)), g6, g7, by simpa [World.setCell] using g8, g9.setCell (p := ⟨p, 0, none⟩) bp _, by simpa [World.setCell] using g11, g12⟩
  clear K5 hS hSV hSY kb own5 hgr hlies hrow5 hB1 hone bWV bV hV V hwsz f0 e0 KD
  generalize Y5.setCell ⟨p, 0, none⟩ (Value.slice a5 (xs.length + 1) k5) = W5 at *
  clear Y5
  have hS : (fun X : World => X.cell? ⟨p, 1, none⟩ = some (.map (some mb)) ∧ SetAt X w.heap.size 0 x) W5.drew := ⟨KU.out.2.2.2.1, KU.out.1.below ((Below.refl W5.heap.size W5).drew) KU.out.2.2.2.2.2.2.2.2.2.2.1⟩
  go_upto_region 6 with fail
  refine wp_region_z (fun z => z == 8) (fun X : World => X.cell? ⟨p, 1, none⟩ = some (.map (some mb)) ∧ SetAt X w.heap.size 0 x) (by kernel_rfl) ?_
  have KD : Hid (Below W5.heap.size W5 W5.drew) := (Below.refl _ _).drew
  generalize W5.drew = We at *
  refine wpZ_takeP (i := 0) (v := ?_) rfl (by kernel_rfl) (fun _ _ _ h => h) (Or.inl ⟨by rfl, ?_⟩) hS ?_
  rotate_left
  · (intro w _; go_simp; first | done | with_reducible rfl | (rw [if_pos (by omega)]) | (rw [if_pos (by omega)]; go_simp))
  simp only [Act.put]
  refine wpZ_takeP (i := 1) (v := ?_) rfl (by kernel_rfl) (fun _ _ _ h => h) (Or.inl ⟨by rfl, ?_⟩) hS ?_
  rotate_left
  · (intro w _; go_simp; first | done | with_reducible rfl | (rw [if_pos (by omega)]) | (rw [if_pos (by omega)]; go_simp))
  simp only [Act.put]
  refine wpZ_takeP (i := 2) (v := ?_) rfl (by kernel_rfl) (fun _ _ _ h => h) (Or.inl ⟨by rfl, ?_⟩) hS ?_
  rotate_left
  · (intro w _; go_simp; first | done | with_reducible rfl | (rw [if_pos (by omega)]) | (rw [if_pos (by omega)]; go_simp))
  simp only [Act.put]
  refine wpZ_take (i := 3) (v := ?_) rfl (by kernel_rfl) (fun _ _ _ h => h) (Or.inl ⟨by rfl, ?_⟩) hS ?_
  rotate_left
  · (intro w hSw; obtain ⟨s0, ⟨a0, a1, a2, a3, a4⟩⟩ := hSw; go_simp; first | done | with_reducible rfl)
  simp only [Act.put]
  refine wpZ_take (i := 4) (v := ?_) rfl (by kernel_rfl) (fun _ _ _ h => h) (Or.inl ⟨by rfl, ?_⟩) hS ?_
  rotate_left
  · (intro w hSw; obtain ⟨s0, ⟨a0, a1, a2, a3, a4⟩⟩ := hSw; go_simp; first | done | with_reducible rfl)
  simp only [Act.put]
  refine wpZ_takeP (i := 5) (v := ?_) rfl (by kernel_rfl) (fun _ _ _ h => h) (Or.inl ⟨by rfl, ?_⟩) hS ?_
  rotate_left
  · (intro w _; go_simp; first | done | with_reducible rfl | (rw [if_pos (by omega)]) | (rw [if_pos (by omega)]; go_simp))
  simp only [Act.put]
  refine wpZ_takeP (i := 7) (v := ?_) rfl (by kernel_rfl) (fun _ _ _ h => h) (Or.inl ⟨by rfl, ?_⟩) hS ?_
  rotate_left
  · (intro w _; go_simp; first | done | with_reducible rfl | (rw [if_pos (by omega)]) | (rw [if_pos (by omega)]; go_simp))
  simp only [Act.put]
  refine wpZ_ready (rs := [6]) (by kernel_rfl) (by simp) ?_
  refine AllZ.cons rfl (fun K hK => ?_) AllZ.nil
  go_simp
  refine (seCell_any We x).mono ?_
  rintro e X2 ⟨rfl, b2⟩
  have bX : Below W5.heap.size W5 X2 := KD.out.trans (b2.mono KD.out.size)
  obtain ⟨Y, hst, hmY, htY, hsY⟩ := (KU.out.2.2.2.2.2.1.later bX).store (by omega) hk.1 hk.2 xs.length (by omega)
  rw [← seW_snoc H.out.2.2.2.2.2.1] at hmY
  have hS2 : (fun X : World => X.cell? ⟨p, 1, none⟩ = some (.map (some mb)) ∧ SetAt X w.heap.size 0 x) X2 := by
    obtain ⟨g1, g2, g3, g4, g5, g6, g7, g8, g9, g10, g11, g12⟩ := KU.out
    exact ⟨(bX.cell (p := ⟨p, 1, none⟩) g9).trans g4, g1.below bX g11⟩
  have K7 : Hid (PisB Y base p mb (n + 1) (Value.slice a5 (xs.length + 1) k5) (xs ++ [x]) ∧ Below base w Y) := by
    obtain ⟨g1, g2, g3, g4, g5, g6, g7, g8, g9, g10, g11, g12⟩ := KU.out
    have hpm := K1.out.1.pm
    have hp5 := (htY.block p (Nat.lt_of_lt_of_le g9 bX.size) hpm).trans (bX.block p g9)
    refine ⟨⟨(World.cell?_of_block (a := ⟨p, 0, none⟩) hp5).trans g3, (World.cell?_of_block (a := ⟨p, 1, none⟩) hp5).trans g4, fun j => (World.frozen?_of_block (a := ⟨p, j, none⟩) hp5).trans (g5 j), g2.keep (fun b _ hb e => (htY.block b (Nat.lt_of_lt_of_le hb bX.size) (fun e' => g8 (by rw [e, e']))).trans (bX.block b hb)), hmY, fun s hs => ?_, g7, g8, hpm, K1.out.1.bp, K1.out.1.bm, by rw [hsY]; exact Nat.lt_of_lt_of_le g9 bX.size⟩, ?_⟩
    · rcases List.mem_append.1 hs with hs | hs
      · exact K1.out.1.ok s hs
      · simp at hs; subst hs; exact H.out.2.2.2.2.2.2.1
    · have hbW : base ≤ W5.heap.size := by have := K1.out.1.bp; omega
      exact (g10.trans (bX.mono hbW)).trans (htY.below K1.out.1.bm (Nat.le_trans hbW bX.size))
  simp only [cKey] at hst
  refine hK.out _ _ (fun _ => hS2) ?_
  clear hK K hS2 hS bX KD hmY htY hsY hm hk b2
  refine wpZ_ready (rs := [8]) (by kernel_rfl) (by simp) ?_
  refine AllZ.cons rfl (fun K hK => ?_) AllZ.nil
  go_simp
  refine hK.out _ _ (fun h => absurd (show false = true from h.symm.trans (by kernel_rfl)) (by decide)) ?_
  clear hK K hst
  refine wpZ_done (by kernel_rfl) ?_ _
  obtain ⟨q5, cap5, hv5, P7⟩ := K7.out.1.pil (by simp)
  have c7 := seLift_any Y base p q5 mb (n + 1) cap5 (xs ++ [x]) xs.length P7 (by omega) (by simp; omega) (by simp) (by
    have := HeapP.HpUp.of_last (n := xs.length) (k := seK (xs ++ [x])) (fun i h0 hi => by
      have e1 : seK (xs ++ [x]) i = seK xs i := by unfold seK atSe; rw [List.getElem?_append_left hi]
      have e2 : seK (xs ++ [x]) ((i - 1) / 2) = seK xs ((i - 1) / 2) := by unfold seK atSe; rw [List.getElem?_append_left (by omega)]
      rw [e1, e2]; exact HS.out i h0 hi)
    simpa using this)
  go_wp2_with fail
  refine c7.mono ?_
  clear c7
  rintro e w8 ⟨rfl, n8, ys, hn8, p8, pm8, hp8, k8⟩
  have KE : Hid (n8 ≤ n + 1 + 2 * xs.length ∧ Pis w8 base p q5 mb n8 cap5 ys ∧ ys.Perm (xs ++ [x]) ∧ HeapP.Hp (seK ys) ys.length ∧ Below base w w8) := ⟨by omega, p8, pm8, hp8, K7.out.2.trans (k8.below (fun b hb => by rcases hb with rfl | rfl | rfl; exact p8.bp; exact p8.bq; exact p8.bm) (by have := K7.out.1.bp; have := K7.out.1.lp; omega))⟩
  clear p8 pm8 hp8 k8 hn8
  go_wp2
  refine bodyPost_end (v := .tuple #[]) (by simp [results, Try.results59, go_sem]) rfl ⟨rfl, q5, cap5, n8, ys, KE.out⟩
end Go.Proofs.Ytiidlcjjaglkdaa