/- HeapP; LftN; SnkN; TakN; InoN: joined. -/
import Derived.Test.YtiidlcjjaglkdaaRows
import Derived.Test.YtiidlcjjaglkdaaJ3LawNoted
import Derived.WalkKit
import Derived.WalkSpells
import Derived.WalkLawsBesides
import Derived.Below
import Derived.Lib.QuietBelow
import Derived.BigQuiet
import Derived.Deep.RegionWith
import Derived.Deep.CutRange
namespace Go.Proofs.Ytiidlcjjaglkdaa
namespace HeapP
def swF {α : Type} (k : Nat → α) (a b : Nat) : Nat → α := fun i => if i = a then k b else if i = b then k a else k i
def Hp (k : Nat → Int) (n : Nat) : Prop := ∀ i, 0 < i → i < n → k ((i - 1) / 2) ≤ k i
def HpUp (k : Nat → Int) (n c : Nat) : Prop := (∀ i, 0 < i → i < n → i ≠ c → k ((i - 1) / 2) ≤ k i) ∧ (∀ i, 0 < i → i < n → (i - 1) / 2 = c → 0 < c → k ((c - 1) / 2) ≤ k i)
def HpDn (k : Nat → Int) (n c : Nat) : Prop := (∀ i, 0 < i → i < n → (i - 1) / 2 ≠ c → k ((i - 1) / 2) ≤ k i) ∧ (∀ i, 0 < i → i < n → (i - 1) / 2 = c → 0 < c → k ((c - 1) / 2) ≤ k i)
theorem HpUp.done {k : Nat → Int} {n c : Nat} (h : HpUp k n c) (hc : c = 0 ∨ k ((c - 1) / 2) ≤ k c) : Hp k n := fun i h0 hn => by
  by_cases e : i = c
  · subst e; rcases hc with hc | hc
    · omega
    · exact hc
  · exact h.1 i h0 hn e
theorem HpUp.step {k : Nat → Int} {n c : Nat} (h : HpUp k n c) (h0 : 0 < c) (hn : c < n) (hl : k c < k ((c - 1) / 2)) : HpUp (swF k c ((c - 1) / 2)) n ((c - 1) / 2) := by
  obtain ⟨h1, h2⟩ := h
  refine ⟨fun i i0 hi hne => ?_, fun i i0 hi hp hpc => ?_⟩
  · unfold swF
    by_cases e1 : i = c
    · subst e1
      simp [show ¬ (i - 1) / 2 = i by omega]; omega
    · by_cases e2 : (i - 1) / 2 = c
      · simp [e1, hne, e2]; exact h2 i i0 hi e2 h0
      · by_cases e3 : (i - 1) / 2 = (c - 1) / 2
        · simp [e1, hne, e3, show ¬ (c - 1) / 2 = c by omega]
          have := h1 i i0 hi e1
          rw [e3] at this
          omega
        · simp [e1, hne, e2, e3]
          exact h1 i i0 hi e1
  · unfold swF
    have hq := h1 ((c - 1) / 2) (by omega) (by omega) (by omega)
    by_cases e1 : i = c
    · subst e1
      simp [show ¬ ((i - 1) / 2 - 1) / 2 = i by omega, show ¬ ((i - 1) / 2 - 1) / 2 = (i - 1) / 2 by omega]
      exact hq
    · have hi' := h1 i i0 hi e1
      rw [hp] at hi'
      simp [e1, show ¬ i = (c - 1) / 2 by omega, show ¬ ((c - 1) / 2 - 1) / 2 = c by omega, show ¬ ((c - 1) / 2 - 1) / 2 = (c - 1) / 2 by omega]
      omega
theorem HpDn.done {k : Nat → Int} {n c : Nat} (h : HpDn k n c) (h1 : 2 * c + 1 < n → k c ≤ k (2 * c + 1)) (h2 : 2 * c + 2 < n → k c ≤ k (2 * c + 2)) : Hp k n := fun i h0 hn => by
  by_cases e : (i - 1) / 2 = c
  · rw [e]
    rcases (show i = 2 * c + 1 ∨ i = 2 * c + 2 by omega) with rfl | rfl
    · exact h1 hn
    · exact h2 hn
  · exact h.1 i h0 hn e
theorem HpDn.step {k : Nat → Int} {n c l : Nat} (h : HpDn k n c) (hl : l = 2 * c + 1 ∨ l = 2 * c + 2) (hn : l < n) (hlt : k l < k c) (h1 : 2 * c + 1 < n → k l ≤ k (2 * c + 1)) (h2 : 2 * c + 2 < n → k l ≤ k (2 * c + 2)) : HpDn (swF k c l) n l := by
  obtain ⟨g1, g2⟩ := h
  have hpl : (l - 1) / 2 = c := by omega
  refine ⟨fun i i0 hi hne => ?_, fun i i0 hi hp _ => ?_⟩
  · unfold swF
    by_cases e0 : i = c
    · subst e0
      simp [show ¬ (i - 1) / 2 = i by omega, hne]
      exact g2 l (by omega) hn hpl i0
    · by_cases e1 : (i - 1) / 2 = c
      · simp only [e1, e0, if_true, if_false]
        by_cases e2 : i = l
        · simp [e2]; omega
        · simp [e2]
          rcases (show i = 2 * c + 1 ∨ i = 2 * c + 2 by omega) with rfl | rfl
          · exact h1 hi
          · exact h2 hi
      · have := g1 i i0 hi e1
        by_cases e2 : i = l
        · omega
        · simp [e0, e1, e2, hne]; exact this
  · unfold swF
    have := g1 i i0 hi (by omega)
    rw [hp] at this
    simp [hpl, show ¬ i = c by omega, show ¬ i = l by omega]
    exact this
theorem Hp.top {k : Nat → Int} {n : Nat} (h : Hp k n) : ∀ i, i < n → k 0 ≤ k i := by
  intro i
  induction i using Nat.strongRecOn with
  | ind i ih =>
    intro hi
    by_cases e : i = 0
    · subst e; exact Int.le_refl _
    · have := ih ((i - 1) / 2) (by omega) (by omega)
      have := h i (by omega) hi
      omega
theorem HpUp.of_last {k : Nat → Int} {n : Nat} (h : Hp k n) : HpUp k (n + 1) n := ⟨fun i h0 hn hne => h i h0 (by omega), fun i h0 hn hp h' => by omega⟩
theorem HpDn.of_top {k : Nat → Int} {n : Nat} (h : Hp k (n + 1)) : HpDn (swF k 0 n) n 0 := ⟨fun i h0 hn hne => by
  have := h i h0 (by omega)
  unfold swF
  simp [show ¬ i = 0 by omega, show ¬ i = n by omega, hne, show ¬ (i - 1) / 2 = n by omega]
  exact this, fun i h0 hn hp h' => by omega⟩
end HeapP
namespace HeapP
def swL {α : Type} (xs : List α) (a b : Nat) (x y : α) : List α := (xs.set a y).set b x
theorem set_set_perm {α : Type} : ∀ (xs : List α) (a b : Nat) (x y : α), xs[a]? = some x → xs[b]? = some y → ((xs.set a y).set b x).Perm xs := by
  intro xs a b x y ha hb
  have hla := (List.getElem?_eq_some_iff.1 ha).1
  have hlb := (List.getElem?_eq_some_iff.1 hb).1
  have hxa := (List.getElem?_eq_some_iff.1 ha).2
  have hxb := (List.getElem?_eq_some_iff.1 hb).2
  have := Array.swap_perm (xs := xs.toArray) (i := a) (j := b) (by simpa using hla) (by simpa using hlb)
  have h2 := Array.perm_iff_toList_perm.1 this
  simp [Array.swap, hxa, hxb] at h2
  exact h2
theorem rise_eq {α : Type} (rk : α → Int) : ∀ {l₁ l₂ : List α}, l₁.Pairwise (fun p q => rk p < rk q) → l₂.Pairwise (fun p q => rk p < rk q) → l₁.Perm l₂ → l₁ = l₂
  | [], l₂, _, _, h => (List.Perm.nil_eq h)
  | x :: r, [], _, _, h => by have := h.length_eq; simp at this
  | x :: r, y :: s, h1, h2, h => by
    obtain ⟨a1, a2⟩ := List.pairwise_cons.1 h1
    obtain ⟨b1, b2⟩ := List.pairwise_cons.1 h2
    have hx : x ∈ y :: s := h.mem_iff.1 (by simp)
    have hy : y ∈ x :: r := h.mem_iff.2 (by simp)
    have e : x = y := by
      rcases List.mem_cons.1 hx with e | hx
      · exact e
      · rcases List.mem_cons.1 hy with e | hy
        · exact e.symm
        · have := a1 y hy; have := b1 x hx; omega
    subst e
    rw [rise_eq rk a2 b2 (List.Perm.cons_inv h)]
theorem HpDn.congr {k k' : Nat → Int} {n : Nat} (h : HpDn k n 0) (e : ∀ i, i < n → k' i = k i) : HpDn k' n 0 :=
  ⟨fun i h0 hn hc => by rw [e i hn, e _ (by omega)]; exact h.1 i h0 hn hc, fun i _ _ _ h' => by omega⟩
end HeapP
end Go.Proofs.Ytiidlcjjaglkdaa
namespace Go.Proofs.Ytiidlcjjaglkdaa
open Go.RowKit
open Go.Sort (grow)
def noK (xs : List N5) (i : Nat) : Int := rk (atNo xs i).region (atNo xs i).slot
theorem noK_at {xs : List N5} {i : Nat} {x : N5} (h : xs[i]? = some x) : noK xs i = rk x.region x.slot := by
  unfold noK atNo; rw [h]; rfl
set_option maxHeartbeats 4000000 in
theorem noLess_any (w : World) (base p q mb n cap : Nat) (xs : List N5) (i j : Nat) (x y : N5) (h : Pin w base p q mb n cap xs) (hi : xs[i]? = some x) (hj : xs[j]? = some y) :
    Calls Try.prog 115 #[.pointer (some ⟨p, 0, none⟩), .int .i64 (i : Int), .int .i64 (j : Int)] w fun e w' => e = .returned (.bool (decide (rk x.region x.slot < rk y.region y.slot))) ∧ Below w.heap.size w w' := by
  have li := (List.getElem?_eq_some_iff.1 hi).1
  have lj := (List.getElem?_eq_some_iff.1 hj).1
  have ix : (i : Int) < (xs.length : Int) := by omega
  have jx : (j : Int) < (xs.length : Int) := by omega
  obtain ⟨t0, t1, t2, t3, t4⟩ := (show NoteAt w q (i * 5) x by simpa using h.at_ i x hi)
  obtain ⟨u0, u1, u2, u3, u4⟩ := (show NoteAt w q (j * 5) y by simpa using h.at_ j y hj)
  have lift : ∀ {o : Nat} {u : Value}, w.cell? ⟨q, o, none⟩ = some u → ∀ d os, (grow (redrawn w d) os).cell? ⟨q, o, none⟩ = some u := fun {o u} hh d os => ((below_regrown w d os).cell (p := ⟨q, o, none⟩) h.lq).trans hh
  have x0 := lift t0
  have y0 := lift u0
  have x1 := lift t1
  have y1 := lift u1
  have x2 := lift t2
  have y2 := lift u2
  have x3 := lift t3
  have y3 := lift u3
  have x4 := lift t4
  have y4 := lift u4
  have z0 : ∀ d os, (grow (redrawn w d) os).cell? ⟨p, 0, none⟩ = some (.slice (some ⟨q, 0, none⟩) xs.length cap) := fun d os => ((below_regrown w d os).cell (p := ⟨p, 0, none⟩) h.lp).trans h.c0
  have k1 := noOk_in (h.ok x (List.mem_of_getElem? hi))
  have k2 := noOk_in (h.ok y (List.mem_of_getElem? hj))
  have cA : ∀ d os, Calls Try.prog 106 #[.agg #[.int .i64 x.region, .int .i64 x.slot, .int .i64 x.version, .int .i64 x.value, .bool x.used]] (grow (redrawn w d) os) fun e w'' => e = .returned (.int .i64 (rk x.region x.slot)) ∧ ∃ p : Regrown, w'' = grow (redrawn w p.d) p.os := fun d os => Calls.regrown_of (noRank_any _ _ k1.1 k1.2)
  have cB : ∀ d os, Calls Try.prog 106 #[.agg #[.int .i64 y.region, .int .i64 y.slot, .int .i64 y.version, .int .i64 y.value, .bool y.used]] (grow (redrawn w d) os) fun e w'' => e = .returned (.int .i64 (rk y.region y.slot)) ∧ ∃ p : Regrown, w'' = grow (redrawn w p.d) p.os := fun d os => Calls.regrown_of (noRank_any _ _ k2.1 k2.2)
  clear lift t0 t1 t2 t3 t4 u0 u1 u2 u3 u4 k1 k2 h hi hj
  generalize rk x.region x.slot = rx at *
  generalize rk y.region y.slot = ry at *
  generalize x.region = a0 at *
  generalize y.region = e0 at *
  generalize x.slot = a1 at *
  generalize y.slot = e1 at *
  generalize x.version = a2 at *
  generalize y.version = e2 at *
  generalize x.value = a3 at *
  generalize y.value = e3 at *
  generalize x.used = a4 at *
  generalize y.used = e4 at *
  go_enter Try.func115, Try.ntmps115
  go_wp2_with fail
  refine wp_region_quiet_below (by kernel_rfl) (by kernel_rfl) ?_
  repeat (go_big_quiet_step (first | (go_at_call_of 106 (Value.agg #[.int .i64 a0, .int .i64 a1, .int .i64 a2, .int .i64 a3, .bool a4]); exact cA _ _) | (go_at_call_of 106 (Value.agg #[.int .i64 e0, .int .i64 e1, .int .i64 e2, .int .i64 e3, .bool e4]); exact cB _ _)))
  refine wpQuiet_nil ?_
  intro _ hw'
  obtain ⟨⟨dq', osq⟩, hw''⟩ := hw'
  subst hw''
  have bq := below_regrown w dq' osq
  go_wp2
  go_ret
  exact ⟨rfl, bq⟩
theorem noK_swap {xs : List N5} {i j : Nat} {x y : N5} (hi : xs[i]? = some x) (hj : xs[j]? = some y) (k : Nat) : noK ((xs.set i y).set j x) k = HeapP.swF (noK xs) i j k := by
  have li := (List.getElem?_eq_some_iff.1 hi).1
  have lj := (List.getElem?_eq_some_iff.1 hj).1
  unfold HeapP.swF
  by_cases e1 : k = i
  · subst e1
    rw [if_pos rfl]
    by_cases e2 : j = k
    · subst e2
      rw [noK_at (x := x) (by rw [List.getElem?_set_self (by simpa using lj)]), noK_at hi]
    · rw [noK_at (x := y) (by rw [List.getElem?_set_ne e2, List.getElem?_set_self li]), noK_at hj]
  · rw [if_neg e1]
    by_cases e2 : k = j
    · subst e2
      rw [if_pos rfl, noK_at (x := x) (by rw [List.getElem?_set_self (by simpa using lj)]), noK_at hi]
    · rw [if_neg e2]
      unfold noK atNo
      rw [List.getElem?_set_ne (Ne.symm e2), List.getElem?_set_ne (Ne.symm e1)]
set_option maxHeartbeats 4000000 in
theorem noLift_any (w : World) (base p q mb n cap : Nat) (xs : List N5) (c : Nat) (h : Pin w base p q mb n cap xs) (hn : n ≤ 10000) (hl : xs.length ≤ 1000) (hc : c < xs.length) (hu : HeapP.HpUp (noK xs) xs.length c) :
    Calls Try.prog 93 #[.pointer (some ⟨p, 0, none⟩), .int .i64 (c : Int)] w fun e w' => e = .returned (.tuple #[]) ∧ ∃ n' ys, n' ≤ n + 2 * c ∧ Pin w' base p q mb n' cap ys ∧ ys.Perm xs ∧ HeapP.Hp (noK ys) ys.length ∧ KeptP (OfP p q mb) w w' := by
  have H : Hid (Pin w base p q mb n cap xs ∧ HeapP.HpUp (noK xs) xs.length c) := ⟨h, hu⟩
  clear h hu
  go_enter Try.func93, Try.ntmps93
  go_wp2
  go_loopw [1] (fun v wr => ∃ (d n' : Nat) (ys : List N5), v = .int .i64 (d : Int) ∧ d < xs.length ∧ n' + 2 * d ≤ n + 2 * c ∧ ys.length = xs.length ∧ Pin wr base p q mb n' cap ys ∧ ys.Perm xs ∧ HeapP.HpUp (noK ys) ys.length d ∧ KeptP (OfP p q mb) w wr) (fun v _ => (intOf v).toNat)
  case atStart => exact ⟨c, n, xs, rfl, hc, by omega, rfl, H.out.1, List.Perm.refl _, H.out.2, KeptP.refl _ _⟩
  case round =>
    obtain ⟨d, n', ys, rfl, hd, hnn, hle, hp, hpm, hu, hk⟩ := hrel
    rcases d with _ | e
    · have KE : Hid (Pin wr base p q mb n' cap ys ∧ ys.Perm xs ∧ HeapP.Hp (noK ys) ys.length ∧ KeptP (OfP p q mb) w wr) := ⟨hp, hpm, hu.done (.inl rfl), hk⟩
      clear hp hpm hu hk
      have d0 : decide ((0 : Int) < ((0 : Nat) : Int)) = false := by simp
      go_wp2
      refine bodyPost_end (v := .tuple #[]) (by simp [results, Try.results93, go_sem]) rfl ⟨rfl, n', ys, by omega, KE.out.1, KE.out.2.1, KE.out.2.2.1, KE.out.2.2.2⟩
    · have d0 : decide ((0 : Int) < ((e + 1 : Nat) : Int)) = true := by simp
      obtain ⟨x, hx⟩ : ∃ x, ys[e + 1]? = some x := ⟨_, List.getElem?_eq_getElem (by omega)⟩
      obtain ⟨y, hy⟩ : ∃ y, ys[e / 2]? = some y := ⟨_, List.getElem?_eq_getElem (by omega)⟩
      have c1 := noLess_any wr base p q mb n' cap ys (e + 1) (e / 2) x y hp hx hy
      have KA : Hid (Pin wr base p q mb n' cap ys ∧ ys.Perm xs ∧ HeapP.HpUp (noK ys) ys.length (e + 1) ∧ KeptP (OfP p q mb) w wr ∧ ys[e + 1]? = some x ∧ ys[e / 2]? = some y ∧ ys.length = xs.length) := ⟨hp, hpm, hu, hk, hx, hy, hle⟩
      have hrk : rk x.region x.slot = noK ys (e + 1) := (noK_at hx).symm
      have hrk' : rk y.region y.slot = noK ys (e / 2) := (noK_at hy).symm
      rw [hrk, hrk'] at c1
      clear hp hpm hu hk hx hy hle hrk hrk'
      by_cases hlt : noK ys (e + 1) < noK ys (e / 2)
      · have dl : decide (noK ys (e + 1) < noK ys (e / 2)) = true := by simpa using hlt
        rw [dl] at c1
        have HLT := hidOf hlt
        have ea : ((e + 1 : Nat) : Int) = (e : Int) + 1 := by omega
        have eb : ((e / 2 : Nat) : Int) = (e : Int) / 2 := by omega
        rw [ea, eb] at c1
        clear hlt dl ea eb
        go_wp2_with fail
        refine c1.mono ?_
        clear c1
        rintro e' w1 ⟨rfl, b1⟩
        have c2 := noSwap_any w1 base p q mb n' cap ys (e + 1) (e / 2) x y (KA.out.1.later b1) (by omega) (by have := KA.out.2.2.2.2.2.2; omega) KA.out.2.2.2.2.1 KA.out.2.2.2.2.2.1
        have ea : ((e + 1 : Nat) : Int) = (e : Int) + 1 := by omega
        have eb : ((e / 2 : Nat) : Int) = (e : Int) / 2 := by omega
        rw [ea, eb] at c2
        have KB : Hid (Below wr.heap.size wr w1) := b1
        clear ea eb b1
        go_wp2_with fail
        refine c2.mono ?_
        clear c2
        rintro e' w2 ⟨rfl, p2, k2⟩
        have KE : Hid (Pin w2 base p q mb (n' + 1 + 1) cap ((ys.set (e + 1) y).set (e / 2) x) ∧ KeptP (OfP p q mb) w w2) := ⟨p2, (KA.out.2.2.2.1.trans (KeptP.of_below KB.out)).trans k2⟩
        clear p2 k2
        go_wp2
        obtain ⟨f1, f2, f3, f4, f5, f6, f7⟩ := KA.out
        refine ⟨⟨e / 2, n' + 1 + 1, (ys.set (e + 1) y).set (e / 2) x, by simp, by omega, by omega, by simpa using f7, KE.out.1, (HeapP.set_set_perm ys (e + 1) (e / 2) x y f5 f6).trans f2, ?_, KE.out.2⟩, by simp [intOf]; omega⟩
        have hst := f3.step (by omega) (by omega) (by simpa using HLT.out)
        rw [show (e + 1 - 1) / 2 = e / 2 by omega] at hst
        have hfun : noK ((ys.set (e + 1) y).set (e / 2) x) = HeapP.swF (noK ys) (e + 1) (e / 2) := funext fun k => noK_swap f5 f6 k
        rw [hfun]
        simpa using hst
      · have dl : decide (noK ys (e + 1) < noK ys (e / 2)) = false := by simpa using hlt
        rw [dl] at c1
        have KE : Hid (HeapP.Hp (noK ys) ys.length) := KA.out.2.2.1.done (.inr (by simp at hlt ⊢; omega))
        have ea : ((e + 1 : Nat) : Int) = (e : Int) + 1 := by omega
        have eb : ((e / 2 : Nat) : Int) = (e : Int) / 2 := by omega
        rw [ea, eb] at c1
        clear hlt dl ea eb
        go_wp2_with fail
        refine c1.mono ?_
        clear c1
        rintro e' w1 ⟨rfl, b1⟩
        have KB : Hid (Below wr.heap.size wr w1) := b1
        clear b1
        go_wp2
        refine bodyPost_ret (v := .tuple #[]) (by simp [results, Try.results93, go_sem]) rfl ⟨rfl, n', ys, by omega, KA.out.1.later KB.out, KA.out.2.1, KE.out, KA.out.2.2.2.1.trans (KeptP.of_below KB.out)⟩
end Go.Proofs.Ytiidlcjjaglkdaa
namespace Go.Proofs.Ytiidlcjjaglkdaa
open Go.RowKit
set_option maxHeartbeats 8000000 in
theorem noSink_any (w : World) (base p q mb n cap : Nat) (xs : List N5) (h : Pin w base p q mb n cap xs) (hn : n ≤ 10000) (hl : xs.length ≤ 1000) (hu : HeapP.HpDn (noK xs) xs.length 0) :
    Calls Try.prog 117 #[.pointer (some ⟨p, 0, none⟩), .int .i64 0] w fun e w' => e = .returned (.tuple #[]) ∧ ∃ n' ys, n' ≤ n + 2 * xs.length ∧ Pin w' base p q mb n' cap ys ∧ ys.Perm xs ∧ HeapP.Hp (noK ys) ys.length ∧ KeptP (OfP p q mb) w w' := by
  have H : Hid (Pin w base p q mb n cap xs ∧ HeapP.HpDn (noK xs) xs.length 0) := ⟨h, hu⟩
  clear h hu
  go_enter Try.func117, Try.ntmps117
  go_wp2
  go_loopw [1] (fun v wr => ∃ (d n' : Nat) (ys : List N5), v = .int .i64 (d : Int) ∧ (d < xs.length ∨ d = 0) ∧ n' ≤ n + 2 * d ∧ ys.length = xs.length ∧ Pin wr base p q mb n' cap ys ∧ ys.Perm xs ∧ HeapP.HpDn (noK ys) ys.length d ∧ KeptP (OfP p q mb) w wr) (fun v _ => 2000 - (intOf v).toNat)
  case atStart => exact ⟨0, n, xs, rfl, .inr rfl, by omega, rfl, H.out.1, List.Perm.refl _, H.out.2, KeptP.refl _ _⟩
  case round =>
    obtain ⟨d, n', ys, rfl, hd, hnn, hle, hp, hpm, hu, hk⟩ := hrel
    have KA : Hid (Pin wr base p q mb n' cap ys ∧ ys.Perm xs ∧ HeapP.HpDn (noK ys) ys.length d ∧ KeptP (OfP p q mb) w wr ∧ ys.length = xs.length) := ⟨hp, hpm, hu, hk, hle⟩
    clear hp hpm hu hk hle
    have hd1 : d ≤ 1000 := by omega
    go_wp2
    generalize wr = W0 at *
    go_loopw [4, 5] (fun v4 v5 wr => ∃ l b : Nat, v4 = .int .i64 (l : Int) ∧ v5 = .int .i64 (b : Int) ∧ 2 * d + 1 ≤ b ∧ b ≤ 2 * d + 3 ∧ Below W0.heap.size W0 wr ∧ (l = d ∨ (2 * d + 1 ≤ l ∧ l < b ∧ l < ys.length ∧ noK ys l < noK ys d)) ∧ (∀ j, 2 * d + 1 ≤ j → j < b → j < ys.length → noK ys l ≤ noK ys j)) (fun _ v5 _ => 2 * d + 3 - (intOf v5).toNat)
    case atStart => exact ⟨d, 2 * d + 1, rfl, by simp, by omega, by omega, Below.refl _ _, .inl rfl, fun j h1 h2 => by omega⟩
    case round =>
      obtain ⟨l, b, rfl, rfl, hb1, hb2, hbl, hl1, hl2⟩ := hrel
      have hlen := KA.out.2.2.2.2
      by_cases hbe : b ≤ 2 * d + 2
      · have db : decide ((b : Int) ≤ 2 * (d : Int) + 2) = true := by simp; omega
        have p0 := (KA.out.1.later hbl).c0
        rw [hlen] at p0
        by_cases hbn : b < xs.length
        · have dn : decide ((b : Int) < (xs.length : Int)) = true := by simp; omega
          have hln : l < ys.length := by omega
          obtain ⟨x, hx⟩ : ∃ x, ys[b]? = some x := ⟨_, List.getElem?_eq_getElem (by omega)⟩
          obtain ⟨y, hy⟩ : ∃ y, ys[l]? = some y := ⟨_, List.getElem?_eq_getElem hln⟩
          have c1 := noLess_any wr base p q mb n' cap ys b l x y (KA.out.1.later hbl) hx hy
          rw [(noK_at hx).symm, (noK_at hy).symm] at c1
          have KB : Hid (Below W0.heap.size W0 wr ∧ (l = d ∨ (2 * d + 1 ≤ l ∧ l < b ∧ l < ys.length ∧ noK ys l < noK ys d)) ∧ (∀ j, 2 * d + 1 ≤ j → j < b → j < ys.length → noK ys l ≤ noK ys j) ∧ ys.length = xs.length) := ⟨hbl, hl1, hl2, hlen⟩
          clear hx hy hbl hl1 hl2 hlen hln
          by_cases hlt : noK ys b < noK ys l
          · have dl : decide (noK ys b < noK ys l) = true := by simpa using hlt
            rw [dl] at c1
            have HLT := hidOf hlt
            clear hlt dl
            go_wp2_with fail
            refine c1.mono ?_
            clear c1
            rintro e' w1 ⟨rfl, b1⟩
            have KC : Hid (Below W0.heap.size W0 w1) := KB.out.1.trans (b1.mono KB.out.1.size)
            clear b1 p0
            go_wp2
            obtain ⟨_, g1, g2, g3⟩ := KB.out
            have g4 := HLT.out
            refine ⟨⟨b, b + 1, rfl, by simp, by omega, by omega, KC.out, .inr ⟨by omega, by omega, by omega, ?_⟩, fun j h1 h2 h3 => ?_⟩, by simp [intOf]; omega⟩
            · rcases g1 with rfl | g1
              · exact g4
              · have := g1.2.2.2; omega
            · by_cases e : j = b
              · subst e; exact Int.le_refl _
              · have := g2 j h1 (by omega) h3; omega
          · have dl : decide (noK ys b < noK ys l) = false := by simpa using hlt
            rw [dl] at c1
            have HLT := hidOf hlt
            clear hlt dl
            go_wp2_with fail
            refine c1.mono ?_
            clear c1
            rintro e' w1 ⟨rfl, b1⟩
            have KC : Hid (Below W0.heap.size W0 w1) := KB.out.1.trans (b1.mono KB.out.1.size)
            clear b1 p0
            go_wp2
            obtain ⟨_, g1, g2, g3⟩ := KB.out
            have g4 := HLT.out
            refine ⟨⟨l, b + 1, rfl, by simp, by omega, by omega, KC.out, ?_, fun j h1 h2 h3 => ?_⟩, by simp [intOf]; omega⟩
            · rcases g1 with g1 | g1
              · exact .inl g1
              · exact .inr ⟨g1.1, by omega, g1.2.2.1, g1.2.2.2⟩
            · by_cases e : j = b
              · subst e; omega
              · exact g2 j h1 (by omega) h3
        · have dn : decide ((b : Int) < (xs.length : Int)) = false := by simp; omega
          have KB : Hid (Below W0.heap.size W0 wr ∧ (l = d ∨ (2 * d + 1 ≤ l ∧ l < b ∧ l < ys.length ∧ noK ys l < noK ys d)) ∧ (∀ j, 2 * d + 1 ≤ j → j < b → j < ys.length → noK ys l ≤ noK ys j) ∧ ys.length = xs.length) := ⟨hbl, hl1, hl2, hlen⟩
          clear hbl hl1 hl2 hlen
          go_wp2
          obtain ⟨g0, g1, g2, g3⟩ := KB.out
          refine ⟨⟨l, b + 1, rfl, by simp, by omega, by omega, g0, ?_, fun j h1 h2 h3 => ?_⟩, by simp [intOf]; omega⟩
          · rcases g1 with g1 | g1
            · exact .inl g1
            · exact .inr ⟨g1.1, by omega, g1.2.2.1, g1.2.2.2⟩
          · exact g2 j h1 (by omega) h3
      · have db : decide ((b : Int) ≤ 2 * (d : Int) + 2) = false := by simp; omega
        have KB : Hid (Below W0.heap.size W0 wr ∧ (l = d ∨ (2 * d + 1 ≤ l ∧ l ≤ 2 * d + 2 ∧ l < ys.length ∧ noK ys l < noK ys d)) ∧ (∀ j, 2 * d + 1 ≤ j → j ≤ 2 * d + 2 → j < ys.length → noK ys l ≤ noK ys j)) := ⟨hbl, by
          rcases hl1 with g | g
          · exact .inl g
          · exact .inr ⟨g.1, by omega, g.2.2.1, g.2.2.2⟩, fun j h1 h2 h3 => hl2 j h1 (by omega) h3⟩
        clear hl1 hl2 hbl hb1 hb2 hbe
        by_cases hld : l = d
        · have ql : ((l : Int) == (d : Int)) = true := by simp; omega
          have KE : Hid (HeapP.Hp (noK ys) ys.length) := KA.out.2.2.1.done (fun h1 => by have := KB.out.2.2 (2 * d + 1) (by omega) (by omega) h1; rwa [hld] at this) (fun h1 => by have := KB.out.2.2 (2 * d + 2) (by omega) (by omega) h1; rwa [hld] at this)
          have HD : Hid (d < xs.length ∨ d = 0) := hd
          clear hld hlen hd
          go_wp2
          obtain ⟨f1, f2, f3, f4, f5⟩ := KA.out
          have f6 := HD.out
          refine bodyPost_ret (v := .tuple #[]) (by simp [results, Try.results117, go_sem]) rfl ⟨rfl, n', ys, by omega, f1.later KB.out.1, f2, KE.out, f4.trans (KeptP.of_below KB.out.1)⟩
        · have ql : ((l : Int) == (d : Int)) = false := by simp; omega
          have hl3 : 2 * d + 1 ≤ l ∧ l ≤ 2 * d + 2 ∧ l < ys.length ∧ noK ys l < noK ys d := KB.out.2.1.resolve_left hld
          obtain ⟨x, hx⟩ : ∃ x, ys[d]? = some x := ⟨_, List.getElem?_eq_getElem (by omega)⟩
          obtain ⟨y, hy⟩ : ∃ y, ys[l]? = some y := ⟨_, List.getElem?_eq_getElem hl3.2.2.1⟩
          have c2 := noSwap_any wr base p q mb n' cap ys d l x y (KA.out.1.later KB.out.1) (by omega) (by omega) hx hy
          have KX : Hid (ys[d]? = some x ∧ ys[l]? = some y ∧ 2 * d + 1 ≤ l ∧ l ≤ 2 * d + 2 ∧ l < ys.length ∧ noK ys l < noK ys d) := ⟨hx, hy, hl3⟩
          clear hx hy hl3 hld hlen
          go_wp2_with fail
          refine c2.mono ?_
          clear c2
          rintro e' w2 ⟨rfl, p2, k2⟩
          have KE : Hid (Pin w2 base p q mb (n' + 1 + 1) cap ((ys.set d y).set l x) ∧ KeptP (OfP p q mb) w w2) := ⟨p2, (KA.out.2.2.2.1.trans (KeptP.of_below KB.out.1)).trans k2⟩
          clear p2 k2
          go_wp2
          obtain ⟨f1, f2, f3, f4, f5⟩ := KA.out
          obtain ⟨g1, g2, g3, g4, g5, g6⟩ := KX.out
          refine ⟨⟨l, n' + 1 + 1, (ys.set d y).set l x, rfl, .inl (by omega), by omega, by simpa using f5, KE.out.1, (HeapP.set_set_perm ys d l x y g1 g2).trans f2, ?_, KE.out.2⟩, by simp [intOf]; omega⟩
          have hst := f3.step (l := l) (by omega) g5 g6 (fun h1 => KB.out.2.2 _ (by omega) (by omega) h1) (fun h1 => KB.out.2.2 _ (by omega) (by omega) h1)
          have hfun : noK ((ys.set d y).set l x) = HeapP.swF (noK ys) d l := funext fun k => noK_swap g1 g2 k
          rw [hfun]
          simpa using hst
theorem NoteAt.of_blk {W V : World} {b o : Nat} {s : N5} (h : NoteAt W b o s) (e : V.heap[b]? = W.heap[b]?) : NoteAt V b o s :=
  ⟨(World.cell?_of_block (a := ⟨b, o, none⟩) e).trans h.c0, (World.cell?_of_block (a := ⟨b, o + 1, none⟩) e).trans h.c1, (World.cell?_of_block (a := ⟨b, o + 2, none⟩) e).trans h.c2, (World.cell?_of_block (a := ⟨b, o + 3, none⟩) e).trans h.c3, (World.cell?_of_block (a := ⟨b, o + 4, none⟩) e).trans h.c4⟩
theorem Pin.trunc {W : World} {base p q mb n cap : Nat} {xs : List N5} (h : Pin W base p q mb n cap xs) (m : Nat) (hm : m ≤ xs.length) : Pin (W.setCell ⟨p, 0, none⟩ (.slice (some ⟨q, 0, none⟩) m cap)) base p q mb n cap (xs.take m) := by
  have hlm : (xs.take m).length = m := by rw [List.length_take]; omega
  have hq : (W.setCell ⟨p, 0, none⟩ (.slice (some ⟨q, 0, none⟩) m cap)).heap[q]? = W.heap[q]? := Below.heap_setCell _ _ _ _ (fun e => h.pq e.symm)
  refine ⟨by rw [hlm]; exact cell_set_same h.c0, (cell_set_other (by omega)).trans h.c1, fun j => by rw [World.frozen?_setCell]; exact h.fz j, fun i s e => ?_, fun j hj => ?_, by have := h.cp; omega, h.mp.of_block (Below.heap_setCell _ _ _ _ (fun e => h.pm e.symm)), fun s hs => h.ok s (List.mem_of_mem_take hs), h.pq, h.pm, h.qm, h.bp, h.bq, h.bm, by simpa [World.setCell] using h.lp, by simpa [World.setCell] using h.lq⟩
  · rw [List.getElem?_take] at e
    split at e
    · exact (h.at_.of_block hq) i s e
    · cases e
  · exact (h.rm.of_block hq) j (by rw [hlm] at hj; have : m * 5 ≤ xs.length * 5 := Nat.mul_le_mul_right 5 hm; omega)
theorem noLast {xs : List N5} {m : Nat} {x y : N5} (hl : xs.length = m + 1) (hx : xs[0]? = some x) (hy : xs[m]? = some y) : ((xs.set 0 y).set m x)[m]? = some x ∧ xs.Perm (x :: ((xs.set 0 y).set m x).take m) := by
  have h1 : ((xs.set 0 y).set m x)[m]? = some x := by rw [List.getElem?_set_self (by simp; omega)]
  have h2 := HeapP.set_set_perm xs 0 m x y hx hy
  have hlz : ((xs.set 0 y).set m x).length = m + 1 := by simpa using hl
  refine ⟨h1, h2.symm.trans ?_⟩
  generalize (xs.set 0 y).set m x = zs at *
  have h3 : zs = zs.take m ++ [x] := by
    have e : zs.take (m + 1) = zs := List.take_of_length_le (by omega)
    have := List.take_add_one (l := zs) (i := m)
    rw [h1, e] at this
    simpa using this
  exact (List.Perm.of_eq h3).trans List.perm_append_comm
set_option maxRecDepth 100000 in
set_option maxHeartbeats 8000000 in
theorem noTake_any (w : World) (base p q mb n cap m : Nat) (xs : List N5) (x : N5) (h : Pin w base p q mb n cap xs) (hn : n ≤ 9000) (hl : xs.length = m + 1) (hl2 : m ≤ 100) (hx : xs[0]? = some x) (hu : HeapP.Hp (noK xs) xs.length) :
    Calls Try.prog 94 #[.pointer (some ⟨p, 0, none⟩)] w fun e w' => e = .returned (.agg #[.int .i64 x.region, .int .i64 x.slot, .int .i64 x.version, .int .i64 x.value, .bool x.used]) ∧ ∃ n' ys, n' ≤ n + 2 + 2 * m ∧ Pin w' base p q mb n' cap ys ∧ xs.Perm (x :: ys) ∧ HeapP.Hp (noK ys) ys.length ∧ KeptP (OfP p q mb) w w' := by
  obtain ⟨y, hy⟩ : ∃ y, xs[m]? = some y := ⟨_, List.getElem?_eq_getElem (by omega)⟩
  obtain ⟨W0, hW0⟩ : ∃ W, W = w.alloc (.cells #[.int .i64 0, .int .i64 0, .int .i64 0, .int .i64 0, .bool false] 29) := ⟨_, rfl⟩
  have b0 : Below w.heap.size w W0 := by rw [hW0]; exact (Below.refl _ _).alloc (Nat.le_refl _) _
  have h0 := h.later b0
  have zr : W0.heap[w.heap.size]? = some (.cells #[.int .i64 0, .int .i64 0, .int .i64 0, .int .i64 0, .bool false] 29 (0, 0)) := by rw [hW0]; exact heap_alloc_new w _
  have p0 := h0.c0
  rw [hl, hW0] at p0
  have hgs : IntKind.i64.wrap (((m + 1 : Nat) : Int) - 1) = (m : Int) := by simp [IntKind.wrap, IntKind.bits, IntKind.signed]; omega
  have c1 := noSwap_any W0 base p q mb n cap xs 0 m x y h0 (by omega) (by omega) hx hy
  obtain ⟨hz1, hz2⟩ := noLast hl hx hy
  have hdn : HeapP.HpDn (noK (((xs.set 0 y).set m x).take m)) m 0 := by
    rw [hl] at hu
    have hd := HeapP.HpDn.of_top hu
    have hfun : noK ((xs.set 0 y).set m x) = HeapP.swF (noK xs) 0 m := funext fun k => noK_swap hx hy k
    rw [← hfun] at hd
    refine hd.congr (fun i hi => ?_)
    unfold noK atNo
    rw [List.getElem?_take, if_pos hi]
  have H : Hid (Below w.heap.size w W0 ∧ w.heap.size < W0.heap.size ∧ W0.heap[w.heap.size]? = some (.cells #[.int .i64 0, .int .i64 0, .int .i64 0, .int .i64 0, .bool false] 29 (0, 0)) ∧ ((xs.set 0 y).set m x)[m]? = some x ∧ xs.Perm (x :: ((xs.set 0 y).set m x).take m) ∧ HeapP.HpDn (noK (((xs.set 0 y).set m x).take m)) m 0 ∧ noteOkB x = true ∧ p ≠ w.heap.size ∧ q ≠ w.heap.size ∧ mb ≠ w.heap.size) := ⟨b0, by rw [hW0]; simp, zr, hz1, hz2, hdn, h.ok x (List.mem_of_getElem? hx), by have := h.lp; omega, by have := h.lq; omega, by have := h.mp.lt; omega⟩
  have hzl : ((xs.set 0 y).set m x).length = m + 1 := by simpa using hl
  clear h h0 b0 zr hz1 hz2 hdn hu hx hy
  generalize (xs.set 0 y).set m x = zs at *
  go_enter Try.func94, Try.ntmps94
  go_wp2_with fail
  rw [← hW0]
  clear hW0
  refine c1.mono ?_
  clear c1 p0
  rintro e w1 ⟨rfl, p1, k1⟩
  have e0 := p1.c0
  rw [hzl] at e0
  obtain ⟨t0, t1, t2, t3, t4⟩ := (show NoteAt w1 q (m * 5) x by simpa using p1.at_ m x H.out.2.2.2.1)
  have mx : (m : Int) < ((m + 1 : Nat) : Int) := by omega
  obtain ⟨W1, hW1⟩ : ∃ W, W = w1.alloc (.cells #[.int .i64 x.region, .int .i64 x.slot, .int .i64 x.version, .int .i64 x.value, .bool x.used] 29) := ⟨_, rfl⟩
  have b1 : Below w1.heap.size w1 W1 := by rw [hW1]; exact (Below.refl _ _).alloc (Nat.le_refl _) _
  have z1 : W1.heap.size = w1.heap.size + 1 := by rw [hW1]; simp
  have e1 : W1.cell? ⟨p, 0, none⟩ = some (.slice (some ⟨q, 0, none⟩) (m + 1) cap) := (b1.cell (p := ⟨p, 0, none⟩) p1.lp).trans e0
  have f1 := (p1.later b1).fz 0
  have hcap := p1.cp
  rw [hzl] at hcap
  have bx1 : NoteAt W1 w1.heap.size 0 x := by rw [hW1]; exact NoteAt.box w1 x _
  have pt := (p1.later b1).trunc m (by omega)
  obtain ⟨W2, hW2⟩ : ∃ W, W = W1.setCell ⟨p, 0, none⟩ (.slice (some ⟨q, 0, none⟩) m cap) := ⟨_, rfl⟩
  rw [← hW2] at pt
  have hpw : p ≠ w1.heap.size := by have := p1.lp; omega
  have bx2 : NoteAt W2 w1.heap.size 0 x := by
    rw [hW2]
    exact NoteAt.of_blk bx1 (Below.heap_setCell _ _ _ _ (fun e => hpw e.symm))
  have K2 : Hid (Pin W2 base p q mb (n + 1 + 1) cap (zs.take m) ∧ NoteAt W2 w1.heap.size 0 x ∧ KeptP (OfP p q mb) w W2 ∧ w1.heap.size < W2.heap.size ∧ W2.heap[w.heap.size]? = some (.cells #[.int .i64 0, .int .i64 0, .int .i64 0, .int .i64 0, .bool false] 29 (0, 0)) ∧ w.heap.size < w1.heap.size ∧ p ≠ w1.heap.size ∧ q ≠ w1.heap.size ∧ mb ≠ w1.heap.size) := by
    have kk : KeptP (OfP p q mb) w1 W2 := by
      rw [hW2]
      exact (KeptP.of_below b1).trans (KeptP.of_set _ _ (.inl rfl))
    have hnw : ¬ OfP p q mb w.heap.size := by
      rintro (e | e | e)
      · exact H.out.2.2.2.2.2.2.2.1 e.symm
      · exact H.out.2.2.2.2.2.2.2.2.1 e.symm
      · exact H.out.2.2.2.2.2.2.2.2.2 e.symm
    have k02 := k1.trans kk
    exact ⟨pt, bx2, (KeptP.of_below H.out.1).trans k02, by rw [hW2]; simp [World.setCell, z1], (k02.block _ H.out.2.1 hnw).trans H.out.2.2.1, Nat.lt_of_lt_of_le H.out.2.1 k1.size, hpw, by have := p1.lq; omega, by have := p1.mp.lt; omega⟩
  clear p1 k1 b1 z1 bx1 bx2 pt hpw
  rw [hW1] at hW2 e1 f1
  have hmc : (m : Int) ≤ (cap : Int) := by omega
  go_upto_region 5 with fail
  rw [← hW2]
  clear hW2 hW1 e0 e1 f1 t0 t1 t2 t3 t4 W1
  have hk := noOk_in H.out.2.2.2.2.2.2.1
  obtain ⟨lb, hlb⟩ : ∃ lb, lb = w1.heap.size := ⟨_, rfl⟩
  rw [← hlb] at K2 ⊢
  have HLB : Hid (lb = w1.heap.size) := hlb
  clear hlb
  have hS : (fun X : World => X.cell? ⟨p, 1, none⟩ = some (.map (some mb)) ∧ NoteAt X lb 0 x) W2.drew := ⟨K2.out.1.c1, K2.out.2.1.below ((Below.refl W2.heap.size W2).drew) K2.out.2.2.2.1⟩
  have hm : ∀ w : World, (method 247 29 (.agg #[.int .i64 x.region, .int .i64 x.slot, .int .i64 x.version, .int .i64 x.value, .bool x.used]) "loop.example/g00153/impl.cell").run Try.prog w = .ok (42, .agg #[.int .i64 x.region, .int .i64 x.slot, .int .i64 x.version, .int .i64 x.value, .bool x.used]) w := fun _ => by kernel_rfl
  refine wp_region_z (fun _ => false) (fun X : World => X.cell? ⟨p, 1, none⟩ = some (.map (some mb)) ∧ NoteAt X lb 0 x) (by kernel_rfl) ?_
  have KD : Hid (Below W2.heap.size W2 W2.drew) := (Below.refl _ _).drew
  generalize W2.drew = Wd at *
  refine wpZ_takeP (i := 0) (v := ?_) rfl (by kernel_rfl) (fun _ _ _ h => h) (Or.inl ⟨by rfl, ?_⟩) hS ?_
  rotate_left
  · (intro w _; go_simp; first | done | with_reducible rfl | (rw [if_pos (by omega)]) | (rw [if_pos (by omega)]; go_simp))
  simp only [Act.put]
  refine wpZ_takeP (i := 1) (v := ?_) rfl (by kernel_rfl) (fun _ _ _ h => h) (Or.inl ⟨by rfl, ?_⟩) hS ?_
  rotate_left
  · (intro w _; go_simp; first | done | with_reducible rfl | (rw [if_pos (by omega)]) | (rw [if_pos (by omega)]; go_simp))
  simp only [Act.put]
  refine wpZ_takeP (i := 2) (v := ?_) rfl (by kernel_rfl) (fun _ _ _ h => h) (Or.inl ⟨by rfl, ?_⟩) hS ?_
  rotate_left
  · (intro w _; go_simp; first | done | with_reducible rfl | (rw [if_pos (by omega)]) | (rw [if_pos (by omega)]; go_simp))
  simp only [Act.put]
  refine wpZ_take (i := 3) (v := ?_) rfl (by kernel_rfl) (fun _ _ _ h => h) (Or.inl ⟨by rfl, ?_⟩) hS ?_
  rotate_left
  · (intro w hSw; obtain ⟨s1, ⟨a0, a1, a2, a3, a4⟩⟩ := hSw; go_simp; first | done | with_reducible rfl)
  simp only [Act.put]
  refine wpZ_take (i := 4) (v := ?_) rfl (by kernel_rfl) (fun _ _ _ h => h) (Or.inl ⟨by rfl, ?_⟩) hS ?_
  rotate_left
  · (intro w hSw; obtain ⟨s1, ⟨a0, a1, a2, a3, a4⟩⟩ := hSw; go_simp; first | done | with_reducible rfl)
  simp only [Act.put]
  refine wpZ_takeP (i := 5) (v := ?_) rfl (by kernel_rfl) (fun _ _ _ h => h) (Or.inl ⟨by rfl, ?_⟩) hS ?_
  rotate_left
  · (intro w _; go_simp; first | done | with_reducible rfl | (rw [if_pos (by omega)]) | (rw [if_pos (by omega)]; go_simp))
  simp only [Act.put]
  refine wpZ_ready (rs := [6]) (by kernel_rfl) (by simp) ?_
  refine AllZ.cons rfl (fun K hK => ?_) AllZ.nil
  go_simp
  refine (noCell_any Wd x).mono ?_
  rintro e X2 ⟨rfl, b2⟩
  have bX : Below W2.heap.size W2 X2 := KD.out.trans (b2.mono KD.out.size)
  have P2 := K2.out.1.later bX
  obtain ⟨Y, hst, hmY, htY, hsY⟩ := P2.mp.drop hk.1 hk.2 0
  have P3 := P2.turnM htY hmY hsY
  have hS2 : (fun X : World => X.cell? ⟨p, 1, none⟩ = some (.map (some mb)) ∧ NoteAt X lb 0 x) X2 := ⟨P2.c1, K2.out.2.1.below bX K2.out.2.2.2.1⟩
  have K3 : Hid (Pin Y base p q mb (n + 1 + 1) cap (zs.take m) ∧ NoteAt Y lb 0 x ∧ KeptP (OfP p q mb) w Y ∧ lb < Y.heap.size ∧ Y.heap[w.heap.size]? = some (.cells #[.int .i64 0, .int .i64 0, .int .i64 0, .int .i64 0, .bool false] 29 (0, 0)) ∧ w.heap.size < lb ∧ p ≠ lb ∧ q ≠ lb ∧ mb ≠ lb) := by
    obtain ⟨_, g1, g2, g3, g4, g5, g6, g7, g8⟩ := K2.out
    have hbx := bX.size
    refine ⟨P3, NoteAt.of_blk (hS2.2) (htY.block lb (by omega) (Ne.symm g8)), (g2.trans (KeptP.of_below bX)).trans (KeptP.of_turned htY (.inr (.inr rfl))), by rw [hsY]; omega, ?_, g5, g6, g7, g8⟩
    exact (htY.block _ (by omega) (fun e => H.out.2.2.2.2.2.2.2.2.2 e.symm)).trans ((bX.block _ (by omega)).trans g4)
  simp only [cKey] at hst
  refine hK.out _ _ (fun _ => hS2) ?_
  have hS3 : (fun X : World => X.cell? ⟨p, 1, none⟩ = some (.map (some mb)) ∧ NoteAt X lb 0 x) Y := ⟨K3.out.1.c1, K3.out.2.1⟩
  clear hK K hS2 hS P2 P3 bX KD hmY htY hsY hm hk b2 K2
  refine wpZ_ready (rs := [7]) (by kernel_rfl) (by simp) ?_
  refine AllZ.cons rfl (fun K hK => ?_) AllZ.nil
  go_simp
  refine hK.out _ _ (fun _ => hS3) ?_
  clear hK K hst hS3
  refine wpZ_done (by kernel_rfl) ?_ _
  have hlt : (zs.take m).length = m := by rw [List.length_take]; omega
  have c3 := noSink_any Y base p q mb (n + 1 + 1) cap (zs.take m) K3.out.1 (by omega) (by omega) (by rw [hlt]; exact H.out.2.2.2.2.2.1)
  rw [hlt] at c3
  have HLT := hidOf hlt
  clear hlt
  go_wp2_with fail
  refine c3.mono ?_
  clear c3
  rintro e w5 ⟨rfl, n5, ys, hn5, p5, pm5, hp5, k5⟩
  have nOf : ∀ b, b ≠ p → b ≠ q → b ≠ mb → ¬ OfP p q mb b := fun b h1 h2 h3 h => by rcases h with h | h | h; exact h1 h; exact h2 h; exact h3 h
  obtain ⟨_, g1, g2, g3, g4, g5, g6, g7, g8⟩ := K3.out
  obtain ⟨t0, t1, t2, t3, t4⟩ := NoteAt.of_blk g1 (k5.block lb g3 (nOf lb (Ne.symm g6) (Ne.symm g7) (Ne.symm g8)))
  have zr5 := (k5.block w.heap.size (by omega) (nOf _ (Ne.symm H.out.2.2.2.2.2.2.2.1) (Ne.symm H.out.2.2.2.2.2.2.2.2.1) (Ne.symm H.out.2.2.2.2.2.2.2.2.2))).trans g4
  have r0 : w5.cell? ⟨w.heap.size, 0, none⟩ = some (.int .i64 0) := by rw [cell_of_row w5 _ 0 _ _ _ zr5]; rfl
  have r1 : w5.cell? ⟨w.heap.size, 1, none⟩ = some (.int .i64 0) := by rw [cell_of_row w5 _ 1 _ _ _ zr5]; rfl
  have r2 : w5.cell? ⟨w.heap.size, 2, none⟩ = some (.int .i64 0) := by rw [cell_of_row w5 _ 2 _ _ _ zr5]; rfl
  have r3 : w5.cell? ⟨w.heap.size, 3, none⟩ = some (.int .i64 0) := by rw [cell_of_row w5 _ 3 _ _ _ zr5]; rfl
  have r4 : w5.cell? ⟨w.heap.size, 4, none⟩ = some (.bool false) := by rw [cell_of_row w5 _ 4 _ _ _ zr5]; rfl
  have q0 : w5.frozen? ⟨w.heap.size, 0, none⟩ = false := frozen_of_row w5 _ 0 _ _ zr5
  have q1 : w5.frozen? ⟨w.heap.size, 1, none⟩ = false := frozen_of_row w5 _ 1 _ _ zr5
  have q2 : w5.frozen? ⟨w.heap.size, 2, none⟩ = false := frozen_of_row w5 _ 2 _ _ zr5
  have q3 : w5.frozen? ⟨w.heap.size, 3, none⟩ = false := frozen_of_row w5 _ 3 _ _ zr5
  have q4 : w5.frozen? ⟨w.heap.size, 4, none⟩ = false := frozen_of_row w5 _ 4 _ _ zr5
  have KE : Hid (n5 ≤ n + 2 + 2 * m ∧ Pin w5 base p q mb n5 cap ys ∧ xs.Perm (x :: ys) ∧ HeapP.Hp (noK ys) ys.length ∧ KeptP (OfP p q mb) w w5) := ⟨by omega, p5, H.out.2.2.2.2.1.trans (List.Perm.cons x pm5.symm), hp5, g2.trans k5⟩
  have HP : Hid (p ≠ w.heap.size ∧ q ≠ w.heap.size ∧ mb ≠ w.heap.size) := H.out.2.2.2.2.2.2.2
  simp only [Nat.zero_add] at t0 t1 t2 t3 t4
  clear g1 g2 g3 g4 g5 g6 g7 g8 zr5 nOf p5 pm5 hp5 k5 hn5 H K3 hzl HLT hcap
  go_wp2
  refine bodyPost_ret (v := .agg #[.int .i64 x.region, .int .i64 x.slot, .int .i64 x.version, .int .i64 x.value, .bool x.used]) (by simp [results, Try.results94, go_sem, r0, r1, r2, r3, r4]) rfl ⟨rfl, n5, ys, KE.out.1, ?_, KE.out.2.2.1, KE.out.2.2.2.1, ?_⟩
  · refine KE.out.2.1.keep (by simp [World.setCell]) (fun b hb => ?_)
    have hbn : b ≠ w.heap.size := by
      rcases hb with rfl | rfl | rfl
      · exact HP.out.1
      · exact HP.out.2.1
      · exact HP.out.2.2
    exact (Below.heap_setCell _ _ _ _ hbn).trans ((Below.heap_setCell _ _ _ _ hbn).trans ((Below.heap_setCell _ _ _ _ hbn).trans ((Below.heap_setCell _ _ _ _ hbn).trans (Below.heap_setCell _ _ _ _ hbn))))
  · have kk := KE.out.2.2.2.2
    refine ⟨kk.os, kk.tape, kk.output, by simpa [World.setCell] using kk.size, fun b hb hnb => ?_⟩
    have hbn : b ≠ w.heap.size := by omega
    exact ((Below.heap_setCell _ _ _ _ hbn).trans ((Below.heap_setCell _ _ _ _ hbn).trans ((Below.heap_setCell _ _ _ _ hbn).trans ((Below.heap_setCell _ _ _ _ hbn).trans (Below.heap_setCell _ _ _ _ hbn))))).trans (kk.block b hb hnb)
def noR (s : N5) : Int := rk s.region s.slot
def noLen : Value → Nat
  | .slice _ n _ => n
  | _ => 0
theorem noK_R {xs : List N5} {i : Nat} {x : N5} (h : xs[i]? = some x) : noK xs i = noR x := noK_at h
theorem noTop {ys : List N5} {x : N5} (h : HeapP.Hp (noK ys) ys.length) (hx : ys[0]? = some x) : ∀ b ∈ ys, noR x ≤ noR b := fun b hb => by
  obtain ⟨i, hi, rfl⟩ := List.getElem_of_mem hb
  have := h.top i hi
  rwa [noK_R hx, noK_R (List.getElem?_eq_getElem hi)] at this
set_option maxHeartbeats 8000000 in
theorem noInOrder_any (w : World) (base p q mb n cap : Nat) (xs : List N5) (h : Pin w base p q mb n cap xs) (hn : n ≤ 5000) (hl : xs.length ≤ 13) (hu : HeapP.Hp (noK xs) xs.length) (hd : xs.Pairwise (fun a b => noR a ≠ noR b)) :
    Calls Try.prog 45 #[.pointer (some ⟨p, 0, none⟩)] w fun e w' => ∃ v out, e = .returned v ∧ RowN w' w.heap.size v out ∧ out.Perm xs ∧ out.Pairwise (fun a b => noR a < noR b) ∧ KeptP (OfP p q mb) w w' := by
  have hlow : p < w.heap.size ∧ q < w.heap.size ∧ mb < w.heap.size := ⟨h.lp, h.lq, h.mp.lt⟩
  have H : Hid (Pin w base p q mb n cap xs ∧ HeapP.Hp (noK xs) xs.length ∧ xs.Pairwise (fun a b => noR a ≠ noR b) ∧ p < w.heap.size ∧ q < w.heap.size ∧ mb < w.heap.size) := ⟨h, hu, hd, hlow⟩
  clear h hu hd hlow
  go_enter Try.func45, Try.ntmps45
  go_wp2
  go_loopw [3] (fun v wr => ∃ (n' : Nat) (ys out : List N5), RowN wr w.heap.size v out ∧ Pin wr base p q mb n' cap ys ∧ HeapP.Hp (noK ys) ys.length ∧ (out ++ ys).Perm xs ∧ out.Pairwise (fun a b => noR a < noR b) ∧ (∀ a ∈ out, ∀ b ∈ ys, noR a < noR b) ∧ n' + 60 * ys.length ≤ n + 60 * xs.length ∧ KeptP (OfP p q mb) w wr) (fun v _ => 100 - noLen v)
  case atStart => exact ⟨n, xs, [], RowN.nil _ _, H.out.1, H.out.2.1, by simp, by simp, by simp, Nat.le_refl _, KeptP.refl _ _⟩
  case round =>
    obtain ⟨n', ys, out, hrow, hp, hu, hpm, hso, hlt, hnn, hk⟩ := hrel
    obtain ⟨a3, k3, rfl, -⟩ := hrow.form
    have hlen : out.length + ys.length = xs.length := by have := hpm.length_eq; simpa using this
    have p0 := hp.c0
    cases hys : ys with
    | nil =>
      subst hys
      have KE : Hid (RowN wr w.heap.size (.slice a3 out.length k3) out ∧ out.Perm xs ∧ out.Pairwise (fun a b => noR a < noR b) ∧ KeptP (OfP p q mb) w wr) := ⟨hrow, by simpa using hpm, hso, hk⟩
      simp only [List.length_nil] at p0
      clear hrow hp hu hpm hso hlt hk hlen hnn
      go_wp2
      go_ret
      exact ⟨_, out, rfl, KE.out.1, KE.out.2.1, KE.out.2.2.1, KE.out.2.2.2⟩
    | cons x r =>
      have hx : ys[0]? = some x := by rw [hys]; rfl
      have hyl : ys.length = r.length + 1 := by rw [hys]; rfl
      have c1 := noTake_any wr base p q mb n' cap r.length ys x hp (by omega) hyl (by omega) hx hu
      rw [hyl] at p0
      have d0 : decide ((0 : Int) < ((r.length + 1 : Nat) : Int)) = true := by simp
      have hdist : (out ++ ys).Pairwise (fun a b => noR a ≠ noR b) := (hpm.symm.pairwise_iff (fun {a b} (h : noR a ≠ noR b) => h.symm)).1 H.out.2.2.1
      have KA : Hid (RowN wr w.heap.size (.slice a3 out.length k3) out ∧ (out ++ ys).Perm xs ∧ out.Pairwise (fun a b => noR a < noR b) ∧ (∀ a ∈ out, ∀ b ∈ ys, noR a < noR b) ∧ KeptP (OfP p q mb) w wr ∧ (∀ b ∈ ys, noR x ≤ noR b) ∧ x ∈ ys ∧ (out ++ ys).Pairwise (fun a b => noR a ≠ noR b) ∧ ys.length = r.length + 1) := ⟨hrow, hpm, hso, hlt, hk, noTop hu hx, List.mem_of_getElem? hx, hdist, hyl⟩
      clear hrow hp hu hpm hso hlt hk hx hdist hys
      go_wp2_with fail
      refine c1.mono ?_
      clear c1 p0
      rintro e w1 ⟨rfl, n1, zs, hn1, p1, pm1, hp1, k1⟩
      obtain ⟨g1, g2, g3, g4, g5, g6, g7, g8, g9⟩ := KA.out
      have hnot : ∀ b, w.heap.size ≤ b → ¬ OfP p q mb b := fun b hb h => by
        obtain ⟨_, _, _, l1, l2, l3⟩ := H.out
        rcases h with h | h | h <;> omega
      have row1 : RowN w1 w.heap.size (.slice a3 out.length k3) out := g1.keep (fun b hb hlt _ => k1.block b hlt (hnot b hb))
      obtain ⟨V, hV⟩ : ∃ V, V = w1.alloc (.cells #[.int .i64 x.region, .int .i64 x.slot, .int .i64 x.version, .int .i64 x.value, .bool x.used] 29) := ⟨_, rfl⟩
      have bV : Below w1.heap.size w1 V := by rw [hV]; exact (Below.refl _ _).alloc (Nat.le_refl _) _
      have hone : NotesAt V w1.heap.size 0 [x] := by rw [hV]; exact (NoteAt.box w1 _ _).one
      have hws : w.heap.size ≤ w1.heap.size := Nat.le_trans g5.size k1.size
      obtain ⟨v', Y, hr, hrow', hgr, hlies⟩ := pushNo (row1.later bV) [x] (by simp; omega) 24 w1.heap.size 0 1 hone (by have := bV.size; omega)
      have hzl : zs.length = r.length := by have := pm1.length_eq; simp at this; omega
      have hxz : ∀ b ∈ zs, noR x < noR b := fun b hb => by
        have h1 := g6 b (pm1.mem_iff.2 (by simp [hb]))
        have h2 : (x :: zs).Pairwise (fun a b => noR a ≠ noR b) := (pm1.pairwise_iff (fun {a b} (h : noR a ≠ noR b) => h.symm)).1 ((List.pairwise_append.1 g8).2.1)
        have h3 := (List.pairwise_cons.1 h2).1 b hb
        omega
      have kY : KeptP (OfP p q mb) w Y := by
        have k0 : KeptP (OfP p q mb) w V := (g5.trans k1).trans (KeptP.of_below bV)
        exact ⟨hgr.os.trans k0.os, hgr.tape.trans k0.tape, hgr.output.trans k0.output, Nat.le_trans k0.size hgr.size, fun b hb hnb => (hgr.block b (Nat.lt_of_lt_of_le hb k0.size) (fun e => by have := (row1.lt e.symm).1; omega)).trans (k0.block b hb hnb)⟩
      have KE : Hid (RowN Y w.heap.size v' (out ++ [x]) ∧ Pin Y base p q mb n1 cap zs ∧ HeapP.Hp (noK zs) zs.length ∧ ((out ++ [x]) ++ zs).Perm xs ∧ (out ++ [x]).Pairwise (fun a b => noR a < noR b) ∧ (∀ a ∈ out ++ [x], ∀ b ∈ zs, noR a < noR b) ∧ n1 + 60 * zs.length ≤ n + 60 * xs.length ∧ KeptP (OfP p q mb) w Y) := by
        refine ⟨hrow', ?_, hp1, ?_, ?_, ?_, by omega, kY⟩
        · refine (p1.later bV).keep hgr.size (fun b hb => hgr.block b ?_ (fun e => ?_))
          · have := bV.size
            rcases hb with rfl | rfl | rfl
            · have := p1.lp; omega
            · have := p1.lq; omega
            · have := p1.mp.lt; omega
          · exact hnot b (row1.lt e.symm).1 hb
        · rw [List.append_assoc]
          exact ((List.Perm.refl out).append (pm1.symm : (x :: zs).Perm ys)).trans g2
        · rw [List.pairwise_append]
          exact ⟨g3, by simp, fun a ha b hb => by simp at hb; subst hb; exact g4 a ha b g7⟩
        · intro a ha b hb
          rcases List.mem_append.1 ha with ha | ha
          · exact g4 a ha b (pm1.mem_iff.2 (by simp [hb]))
          · simp at ha; subst ha; exact hxz b hb
      have HL : Hid (out.length < 13 ∧ ∃ a c, v' = .slice a (out ++ [x]).length c) := ⟨by omega, by obtain ⟨a, c, e, _⟩ := hrow'.form; exact ⟨a, c, e⟩⟩
      rw [hV] at hr
      clear hV bV hone hrow' hgr hlies row1 hnot hzl hxz kY g1 g2 g3 g4 g5 g6 g7 g8 g9 p1 pm1 hp1 k1 hws
      simp only [List.length_cons, List.length_nil, Nat.zero_add] at hr
      go_wp2_with (at_builtin; refine append_known _ rfl (.tmp 10) (.tmp 13) 24 rfl _ _ _ _ rfl rfl hr ?_)
      obtain ⟨g1, a, c, rfl⟩ := HL.out
      exact ⟨⟨n1, zs, out ++ [x], KE.out⟩, by simp [noLen]; omega⟩
end Go.Proofs.Ytiidlcjjaglkdaa