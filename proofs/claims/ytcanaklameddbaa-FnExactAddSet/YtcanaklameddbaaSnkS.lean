/- The pile in memory: the top one sinks. -/
import Derived.Test.YtcanaklameddbaaRows
import Derived.Test.YtcanaklameddbaaLftS
import Derived.WalkKit
import Derived.WalkSpells
import Derived.WalkLawsBesides
import Derived.Below
namespace Go.Proofs.Ytcanaklameddbaa
open Go.RowKit
set_option maxHeartbeats 8000000 in
theorem seSink_any (w : World) (base p q mb n cap : Nat) (xs : List S5) (h : Pis w base p q mb n cap xs) (hn : n ≤ 10000) (hl : xs.length ≤ 1000) (hu : HeapP.HpDn (seK xs) xs.length 0) :
    Calls Try.prog 115 #[.pointer (some ⟨p, 0, none⟩), .int .i64 0] w fun e w' => e = .returned (.tuple #[]) ∧ ∃ n' ys, n' ≤ n + 2 * xs.length ∧ Pis w' base p q mb n' cap ys ∧ ys.Perm xs ∧ HeapP.Hp (seK ys) ys.length ∧ KeptP (OfP p q mb) w w' := by
  have H : Hid (Pis w base p q mb n cap xs ∧ HeapP.HpDn (seK xs) xs.length 0) := ⟨h, hu⟩
  clear h hu
  go_enter Try.func115, Try.ntmps115
  go_wp2
  go_loopw [1] (fun v wr => ∃ (d n' : Nat) (ys : List S5), v = .int .i64 (d : Int) ∧ (d < xs.length ∨ d = 0) ∧ n' ≤ n + 2 * d ∧ ys.length = xs.length ∧ Pis wr base p q mb n' cap ys ∧ ys.Perm xs ∧ HeapP.HpDn (seK ys) ys.length d ∧ KeptP (OfP p q mb) w wr) (fun v _ => 2000 - (intOf v).toNat)
  case atStart => exact ⟨0, n, xs, rfl, .inr rfl, by omega, rfl, H.out.1, List.Perm.refl _, H.out.2, KeptP.refl _ _⟩
  case round =>
    obtain ⟨d, n', ys, rfl, hd, hnn, hle, hp, hpm, hu, hk⟩ := hrel
    have KA : Hid (Pis wr base p q mb n' cap ys ∧ ys.Perm xs ∧ HeapP.HpDn (seK ys) ys.length d ∧ KeptP (OfP p q mb) w wr ∧ ys.length = xs.length) := ⟨hp, hpm, hu, hk, hle⟩
    clear hp hpm hu hk hle
    have hd1 : d ≤ 1000 := by omega
    go_wp2
    generalize wr = W0 at *
    go_loopw [4, 5] (fun v4 v5 wr => ∃ l b : Nat, v4 = .int .i64 (l : Int) ∧ v5 = .int .i64 (b : Int) ∧ 2 * d + 1 ≤ b ∧ b ≤ 2 * d + 3 ∧ Below W0.heap.size W0 wr ∧ (l = d ∨ (2 * d + 1 ≤ l ∧ l < b ∧ l < ys.length ∧ seK ys l < seK ys d)) ∧ (∀ j, 2 * d + 1 ≤ j → j < b → j < ys.length → seK ys l ≤ seK ys j)) (fun _ v5 _ => 2 * d + 3 - (intOf v5).toNat)
    case atStart => exact ⟨d, 2 * d + 1, rfl, by simp, by omega, by omega, Below.refl _ _, .inl rfl, fun j h1 h2 => by omega⟩
    case round =>
      obtain ⟨l, b, rfl, rfl, hb1, hb2, hbl, hl1, hl2⟩ := hrel
      have hlen := KA.out.2.2.2.2
      by_cases hbe : b ≤ 2 * d + 2
      · have db : decide ((b : Int) ≤ 2 * (d : Int) + 2) = true := by simp; omega
        have p0 := (KA.out.1.later hbl).c0
        rw [hlen] at p0
        by_cases hbn : b < xs.length
        · have dn : decide ((b : Int) < (xs.length : Int)) = true := by simp; omega
          have hln : l < ys.length := by omega
          obtain ⟨x, hx⟩ : ∃ x, ys[b]? = some x := ⟨_, List.getElem?_eq_getElem (by omega)⟩
          obtain ⟨y, hy⟩ : ∃ y, ys[l]? = some y := ⟨_, List.getElem?_eq_getElem hln⟩
          have c1 := seLess_any wr base p q mb n' cap ys b l x y (KA.out.1.later hbl) hx hy
          rw [(seK_at hx).symm, (seK_at hy).symm] at c1
          have KB : Hid (Below W0.heap.size W0 wr ∧ (l = d ∨ (2 * d + 1 ≤ l ∧ l < b ∧ l < ys.length ∧ seK ys l < seK ys d)) ∧ (∀ j, 2 * d + 1 ≤ j → j < b → j < ys.length → seK ys l ≤ seK ys j) ∧ ys.length = xs.length) := ⟨hbl, hl1, hl2, hlen⟩
          clear hx hy hbl hl1 hl2 hlen hln
          by_cases hlt : seK ys b < seK ys l
          · have dl : decide (seK ys b < seK ys l) = true := by simpa using hlt
            rw [dl] at c1
            have HLT := hidOf hlt
            clear hlt dl
            go_wp2_with fail
            refine c1.mono ?_
            clear c1
            rintro e' w1 ⟨rfl, b1⟩
            have KC : Hid (Below W0.heap.size W0 w1) := KB.out.1.trans (b1.mono KB.out.1.size)
            clear b1 p0
            go_wp2
            obtain ⟨_, g1, g2, g3⟩ := KB.out
            have g4 := HLT.out
            refine ⟨⟨b, b + 1, rfl, by simp, by omega, by omega, KC.out, .inr ⟨by omega, by omega, by omega, ?_⟩, fun j h1 h2 h3 => ?_⟩, by simp [intOf]; omega⟩
            · rcases g1 with rfl | g1
              · exact g4
              · have := g1.2.2.2; omega
            · by_cases e : j = b
              · subst e; exact Int.le_refl _
              · have := g2 j h1 (by omega) h3; omega
          · have dl : decide (seK ys b < seK ys l) = false := by simpa using hlt
            rw [dl] at c1
            have HLT := hidOf hlt
            clear hlt dl
            go_wp2_with fail
            refine c1.mono ?_
            clear c1
            rintro e' w1 ⟨rfl, b1⟩
            have KC : Hid (Below W0.heap.size W0 w1) := KB.out.1.trans (b1.mono KB.out.1.size)
            clear b1 p0
            go_wp2
            obtain ⟨_, g1, g2, g3⟩ := KB.out
            have g4 := HLT.out
            refine ⟨⟨l, b + 1, rfl, by simp, by omega, by omega, KC.out, ?_, fun j h1 h2 h3 => ?_⟩, by simp [intOf]; omega⟩
            · rcases g1 with g1 | g1
              · exact .inl g1
              · exact .inr ⟨g1.1, by omega, g1.2.2.1, g1.2.2.2⟩
            · by_cases e : j = b
              · subst e; omega
              · exact g2 j h1 (by omega) h3
        · have dn : decide ((b : Int) < (xs.length : Int)) = false := by simp; omega
          have KB : Hid (Below W0.heap.size W0 wr ∧ (l = d ∨ (2 * d + 1 ≤ l ∧ l < b ∧ l < ys.length ∧ seK ys l < seK ys d)) ∧ (∀ j, 2 * d + 1 ≤ j → j < b → j < ys.length → seK ys l ≤ seK ys j) ∧ ys.length = xs.length) := ⟨hbl, hl1, hl2, hlen⟩
          clear hbl hl1 hl2 hlen
          go_wp2
          obtain ⟨g0, g1, g2, g3⟩ := KB.out
          refine ⟨⟨l, b + 1, rfl, by simp, by omega, by omega, g0, ?_, fun j h1 h2 h3 => ?_⟩, by simp [intOf]; omega⟩
          · rcases g1 with g1 | g1
            · exact .inl g1
            · exact .inr ⟨g1.1, by omega, g1.2.2.1, g1.2.2.2⟩
          · exact g2 j h1 (by omega) h3
      · have db : decide ((b : Int) ≤ 2 * (d : Int) + 2) = false := by simp; omega
        have KB : Hid (Below W0.heap.size W0 wr ∧ (l = d ∨ (2 * d + 1 ≤ l ∧ l ≤ 2 * d + 2 ∧ l < ys.length ∧ seK ys l < seK ys d)) ∧ (∀ j, 2 * d + 1 ≤ j → j ≤ 2 * d + 2 → j < ys.length → seK ys l ≤ seK ys j)) := ⟨hbl, by
          rcases hl1 with g | g
          · exact .inl g
          · exact .inr ⟨g.1, by omega, g.2.2.1, g.2.2.2⟩, fun j h1 h2 h3 => hl2 j h1 (by omega) h3⟩
        clear hl1 hl2 hbl hb1 hb2 hbe
        by_cases hld : l = d
        · have ql : ((l : Int) == (d : Int)) = true := by simp; omega
          have KE : Hid (HeapP.Hp (seK ys) ys.length) := KA.out.2.2.1.done (fun h1 => by have := KB.out.2.2 (2 * d + 1) (by omega) (by omega) h1; rwa [hld] at this) (fun h1 => by have := KB.out.2.2 (2 * d + 2) (by omega) (by omega) h1; rwa [hld] at this)
          have HD : Hid (d < xs.length ∨ d = 0) := hd
          clear hld hlen hd
          go_wp2
          obtain ⟨f1, f2, f3, f4, f5⟩ := KA.out
          have f6 := HD.out
          refine bodyPost_ret (v := .tuple #[]) (by simp [results, Try.results115, go_sem]) rfl ⟨rfl, n', ys, by omega, f1.later KB.out.1, f2, KE.out, f4.trans (KeptP.of_below KB.out.1)⟩
        · have ql : ((l : Int) == (d : Int)) = false := by simp; omega
          have hl3 : 2 * d + 1 ≤ l ∧ l ≤ 2 * d + 2 ∧ l < ys.length ∧ seK ys l < seK ys d := KB.out.2.1.resolve_left hld
          obtain ⟨x, hx⟩ : ∃ x, ys[d]? = some x := ⟨_, List.getElem?_eq_getElem (by omega)⟩
          obtain ⟨y, hy⟩ : ∃ y, ys[l]? = some y := ⟨_, List.getElem?_eq_getElem hl3.2.2.1⟩
          have c2 := seSwap_any wr base p q mb n' cap ys d l x y (KA.out.1.later KB.out.1) (by omega) (by omega) hx hy
          have KX : Hid (ys[d]? = some x ∧ ys[l]? = some y ∧ 2 * d + 1 ≤ l ∧ l ≤ 2 * d + 2 ∧ l < ys.length ∧ seK ys l < seK ys d) := ⟨hx, hy, hl3⟩
          clear hx hy hl3 hld hlen
          go_wp2_with fail
          refine c2.mono ?_
          clear c2
          rintro e' w2 ⟨rfl, p2, k2⟩
          have KE : Hid (Pis w2 base p q mb (n' + 1 + 1) cap ((ys.set d y).set l x) ∧ KeptP (OfP p q mb) w w2) := ⟨p2, (KA.out.2.2.2.1.trans (KeptP.of_below KB.out.1)).trans k2⟩
          clear p2 k2
          go_wp2
          obtain ⟨f1, f2, f3, f4, f5⟩ := KA.out
          obtain ⟨g1, g2, g3, g4, g5, g6⟩ := KX.out
          refine ⟨⟨l, n' + 1 + 1, (ys.set d y).set l x, rfl, .inl (by omega), by omega, by simpa using f5, KE.out.1, (HeapP.set_set_perm ys d l x y g1 g2).trans f2, ?_, KE.out.2⟩, by simp [intOf]; omega⟩
          have hst := f3.step (l := l) (by omega) g5 g6 (fun h1 => KB.out.2.2 _ (by omega) (by omega) h1) (fun h1 => KB.out.2.2 _ (by omega) (by omega) h1)
          have hfun : seK ((ys.set d y).set l x) = HeapP.swF (seK ys) d l := funext fun k => seK_swap g1 g2 k
          rw [hfun]
          simpa using hst
end Go.Proofs.Ytcanaklameddbaa
