/- What the specification's Logged answers; the laws' marks in one record. -/
import Derived.Test.YtcockcdhendplaaRows
import Derived.Test.YtcockcdhendplaaLogI
import Derived.WalkKit
import Derived.WalkSpells
import Derived.WalkLawsBesides
import Derived.Below
namespace Go.Proofs.Ytcockcdhendplaa
open Go.RowKit
set_option maxHeartbeats 4000000 in
theorem l6Logged_any (w : World) (v : MV) (m : M4) (t g k : Int) (hl : ML m) (hs : SlM w v m) :
    Calls Try.prog 46 #[v.val m, .int .i64 t, .int .i64 g, .int .i64 k] w fun e w' => (∃ i : Int, e = .returned (.int .i64 i) ∧ FirstAt (fun j => lgB t g k (atR m.log j)) m.log.length i) ∧ Below w.heap.size w w' := by
  obtain ⟨ac, cc, al, cl, ad, cd⟩ := v
  simp only [MV.val]
  have hn := hl.r
  unfold maxLen at hn
  have b0 : Below w.heap.size w (w.alloc (.cells #[.bool m.alive, .slice ac m.copies.length cc, .slice al m.log.length cl, .slice ad m.cleared.length cd] 32)) := (Below.refl _ _).alloc (Nat.le_refl _) _
  have c1 : (w.alloc (.cells #[.bool m.alive, .slice ac m.copies.length cc, .slice al m.log.length cl, .slice ad m.cleared.length cd] 32)).cell? ⟨w.heap.size, 2, none⟩ = some (.slice al m.log.length cl) := by go_simp
  have H : Hid (SlM (w.alloc (.cells #[.bool m.alive, .slice ac m.copies.length cc, .slice al m.log.length cl, .slice ad m.cleared.length cd] 32)) ⟨ac, cc, al, cl, ad, cd⟩ m ∧ Below w.heap.size w (w.alloc (.cells #[.bool m.alive, .slice ac m.copies.length cc, .slice al m.log.length cl, .slice ad m.cleared.length cd] 32))) := ⟨hs.later b0, b0⟩
  clear hs b0 hl
  go_enter Try.func46, Try.ntmps46
  go_wp2
  generalize w.alloc (.cells #[.bool m.alive, .slice ac m.copies.length cc, .slice al m.log.length cl, .slice ad m.cleared.length cd] 32) = W at *
  go_loop [9] (fun v => ∃ j : Nat, j ≤ m.log.length ∧ v = .int .i64 j ∧ ∀ i, i < j → lgB t g k (atR m.log i) = false) (fun v => m.log.length - (intOf v).toNat)
  case atStart => exact ⟨0, Nat.zero_le _, rfl, fun i h => absurd h (by omega)⟩
  case round =>
    obtain ⟨j, hj, rfl, hlo⟩ := hrel
    have HL := hidOf hlo
    clear hlo
    by_cases hlt : j < m.log.length
    · obtain ⟨_, hk⟩ := H.out.1.r
      simp only [] at hk
      rcases hk with hk | ⟨b, off, rfl, hb, h1⟩
      · omega
      have hr := h1 j _ (atR_of hlt)
      have k0 := hr.c0
      have k1 := hr.c1
      have k2 := hr.c2
      have HV : Hid (lgB t g k (atR m.log j) = (((atR m.log j).tx == t) && ((atR m.log j).region == g) && ((atR m.log j).kind == k))) := rfl
      clear h1 hr
      have next : lgB t g k (atR m.log j) = false → ∀ i, i < j + 1 → lgB t g k (atR m.log i) = false := fun h i hi => by
        by_cases e : i = j
        · rw [e]; exact h
        · exact HL.out i (by omega)
      have NX := hidOf next
      clear next
      cases q1 : ((atR m.log j).tx == t) with
      | false =>
        go_wp2
        exact ⟨⟨j + 1, by omega, by simp, NX.out (by rw [HV.out, q1]; rfl)⟩, by simp [intOf]; omega⟩
      | true =>
        cases q2 : ((atR m.log j).region == g) with
        | false =>
          go_wp2
          exact ⟨⟨j + 1, by omega, by simp, NX.out (by rw [HV.out, q1, q2]; rfl)⟩, by simp [intOf]; omega⟩
        | true =>
          cases q3 : ((atR m.log j).kind == k) with
          | false =>
            go_wp2
            exact ⟨⟨j + 1, by omega, by simp, NX.out (by rw [HV.out, q1, q2, q3]; rfl)⟩, by simp [intOf]; omega⟩
          | true =>
            go_wp2
            go_ret
            exact ⟨⟨_, rfl, .inr ⟨j, rfl, hlt, by show lgB t g k (atR m.log j) = true; rw [HV.out, q1, q2, q3]; rfl, HL.out⟩⟩, H.out.2⟩
    · obtain rfl : j = m.log.length := by omega
      have hd : decide ((m.log.length : Int) < (m.log.length : Int)) = false := by simp
      go_wp2
      go_ret
      exact ⟨⟨_, rfl, .inl ⟨rfl, HL.out⟩⟩, H.out.2⟩
set_option maxHeartbeats 4000000 in
theorem specLogged_any (w : World) (v : MV) (m : M4) (t g k : Int) (hl : ML m) (hs : SlM w v m) : Calls Try.prog 17 #[v.val m, .int .i64 t, .int .i64 g, .int .i64 k] w (LogAns w m t g k) := by
  obtain ⟨ac, cc, al, cl, ad, cd⟩ := v
  simp only [MV.val]
  obtain ⟨W, hW⟩ : ∃ W, W = (w.alloc (.cells #[.bool m.alive, .slice ac m.copies.length cc, .slice al m.log.length cl, .slice ad m.cleared.length cd] 32)).alloc (.cells #[.int .i64 0, .int .i64 0, .int .i64 0, .slice none 0 0] 45) := ⟨_, rfl⟩
  have b0 : Below w.heap.size w W := by subst hW; exact ((Below.refl _ _).alloc (Nat.le_refl _) _).alloc (by simp) _
  have s0 : W.heap.size = w.heap.size + 2 := by subst hW; simp
  have c0 : ∀ X, Below W.heap.size W X → X.cell? ⟨w.heap.size + 1, 0, none⟩ = some (.int .i64 0) ∧ X.cell? ⟨w.heap.size + 1, 1, none⟩ = some (.int .i64 0) ∧ X.cell? ⟨w.heap.size + 1, 2, none⟩ = some (.int .i64 0) ∧ X.cell? ⟨w.heap.size + 1, 3, none⟩ = some (.slice none 0 0) ∧ ∀ j, X.frozen? ⟨w.heap.size + 1, j, none⟩ = false := fun X hX => by
    have l : w.heap.size + 1 < W.heap.size := by omega
    refine ⟨(hX.cell (p := ⟨w.heap.size + 1, 0, none⟩) l).trans ?_, (hX.cell (p := ⟨w.heap.size + 1, 1, none⟩) l).trans ?_, (hX.cell (p := ⟨w.heap.size + 1, 2, none⟩) l).trans ?_, (hX.cell (p := ⟨w.heap.size + 1, 3, none⟩) l).trans ?_, fun j => (hX.frozen (p := ⟨w.heap.size + 1, j, none⟩) l).trans ?_⟩
    all_goals (subst hW; go_simp)
  have a0 : ∀ X, Below W.heap.size W X → X.cell? ⟨w.heap.size, 0, none⟩ = some (.bool m.alive) ∧ X.cell? ⟨w.heap.size, 1, none⟩ = some (.slice ac m.copies.length cc) ∧ X.cell? ⟨w.heap.size, 2, none⟩ = some (.slice al m.log.length cl) ∧ X.cell? ⟨w.heap.size, 3, none⟩ = some (.slice ad m.cleared.length cd) := fun X hX => by
    have l : w.heap.size < W.heap.size := by omega
    refine ⟨(hX.cell (p := ⟨w.heap.size, 0, none⟩) l).trans ?_, (hX.cell (p := ⟨w.heap.size, 1, none⟩) l).trans ?_, (hX.cell (p := ⟨w.heap.size, 2, none⟩) l).trans ?_, (hX.cell (p := ⟨w.heap.size, 3, none⟩) l).trans ?_⟩
    all_goals (subst hW; go_simp)
  have hat := l6Logged_any W ⟨ac, cc, al, cl, ad, cd⟩ m t g k hl (hs.later b0)
  simp only [MV.val] at hat
  have H : Hid (ML m ∧ SlM w ⟨ac, cc, al, cl, ad, cd⟩ m ∧ Below w.heap.size w W ∧ W.heap.size = w.heap.size + 2) := ⟨hl, hs, b0, s0⟩
  have HC := hidOf c0
  have HA := hidOf a0
  clear hl hs b0 s0 c0 a0
  subst hW
  go_enter Try.func17, Try.ntmps17
  go_wp2_with fail
  generalize (w.alloc (.cells #[.bool m.alive, .slice ac m.copies.length cc, .slice al m.log.length cl, .slice ad m.cleared.length cd] 32)).alloc (.cells #[.int .i64 0, .int .i64 0, .int .i64 0, .slice none 0 0] 45) = W at *
  refine hat.mono ?_
  clear hat
  rintro e w1 ⟨⟨i, rfl, hi⟩, b1⟩
  have B1 : Hid (Below w.heap.size w w1 ∧ Below W.heap.size W w1) := ⟨H.out.2.2.1.trans (b1.mono H.out.2.2.1.size), b1⟩
  obtain ⟨a0, a1, a2, a3⟩ := HA.out w1 B1.out.2
  have hm := specMachineOk_any w1 ⟨ac, cc, al, cl, ad, cd⟩ m H.out.1.k H.out.1.r H.out.1.n H.out.1.ks H.out.1.rs (H.out.2.1.later B1.out.1)
  simp only [MV.val] at hm
  have HI := hidOf hi
  clear b1 hi
  have fin : ∀ w2, Below w1.heap.size w1 w2 → Below w.heap.size w w2 ∧ Below W.heap.size W w2 := fun w2 b2 => ⟨B1.out.1.trans (b2.mono B1.out.1.size), B1.out.2.trans (b2.mono B1.out.2.size)⟩
  have FIN := hidOf fin
  clear fin
  cases hB : machB m with
  | false =>
    rw [hB] at hm
    go_wp2_with fail
    refine hm.mono ?_
    clear hm
    rintro e w2 ⟨rfl, b2⟩
    obtain ⟨e0, e1, e2, e3, fe⟩ := HC.out w2 (FIN.out w2 b2).2
    have f0 := fe 0
    have f1 := fe 1
    have f2 := fe 2
    have f3 := fe 3
    have K := hidOf (FIN.out w2 b2).1
    clear b2 fe
    go_wp2
    refine bodyPost_ret (v := .tuple #[.agg #[.int .i64 0, .int .i64 0, .int .i64 0, .slice none 0 0], .bool false]) (by simp [results, Try.results17, go_sem, e0, e1, e2, e3]) rfl (LogAns.no (ansR_bad t g k hB) ?_)
    exact (((K.out.setCell (p := ⟨_, _, none⟩) (by simp) _).setCell (p := ⟨_, _, none⟩) (by simp) _).setCell (p := ⟨_, _, none⟩) (by simp) _).setCell (p := ⟨_, _, none⟩) (by simp) _
  | true =>
    rw [hB] at hm
    rcases HI.out with ⟨rfl, hno⟩ | ⟨i, rfl, hin, hf, hlo⟩
    · have HN : Hid (ansR m t g k = Option.none) := ansR_none hno
      clear hno
      go_wp2_with fail
      refine hm.mono ?_
      clear hm
      rintro e w2 ⟨rfl, b2⟩
      obtain ⟨e0, e1, e2, e3, fe⟩ := HC.out w2 (FIN.out w2 b2).2
      have f0 := fe 0
      have f1 := fe 1
      have f2 := fe 2
      have f3 := fe 3
      have K := hidOf (FIN.out w2 b2).1
      clear b2 fe
      go_wp2
      refine bodyPost_ret (v := .tuple #[.agg #[.int .i64 0, .int .i64 0, .int .i64 0, .slice none 0 0], .bool false]) (by simp [results, Try.results17, go_sem, e0, e1, e2, e3]) rfl (LogAns.no HN.out ?_)
      exact (((K.out.setCell (p := ⟨_, _, none⟩) (by simp) _).setCell (p := ⟨_, _, none⟩) (by simp) _).setCell (p := ⟨_, _, none⟩) (by simp) _).setCell (p := ⟨_, _, none⟩) (by simp) _
    · have HN : Hid (ansR m t g k = some (atR m.log i)) := ansR_first hB hin hf hlo
      clear hf hlo
      have hS := MSm.of_mach hB
      have hi6 : (i : Int) < (m.log.length : Int) := by omega
      have hin0 : decide ((i : Int) < 0) = false := by simp
      go_wp2_with fail
      refine hm.mono ?_
      clear hm
      rintro e w2 ⟨rfl, b2⟩
      have B2 := hidOf (FIN.out w2 b2)
      clear a0 a1 a2 a3 b2
      obtain ⟨_, _, a2, _⟩ := HA.out w2 B2.out.2
      obtain ⟨_, hsk⟩ := (H.out.2.1.later B2.out.1).r
      simp only [] at hsk
      rcases hsk with hsk | ⟨b, off, rfl, hb, h1⟩
      · omega
      have hr := h1 i _ (atR_of hin)
      have k0 := hr.c0
      have k1 := hr.c1
      have k2 := hr.c2
      obtain ⟨x1, p1, k3, hsl, hcp⟩ := hr.c3
      have h6 := hS.rs _ (List.mem_of_getElem? (atR_of hin))
      have hc := l6Record_any w2 (atR m.log i) x1 p1 h6.1 (by omega) hsl
      simp only [R4.val] at hc
      clear h1 hr hsl hcp h6 hS
      go_wp2_with fail
      refine hc.mono ?_
      clear hc
      rintro e w3 ⟨q, cp, rfl, q1, q2, q3, q4, b3⟩
      obtain ⟨e0, e1, e2, e3, fe⟩ := HC.out w3 (B2.out.2.trans (b3.mono B2.out.2.size))
      have f0 := fe 0
      have f1 := fe 1
      have f2 := fe 2
      have f3 := fe 3
      have K3 : Hid (Below w.heap.size w w3) := B2.out.1.trans (b3.mono B2.out.1.size)
      have KA : Hid (AtR w3 q (atR m.log i) ∧ w.heap.size + 2 ≤ q ∧ q < w3.heap.size) := ⟨q4, by have := B2.out.2.size; have := H.out.2.2.2; omega, q2⟩
      clear b3 fe q1 q2 q3 q4 k0 k1 k2 k3 a2
      go_wp2
      have far := (((KA.out.1.far (p := ⟨w.heap.size + 1, 0, none⟩) (by have := KA.out.2.1; simp; omega) (.int .i64 (atR m.log i).kind)).far (p := ⟨w.heap.size + 1, 1, none⟩) (by have := KA.out.2.1; simp; omega) (.int .i64 (atR m.log i).tx)).far (p := ⟨w.heap.size + 1, 2, none⟩) (by have := KA.out.2.1; simp; omega) (.int .i64 (atR m.log i).region)).far (p := ⟨w.heap.size + 1, 3, none⟩) (by have := KA.out.2.1; simp; omega) (.slice (some ⟨q, 0, none⟩) (atR m.log i).sets.length cp)
      refine bodyPost_ret (v := .tuple #[.agg #[.int .i64 (atR m.log i).kind, .int .i64 (atR m.log i).tx, .int .i64 (atR m.log i).region, .slice (some ⟨q, 0, none⟩) (atR m.log i).sets.length cp], .bool true]) (by simp [results, Try.results17, go_sem, e0, e1, e2, e3]) rfl ⟨some ⟨q, 0, none⟩, cp, by simp [ansV, ansH, HN.out, R4.val], .inr ⟨q, rfl, by have := KA.out.2.1; omega, by simpa [World.setCell] using KA.out.2.2, by simpa [ansV, HN.out] using far.1, by simpa [ansV, HN.out] using far.2⟩, ?_⟩
      exact (((K3.out.setCell (p := ⟨_, _, none⟩) (by simp) _).setCell (p := ⟨_, _, none⟩) (by simp) _).setCell (p := ⟨_, _, none⟩) (by simp) _).setCell (p := ⟨_, _, none⟩) (by simp) _
theorem OwnSt.keep {w w' : World} {base : Nat} {a : Option Addr} {xs : List S5} (h : OwnSt w base a xs) (hs : w.heap.size ≤ w'.heap.size) (hk : ∀ q, base ≤ q → q < w.heap.size → w'.heap[q]? = w.heap[q]?) : OwnSt w' base a xs := by
  rcases h with h | ⟨q, ha, h1, h2, h3, h4⟩
  · exact .inl h
  · exact .inr ⟨q, ha, h1, Nat.lt_of_lt_of_le h2 hs, h3.of_block (hk q h1 h2), h4.of_block (hk q h1 h2)⟩
theorem OwnSt.later {w w' : World} {base : Nat} {a : Option Addr} {xs : List S5} (h : OwnSt w base a xs) (hb : Below w.heap.size w w') : OwnSt w' base a xs := h.keep hb.size (fun q _ hq => hb.block q hq)
theorem markSt (w : World) (base : Nat) (a : Option Addr) (cap : Nat) (xs : List S5) (k : Int) (P : Nat → Prop) (hn : xs.length ≤ 1048576) (hk : 0 ≤ k) (hk' : k ≤ 1000000000) (h : OwnSt w base a xs) (hP : ∀ q, xs ≠ [] → a = some ⟨q, 0, none⟩ → P q) :
    Calls Try.prog 50 #[.slice a xs.length cap, .int .i64 k] w fun e w' => e = .returned (.int .i64 (k + 5 * (xs.length : Int))) ∧ KeptP P w w' ∧ OwnSt w' base a (mkSets k xs.length) := by
  by_cases e : xs = []
  · subst e
    refine (markSetS_nil w a cap k).mono ?_
    rintro e w' ⟨rfl, rfl⟩
    exact ⟨by simp, KeptP.refl _ _, .inl rfl⟩
  · rcases h with h | ⟨q, rfl, h1, h2, h3, h4⟩
    · exact absurd h e
    refine (markSetS_k w q xs.length cap k hn hk hk' h4).mono ?_
    rintro e' w' ⟨rfl, ho, hc, hr⟩
    exact ⟨rfl, KeptP.of_only ho (hP q e rfl), .inr ⟨q, rfl, h1, by rw [ho.size]; exact h2, hc, by rw [mkSets_len]; exact hr⟩⟩
set_option maxHeartbeats 1000000 in
theorem markRec (w : World) (base : Nat) (x y z : Int) (a : Option Addr) (cap : Nat) (xs : List S5) (P : Nat → Prop) (hn : xs.length ≤ 1048576) (h : OwnSt w base a xs) (hP : ∀ q, xs ≠ [] → a = some ⟨q, 0, none⟩ → P q) :
    Calls Try.prog 20 #[.agg #[.int .i64 x, .int .i64 y, .int .i64 z, .slice a xs.length cap], .int .i64 1] w fun e w' => e = .returned (.int .i64 (1 + 5 * (xs.length : Int))) ∧ KeptP P w w' ∧ OwnSt w' base a (mkSets 1 xs.length) := by
  have b0 : Below w.heap.size w (w.alloc (.cells #[.int .i64 x, .int .i64 y, .int .i64 z, .slice a xs.length cap] 45)) := (Below.refl _ _).alloc (Nat.le_refl _) _
  have hm := markSt _ base a cap xs 1 P hn (by omega) (by omega) (h.later b0) hP
  have B0 := hidOf b0
  clear b0 h hn hP
  go_enter Try.func20, Try.ntmps20
  go_wp2_with fail
  generalize w.alloc (.cells #[.int .i64 x, .int .i64 y, .int .i64 z, .slice a xs.length cap] 45) = W at *
  refine hm.mono ?_
  clear hm
  rintro e w1 ⟨rfl, k1, o1⟩
  have K : Hid (KeptP P w w1 ∧ OwnSt w1 base a (mkSets 1 xs.length)) := ⟨(KeptP.of_below B0.out).trans k1, o1⟩
  clear k1 o1
  go_wp2
  go_ret
  exact ⟨rfl, K.out.1, K.out.2⟩
set_option maxHeartbeats 1000000 in
theorem heldRec (w : World) (base : Nat) (x y z : Int) (a : Option Addr) (n cap : Nat) (hn : n ≤ 1048576) (h : OwnSt w base a (mkSets 1 n)) :
    Calls Try.prog 21 #[.agg #[.int .i64 x, .int .i64 y, .int .i64 z, .slice a n cap], .int .i64 1] w fun e w' => e = .returned (.int .i64 (1 + 5 * (n : Int))) ∧ Below w.heap.size w w' := by
  have b0 : Below w.heap.size w (w.alloc (.cells #[.int .i64 x, .int .i64 y, .int .i64 z, .slice a n cap] 45)) := (Below.refl _ _).alloc (Nat.le_refl _) _
  have sl := (h.later b0).sl
  rw [mkSets_len] at sl
  have hm := heldSetS_k _ a n cap 1 hn (by omega) (by omega) sl
  have dN : decide (1 + 5 * (n : Int) < 0) = false := by simp; omega
  have B0 := hidOf b0
  clear b0 h sl
  go_enter Try.func21, Try.ntmps21
  go_wp2_with fail
  refine hm.mono ?_
  clear hm
  rintro e w1 ⟨rfl, rfl⟩
  go_wp2
  go_ret
  exact ⟨rfl, B0.out⟩
theorem ansV_len (m : M4) (t g k : Int) : (ansV m t g k).sets.length ≤ 12 := by
  unfold ansV ansR
  by_cases hB : machB m = true
  · rw [if_pos hB]
    cases h : m.log.find? (lgB t g k) with
    | none => simp
    | some r => simpa using ((MSm.of_mach hB).rs r (List.mem_of_find?_eq_some h)).2
  · rw [if_neg hB]; simp
end Go.Proofs.Ytcockcdhendplaa
