/- What Copied answers: the specification's and the program's. -/
import Derived.Test.YtcockcdhendplaaRows
import Derived.Test.YtcockcdhendplaaCopI
import Derived.WalkKit
import Derived.WalkSpells
import Derived.WalkLawsBesides
import Derived.Below
namespace Go.Proofs.Ytcockcdhendplaa
open Go.RowKit
/-- What Copied answers, in memory of its own. -/
def CopAns (w : World) (m : M4) (y : Int) (e : Ending) (w' : World) : Prop :=
  ∃ (a : Option Addr) (cp : Nat), e = .returned (.tuple #[.slice a (ansL m y).length cp, .bool (ansB m y)]) ∧ OwnCl w' w.heap.size a (ansL m y) ∧ Below w.heap.size w w'
set_option maxHeartbeats 2000000 in
theorem specCopied_any (w : World) (v : MV) (m : M4) (y : Int) (hl : ML m) (hs : SlM w v m) : Calls Try.prog 11 #[v.val m, .int .i64 y] w (CopAns w m y) := by
  obtain ⟨ac, cc, al, cl, ad, cd⟩ := v
  simp only [MV.val]
  obtain ⟨W, hW⟩ : ∃ W, W = w.alloc (.cells #[.bool m.alive, .slice ac m.copies.length cc, .slice al m.log.length cl, .slice ad m.cleared.length cd] 32) := ⟨_, rfl⟩
  have b0 : Below w.heap.size w W := by subst hW; exact (Below.refl _ _).alloc (Nat.le_refl _) _
  have s0 : W.heap.size = w.heap.size + 1 := by subst hW; simp
  have c0 : ∀ X, Below (w.heap.size + 1) W X → X.cell? ⟨w.heap.size, 0, none⟩ = some (.bool m.alive) ∧ X.cell? ⟨w.heap.size, 1, none⟩ = some (.slice ac m.copies.length cc) ∧ X.cell? ⟨w.heap.size, 2, none⟩ = some (.slice al m.log.length cl) ∧ X.cell? ⟨w.heap.size, 3, none⟩ = some (.slice ad m.cleared.length cd) := fun X hX => by
    refine ⟨(hX.cell (p := ⟨w.heap.size, 0, none⟩) (by simp)).trans ?_, (hX.cell (p := ⟨w.heap.size, 1, none⟩) (by simp)).trans ?_, (hX.cell (p := ⟨w.heap.size, 2, none⟩) (by simp)).trans ?_, (hX.cell (p := ⟨w.heap.size, 3, none⟩) (by simp)).trans ?_⟩
    all_goals (subst hW; go_simp)
  have hat := l6At_any W ⟨ac, cc, al, cl, ad, cd⟩ m y hl (hs.later b0)
  simp only [MV.val] at hat
  have H : Hid (ML m ∧ SlM w ⟨ac, cc, al, cl, ad, cd⟩ m ∧ Below w.heap.size w W ∧ W.heap.size = w.heap.size + 1) := ⟨hl, hs, b0, s0⟩
  have HC := hidOf c0
  clear hl hs b0 s0 c0
  subst hW
  go_enter Try.func11, Try.ntmps11
  go_wp2_with fail
  generalize w.alloc (.cells #[.bool m.alive, .slice ac m.copies.length cc, .slice al m.log.length cl, .slice ad m.cleared.length cd] 32) = W at *
  refine hat.mono ?_
  clear hat
  rintro e w1 ⟨⟨i, rfl, hi⟩, b1⟩
  have B1 : Hid (Below w.heap.size w w1 ∧ Below (w.heap.size + 1) W w1) := ⟨H.out.2.2.1.trans (b1.mono H.out.2.2.1.size), b1.mono (by rw [H.out.2.2.2]; exact Nat.le_refl _)⟩
  obtain ⟨a0, a1, a2, a3⟩ := HC.out w1 B1.out.2
  have hm := specMachineOk_any w1 ⟨ac, cc, al, cl, ad, cd⟩ m H.out.1.k H.out.1.r H.out.1.n H.out.1.ks H.out.1.rs (H.out.2.1.later B1.out.1)
  simp only [MV.val] at hm
  have HI := hidOf hi
  clear b1 hi
  have bad : ∀ (X : World), Below w.heap.size w X → ansC m y = none → CopAns w m y (.returned (.tuple #[.slice (some ⟨X.heap.size, 0, none⟩) 0 0, .bool false])) (X.alloc (.cells #[] 80)) := fun X hX h => by
    refine ⟨some ⟨X.heap.size, 0, none⟩, 0, by simp [ansL, ansB, h], .inl (by simp [ansL, h]), hX.alloc hX.size _⟩
  have BAD := hidOf bad
  clear bad
  cases hB : machB m with
  | false =>
    rw [hB] at hm
    go_wp2_with fail
    refine hm.mono ?_
    clear hm
    rintro e w2 ⟨rfl, b2⟩
    go_wp2
    exact bodyPost_ret (v := .tuple #[.slice (some ⟨w2.heap.size, 0, none⟩) 0 0, .bool false]) (by simp [results, Try.results11, go_sem]) rfl (BAD.out w2 (B1.out.1.trans (b2.mono B1.out.1.size)) (ansC_bad y hB))
  | true =>
    rw [hB] at hm
    rcases HI.out with ⟨rfl, hno⟩ | ⟨k, rfl, hk, hf, hlo⟩
    · go_wp2_with fail
      refine hm.mono ?_
      clear hm
      rintro e w2 ⟨rfl, b2⟩
      have HN : Hid (ansC m y = none) := ansC_none (fun j hj => by have := hno j hj; simpa using this)
      clear hno
      go_wp2
      exact bodyPost_ret (v := .tuple #[.slice (some ⟨w2.heap.size, 0, none⟩) 0 0, .bool false]) (by simp [results, Try.results11, go_sem]) rfl (BAD.out w2 (B1.out.1.trans (b2.mono B1.out.1.size)) HN.out)
    · have HN : Hid (ansC m y = some (atK m.copies k).cells) := ansC_first hB hk (by simpa using hf) (fun j hj => by have := hlo j hj; simpa using this)
      clear hf hlo
      have hS := MSm.of_mach hB
      have hk6 : (k : Int) < (m.copies.length : Int) := by omega
      have hkn : decide ((k : Int) < 0) = false := by simp
      go_wp2_with fail
      refine hm.mono ?_
      clear hm
      rintro e w2 ⟨rfl, b2⟩
      have B2 : Hid (Below w.heap.size w w2 ∧ Below (w.heap.size + 1) W w2) := ⟨B1.out.1.trans (b2.mono B1.out.1.size), B1.out.2.trans (b2.mono (by have := B1.out.2.size; have := H.out.2.2.2; omega))⟩
      clear a0 a1 a2 a3 b2
      obtain ⟨_, a1, _, _⟩ := HC.out w2 B2.out.2
      obtain ⟨_, hsk⟩ := (H.out.2.1.later B2.out.1).k
      simp only [] at hsk
      rcases hsk with hsk | ⟨b, off, rfl, hb, h1⟩
      · omega
      have hr := h1 k _ (atK_of hk)
      obtain ⟨x1, p1, k1, hsl, hcp⟩ := hr.c1
      have h6 : (atK m.copies k).cells.length = 6 := hS.ks _ (List.mem_of_getElem? (atK_of hk))
      have hc := l3Copy_any w2 x1 p1 (atK m.copies k).cells (by omega) (by omega) hsl
      clear h1 hr hsl hcp h6 hS
      go_wp2_with fail
      refine hc.mono ?_
      clear hc
      rintro e w3 ⟨q, cp, rfl, q1, q2, q3, q4, q5, b3⟩
      have K : Hid (CopAns w m y (.returned (.tuple #[.slice (some ⟨q, 0, none⟩) (atK m.copies k).cells.length cp, .bool true])) w3) :=
        ⟨some ⟨q, 0, none⟩, cp, by simp [ansL, ansB, HN.out], .inr ⟨q, rfl, Nat.le_trans B2.out.1.size q1, q2, by simpa [ansL, HN.out] using q4, by simpa [ansL, HN.out] using q5⟩, B2.out.1.trans (b3.mono B2.out.1.size)⟩
      clear q1 q2 q3 q4 q5 b3
      go_wp2
      exact bodyPost_ret (v := .tuple #[.slice (some ⟨q, 0, none⟩) (atK m.copies k).cells.length cp, .bool true]) (by simp [results, Try.results11, go_sem]) rfl K.out
set_option maxHeartbeats 2000000 in
theorem implCopied_any (w : World) (v : MV) (m : M4) (y : Int) (hl : ML m) (hs : SlM w v m) : Calls Try.prog 12 #[v.val m, .int .i64 y] w (CopAns w m y) := by
  obtain ⟨ac, cc, al, cl, ad, cd⟩ := v
  simp only [MV.val]
  obtain ⟨W, hW⟩ : ∃ W, W = w.alloc (.cells #[.bool m.alive, .slice ac m.copies.length cc, .slice al m.log.length cl, .slice ad m.cleared.length cd] 32) := ⟨_, rfl⟩
  have b0 : Below w.heap.size w W := by subst hW; exact (Below.refl _ _).alloc (Nat.le_refl _) _
  have ht := take_any W ⟨ac, cc, al, cl, ad, cd⟩ m hl (hs.later b0)
  simp only [MV.val] at ht
  have H := hidOf b0
  clear hl hs b0
  subst hW
  go_enter Try.func12, Try.ntmps12
  go_wp2_with fail
  generalize w.alloc (.cells #[.bool m.alive, .slice ac m.copies.length cc, .slice al m.log.length cl, .slice ad m.cleared.length cd] 32) = W at *
  refine ht.mono ?_
  clear ht
  rintro e w1 ⟨t1, t2, b1⟩
  have B1 : Hid (Below w.heap.size w w1) := H.out.trans (b1.mono H.out.size)
  have bad : ∀ (X : World), Below w.heap.size w X → ansC m y = none → CopAns w m y (.returned (.tuple #[.slice none 0 0, .bool false])) X := fun X hX h =>
    ⟨none, 0, by simp [ansL, ansB, h], .inl (by simp [ansL, h]), hX⟩
  have BAD := hidOf bad
  clear bad
  cases hB : machB m with
  | false =>
    obtain rfl := t1 hB
    clear t1 t2 b1
    simp only [noM]
    go_wp2
    exact bodyPost_ret (v := .tuple #[.slice none 0 0, .bool false]) (by simp [results, Try.results12, go_sem]) rfl (BAD.out _ (B1.out.alloc B1.out.size _) (ansC_bad y hB))
  | true =>
    obtain ⟨⟨uc, uk, ul, uj, ud, ui⟩, p, gk, gr, rfl, mr⟩ := t2 hB
    clear t1 t2
    simp only [MV.own]
    have bA : Below w1.heap.size w1 (w1.alloc (.cells #[.slice ul m.log.length uj, .bool m.alive, .slice uc m.copies.length uk, .slice ud m.cleared.length ui] 73)) := (Below.refl _ _).alloc (Nat.le_refl _) _
    have mrA := mr.later bA
    have cA : (w1.alloc (.cells #[.slice ul m.log.length uj, .bool m.alive, .slice uc m.copies.length uk, .slice ud m.cleared.length ui] 73)).cell? ⟨w1.heap.size, 2, none⟩ = some (.slice uc m.copies.length uk) := by go_simp
    have hS := MSm.of_mach hB
    have hf := findCopy_any (w1.alloc (.cells #[.slice ul m.log.length uj, .bool m.alive, .slice uc m.copies.length uk, .slice ud m.cleared.length ui] 73)) w1.heap.size uc uk m.copies y (by have := hS.k; omega) (mach_up hB) (MR.om (v := ⟨uc, uk, ul, uj, ud, ui⟩) mrA).sl.k cA
    have K : Hid (MR (W.heap.size + 2) p (w1.alloc (.cells #[.slice ul m.log.length uj, .bool m.alive, .slice uc m.copies.length uk, .slice ud m.cleared.length ui] 73)) (.slice uc m.copies.length uk) (.slice ul m.log.length uj) (.slice ud m.cleared.length ui) m.copies m.log m.cleared gk gr ∧ Below w.heap.size w (w1.alloc (.cells #[.slice ul m.log.length uj, .bool m.alive, .slice uc m.copies.length uk, .slice ud m.cleared.length ui] 73)) ∧ w1.heap.size < (w1.alloc (.cells #[.slice ul m.log.length uj, .bool m.alive, .slice uc m.copies.length uk, .slice ud m.cleared.length ui] 73)).heap.size ∧ MSm m) := ⟨mrA, B1.out.trans (bA.mono B1.out.size), by simp, hS⟩
    clear mr mrA bA b1 hS
    go_wp2_with fail
    generalize (w1.alloc (.cells #[.slice ul m.log.length uj, .bool m.alive, .slice uc m.copies.length uk, .slice ud m.cleared.length ui] 73)) = W2 at *
    refine hf.mono ?_
    clear hf
    rintro e w3 ⟨i, rfl, hp, b3⟩
    have HP := hidOf hp
    clear hp
    cases hF : foundK m.copies y i with
    | false =>
      have HN : Hid (ansC m y = none) := ansC_none (fun j hj e => by
        rcases Nat.lt_or_ge j i with h | h
        · have := HP.out.lo j h; omega
        · have h1 := HP.out.hi j h hj
          by_cases h2 : i < m.copies.length
          · have h3 := HP.out.hi i (Nat.le_refl _) h2
            by_cases e' : i = j
            · subst e'; simp [foundK, h2, e] at hF
            · have := mach_up hB i j (by omega) hj
              have h4 : (atK m.copies i).region ≠ y := fun e'' => by simp [foundK, h2, e''] at hF
              omega
          · omega)
      have K3 : Hid (Below w.heap.size w w3) := K.out.2.1.trans (b3.mono K.out.2.1.size)
      clear b3
      go_wp2
      exact bodyPost_ret (v := .tuple #[.slice none 0 0, .bool false]) (by simp [results, Try.results12, go_sem]) rfl (BAD.out _ K3.out HN.out)
    | true =>
      simp only [foundK, Bool.and_eq_true, decide_eq_true_eq] at hF
      have HN : Hid (ansC m y = some (atK m.copies i).cells) := ansC_first hB hF.1 hF.2 (fun j hj e => by have := HP.out.lo j hj; omega)
      have hne : m.copies ≠ [] := fun e => by rw [e] at hF; simp at hF
      have mr3 := K.out.1.later b3
      obtain ⟨b, cap, ev, hb1, hb2, _, _, og⟩ := GrowG.own (hd := hdK) (sz := 2) (fun _ => rfl) mr3.gK hne
      have ea : uc = some ⟨b, 0, none⟩ := by injection ev
      subst ea
      obtain ⟨cp, t1, t2⟩ := og.tail i _ (atK_of hF.1)
      have at1 := og.sub i _ (atK_of hF.1)
      have lt1 := og.lt i hF.1
      have lo1 := og.low i hF.1
      simp only [lnK, Nat.reduceSub] at t1
      have c3 : w3.cell? ⟨w1.heap.size, 2, none⟩ = some (.slice (some ⟨b, 0, none⟩) m.copies.length uk) := (b3.cell (p := ⟨w1.heap.size, 2, none⟩) K.out.2.2.1).trans cA
      have hi2 : (i : Int) < (m.copies.length : Int) := by omega
      have KA : Hid (CopAns w m y (.returned (.tuple #[.slice (some ⟨gk i, 0, none⟩) (atK m.copies i).cells.length cp, .bool true])) w3) :=
        ⟨some ⟨gk i, 0, none⟩, cp, by simp [ansL, ansB, HN.out], .inr ⟨gk i, rfl, by have := H.out.size; omega, lt1, by simpa [ansL, HN.out] using at1.1, by simpa [ansL, HN.out] using at1.2⟩, K.out.2.1.trans (b3.mono K.out.2.1.size)⟩
      clear b3 mr3 og at1 lt1 lo1 ev hb1 hb2 t2 cA
      go_wp2
      exact bodyPost_ret (v := .tuple #[.slice (some ⟨gk i, 0, none⟩) (atK m.copies i).cells.length cp, .bool true]) (by simp [results, Try.results12, go_sem]) rfl KA.out
end Go.Proofs.Ytcockcdhendplaa
