/- What the program's ReadRecord answers at every text of at most 1048576 bytes. -/
import Derived.Test.YtlnnghlmhmnnlaaDoorAccept
import Derived.Test.YtlnnghlmhmnnlaaDoorRecOf4
import Derived.Test.YtlnnghlmhmnnlaaDoorRead3
import Derived.Test.YtlnnghlmhmnnlaaDoorOks3
import Derived.WalkKit
import Derived.WalkSpells
import Derived.WalkLawsBesides
import Derived.Below
namespace Go.Proofs.YtlnnghlmhmnnlaaDoor
open Go.RowKit
/-- What the program's ReadRecord leaves. -/
def ImplRead (w : World) (bs : List UInt8) (e : Ending) (w' : World) : Prop :=
  Below w.heap.size w w' ∧ ((∃ (ns : List Int) (m b cap : Nat), Acc bs ns m ∧ e = .returned (.tuple #[.agg #[.int .i64 (nthI ns 0), .int .i64 (nthI ns 1), .int .i64 (nthI ns 2), .slice (some ⟨b, 0, none⟩) m cap], .bool true]) ∧ w.heap.size ≤ b ∧ b < w'.heap.size ∧ SetsAt w' b 0 (setsOf ns m) ∧ Room w' b (m * 5))
    ∨ ((∀ ns m, ¬ Acc bs ns m) ∧ e = .returned (.tuple #[.agg #[.int .i64 0, .int .i64 0, .int .i64 0, .slice none 0 0], .bool false])))
theorem acc_same {bs : List UInt8} {ns ns' : List Int} {m m' : Nat} (h : Acc bs ns m) (hn : numsOf (splitW bs) = some ns') (hm : ns'.length = 4 + 4 * m') : ns = ns' ∧ m = m' := by
  have e := Option.some.inj (h.nums.symm.trans hn)
  subst e
  exact ⟨rfl, by have := h.len; omega⟩
theorem row_ints {w : World} {B : Nat} {t : TypeId} {ns : List Int} {av : Option Addr} {cap : Nat} (h : w.ownsRow B t 1 (.slice av ns.length cap) ns.length (intsOf ns)) (h0 : 0 < ns.length) : ∃ g, av = some ⟨g, 0, none⟩ ∧ g < w.heap.size ∧ ns.length ≤ cap ∧ cap ≤ maxLen ∧ ∀ j, j < ns.length → w.cell? ⟨g, j, none⟩ = some (.int .i64 (nthI ns j)) := by
  rcases h.2 with ⟨_, e⟩ | ⟨g, cap', cur, hv, _, hg, hn, hc, _, ht⟩
  · omega
  · cases hv
    refine ⟨g, rfl, (h.lt g rfl).2, hn, hc, fun j hj => ?_⟩
    rw [cell_of_row w g j cur t (0, 0) hg]
    have e : (intsOf ns)[j]? = some (.int .i64 (nthI ns j)) := by simp [intsOf, nthI_of hj]
    rw [← ht, List.getElem?_take] at e
    split at e
    · simpa using e
    · cases e
set_option maxHeartbeats 4000000 in
theorem implRead_any (w : World) (bs : List UInt8) (hl : bs.length ≤ 1048576) : Calls Tryd.prog 10 #[.string ⟨bs.toArray⟩] w fun e w' => ImplRead w bs e w' := by
  go_enter Tryd.func10, Tryd.ntmps10
  go_wp2_with fail
  have e0 : (w.alloc (.cells #[.int .i64 0, .int .i64 0, .int .i64 0, .slice none 0 0] 26)).cell? ⟨w.heap.size, 0, none⟩ = some (.int .i64 0) := by go_simp
  have e1 : (w.alloc (.cells #[.int .i64 0, .int .i64 0, .int .i64 0, .slice none 0 0] 26)).cell? ⟨w.heap.size, 1, none⟩ = some (.int .i64 0) := by go_simp
  have e2 : (w.alloc (.cells #[.int .i64 0, .int .i64 0, .int .i64 0, .slice none 0 0] 26)).cell? ⟨w.heap.size, 2, none⟩ = some (.int .i64 0) := by go_simp
  have e3 : (w.alloc (.cells #[.int .i64 0, .int .i64 0, .int .i64 0, .slice none 0 0] 26)).cell? ⟨w.heap.size, 3, none⟩ = some (.slice none 0 0) := by go_simp
  have ef : ∀ j, (w.alloc (.cells #[.int .i64 0, .int .i64 0, .int .i64 0, .slice none 0 0] 26)).frozen? ⟨w.heap.size, j, none⟩ = false := by intro j; go_simp
  have zs : w.heap.size < (w.alloc (.cells #[.int .i64 0, .int .i64 0, .int .i64 0, .slice none 0 0] 26)).heap.size := by simp
  have bW : Below w.heap.size w (w.alloc (.cells #[.int .i64 0, .int .i64 0, .int .i64 0, .slice none 0 0] 26)) := (Below.refl _ _).alloc (Nat.le_refl _) _
  generalize w.alloc (.cells #[.int .i64 0, .int .i64 0, .int .i64 0, .slice none 0 0] 26) = W at *
  have KEEP : Hid (∀ w', Below W.heap.size W w' → (w'.cell? ⟨w.heap.size, 0, none⟩ = some (.int .i64 0) ∧ w'.cell? ⟨w.heap.size, 1, none⟩ = some (.int .i64 0) ∧ w'.cell? ⟨w.heap.size, 2, none⟩ = some (.int .i64 0) ∧ w'.cell? ⟨w.heap.size, 3, none⟩ = some (.slice none 0 0)) ∧ w'.frozen? ⟨w.heap.size, 0, none⟩ = false ∧ w'.frozen? ⟨w.heap.size, 1, none⟩ = false ∧ w'.frozen? ⟨w.heap.size, 2, none⟩ = false ∧ w'.frozen? ⟨w.heap.size, 3, none⟩ = false) := fun w' h =>
    ⟨⟨(h.cell (p := ⟨w.heap.size, 0, none⟩) zs).trans e0, (h.cell (p := ⟨w.heap.size, 1, none⟩) zs).trans e1, (h.cell (p := ⟨w.heap.size, 2, none⟩) zs).trans e2, (h.cell (p := ⟨w.heap.size, 3, none⟩) zs).trans e3⟩, (h.frozen (p := ⟨w.heap.size, 0, none⟩) zs).trans (ef 0), (h.frozen (p := ⟨w.heap.size, 1, none⟩) zs).trans (ef 1), (h.frozen (p := ⟨w.heap.size, 2, none⟩) zs).trans (ef 2), (h.frozen (p := ⟨w.heap.size, 3, none⟩) zs).trans (ef 3)⟩
  have BW : Hid (Below w.heap.size w W ∧ w.heap.size < W.heap.size) := ⟨bW, zs⟩
  clear e0 e1 e2 e3 ef bW zs
  refine (readNumbers_any W bs hl).mono ?_
  rintro e w1 ⟨b1, h⟩
  rcases h with ⟨hnone, rfl⟩ | ⟨ns, av, cap, hsome, rfl, hown⟩
  · have HA : Hid (∀ ns m, ¬ Acc bs ns m) := fun ns m h => by rw [acc_begin h] at hnone; cases hnone
    obtain ⟨⟨s0, s1, s2, s3⟩, f0, f1, f2, f3⟩ := KEEP.out w1 b1
    have B1 : Hid (Below W.heap.size W w1) := b1
    clear hnone b1
    go_wp2
    refine bodyPost_ret (v := .tuple #[.agg #[.int .i64 0, .int .i64 0, .int .i64 0, .slice none 0 0], .bool false]) (by simp [results, Tryd.results10, go_sem, s0, s1, s2, s3]) rfl ?_
    exact ⟨((((BW.out.1.trans (B1.out.mono BW.out.1.size)).setCell (p := ⟨w.heap.size, 0, none⟩) (Nat.le_refl _) _).setCell (p := ⟨w.heap.size, 1, none⟩) (Nat.le_refl _) _).setCell (p := ⟨w.heap.size, 2, none⟩) (Nat.le_refl _) _).setCell (p := ⟨w.heap.size, 3, none⟩) (Nat.le_refl _) _, .inr ⟨HA.out, rfl⟩⟩
  · rw [begin_eq] at hsome
    cases hnum : numsOf (splitW bs) with
    | none => rw [hnum] at hsome; cases hsome
    | some vs =>
      rw [hnum] at hsome
      simp only [Option.bind_some] at hsome
      split at hsome
      · rename_i hle
        obtain rfl := Option.some.inj hsome
        have h0 : 0 < vs.length := by
          rw [nums_len hnum]
          exact List.length_pos_iff.2 (split_ne bs)
        obtain ⟨g, rfl, hg, hnc, hcm, hcells⟩ := row_ints hown h0
        have HN : Hid (numsOf (splitW bs) = some vs ∧ vs.length ≤ 52 ∧ (∀ j, j < vs.length → w1.cell? ⟨g, j, none⟩ = some (.int .i64 (nthI vs j))) ∧ g < w1.heap.size ∧ vs.length ≤ cap ∧ cap ≤ maxLen) := ⟨hnum, hle, hcells, hg, hnc, hcm⟩
        have B1 : Hid (Below W.heap.size W w1) := b1
        clear hsome hown h0 hg hnc hcm hcells hle hnum b1
        go_wp2_with fail
        by_cases hgood : ∃ m : Nat, vs.length = 4 + 4 * m ∧ nthI vs 3 = (m : Int)
        · obtain ⟨m, hm, h3⟩ := hgood
          have HM : Hid (vs.length = 4 + 4 * m ∧ nthI vs 3 = (m : Int)) := ⟨hm, h3⟩
          have hrec : Calls Tryd.prog 28 #[.slice (some ⟨g, 0, none⟩) vs.length cap] w1 fun e w' => RecPost w1 vs m e w' := by
            obtain ⟨_, hle, hcells, hg, hnc, hcm⟩ := HN.out
            by_cases h4 : 4 < cap
            · exact recordOf_good w1 g cap m vs hcells hg (by omega) hm h3 h4 hnc hcm
            · have c4 : cap = 4 := by omega
              have v4 : vs.length = 4 := by omega
              have m0 : m = 0 := by omega
              subst m0
              rw [v4] at hcells ⊢
              rw [c4]
              exact recordOf_four w1 g vs hcells hg (by simpa using h3)
          clear hm h3
          refine hrec.mono ?_
          clear hrec
          rintro e w2 ⟨b2, hp⟩
          rcases hp with ⟨hfl, a, cap2, rfl, hrow⟩ | ⟨hfl, rfl⟩
          · have B2 : Hid (Below W.heap.size W w2 ∧ w1.heap.size ≤ w2.heap.size) := ⟨B1.out.trans (b2.mono B1.out.size), b2.size⟩
            have hmx : m ≤ maxLen := by have := HM.out; have := HN.out; unfold maxLen; omega
            have HR : Hid (flagsB vs m = true ∧ (m = 0 ∨ ∃ b, a = some ⟨b, 0, none⟩ ∧ w1.heap.size ≤ b ∧ b < w2.heap.size ∧ SetsAt w2 b 0 (setsOf vs m) ∧ Room w2 b (m * 5))) := ⟨hfl, hrow⟩
            clear hfl hrow b2
            go_wp2_with fail
            have b3 : Below w2.heap.size w2 (w2.alloc (.cells #[.int .i64 (nthI vs 0), .int .i64 (nthI vs 1), .int .i64 (nthI vs 2), .slice a m cap2] 26)) := (Below.refl _ _).alloc (Nat.le_refl _) _
            have z3 : w2.heap.size < (w2.alloc (.cells #[.int .i64 (nthI vs 0), .int .i64 (nthI vs 1), .int .i64 (nthI vs 2), .slice a m cap2] 26)).heap.size := by simp
            have d0 : (w2.alloc (.cells #[.int .i64 (nthI vs 0), .int .i64 (nthI vs 1), .int .i64 (nthI vs 2), .slice a m cap2] 26)).cell? ⟨w2.heap.size, 0, none⟩ = some (.int .i64 (nthI vs 0)) := by go_simp
            have d1 : (w2.alloc (.cells #[.int .i64 (nthI vs 0), .int .i64 (nthI vs 1), .int .i64 (nthI vs 2), .slice a m cap2] 26)).cell? ⟨w2.heap.size, 1, none⟩ = some (.int .i64 (nthI vs 1)) := by go_simp
            have d2 : (w2.alloc (.cells #[.int .i64 (nthI vs 0), .int .i64 (nthI vs 1), .int .i64 (nthI vs 2), .slice a m cap2] 26)).cell? ⟨w2.heap.size, 2, none⟩ = some (.int .i64 (nthI vs 2)) := by go_simp
            have d3 : (w2.alloc (.cells #[.int .i64 (nthI vs 0), .int .i64 (nthI vs 1), .int .i64 (nthI vs 2), .slice a m cap2] 26)).cell? ⟨w2.heap.size, 3, none⟩ = some (.slice a m cap2) := by go_simp
            generalize (w2.alloc (.cells #[.int .i64 (nthI vs 0), .int .i64 (nthI vs 1), .int .i64 (nthI vs 2), .slice a m cap2] 26)) = w3 at *
            have hsl : Sl w3 w3.heap.size a m (setsOf vs m) := ⟨setsOf_len _ _, HR.out.2.imp id fun ⟨b, h1, _, h3, h4, _⟩ => ⟨b, 0, h1, Nat.lt_of_lt_of_le h3 b3.size, h4.below b3 h3⟩⟩
            refine (implRecordOk_any w3 (nthI vs 0) (nthI vs 1) (nthI vs 2) a m cap2 (setsOf vs m) hmx hsl).mono ?_
            cases hok : recB (nthI vs 0) (nthI vs 1) (nthI vs 2) (setsOf vs m) with
            | false =>
              rintro e w4 ⟨rfl, b4⟩
              have HA : Hid (∀ ns m, ¬ Acc bs ns m) := fun ns' m' h => by
                obtain ⟨rfl, rfl⟩ := acc_same h HN.out.1 HM.out.1
                rw [h.ok] at hok; cases hok
              have B4 : Hid (Below W.heap.size W w4) := B2.out.1.trans ((b3.trans (b4.mono b3.size)).mono B2.out.1.size)
              obtain ⟨⟨s0, s1, s2, s3⟩, f0, f1, f2, f3⟩ := KEEP.out w4 B4.out
              clear b4 b3 z3 d0 d1 d2 d3 hsl hok
              go_wp2
              refine bodyPost_ret (v := .tuple #[.agg #[.int .i64 0, .int .i64 0, .int .i64 0, .slice none 0 0], .bool false]) (by simp [results, Tryd.results10, go_sem, s0, s1, s2, s3]) rfl ?_
              exact ⟨((((BW.out.1.trans (B4.out.mono BW.out.1.size)).setCell (p := ⟨w.heap.size, 0, none⟩) (Nat.le_refl _) _).setCell (p := ⟨w.heap.size, 1, none⟩) (Nat.le_refl _) _).setCell (p := ⟨w.heap.size, 2, none⟩) (Nat.le_refl _) _).setCell (p := ⟨w.heap.size, 3, none⟩) (Nat.le_refl _) _, .inr ⟨HA.out, rfl⟩⟩
            | true =>
              rintro e w4 ⟨rfl, b4⟩
              have HA : Hid (Acc bs vs m) := ⟨HN.out.1, HM.out.1, HM.out.2, HR.out.1, hok⟩
              have b24 : Below w2.heap.size w2 w4 := b3.trans (b4.mono b3.size)
              have B4 : Hid (Below W.heap.size W w4 ∧ Below w2.heap.size w2 w4) := ⟨B2.out.1.trans (b24.mono B2.out.1.size), b24⟩
              have k0 := (b4.cell (p := ⟨w2.heap.size, 0, none⟩) z3).trans d0
              have k1 := (b4.cell (p := ⟨w2.heap.size, 1, none⟩) z3).trans d1
              have k2 := (b4.cell (p := ⟨w2.heap.size, 2, none⟩) z3).trans d2
              have k3 := (b4.cell (p := ⟨w2.heap.size, 3, none⟩) z3).trans d3
              obtain ⟨b, ha, hb1, hb2, hse, hro⟩ : ∃ b, a = some ⟨b, 0, none⟩ ∧ w1.heap.size ≤ b ∧ b < w2.heap.size ∧ SetsAt w2 b 0 (setsOf vs m) ∧ Room w2 b (m * 5) := by
                have := acc_len HA.out
                rcases HR.out.2 with h | h
                · omega
                · exact h
              have HB : Hid (w1.heap.size ≤ b ∧ b < w2.heap.size ∧ SetsAt w2 b 0 (setsOf vs m) ∧ Room w2 b (m * 5)) := ⟨hb1, hb2, hse, hro⟩
              subst ha
              obtain ⟨⟨s0, s1, s2, s3⟩, f0, f1, f2, f3⟩ := KEEP.out w4 B4.out.1
              have hne : w.heap.size ≠ w2.heap.size := by have := BW.out.2; have := B2.out.1.size; omega
              clear b4 b3 z3 d0 d1 d2 d3 hsl hok b24 hb1 hb2 hse hro HR
              go_wp2
              refine bodyPost_ret (v := .tuple #[.agg #[.int .i64 (nthI vs 0), .int .i64 (nthI vs 1), .int .i64 (nthI vs 2), .slice (some ⟨b, 0, none⟩) m cap2], .bool true]) (by simp [results, Tryd.results10, go_sem, s0, s1, s2, s3]) rfl ?_
              obtain ⟨hb1, hb2, hse, hro⟩ := HB.out
              have hw1 : w.heap.size < w1.heap.size := Nat.lt_of_lt_of_le BW.out.2 B1.out.size
              have hbw : w.heap.size ≠ b := by omega
              have hb4 : b < w4.heap.size := Nat.lt_of_lt_of_le hb2 B4.out.2.size
              have far : ∀ (V : World) (o : Nat) (v : Value), (V.setCell ⟨w.heap.size, o, none⟩ v).heap[b]? = V.heap[b]? := fun V o v => Below.heap_setCell _ _ _ _ (fun e => hbw e.symm)
              have he := ((far _ 3 (.slice (some ⟨b, 0, none⟩) m cap2)).trans ((far _ 2 (.int .i64 (nthI vs 2))).trans ((far _ 1 (.int .i64 (nthI vs 1))).trans (far w4 0 (.int .i64 (nthI vs 0)))))).trans (B4.out.2.block b hb2)
              exact ⟨((((BW.out.1.trans (B4.out.1.mono BW.out.1.size)).setCell (p := ⟨w.heap.size, 0, none⟩) (Nat.le_refl _) _).setCell (p := ⟨w.heap.size, 1, none⟩) (Nat.le_refl _) _).setCell (p := ⟨w.heap.size, 2, none⟩) (Nat.le_refl _) _).setCell (p := ⟨w.heap.size, 3, none⟩) (Nat.le_refl _) _, .inl ⟨vs, m, b, cap2, HA.out, rfl, by omega, by simpa [World.setCell] using hb4, hse.of_heap he, hro.of_heap he⟩⟩
          · have HA : Hid (∀ ns m, ¬ Acc bs ns m) := fun ns' m' h => by
              obtain ⟨rfl, rfl⟩ := acc_same h HN.out.1 HM.out.1
              rw [h.flags] at hfl; cases hfl
            have b3 : Below w2.heap.size w2 (w2.alloc (.cells #[.int .i64 0, .int .i64 0, .int .i64 0, .slice none 0 0] 26)) := (Below.refl _ _).alloc (Nat.le_refl _) _
            have B2 : Hid (Below W.heap.size W (w2.alloc (.cells #[.int .i64 0, .int .i64 0, .int .i64 0, .slice none 0 0] 26))) := B1.out.trans ((b2.trans (b3.mono b2.size)).mono B1.out.size)
            obtain ⟨⟨s0, s1, s2, s3⟩, f0, f1, f2, f3⟩ := KEEP.out (w2.alloc (.cells #[.int .i64 0, .int .i64 0, .int .i64 0, .slice none 0 0] 26)) B2.out
            clear hfl b2 b3
            go_wp2
            refine bodyPost_ret (v := .tuple #[.agg #[.int .i64 0, .int .i64 0, .int .i64 0, .slice none 0 0], .bool false]) (by simp [results, Tryd.results10, go_sem, s0, s1, s2, s3]) rfl ?_
            exact ⟨((((BW.out.1.trans (B2.out.mono BW.out.1.size)).setCell (p := ⟨w.heap.size, 0, none⟩) (Nat.le_refl _) _).setCell (p := ⟨w.heap.size, 1, none⟩) (Nat.le_refl _) _).setCell (p := ⟨w.heap.size, 2, none⟩) (Nat.le_refl _) _).setCell (p := ⟨w.heap.size, 3, none⟩) (Nat.le_refl _) _, .inr ⟨HA.out, rfl⟩⟩
        · have HA : Hid (∀ ns m, ¬ Acc bs ns m) := fun ns' m' h => by
            have e := Option.some.inj (h.nums.symm.trans HN.out.1)
            subst e
            exact hgood ⟨m', h.len, h.three⟩
          have hbad : vs.length < 4 ∨ (vs.length : Int) ≠ 4 + 4 * nthI vs 3 := by
            by_cases h4 : vs.length < 4
            · exact .inl h4
            · right
              intro e
              exact hgood ⟨(nthI vs 3).toNat, by omega, by omega⟩
          clear hgood
          refine (recordOf_bad w1 g cap vs HN.out.2.2.1 HN.out.2.2.2.1 HN.out.2.1 (nth_bd HN.out.1 3) hbad).mono ?_
          clear hbad
          rintro e w2 ⟨rfl, b2⟩
          have b3 : Below w2.heap.size w2 (w2.alloc (.cells #[.int .i64 0, .int .i64 0, .int .i64 0, .slice none 0 0] 26)) := (Below.refl _ _).alloc (Nat.le_refl _) _
          have B2 : Hid (Below W.heap.size W (w2.alloc (.cells #[.int .i64 0, .int .i64 0, .int .i64 0, .slice none 0 0] 26))) := B1.out.trans ((b2.trans (b3.mono b2.size)).mono B1.out.size)
          obtain ⟨⟨s0, s1, s2, s3⟩, f0, f1, f2, f3⟩ := KEEP.out (w2.alloc (.cells #[.int .i64 0, .int .i64 0, .int .i64 0, .slice none 0 0] 26)) B2.out
          clear b2 b3
          go_wp2
          refine bodyPost_ret (v := .tuple #[.agg #[.int .i64 0, .int .i64 0, .int .i64 0, .slice none 0 0], .bool false]) (by simp [results, Tryd.results10, go_sem, s0, s1, s2, s3]) rfl ?_
          exact ⟨((((BW.out.1.trans (B2.out.mono BW.out.1.size)).setCell (p := ⟨w.heap.size, 0, none⟩) (Nat.le_refl _) _).setCell (p := ⟨w.heap.size, 1, none⟩) (Nat.le_refl _) _).setCell (p := ⟨w.heap.size, 2, none⟩) (Nat.le_refl _) _).setCell (p := ⟨w.heap.size, 3, none⟩) (Nat.le_refl _) _, .inr ⟨HA.out, rfl⟩⟩
      · cases hsome
end Go.Proofs.YtlnnghlmhmnnlaaDoor
