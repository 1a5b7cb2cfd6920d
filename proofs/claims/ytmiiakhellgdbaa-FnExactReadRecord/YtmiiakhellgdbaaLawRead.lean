/- ReadRecord of the program answers, at every text, as the specification's ReadRecord does, its answer owns its memory, and nothing that was there is changed: no condition. -/
import Derived.Test.YtmiiakhellgdbaaRows
import Derived.Test.YtmiiakhellgdbaaReadI
import Derived.Test.YtmiiakhellgdbaaMarks
import Derived.Test.YtmiiakhellgdbaaEqs
import Derived.WalkKit
import Derived.ProofKit
import Derived.OpenShut
import Derived.WalkSpells
namespace Go.Proofs.Ytmiiakhellgdbaa.fnExactReadRecord
open Go.ChangeShapes Go.WideShapes Go.ChangeAt Go.RowKit
open Go.ChangeMaps (open_string shut_string)
theorem own : ownKnob Try.prog.godebug = none := by kernel_rfl
theorem laidOut : laidOutB Try.prog = true := by kernel_rfl
/-- What the specification's ReadRecord leaves. -/
def SpecPost (w : World) (bs : List UInt8) (e : Ending) (w' : World) : Prop :=
  Below w.heap.size w w' ∧ ((∃ (ns : List Int) (m : Nat) (a : Option Addr) (cap : Nat), Acc bs ns m ∧ e = .returned (.tuple #[.agg #[.int .i64 (nthI ns 0), .int .i64 (nthI ns 1), .int .i64 (nthI ns 2), .slice a m cap], .bool true]) ∧ Sl w' w'.heap.size a m (setsOf ns m))
    ∨ ((∀ ns m, ¬ Acc bs ns m) ∧ e = .returned (.tuple #[.agg #[.int .i64 0, .int .i64 0, .int .i64 0, .slice none 0 0], .bool false])))
theorem specRead_any (w : World) (bs : List UInt8) (hl : bs.length ≤ 1048576) : Calls Try.prog 36 #[.string ⟨bs.toArray⟩] w fun e w' => SpecPost w bs e w' := by
  by_cases h : ∃ ns m, numsOf (splitW bs) = some ns ∧ ns.length = 4 + 4 * m
  · obtain ⟨ns, m, hn, hm⟩ := h
    refine (specRead_good w bs ns m hl hn hm).mono ?_
    rintro e w' ⟨hb, hp⟩
    rcases hp with ⟨hs, a, cap, he, hsl⟩ | ⟨hs, he⟩
    · exact ⟨hb, .inl ⟨ns, m, a, cap, shown_acc hn hm hs, he, hsl⟩⟩
    · refine ⟨hb, .inr ⟨fun ns' m' h => hs ?_, he⟩⟩
      obtain ⟨rfl, rfl⟩ := acc_same h hn hm
      exact acc_shown h
  · refine (specRead_bad w bs hl ?_).mono ?_
    · intro ns hn
      by_cases h4 : ns.length < 4
      · exact .inl h4
      · right
        intro e
        exact h ⟨ns, (ns.length - 4) / 4, hn, by omega⟩
    · rintro e w' ⟨he, hb⟩
      exact ⟨hb, .inr ⟨fun ns' m' ha => h ⟨ns', m', ha.nums, ha.len⟩, he⟩⟩
theorem acc_one {bs : List UInt8} {ns ns' : List Int} {m m' : Nat} (h : Acc bs ns m) (h' : Acc bs ns' m') : ns' = ns ∧ m' = m := by
  obtain ⟨e1, e2⟩ := acc_same h h'.nums h'.len
  exact ⟨e1.symm, e2.symm⟩
theorem box4 (w : World) (k t r : Int) (s : Value) (T : TypeId) : ∀ w', Below (w.heap.size + 1) (w.alloc (.cells #[.int .i64 k, .int .i64 t, .int .i64 r, s] T)) w' → w'.cell? ⟨w.heap.size, 0, none⟩ = some (.int .i64 k) ∧ w'.cell? ⟨w.heap.size, 1, none⟩ = some (.int .i64 t) ∧ w'.cell? ⟨w.heap.size, 2, none⟩ = some (.int .i64 r) ∧ w'.cell? ⟨w.heap.size, 3, none⟩ = some s := fun w' h =>
  ⟨(h.cell (p := ⟨w.heap.size, 0, none⟩) (by simp)).trans (by go_simp), (h.cell (p := ⟨w.heap.size, 1, none⟩) (by simp)).trans (by go_simp), (h.cell (p := ⟨w.heap.size, 2, none⟩) (by simp)).trans (by go_simp), (h.cell (p := ⟨w.heap.size, 3, none⟩) (by simp)).trans (by go_simp)⟩
set_option maxHeartbeats 4000000 in
theorem walk_no (w : World) (bs : List UInt8) (hl : bs.length ≤ 1048576) (hno : ∀ ns m, ¬ Acc bs ns m) :
    Calls Try.prog 12 #[.string ⟨bs.toArray⟩] w fun e w' => e = .returned (.bool true) ∧ Below w.heap.size w w' := by
  have q : decide ((1048576 : Int) < (bs.length : Int)) = false := by simp; omega
  have HNO : Hid (∀ ns m, ¬ Acc bs ns m) := hno
  have hm0 : 0 ≤ maxLen := Nat.zero_le _
  clear hno
  go_enter Try.func12, Try.ntmps12
  go_wp2_with fail
  refine (specRead_any w bs hl).mono ?_
  rintro e w1 ⟨b1, hp⟩
  obtain rfl : e = .returned (.tuple #[.agg #[.int .i64 0, .int .i64 0, .int .i64 0, .slice none 0 0], .bool false]) := by
    rcases hp with ⟨ns, m, _, _, ha, _⟩ | ⟨_, h⟩
    · exact absurd ha (HNO.out ns m)
    · exact h
  clear hp
  go_wp2_with fail
  have f1 := box4 w1 0 0 0 (.slice none 0 0) 47
  have c1 : Below w1.heap.size w1 (w1.alloc (.cells #[.int .i64 0, .int .i64 0, .int .i64 0, .slice none 0 0] 47)) := (Below.refl _ _).alloc (Nat.le_refl _) _
  have z1 : (w1.alloc (.cells #[.int .i64 0, .int .i64 0, .int .i64 0, .slice none 0 0] 47)).heap.size = w1.heap.size + 1 := by simp
  generalize (w1.alloc (.cells #[.int .i64 0, .int .i64 0, .int .i64 0, .slice none 0 0] 47)) = v1 at *
  refine (implRead_any v1 bs hl).mono ?_
  rintro e w2 ⟨b2, hp⟩
  obtain rfl : e = .returned (.tuple #[.agg #[.int .i64 0, .int .i64 0, .int .i64 0, .slice none 0 0], .bool false]) := by
    rcases hp with ⟨ns, m, _, _, ha, _⟩ | ⟨_, h⟩
    · exact absurd ha (HNO.out ns m)
    · exact h
  clear hp
  have K1 : Hid (Below w.heap.size w w1 ∧ Below w1.heap.size w1 v1 ∧ v1.heap.size = w1.heap.size + 1 ∧ (∀ w', Below (w1.heap.size + 1) v1 w' → w'.cell? ⟨w1.heap.size, 0, none⟩ = some (.int .i64 0) ∧ w'.cell? ⟨w1.heap.size, 1, none⟩ = some (.int .i64 0) ∧ w'.cell? ⟨w1.heap.size, 2, none⟩ = some (.int .i64 0) ∧ w'.cell? ⟨w1.heap.size, 3, none⟩ = some (.slice none 0 0)) ∧ Below v1.heap.size v1 w2) := ⟨b1, c1, z1, f1, b2⟩
  clear b1 c1 z1 f1 b2
  obtain ⟨x0, x1, x2, x3⟩ := K1.out.2.2.2.1 w2 (K1.out.2.2.2.2.mono (by rw [K1.out.2.2.1]; exact Nat.le_refl _))
  have hlt : w1.heap.size < w2.heap.size := by have := K1.out.2.2.1; have := K1.out.2.2.2.2.size; omega
  go_wp2_with fail
  have f2 := box4 w2 0 0 0 (.slice none 0 0) 47
  have c2 : Below w2.heap.size w2 (w2.alloc (.cells #[.int .i64 0, .int .i64 0, .int .i64 0, .slice none 0 0] 47)) := (Below.refl _ _).alloc (Nat.le_refl _) _
  have z2 : (w2.alloc (.cells #[.int .i64 0, .int .i64 0, .int .i64 0, .slice none 0 0] 47)).heap.size = w2.heap.size + 1 := by simp
  generalize (w2.alloc (.cells #[.int .i64 0, .int .i64 0, .int .i64 0, .slice none 0 0] 47)) = v2 at *
  have K2 : Hid (Below w.heap.size w v2 ∧ v2.heap.size = w2.heap.size + 1 ∧ w1.heap.size < w2.heap.size ∧ (∀ w', Below v2.heap.size v2 w' → (w'.cell? ⟨w1.heap.size, 0, none⟩ = some (.int .i64 0) ∧ w'.cell? ⟨w1.heap.size, 1, none⟩ = some (.int .i64 0) ∧ w'.cell? ⟨w1.heap.size, 2, none⟩ = some (.int .i64 0) ∧ w'.cell? ⟨w1.heap.size, 3, none⟩ = some (.slice none 0 0)) ∧ w'.cell? ⟨w2.heap.size, 0, none⟩ = some (.int .i64 0) ∧ w'.cell? ⟨w2.heap.size, 1, none⟩ = some (.int .i64 0) ∧ w'.cell? ⟨w2.heap.size, 2, none⟩ = some (.int .i64 0) ∧ w'.cell? ⟨w2.heap.size, 3, none⟩ = some (.slice none 0 0))) := by
    obtain ⟨b1, c1, z1, f1, b2⟩ := K1.out
    have bv : Below w.heap.size w v2 := b1.trans ((c1.trans ((b2.mono (by omega)).trans (c2.mono (by omega)))).mono b1.size)
    refine ⟨bv, z2, hlt, fun w' h => ⟨f1 w' ?_, f2 w' (h.mono (by omega))⟩⟩
    exact ((b2.mono (by omega)).trans (c2.mono (by omega))).trans (h.mono (by omega))
  clear f2 c2 z2 K1 x0 x1 x2 x3 hlt
  refine (eqRecord_same v2 0 0 0 none none 0 0 0 [] hm0 ⟨rfl, .inl rfl⟩ ⟨rfl, .inl rfl⟩).mono ?_
  rintro e w3 ⟨rfl, b3⟩
  have B3 : Hid (Below v2.heap.size v2 w3) := b3
  obtain ⟨_, y0, y1, y2, y3⟩ := K2.out.2.2.2 w3 b3
  clear b3
  go_wp2_with fail
  refine (markRecord_none w3 0 0 0 none 0).mono ?_
  rintro e w4 ⟨rfl, b4⟩
  have B4 : Hid (Below v2.heap.size v2 w4) := B3.out.trans (b4.mono B3.out.size)
  obtain ⟨_, y0, y1, y2, y3⟩ := K2.out.2.2.2 w4 B4.out
  clear b4 B3
  go_wp2_with fail
  refine (heldRecord_none w4 0 0 0 none 0).mono ?_
  rintro e w5 ⟨rfl, b5⟩
  have B5 : Hid (Below v2.heap.size v2 w5) := B4.out.trans (b5.mono B4.out.size)
  clear b5 B4 y0 y1 y2 y3
  go_wp2_with fail
  refine (implRead_any w5 bs hl).mono ?_
  rintro e w6 ⟨b6, hp⟩
  obtain rfl : e = .returned (.tuple #[.agg #[.int .i64 0, .int .i64 0, .int .i64 0, .slice none 0 0], .bool false]) := by
    rcases hp with ⟨ns, m, _, _, ha, _⟩ | ⟨_, h⟩
    · exact absurd ha (HNO.out ns m)
    · exact h
  clear hp
  have B6 : Hid (Below v2.heap.size v2 w6) := B5.out.trans (b6.mono B5.out.size)
  clear b6 B5
  obtain ⟨⟨x0, x1, x2, x3⟩, y0, y1, y2, y3⟩ := K2.out.2.2.2 w6 B6.out
  have hl1 : w1.heap.size < w6.heap.size := by have := K2.out.2.1; have := K2.out.2.2.1; have := B6.out.size; omega
  have hl2 : w2.heap.size < w6.heap.size := by have := K2.out.2.1; have := B6.out.size; omega
  go_wp2_with fail
  have c6 : Below w6.heap.size w6 (w6.alloc (.cells #[.int .i64 0, .int .i64 0, .int .i64 0, .slice none 0 0] 47)) := (Below.refl _ _).alloc (Nat.le_refl _) _
  generalize (w6.alloc (.cells #[.int .i64 0, .int .i64 0, .int .i64 0, .slice none 0 0] 47)) = v6 at *
  refine (eqRecord_same v6 0 0 0 none none 0 0 0 [] hm0 ⟨rfl, .inl rfl⟩ ⟨rfl, .inl rfl⟩).mono ?_
  rintro e w7 ⟨rfl, b7⟩
  have B7 : Hid (Below v2.heap.size v2 w7) := B6.out.trans ((c6.trans (b7.mono c6.size)).mono B6.out.size)
  clear b7 c6 B6 x0 x1 x2 x3 y0 y1 y2 y3
  obtain ⟨_, y0, y1, y2, y3⟩ := K2.out.2.2.2 w7 B7.out
  go_wp2_with fail
  refine (heldRecord_none w7 0 0 0 none 0).mono ?_
  rintro e w8 ⟨rfl, b8⟩
  go_wp2
  go_ret
  exact ⟨rfl, K2.out.1.trans ((B7.out.trans (b8.mono B7.out.size)).mono K2.out.1.size)⟩
set_option maxHeartbeats 8000000 in
theorem walk_yes (w : World) (bs : List UInt8) (hl : bs.length ≤ 1048576) (ns : List Int) (m : Nat) (hacc : Acc bs ns m) :
    Calls Try.prog 12 #[.string ⟨bs.toArray⟩] w fun e w' => e = .returned (.bool true) ∧ Below w.heap.size w w' := by
  have q : decide ((1048576 : Int) < (bs.length : Int)) = false := by simp; omega
  have hm12 := acc_len hacc
  have hmx : m ≤ maxLen := by unfold maxLen; omega
  have hmm : m ≤ 1000000 := by omega
  have hq : decide (1 + 5 * (m : Int) < 0) = false := by simp; omega
  have SPEC : Hid (∀ w1 e w', SpecPost w1 bs e w' → Below w1.heap.size w1 w' ∧ ∃ a cap, e = .returned (.tuple #[.agg #[.int .i64 (nthI ns 0), .int .i64 (nthI ns 1), .int .i64 (nthI ns 2), .slice a m cap], .bool true]) ∧ Sl w' w'.heap.size a m (setsOf ns m)) := fun w1 e w' h => by
    obtain ⟨hb, ⟨ns', m', a, cap, ha, he, hs⟩ | ⟨hno, _⟩⟩ := h
    · obtain ⟨rfl, rfl⟩ := acc_one hacc ha
      exact ⟨hb, a, cap, he, hs⟩
    · exact absurd hacc (hno ns m)
  have IMPL : Hid (∀ w1 e w', ImplRead w1 bs e w' → Below w1.heap.size w1 w' ∧ ∃ b cap, e = .returned (.tuple #[.agg #[.int .i64 (nthI ns 0), .int .i64 (nthI ns 1), .int .i64 (nthI ns 2), .slice (some ⟨b, 0, none⟩) m cap], .bool true]) ∧ w1.heap.size ≤ b ∧ b < w'.heap.size ∧ SetsAt w' b 0 (setsOf ns m) ∧ Room w' b (m * 5)) := fun w1 e w' h => by
    obtain ⟨hb, ⟨ns', m', b, cap, ha, he, hs⟩ | ⟨hno, _⟩⟩ := h
    · obtain ⟨rfl, rfl⟩ := acc_one hacc ha
      exact ⟨hb, b, cap, he, hs⟩
    · exact absurd hacc (hno ns m)
  have HX : Hid ((setsOf ns m).length = m) := setsOf_len ns m
  generalize setsOf ns m = xs at *
  generalize nthI ns 0 = k at *
  generalize nthI ns 1 = t at *
  generalize nthI ns 2 = r at *
  clear hacc hm12
  go_enter Try.func12, Try.ntmps12
  go_wp2_with fail
  refine (specRead_any w bs hl).mono ?_
  intro e w1 hp
  obtain ⟨b1, a, cap, rfl, s1⟩ := SPEC.out _ _ _ hp
  clear hp
  have S1 : Hid (Sl w1 w1.heap.size a m xs) := s1
  clear s1
  go_wp2_with fail
  have f1 := box4 w1 k t r (.slice a m cap) 47
  have c1 : Below w1.heap.size w1 (w1.alloc (.cells #[.int .i64 k, .int .i64 t, .int .i64 r, .slice a m cap] 47)) := (Below.refl _ _).alloc (Nat.le_refl _) _
  have z1 : (w1.alloc (.cells #[.int .i64 k, .int .i64 t, .int .i64 r, .slice a m cap] 47)).heap.size = w1.heap.size + 1 := by simp
  generalize (w1.alloc (.cells #[.int .i64 k, .int .i64 t, .int .i64 r, .slice a m cap] 47)) = v1 at *
  refine (implRead_any v1 bs hl).mono ?_
  intro e w2 hp
  obtain ⟨b2, b0, cap0, rfl, l0, l1, s2, r2⟩ := IMPL.out _ _ _ hp
  clear hp
  have K1 : Hid (Below w.heap.size w w1 ∧ Below w1.heap.size w1 v1 ∧ v1.heap.size = w1.heap.size + 1 ∧ (∀ w', Below (w1.heap.size + 1) v1 w' → (w'.cell? ⟨w1.heap.size, 0, none⟩ = some (.int .i64 k) ∧ w'.cell? ⟨w1.heap.size, 1, none⟩ = some (.int .i64 t) ∧ w'.cell? ⟨w1.heap.size, 2, none⟩ = some (.int .i64 r) ∧ w'.cell? ⟨w1.heap.size, 3, none⟩ = some (.slice a m cap))) ∧ Below v1.heap.size v1 w2 ∧ v1.heap.size ≤ b0 ∧ b0 < w2.heap.size ∧ SetsAt w2 b0 0 xs ∧ Room w2 b0 (m * 5)) := ⟨b1, c1, z1, f1, b2, l0, l1, s2, r2⟩
  clear b1 c1 z1 f1 b2 l0 l1 s2 r2
  obtain ⟨x0, x1, x2, x3⟩ := K1.out.2.2.2.1 w2 (K1.out.2.2.2.2.1.mono (by rw [K1.out.2.2.1]; exact Nat.le_refl _))
  have hlt : w1.heap.size < w2.heap.size := by have := K1.out.2.2.1; have := K1.out.2.2.2.2.1.size; omega
  go_wp2_with fail
  have f2 := box4 w2 k t r (.slice (some ⟨b0, 0, none⟩) m cap0) 47
  have c2 : Below w2.heap.size w2 (w2.alloc (.cells #[.int .i64 k, .int .i64 t, .int .i64 r, .slice (some ⟨b0, 0, none⟩) m cap0] 47)) := (Below.refl _ _).alloc (Nat.le_refl _) _
  have z2 : (w2.alloc (.cells #[.int .i64 k, .int .i64 t, .int .i64 r, .slice (some ⟨b0, 0, none⟩) m cap0] 47)).heap.size = w2.heap.size + 1 := by simp
  generalize (w2.alloc (.cells #[.int .i64 k, .int .i64 t, .int .i64 r, .slice (some ⟨b0, 0, none⟩) m cap0] 47)) = v2 at *
  have K2 : Hid (Below w.heap.size w v2 ∧ w.heap.size ≤ w1.heap.size ∧ v2.heap.size = w2.heap.size + 1 ∧ w1.heap.size < b0 ∧ b0 < w2.heap.size ∧ SetsAt v2 b0 0 xs ∧ Room v2 b0 (m * 5) ∧ Sl v2 w1.heap.size a m xs ∧ (v2.cell? ⟨w1.heap.size, 0, none⟩ = some (.int .i64 k) ∧ v2.cell? ⟨w1.heap.size, 1, none⟩ = some (.int .i64 t) ∧ v2.cell? ⟨w1.heap.size, 2, none⟩ = some (.int .i64 r) ∧ v2.cell? ⟨w1.heap.size, 3, none⟩ = some (.slice a m cap)) ∧ (v2.cell? ⟨w2.heap.size, 0, none⟩ = some (.int .i64 k) ∧ v2.cell? ⟨w2.heap.size, 1, none⟩ = some (.int .i64 t) ∧ v2.cell? ⟨w2.heap.size, 2, none⟩ = some (.int .i64 r) ∧ v2.cell? ⟨w2.heap.size, 3, none⟩ = some (.slice (some ⟨b0, 0, none⟩) m cap0))) := by
    obtain ⟨b1, d1, z1, f1, b2, l0, l1, s2, r2⟩ := K1.out
    have b12 : Below w1.heap.size w1 v2 := d1.trans ((b2.mono (by omega)).trans (c2.mono (by omega)))
    exact ⟨b1.trans (b12.mono b1.size), b1.size, z2, by omega, l1, s2.below c2 l1, r2.below c2 l1, S1.out.below b12, f1 v2 ((b2.mono (by omega)).trans (c2.mono (by omega))), f2 v2 (Below.refl _ _)⟩
  clear f2 c2 z2 K1 S1 x0 x1 x2 x3 hlt
  have hA : Sl v2 v2.heap.size (some ⟨b0, 0, none⟩) m xs := ⟨HX.out, .inr ⟨b0, 0, rfl, by have := K2.out; omega, K2.out.2.2.2.2.2.1⟩⟩
  have hB : Sl v2 v2.heap.size a m xs := K2.out.2.2.2.2.2.2.2.1.mono (by have := K2.out; omega)
  refine (eqRecord_same v2 k t r _ _ m cap0 cap xs hmx hA hB).mono ?_
  clear hA hB
  rintro e w3 ⟨rfl, b3⟩
  have K3 : Hid (Below w.heap.size w w3 ∧ w.heap.size ≤ w1.heap.size ∧ w2.heap.size < w3.heap.size ∧ w1.heap.size < b0 ∧ b0 < w2.heap.size ∧ Room w3 b0 (m * 5) ∧ Sl w3 w1.heap.size a m xs ∧ (w3.cell? ⟨w1.heap.size, 0, none⟩ = some (.int .i64 k) ∧ w3.cell? ⟨w1.heap.size, 1, none⟩ = some (.int .i64 t) ∧ w3.cell? ⟨w1.heap.size, 2, none⟩ = some (.int .i64 r) ∧ w3.cell? ⟨w1.heap.size, 3, none⟩ = some (.slice a m cap)) ∧ (w3.cell? ⟨w2.heap.size, 0, none⟩ = some (.int .i64 k) ∧ w3.cell? ⟨w2.heap.size, 1, none⟩ = some (.int .i64 t) ∧ w3.cell? ⟨w2.heap.size, 2, none⟩ = some (.int .i64 r) ∧ w3.cell? ⟨w2.heap.size, 3, none⟩ = some (.slice (some ⟨b0, 0, none⟩) m cap0))) := by
    obtain ⟨p1, p2, p3, p4, p5, p6, p7, p8, ⟨x0, x1, x2, x3⟩, y0, y1, y2, y3⟩ := K2.out
    have sz := b3.size
    exact ⟨p1.trans (b3.mono (by omega)), p2, by omega, p4, p5, p7.below b3 (by omega), p8.below (b3.mono (by omega)),
      ⟨(b3.cell (p := ⟨w1.heap.size, 0, none⟩) (by simp; omega)).trans x0, (b3.cell (p := ⟨w1.heap.size, 1, none⟩) (by simp; omega)).trans x1, (b3.cell (p := ⟨w1.heap.size, 2, none⟩) (by simp; omega)).trans x2, (b3.cell (p := ⟨w1.heap.size, 3, none⟩) (by simp; omega)).trans x3⟩,
      (b3.cell (p := ⟨w2.heap.size, 0, none⟩) (by simp; omega)).trans y0, (b3.cell (p := ⟨w2.heap.size, 1, none⟩) (by simp; omega)).trans y1, (b3.cell (p := ⟨w2.heap.size, 2, none⟩) (by simp; omega)).trans y2, (b3.cell (p := ⟨w2.heap.size, 3, none⟩) (by simp; omega)).trans y3⟩
  clear b3 K2
  obtain ⟨y0, y1, y2, y3⟩ := K3.out.2.2.2.2.2.2.2.2
  go_wp2_with fail
  refine (markRecord_some w3 k t r b0 m cap0 hmm K3.out.2.2.2.2.2.1 (by have := K3.out; omega)).mono ?_
  rintro e w4 ⟨rfl, bm, hm4, s4⟩
  clear y0 y1 y2 y3
  have AFTER : Hid (∀ w', Below w4.heap.size w4 w' → (w'.cell? ⟨w1.heap.size, 0, none⟩ = some (.int .i64 k) ∧ w'.cell? ⟨w1.heap.size, 1, none⟩ = some (.int .i64 t) ∧ w'.cell? ⟨w1.heap.size, 2, none⟩ = some (.int .i64 r) ∧ w'.cell? ⟨w1.heap.size, 3, none⟩ = some (.slice a m cap)) ∧ (w'.cell? ⟨w2.heap.size, 0, none⟩ = some (.int .i64 k) ∧ w'.cell? ⟨w2.heap.size, 1, none⟩ = some (.int .i64 t) ∧ w'.cell? ⟨w2.heap.size, 2, none⟩ = some (.int .i64 r) ∧ w'.cell? ⟨w2.heap.size, 3, none⟩ = some (.slice (some ⟨b0, 0, none⟩) m cap0)) ∧ Sl w' w1.heap.size a m xs ∧ SetsAt w' b0 0 (markSets m) ∧ Below w.heap.size w w' ∧ w1.heap.size < w'.heap.size ∧ w2.heap.size < w'.heap.size ∧ b0 < w'.heap.size) := fun w' h => by
    obtain ⟨p1, p2, p3, p4, p5, p6, p7, ⟨x0, x1, x2, x3⟩, y0, y1, y2, y3⟩ := K3.out
    have sz := bm.size
    have sz' := h.size
    have hb2 : w4.heap[w2.heap.size]? = w3.heap[w2.heap.size]? := hm4 _ (by omega) p3
    have e2 : w'.heap[w2.heap.size]? = w3.heap[w2.heap.size]? := (h.block _ (by omega)).trans hb2
    have bt : Below b0 w3 w' := bm.trans (h.mono (by omega))
    exact ⟨⟨(bt.cell (p := ⟨w1.heap.size, 0, none⟩) (by simp; omega)).trans x0, (bt.cell (p := ⟨w1.heap.size, 1, none⟩) (by simp; omega)).trans x1, (bt.cell (p := ⟨w1.heap.size, 2, none⟩) (by simp; omega)).trans x2, (bt.cell (p := ⟨w1.heap.size, 3, none⟩) (by simp; omega)).trans x3⟩,
      ⟨(World.cell?_of_block (a := ⟨w2.heap.size, 0, none⟩) e2).trans y0, (World.cell?_of_block (a := ⟨w2.heap.size, 1, none⟩) e2).trans y1, (World.cell?_of_block (a := ⟨w2.heap.size, 2, none⟩) e2).trans y2, (World.cell?_of_block (a := ⟨w2.heap.size, 3, none⟩) e2).trans y3⟩,
      p7.below (bt.mono (by omega)), s4.below h (by omega), p1.trans (bt.mono (by omega)), by omega, by omega, by omega⟩
  clear bm hm4 s4 K3
  obtain ⟨_, ⟨y0, y1, y2, y3⟩, _, s4, _, _, h42, h40⟩ := AFTER.out w4 (Below.refl _ _)
  have S4 : Hid (SetsAt w4 b0 0 (markSets m) ∧ b0 < w4.heap.size) := ⟨s4, h40⟩
  clear s4 h40
  go_wp2_with fail
  refine (heldRecord_some w4 k t r b0 m cap0 hmm S4.out.1 S4.out.2).mono ?_
  rintro e w5 ⟨rfl, b5⟩
  have B5 : Hid (Below w4.heap.size w4 w5) := b5
  clear b5 y0 y1 y2 y3 S4 h42
  go_wp2_with fail
  refine (implRead_any w5 bs hl).mono ?_
  intro e w6 hp
  obtain ⟨b6, b9, cap9, rfl, l0, l1, s6, _⟩ := IMPL.out _ _ _ hp
  clear hp
  have B6 : Hid (Below w4.heap.size w4 w6 ∧ b9 < w6.heap.size ∧ SetsAt w6 b9 0 xs) := ⟨B5.out.trans (b6.mono B5.out.size), l1, s6⟩
  clear b6 l0 l1 s6 B5
  obtain ⟨⟨x0, x1, x2, x3⟩, ⟨y0, y1, y2, y3⟩, _, _, _, h61, h62, _⟩ := AFTER.out w6 B6.out.1
  go_wp2_with fail
  have c6 : Below w6.heap.size w6 (w6.alloc (.cells #[.int .i64 k, .int .i64 t, .int .i64 r, .slice (some ⟨b9, 0, none⟩) m cap9] 47)) := (Below.refl _ _).alloc (Nat.le_refl _) _
  generalize (w6.alloc (.cells #[.int .i64 k, .int .i64 t, .int .i64 r, .slice (some ⟨b9, 0, none⟩) m cap9] 47)) = v6 at *
  have hA : Sl v6 v6.heap.size (some ⟨b9, 0, none⟩) m xs := ⟨HX.out, .inr ⟨b9, 0, rfl, Nat.lt_of_lt_of_le B6.out.2.1 c6.size, B6.out.2.2.below c6 B6.out.2.1⟩⟩
  have B7' : Below w4.heap.size w4 v6 := B6.out.1.trans (c6.mono B6.out.1.size)
  have hB : Sl v6 v6.heap.size a m xs := (AFTER.out v6 B7').2.2.1.mono (by have := (AFTER.out v6 B7').2.2.2.2.2.1; omega)
  refine (eqRecord_same v6 k t r _ _ m cap9 cap xs hmx hA hB).mono ?_
  clear hA hB
  rintro e w7 ⟨rfl, b7⟩
  have B7 : Hid (Below w4.heap.size w4 w7) := B7'.trans (b7.mono B7'.size)
  clear b7 c6 B7' B6 x0 x1 x2 x3 y0 y1 y2 y3 h61 h62
  obtain ⟨_, ⟨y0, y1, y2, y3⟩, _, s7, _, _, _, h70⟩ := AFTER.out w7 B7.out
  have S7 : Hid (SetsAt w7 b0 0 (markSets m) ∧ b0 < w7.heap.size) := ⟨s7, h70⟩
  clear s7 h70
  go_wp2_with fail
  refine (heldRecord_some w7 k t r b0 m cap0 hmm S7.out.1 S7.out.2).mono ?_
  rintro e w8 ⟨rfl, b8⟩
  go_wp2
  go_ret
  exact ⟨rfl, (AFTER.out w8 (B7.out.trans (b8.mono B7.out.size))).2.2.2.2.1⟩
end Go.Proofs.Ytmiiakhellgdbaa.fnExactReadRecord
