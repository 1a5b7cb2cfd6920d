/- FnRecords: a record is read from what it is shown as, and a text that is read is the one of what it says, at every code, where the library's tables lie as the program's text lays them (the card ties them to it). -/
import Derived.Test.YtlnnghlmhmnnlaaDoorRows
import Derived.Test.YtlnnghlmhmnnlaaDoorCards
import Derived.Test.YtlnnghlmhmnnlaaDoorTie
import Derived.Test.YtlnnghlmhmnnlaaDoorShowI
import Derived.Test.YtlnnghlmhmnnlaaDoorReadS
import Derived.Test.YtlnnghlmhmnnlaaDoorShown
import Derived.Test.YtlnnghlmhmnnlaaDoorLike
import Derived.Test.YtlnnghlmhmnnlaaDoorDrawRec
import Derived.Test.YtlnnghlmhmnnlaaDoorDrawB
import Derived.Test.YtlnnghlmhmnnlaaDoorBytesIn
import Derived.WalkKit
import Derived.ProofKit
import Derived.OpenShut
import Derived.WalkSpells
import Derived.LaidMore
import Derived.SevenTiedAt
import Derived.Stop.Joined
import Derived.Stop.LaidErr
import Derived.Shelf.Unicode.PredsPay
namespace Go.Proofs.YtlnnghlmhmnnlaaDoor.fnRecords
open Go.ChangeShapes Go.WideShapes Go.ChangeAt Go.RowKit
theorem own : ownKnob Tryd.prog.godebug = none := by kernel_rfl
theorem laidOut : laidOutB Tryd.prog = true := by kernel_rfl
theorem spec_yes {bs : List UInt8} {ns : List Int} {m : Nat} (hacc : Acc bs ns m) {w1 w' : World} {e : Ending} (h : SpecPost w1 bs e w') :
    Below w1.heap.size w1 w' ∧ ∃ a cap, e = .returned (.tuple #[.agg #[.int .i64 (nthI ns 0), .int .i64 (nthI ns 1), .int .i64 (nthI ns 2), .slice a m cap], .bool true]) ∧ Sl w' w'.heap.size a m (setsOf ns m) := by
  obtain ⟨hb, ⟨ns', m', a, cap, ha, he, hs⟩ | ⟨hno, _⟩⟩ := h
  · obtain ⟨rfl, rfl⟩ := acc_one hacc ha
    exact ⟨hb, a, cap, he, hs⟩
  · exact absurd hacc (hno ns m)
theorem impl_yes {bs : List UInt8} {ns : List Int} {m : Nat} (hacc : Acc bs ns m) {w1 w' : World} {e : Ending} (h : ImplRead w1 bs e w') :
    Below w1.heap.size w1 w' ∧ ∃ b cap, e = .returned (.tuple #[.agg #[.int .i64 (nthI ns 0), .int .i64 (nthI ns 1), .int .i64 (nthI ns 2), .slice (some ⟨b, 0, none⟩) m cap], .bool true]) ∧ Sl w' w'.heap.size (some ⟨b, 0, none⟩) m (setsOf ns m) := by
  obtain ⟨hb, ⟨ns', m', b, cap, ha, he, h1, h2, h3, h4⟩ | ⟨hno, _⟩⟩ := h
  · obtain ⟨rfl, rfl⟩ := acc_one hacc ha
    exact ⟨hb, b, cap, he, setsOf_len _ _, .inr ⟨b, 0, rfl, h2, h3⟩⟩
  · exact absurd hacc (hno ns m)
theorem spec_no {bs : List UInt8} (hno : ∀ ns m, ¬ Acc bs ns m) {w1 w' : World} {e : Ending} (h : SpecPost w1 bs e w') : Below w1.heap.size w1 w' ∧ e = .returned (.tuple #[.agg #[.int .i64 0, .int .i64 0, .int .i64 0, .slice none 0 0], .bool false]) := by
  obtain ⟨hb, ⟨ns', m', a, cap, ha, _⟩ | ⟨_, he⟩⟩ := h
  · exact absurd ha (hno _ _)
  · exact ⟨hb, he⟩
theorem impl_no {bs : List UInt8} (hno : ∀ ns m, ¬ Acc bs ns m) {w1 w' : World} {e : Ending} (h : ImplRead w1 bs e w') : Below w1.heap.size w1 w' ∧ e = .returned (.tuple #[.agg #[.int .i64 0, .int .i64 0, .int .i64 0, .slice none 0 0], .bool false]) := by
  obtain ⟨hb, ⟨ns', m', b, cap, ha, _⟩ | ⟨_, he⟩⟩ := h
  · exact absurd ha (hno _ _)
  · exact ⟨hb, he⟩
theorem sl_none (w : World) : Sl w w.heap.size none 0 [] := ⟨rfl, .inl rfl⟩
set_option maxHeartbeats 8000000 in
theorem walk_in (w : World) (a : Option Addr) (n k : Nat) (hb : Bytes w w.heap.size a n) (hn : n ≤ 4096) (ht : ∀ w', Below w.heap.size w w' → Tab w') :
    Calls Tryd.prog 3 #[.slice a n k] w fun e w' => e = .returned (.bool true) ∧ Below w.heap.size w w' := by
  have HT : Hid (∀ w', Below w.heap.size w w' → Tab w') := ht
  have HB : Hid (∀ w', Below w.heap.size w w' → Bytes w' w'.heap.size a n) := fun w' h => (hb.below h).mono h.size
  clear ht
  go_enter Tryd.func3, Tryd.ntmps3
  go_wp2_with (go_at_call 5; go_in)
  refine (DrawShowRecord_any w a n k hb hn).mono ?_
  clear hb
  rintro e w1 ⟨K, T, R, g, m, cap, xs, rfl, hx, hm, hg, hgl, hs, b1⟩
  go_wp2_with fail
  have fV := box4 w1 K T R (.slice (some ⟨g, 0, none⟩) m cap) 26
  have cV : Below w1.heap.size w1 (w1.alloc (.cells #[.int .i64 K, .int .i64 T, .int .i64 R, .slice (some ⟨g, 0, none⟩) m cap] 26)) := (Below.refl _ _).alloc (Nat.le_refl _) _
  have zV : (w1.alloc (.cells #[.int .i64 K, .int .i64 T, .int .i64 R, .slice (some ⟨g, 0, none⟩) m cap] 26)).heap.size = w1.heap.size + 1 := by simp
  generalize w1.alloc (.cells #[.int .i64 K, .int .i64 T, .int .i64 R, .slice (some ⟨g, 0, none⟩) m cap] 26) = V at *
  have KEEP : Hid (∀ w', Below V.heap.size V w' → w'.cell? ⟨w1.heap.size, 0, none⟩ = some (.int .i64 K) ∧ w'.cell? ⟨w1.heap.size, 1, none⟩ = some (.int .i64 T) ∧ w'.cell? ⟨w1.heap.size, 2, none⟩ = some (.int .i64 R) ∧ w'.cell? ⟨w1.heap.size, 3, none⟩ = some (.slice (some ⟨g, 0, none⟩) m cap) ∧ Sl w' w'.heap.size (some ⟨g, 0, none⟩) m xs ∧ Below w.heap.size w w' ∧ w1.heap.size < w'.heap.size) := fun w' h => by
    obtain ⟨x0, x1, x2, x3⟩ := fV w' (h.mono (by omega))
    have b01 : Below w1.heap.size w1 w' := cV.trans (h.mono cV.size)
    have sz := h.size
    exact ⟨x0, x1, x2, x3, ⟨hx, .inr ⟨g, 0, rfl, by omega, hs.below b01 hgl⟩⟩, b1.trans (b01.mono b1.size), by omega⟩
  have hmx : m ≤ maxLen := by unfold maxLen; omega
  clear fV cV zV hx hm hg hgl hs b1
  obtain ⟨x0, x1, x2, x3, sv, bv, zv⟩ := KEEP.out V (Below.refl _ _)
  have hsh := implShow_any V K T R (some ⟨g, 0, none⟩) m cap xs hmx sv (fun w' h => HT.out w' (bv.trans (h.mono bv.size)))
  cases hrec : recB K T R xs with
  | false =>
    have htx : showText K T R xs = [] := by rw [showText, hrec, if_neg (by simp)]
    rw [htx] at hsh
    refine hsh.mono ?_
    clear hsh x0 x1 x2 x3 sv bv zv
    rintro e w2 ⟨rfl, b2⟩
    obtain ⟨x0, x1, x2, x3, s2, bv2, z2⟩ := KEEP.out w2 b2
    go_wp2_with fail
    have hsp := specShow_any w2 K T R (some ⟨g, 0, none⟩) m cap xs hmx s2
    rw [htx] at hsp
    refine hsp.mono ?_
    clear hsp x0 x1 x2 x3 s2 bv2 z2
    rintro e w3 ⟨rfl, b3⟩
    have b23 : Below V.heap.size V w3 := b2.trans (b3.mono b2.size)
    obtain ⟨x0, x1, x2, x3, s3, bv3, z3⟩ := KEEP.out w3 b23
    clear b2 b3
    go_wp2_with fail
    have hok := implRecordOk_any w3 K T R (some ⟨g, 0, none⟩) m cap xs hmx s3
    rw [hrec] at hok
    refine hok.mono ?_
    clear hok x0 x1 x2 x3 s3 bv3 z3
    rintro e w4 ⟨rfl, b4⟩
    have BX : Hid (Below w.heap.size w w4) := (KEEP.out w4 (b23.trans (b4.mono b23.size))).2.2.2.2.2.1
    clear b23 b4 KEEP
    go_wp2_with fail
    refine (DrawReadRecord_any w4 a n k (HB.out w4 BX.out) hn).mono ?_
    rintro e u1 ⟨bs, rfl, hbl, bu1⟩
    have BU1 : Hid (Below w.heap.size w u1) := BX.out.trans (bu1.mono BX.out.size)
    clear bu1 BX
    have hl : bs.length ≤ 1048576 := by omega
    go_wp2_with fail
    refine (implRead_any u1 bs hl).mono ?_
    by_cases hacc : ∃ ns mm, Acc bs ns mm
    · obtain ⟨ns, mm, hacc⟩ := hacc
      have hmm : mm ≤ maxLen := by have := acc_len hacc; unfold maxLen; omega
      have HS : Hid (showText (nthI ns 0) (nthI ns 1) (nthI ns 2) (setsOf ns mm) = bs) := acc_shown hacc
      have SPEC : Hid (∀ w1 e w', SpecPost w1 bs e w' → Below w1.heap.size w1 w' ∧ ∃ a cap, e = .returned (.tuple #[.agg #[.int .i64 (nthI ns 0), .int .i64 (nthI ns 1), .int .i64 (nthI ns 2), .slice a mm cap], .bool true]) ∧ Sl w' w'.heap.size a mm (setsOf ns mm)) := fun w1 e w' h => spec_yes hacc h
      intro e u2 hp
      obtain ⟨b2, b0, cap0, rfl, s2⟩ := impl_yes hacc hp
      clear hp hacc
      generalize setsOf ns mm = ys at *
      generalize nthI ns 0 = k0 at *
      generalize nthI ns 1 = t0 at *
      generalize nthI ns 2 = r0 at *
      have S2 : Hid (Sl u2 u2.heap.size (some ⟨b0, 0, none⟩) mm ys ∧ Below u1.heap.size u1 u2) := ⟨s2, b2⟩
      clear s2 b2
      go_wp2_with fail
      have fU := box4 u2 k0 t0 r0 (.slice (some ⟨b0, 0, none⟩) mm cap0) 26
      have cU : Below u2.heap.size u2 (u2.alloc (.cells #[.int .i64 k0, .int .i64 t0, .int .i64 r0, .slice (some ⟨b0, 0, none⟩) mm cap0] 26)) := (Below.refl _ _).alloc (Nat.le_refl _) _
      have zU : (u2.alloc (.cells #[.int .i64 k0, .int .i64 t0, .int .i64 r0, .slice (some ⟨b0, 0, none⟩) mm cap0] 26)).heap.size = u2.heap.size + 1 := by simp
      generalize u2.alloc (.cells #[.int .i64 k0, .int .i64 t0, .int .i64 r0, .slice (some ⟨b0, 0, none⟩) mm cap0] 26) = U at *
      refine (specRead_any U bs hl).mono ?_
      intro e u3 hp
      obtain ⟨b3, a3, cap3, rfl, s3⟩ := SPEC.out _ _ _ hp
      clear hp SPEC
      have S3 : Hid (Sl u3 u3.heap.size a3 mm ys ∧ Below U.heap.size U u3) := ⟨s3, b3⟩
      clear s3 b3
      obtain ⟨x0, x1, x2, x3⟩ := fU u3 (S3.out.2.mono (by omega))
      have z23 : u2.heap.size < u3.heap.size := by have := S3.out.2.size; omega
      go_wp2_with fail
      have fY := box4 u3 k0 t0 r0 (.slice a3 mm cap3) 26
      have cY : Below u3.heap.size u3 (u3.alloc (.cells #[.int .i64 k0, .int .i64 t0, .int .i64 r0, .slice a3 mm cap3] 26)) := (Below.refl _ _).alloc (Nat.le_refl _) _
      have zY : (u3.alloc (.cells #[.int .i64 k0, .int .i64 t0, .int .i64 r0, .slice a3 mm cap3] 26)).heap.size = u3.heap.size + 1 := by simp
      generalize u3.alloc (.cells #[.int .i64 k0, .int .i64 t0, .int .i64 r0, .slice a3 mm cap3] 26) = Y at *
      clear x0 x1 x2 x3
      have KEEP2 : Hid (∀ w', Below Y.heap.size Y w' → w'.cell? ⟨u2.heap.size, 0, none⟩ = some (.int .i64 k0) ∧ w'.cell? ⟨u2.heap.size, 1, none⟩ = some (.int .i64 t0) ∧ w'.cell? ⟨u2.heap.size, 2, none⟩ = some (.int .i64 r0) ∧ w'.cell? ⟨u2.heap.size, 3, none⟩ = some (.slice (some ⟨b0, 0, none⟩) mm cap0) ∧ Sl w' w'.heap.size (some ⟨b0, 0, none⟩) mm ys ∧ Below w.heap.size w w' ∧ u2.heap.size < w'.heap.size) := fun w' h => by
        have bUu : Below U.heap.size U w' := S3.out.2.trans ((cY.trans (h.mono cY.size)).mono S3.out.2.size)
        have b2w : Below u2.heap.size u2 w' := cU.trans (bUu.mono cU.size)
        obtain ⟨x0, x1, x2, x3⟩ := fU w' (bUu.mono (by omega))
        have sz := bUu.size
        exact ⟨x0, x1, x2, x3, (S2.out.1.below b2w).mono b2w.size, BU1.out.trans ((S2.out.2.trans (b2w.mono S2.out.2.size)).mono BU1.out.size), by omega⟩
      obtain ⟨_, _, _, _, sx, bx, _⟩ := KEEP2.out Y (Below.refl _ _)
      have sy : Sl Y Y.heap.size a3 mm ys := (S3.out.1.below cY).mono cY.size
      clear fU fY zU zY
      refine (likeRecord_same Y k0 t0 r0 _ _ mm cap0 cap3 ys hmm sx sy).mono ?_
      clear sx sy bx cU cY S3 S2
      rintro e u4 ⟨rfl, b4⟩
      obtain ⟨x0, x1, x2, x3, s4, bw4, z4⟩ := KEEP2.out u4 b4
      have hsh := implShow_any u4 k0 t0 r0 (some ⟨b0, 0, none⟩) mm cap0 ys hmm s4 (fun w' h => HT.out w' (bw4.trans (h.mono bw4.size)))
      rw [HS.out] at hsh
      have B4 : Hid (Below w.heap.size w u4) := bw4
      clear bw4 s4 b4 KEEP2
      go_wp2_with fail
      refine hsh.mono ?_
      clear hsh
      rintro e u5 ⟨rfl, b5⟩
      have B5 : Hid (Below w.heap.size w u5) := B4.out.trans (b5.mono B4.out.size)
      clear b5 B4
      go_wp2
      go_ret
      exact ⟨by simp, B5.out⟩
    · have hno : ∀ ns mm, ¬ Acc bs ns mm := fun ns mm h => hacc ⟨ns, mm, h⟩
      have HNO : Hid (∀ ns mm, ¬ Acc bs ns mm) := hno
      clear hacc hno
      intro e u2 hp
      obtain ⟨b2, rfl⟩ := impl_no HNO.out hp
      have B2 : Hid (Below w.heap.size w u2) := BU1.out.trans (b2.mono BU1.out.size)
      clear hp b2 BU1
      go_wp2_with fail
      have fU := box4 u2 0 0 0 (.slice none 0 0) 26
      have cU : Below u2.heap.size u2 (u2.alloc (.cells #[.int .i64 0, .int .i64 0, .int .i64 0, .slice none 0 0] 26)) := (Below.refl _ _).alloc (Nat.le_refl _) _
      have zU : (u2.alloc (.cells #[.int .i64 0, .int .i64 0, .int .i64 0, .slice none 0 0] 26)).heap.size = u2.heap.size + 1 := by simp
      generalize u2.alloc (.cells #[.int .i64 0, .int .i64 0, .int .i64 0, .slice none 0 0] 26) = U at *
      refine (specRead_any U bs hl).mono ?_
      intro e u3 hp
      obtain ⟨b3, rfl⟩ := spec_no HNO.out hp
      clear hp HNO
      have S3 : Hid (Below U.heap.size U u3) := b3
      clear b3
      obtain ⟨x0, x1, x2, x3⟩ := fU u3 (S3.out.mono (by omega))
      have z23 : u2.heap.size < u3.heap.size := by have := S3.out.size; omega
      go_wp2_with fail
      have fY := box4 u3 0 0 0 (.slice none 0 0) 26
      have cY : Below u3.heap.size u3 (u3.alloc (.cells #[.int .i64 0, .int .i64 0, .int .i64 0, .slice none 0 0] 26)) := (Below.refl _ _).alloc (Nat.le_refl _) _
      have zY : (u3.alloc (.cells #[.int .i64 0, .int .i64 0, .int .i64 0, .slice none 0 0] 26)).heap.size = u3.heap.size + 1 := by simp
      generalize u3.alloc (.cells #[.int .i64 0, .int .i64 0, .int .i64 0, .slice none 0 0] 26) = Y at *
      clear x0 x1 x2 x3
      have KEEP2 : Hid (∀ w', Below Y.heap.size Y w' → w'.cell? ⟨u2.heap.size, 0, none⟩ = some (.int .i64 0) ∧ w'.cell? ⟨u2.heap.size, 1, none⟩ = some (.int .i64 0) ∧ w'.cell? ⟨u2.heap.size, 2, none⟩ = some (.int .i64 0) ∧ w'.cell? ⟨u2.heap.size, 3, none⟩ = some (.slice none 0 0) ∧ Below w.heap.size w w' ∧ u2.heap.size < w'.heap.size) := fun w' h => by
        have bUu : Below U.heap.size U w' := S3.out.trans ((cY.trans (h.mono cY.size)).mono S3.out.size)
        have b2w : Below u2.heap.size u2 w' := cU.trans (bUu.mono cU.size)
        obtain ⟨x0, x1, x2, x3⟩ := fU w' (bUu.mono (by omega))
        have sz := bUu.size
        exact ⟨x0, x1, x2, x3, B2.out.trans (b2w.mono B2.out.size), by omega⟩
      clear fU fY zU zY cU cY S3 B2
      refine (likeRecord_same Y 0 0 0 none none 0 0 0 [] (Nat.zero_le _) (sl_none Y) (sl_none Y)).mono ?_
      rintro e u4 ⟨rfl, b4⟩
      obtain ⟨x0, x1, x2, x3, bw4, z4⟩ := KEEP2.out u4 b4
      have B4 : Hid (Below w.heap.size w u4) := bw4
      clear bw4 b4 KEEP2
      go_wp2_with fail
      refine (likeRecord_same u4 0 0 0 none none 0 0 0 [] (Nat.zero_le _) (sl_none u4) (sl_none u4)).mono ?_
      rintro e u5 ⟨rfl, b5⟩
      have B5 : Hid (Below w.heap.size w u5) := B4.out.trans (b5.mono B4.out.size)
      clear b5 B4
      go_wp2
      go_ret
      exact ⟨by simp, B5.out⟩
  | true =>
    have htx : showText K T R xs = recText K T R xs := by rw [showText, if_pos hrec]
    have hxm : xs.length = m := sv.1
    have hl0 : (recText K T R xs).length ≤ 1048576 := by have := rec_short hrec; omega
    have hne := text_some K T R xs
    obtain ⟨hA, hsets, n0, n1, n2⟩ := shown_back hrec
    rw [hxm] at hA hsets
    have IMPL : Hid (∀ w1 e w', ImplRead w1 (recText K T R xs) e w' → Below w1.heap.size w1 w' ∧ ∃ b cap, e = .returned (.tuple #[.agg #[.int .i64 K, .int .i64 T, .int .i64 R, .slice (some ⟨b, 0, none⟩) m cap], .bool true]) ∧ Sl w' w'.heap.size (some ⟨b, 0, none⟩) m xs) := fun w1 e w' h => by
      have := impl_yes hA h
      rw [n0, n1, n2, hsets] at this
      exact this
    clear hA hsets n0 n1 n2 hxm
    generalize recText K T R xs = tx at *
    have hem : tx.isEmpty = false := by cases tx with | nil => exact absurd rfl hne | cons _ _ => rfl
    clear hne
    rw [htx] at hsh
    refine hsh.mono ?_
    clear hsh x0 x1 x2 x3 sv bv zv
    rintro e w2 ⟨rfl, b2⟩
    obtain ⟨x0, x1, x2, x3, s2, bv2, z2⟩ := KEEP.out w2 b2
    go_wp2_with fail
    have hsp := specShow_any w2 K T R (some ⟨g, 0, none⟩) m cap xs hmx s2
    rw [htx] at hsp
    refine hsp.mono ?_
    clear hsp x0 x1 x2 x3 s2 bv2 z2
    rintro e w3 ⟨rfl, b3⟩
    have b23 : Below V.heap.size V w3 := b2.trans (b3.mono b2.size)
    obtain ⟨x0, x1, x2, x3, s3, bv3, z3⟩ := KEEP.out w3 b23
    clear b2 b3
    go_wp2_with fail
    have hok := implRecordOk_any w3 K T R (some ⟨g, 0, none⟩) m cap xs hmx s3
    rw [hrec] at hok
    refine hok.mono ?_
    clear hok x0 x1 x2 x3 s3 bv3 z3 htx hrec
    rintro e w4 ⟨rfl, b4⟩
    have B4 : Hid (Below V.heap.size V w4) := b23.trans (b4.mono b23.size)
    clear b23 b4
    go_wp2_with fail
    refine (implRead_any w4 tx hl0).mono ?_
    intro e w5 hp
    obtain ⟨b5, b0, cap0, rfl, s5⟩ := IMPL.out _ _ _ hp
    have S5 : Hid (Sl w5 w5.heap.size (some ⟨b0, 0, none⟩) m xs ∧ Below V.heap.size V w5) := ⟨s5, B4.out.trans (b5.mono B4.out.size)⟩
    clear hp IMPL s5 b5 B4
    obtain ⟨x0, x1, x2, x3, _, _, z5⟩ := KEEP.out w5 S5.out.2
    go_wp2_with fail
    have fY := box4 w5 K T R (.slice (some ⟨b0, 0, none⟩) m cap0) 26
    have cY : Below w5.heap.size w5 (w5.alloc (.cells #[.int .i64 K, .int .i64 T, .int .i64 R, .slice (some ⟨b0, 0, none⟩) m cap0] 26)) := (Below.refl _ _).alloc (Nat.le_refl _) _
    have zY : (w5.alloc (.cells #[.int .i64 K, .int .i64 T, .int .i64 R, .slice (some ⟨b0, 0, none⟩) m cap0] 26)).heap.size = w5.heap.size + 1 := by simp
    generalize w5.alloc (.cells #[.int .i64 K, .int .i64 T, .int .i64 R, .slice (some ⟨b0, 0, none⟩) m cap0] 26) = Y at *
    have bVY : Below V.heap.size V Y := S5.out.2.trans (cY.mono S5.out.2.size)
    obtain ⟨_, _, _, _, sr, _, _⟩ := KEEP.out Y bVY
    have sx : Sl Y Y.heap.size (some ⟨b0, 0, none⟩) m xs := (S5.out.1.below cY).mono cY.size
    refine (likeRecord_same Y K T R _ _ m cap0 cap xs hmx sx sr).mono ?_
    clear sx sr fY zY cY x0 x1 x2 x3 z5 S5
    rintro e w6 ⟨rfl, b6⟩
    have BX : Hid (Below w.heap.size w w6) := (KEEP.out w6 (bVY.trans (b6.mono bVY.size))).2.2.2.2.2.1
    clear bVY b6 KEEP
    go_wp2_with fail
    refine (DrawReadRecord_any w6 a n k (HB.out w6 BX.out) hn).mono ?_
    rintro e u1 ⟨bs, rfl, hbl, bu1⟩
    have BU1 : Hid (Below w.heap.size w u1) := BX.out.trans (bu1.mono BX.out.size)
    clear bu1 BX
    have hl : bs.length ≤ 1048576 := by omega
    go_wp2_with fail
    refine (implRead_any u1 bs hl).mono ?_
    by_cases hacc : ∃ ns mm, Acc bs ns mm
    · obtain ⟨ns, mm, hacc⟩ := hacc
      have hmm : mm ≤ maxLen := by have := acc_len hacc; unfold maxLen; omega
      have HS : Hid (showText (nthI ns 0) (nthI ns 1) (nthI ns 2) (setsOf ns mm) = bs) := acc_shown hacc
      have SPEC : Hid (∀ w1 e w', SpecPost w1 bs e w' → Below w1.heap.size w1 w' ∧ ∃ a cap, e = .returned (.tuple #[.agg #[.int .i64 (nthI ns 0), .int .i64 (nthI ns 1), .int .i64 (nthI ns 2), .slice a mm cap], .bool true]) ∧ Sl w' w'.heap.size a mm (setsOf ns mm)) := fun w1 e w' h => spec_yes hacc h
      intro e u2 hp
      obtain ⟨b2, b0, cap0, rfl, s2⟩ := impl_yes hacc hp
      clear hp hacc
      generalize setsOf ns mm = ys at *
      generalize nthI ns 0 = k0 at *
      generalize nthI ns 1 = t0 at *
      generalize nthI ns 2 = r0 at *
      have S2 : Hid (Sl u2 u2.heap.size (some ⟨b0, 0, none⟩) mm ys ∧ Below u1.heap.size u1 u2) := ⟨s2, b2⟩
      clear s2 b2
      go_wp2_with fail
      have fU := box4 u2 k0 t0 r0 (.slice (some ⟨b0, 0, none⟩) mm cap0) 26
      have cU : Below u2.heap.size u2 (u2.alloc (.cells #[.int .i64 k0, .int .i64 t0, .int .i64 r0, .slice (some ⟨b0, 0, none⟩) mm cap0] 26)) := (Below.refl _ _).alloc (Nat.le_refl _) _
      have zU : (u2.alloc (.cells #[.int .i64 k0, .int .i64 t0, .int .i64 r0, .slice (some ⟨b0, 0, none⟩) mm cap0] 26)).heap.size = u2.heap.size + 1 := by simp
      generalize u2.alloc (.cells #[.int .i64 k0, .int .i64 t0, .int .i64 r0, .slice (some ⟨b0, 0, none⟩) mm cap0] 26) = U at *
      refine (specRead_any U bs hl).mono ?_
      intro e u3 hp
      obtain ⟨b3, a3, cap3, rfl, s3⟩ := SPEC.out _ _ _ hp
      clear hp SPEC
      have S3 : Hid (Sl u3 u3.heap.size a3 mm ys ∧ Below U.heap.size U u3) := ⟨s3, b3⟩
      clear s3 b3
      obtain ⟨x0, x1, x2, x3⟩ := fU u3 (S3.out.2.mono (by omega))
      have z23 : u2.heap.size < u3.heap.size := by have := S3.out.2.size; omega
      go_wp2_with fail
      have fY := box4 u3 k0 t0 r0 (.slice a3 mm cap3) 26
      have cY : Below u3.heap.size u3 (u3.alloc (.cells #[.int .i64 k0, .int .i64 t0, .int .i64 r0, .slice a3 mm cap3] 26)) := (Below.refl _ _).alloc (Nat.le_refl _) _
      have zY : (u3.alloc (.cells #[.int .i64 k0, .int .i64 t0, .int .i64 r0, .slice a3 mm cap3] 26)).heap.size = u3.heap.size + 1 := by simp
      generalize u3.alloc (.cells #[.int .i64 k0, .int .i64 t0, .int .i64 r0, .slice a3 mm cap3] 26) = Y at *
      clear x0 x1 x2 x3
      have KEEP2 : Hid (∀ w', Below Y.heap.size Y w' → w'.cell? ⟨u2.heap.size, 0, none⟩ = some (.int .i64 k0) ∧ w'.cell? ⟨u2.heap.size, 1, none⟩ = some (.int .i64 t0) ∧ w'.cell? ⟨u2.heap.size, 2, none⟩ = some (.int .i64 r0) ∧ w'.cell? ⟨u2.heap.size, 3, none⟩ = some (.slice (some ⟨b0, 0, none⟩) mm cap0) ∧ Sl w' w'.heap.size (some ⟨b0, 0, none⟩) mm ys ∧ Below w.heap.size w w' ∧ u2.heap.size < w'.heap.size) := fun w' h => by
        have bUu : Below U.heap.size U w' := S3.out.2.trans ((cY.trans (h.mono cY.size)).mono S3.out.2.size)
        have b2w : Below u2.heap.size u2 w' := cU.trans (bUu.mono cU.size)
        obtain ⟨x0, x1, x2, x3⟩ := fU w' (bUu.mono (by omega))
        have sz := bUu.size
        exact ⟨x0, x1, x2, x3, (S2.out.1.below b2w).mono b2w.size, BU1.out.trans ((S2.out.2.trans (b2w.mono S2.out.2.size)).mono BU1.out.size), by omega⟩
      obtain ⟨_, _, _, _, sx, bx, _⟩ := KEEP2.out Y (Below.refl _ _)
      have sy : Sl Y Y.heap.size a3 mm ys := (S3.out.1.below cY).mono cY.size
      clear fU fY zU zY
      refine (likeRecord_same Y k0 t0 r0 _ _ mm cap0 cap3 ys hmm sx sy).mono ?_
      clear sx sy bx cU cY S3 S2
      rintro e u4 ⟨rfl, b4⟩
      obtain ⟨x0, x1, x2, x3, s4, bw4, z4⟩ := KEEP2.out u4 b4
      have hsh := implShow_any u4 k0 t0 r0 (some ⟨b0, 0, none⟩) mm cap0 ys hmm s4 (fun w' h => HT.out w' (bw4.trans (h.mono bw4.size)))
      rw [HS.out] at hsh
      have B4 : Hid (Below w.heap.size w u4) := bw4
      clear bw4 s4 b4 KEEP2
      go_wp2_with fail
      refine hsh.mono ?_
      clear hsh
      rintro e u5 ⟨rfl, b5⟩
      have B5 : Hid (Below w.heap.size w u5) := B4.out.trans (b5.mono B4.out.size)
      clear b5 B4
      go_wp2
      go_ret
      exact ⟨by simp, B5.out⟩
    · have hno : ∀ ns mm, ¬ Acc bs ns mm := fun ns mm h => hacc ⟨ns, mm, h⟩
      have HNO : Hid (∀ ns mm, ¬ Acc bs ns mm) := hno
      clear hacc hno
      intro e u2 hp
      obtain ⟨b2, rfl⟩ := impl_no HNO.out hp
      have B2 : Hid (Below w.heap.size w u2) := BU1.out.trans (b2.mono BU1.out.size)
      clear hp b2 BU1
      go_wp2_with fail
      have fU := box4 u2 0 0 0 (.slice none 0 0) 26
      have cU : Below u2.heap.size u2 (u2.alloc (.cells #[.int .i64 0, .int .i64 0, .int .i64 0, .slice none 0 0] 26)) := (Below.refl _ _).alloc (Nat.le_refl _) _
      have zU : (u2.alloc (.cells #[.int .i64 0, .int .i64 0, .int .i64 0, .slice none 0 0] 26)).heap.size = u2.heap.size + 1 := by simp
      generalize u2.alloc (.cells #[.int .i64 0, .int .i64 0, .int .i64 0, .slice none 0 0] 26) = U at *
      refine (specRead_any U bs hl).mono ?_
      intro e u3 hp
      obtain ⟨b3, rfl⟩ := spec_no HNO.out hp
      clear hp HNO
      have S3 : Hid (Below U.heap.size U u3) := b3
      clear b3
      obtain ⟨x0, x1, x2, x3⟩ := fU u3 (S3.out.mono (by omega))
      have z23 : u2.heap.size < u3.heap.size := by have := S3.out.size; omega
      go_wp2_with fail
      have fY := box4 u3 0 0 0 (.slice none 0 0) 26
      have cY : Below u3.heap.size u3 (u3.alloc (.cells #[.int .i64 0, .int .i64 0, .int .i64 0, .slice none 0 0] 26)) := (Below.refl _ _).alloc (Nat.le_refl _) _
      have zY : (u3.alloc (.cells #[.int .i64 0, .int .i64 0, .int .i64 0, .slice none 0 0] 26)).heap.size = u3.heap.size + 1 := by simp
      generalize u3.alloc (.cells #[.int .i64 0, .int .i64 0, .int .i64 0, .slice none 0 0] 26) = Y at *
      clear x0 x1 x2 x3
      have KEEP2 : Hid (∀ w', Below Y.heap.size Y w' → w'.cell? ⟨u2.heap.size, 0, none⟩ = some (.int .i64 0) ∧ w'.cell? ⟨u2.heap.size, 1, none⟩ = some (.int .i64 0) ∧ w'.cell? ⟨u2.heap.size, 2, none⟩ = some (.int .i64 0) ∧ w'.cell? ⟨u2.heap.size, 3, none⟩ = some (.slice none 0 0) ∧ Below w.heap.size w w' ∧ u2.heap.size < w'.heap.size) := fun w' h => by
        have bUu : Below U.heap.size U w' := S3.out.trans ((cY.trans (h.mono cY.size)).mono S3.out.size)
        have b2w : Below u2.heap.size u2 w' := cU.trans (bUu.mono cU.size)
        obtain ⟨x0, x1, x2, x3⟩ := fU w' (bUu.mono (by omega))
        have sz := bUu.size
        exact ⟨x0, x1, x2, x3, B2.out.trans (b2w.mono B2.out.size), by omega⟩
      clear fU fY zU zY cU cY S3 B2
      refine (likeRecord_same Y 0 0 0 none none 0 0 0 [] (Nat.zero_le _) (sl_none Y) (sl_none Y)).mono ?_
      rintro e u4 ⟨rfl, b4⟩
      obtain ⟨x0, x1, x2, x3, bw4, z4⟩ := KEEP2.out u4 b4
      have B4 : Hid (Below w.heap.size w u4) := bw4
      clear bw4 b4 KEEP2
      go_wp2_with fail
      refine (likeRecord_same u4 0 0 0 none none 0 0 0 [] (Nat.zero_le _) (sl_none u4) (sl_none u4)).mono ?_
      rintro e u5 ⟨rfl, b5⟩
      have B5 : Hid (Below w.heap.size w u5) := B4.out.trans (b5.mono B4.out.size)
      clear b5 B4
      go_wp2
      go_ret
      exact ⟨by simp, B5.out⟩
theorem walk (w : World) (a : Option Addr) (n k : Nat) (hb : Bytes w w.heap.size a n) (ht : ∀ w', Below w.heap.size w w' → Tab w') :
    Calls Tryd.prog 3 #[.slice a n k] w fun e w' => e = .returned (.bool true) ∧ Below w.heap.size w w' := by
  by_cases hn : n ≤ 4096
  · exact walk_in w a n k hb hn ht
  · have hmm := hb.1
    unfold maxLen at hmm
    have hbig : (4096 : Int) < (n : Int) := by omega
    go_enter Tryd.func3, Tryd.ntmps3
    go_wp2_with (go_at_call 5; go_in)
    go_ret
    exact ⟨rfl, Below.refl _ _⟩
theorem tab_name : ∃ g t, Tryd.prog.globalNamed "internal/strconv.uint64pow10" = some g ∧ (Tryd.prog.globals[g]?).map (·.type) = some t ∧ Tryd.prog.underlying t = some (.array 20 95) ∧ Tryd.prog.cellsOf t = 20 :=
  ⟨0, 104, by kernel_rfl, by kernel_rfl, by kernel_rfl, by kernel_rfl⟩
theorem tab_of_laid {W : World} (h : laidMetH Tryd.prog Rows.fnRecordsRow.laid W) : ∀ w', Below W.heap.size W w' → Tab w' := by
  rw [MakeChecks.laidMetH_plain _ _ _ (by kernel_rfl)] at h
  obtain ⟨g, t, h1, h2, h3, h4⟩ := tab_name
  have hT : Tab W := Lib.tabIs_of_head (k := .u64) (zs := Lib.pow10Tab) h1 h2 h3 Tryd.underlying95 (by kernel_rfl) h4 (laidMet.tail (laidMet.tail h))
  exact fun w' hb => TabIs_below h1 hT hb
theorem door_met (os : Os) (args : Array Value) : laidMetH Tryd.prog Rows.fnRecordsRow.laid ((World.doorLaid Tryd.prog 400 os).forCall (fun _ _ => 0) ⟨#[], args, []⟩).memory :=
  laidMetH_of_parts3 (fuel := 8) (laidMet_of_run' 8 (by kernel_rfl) (by kernel_rfl)) (by kernel_rfl) (by kernel_rfl)
set_option maxRecDepth 100000 in
theorem lifted (os : Os) (started : os.Started) (H : Type) (enc : TypeId × Value → H) :
    ReturnsInHanded {} Tryd.checked os 3 .any (fun w args => (Rows.fnRecordsSpec.pre enc Tryd.prog Tryd.f3 [] false w args ∧ laidMetH Tryd.prog Rows.fnRecordsRow.laid w) ∧ sizedMet enc Tryd.prog Tryd.f3 (OpenSpec.ofChange Rows.fnRecordsSpec) false w args)
      (Rows.fnRecordsSpec.post enc Tryd.prog Tryd.f3 false true false false) := by
  refine returnsInHanded_of_change_and (C := Tryd.checked) (X := fun w _ => laidMetH Tryd.prog Rows.fnRecordsRow.laid w) (fun _ _ _ hh h => h.of_heap hh) own started (by kernel_rfl) Tryd.func3
    (ChangeSpec.witness_shaped (enc := enc) (C := Tryd.checked) (os := os) (X := fun w _ => laidMetH Tryd.prog Rows.fnRecordsRow.laid w) false (World.doorLaid Tryd.prog 400 os) #[.slice none 0 0] 8 rfl (World.shaped_of_RefB (by kernel_rfl) (by kernel_rfl)) (by kernel_rfl) (by kernel_rfl) (by kernel_rfl) (door_met os _)) ?_
  intro W base args ds gs before hval0 hW _ _ hL _
  have hval : ∀ (j : Nat) t v, Tryd.f3.params[j]? = some t → args[j]? = some v → Value.okWide Tryd.prog W .any base t v := hval0
  have hW' := hW
  obtain ⟨p, q, hA0, hV, rfl, hfz, hnd⟩ := hW
  have hA : DataW.TrodAll enc Tryd.prog W 0 (fun _ => true) true Tryd.f3.params.toList args.toList ds p := hA0
  rw [Tryd.params3] at hA hval
  obtain ⟨v0, vs0, d0, ds0, p0, q0, hargs, rfl, rfl, h0, r0⟩ := trodAll_cons hA
  obtain ⟨rfl, rfl, rfl⟩ := trodAll_nil r0
  obtain rfl : args = #[v0] := by cases args; simp_all
  obtain ⟨rfl, rfl⟩ := trodVars_none hV
  obtain ⟨a0, len0, cap0, rfl⟩ := okWide_slice Tryd.underlying22 (hval 0 22 v0 rfl rfl)
  have k0 := h0
  have lt0 : ∀ x ∈ p0, x.block < W.heap.size := by obtain ⟨m, hm⟩ := k0; exact DataW.trod_lt m _ _ _ hm
  obtain ⟨z0, w0⟩ : ∃ zs, IsRow .u8 W a0 len0 cap0 zs := by
    obtain ⟨fuel, hf⟩ := h0
    rcases open_ints Tryd.underlying22 Tryd.underlying5 (by kernel_rfl) hf with ⟨hcs, _⟩ | ⟨x, l, c, zs, hcs, _, hl, hm, hz, _, hcell, hwz⟩
    · simp [Value.cells] at hcs
      obtain ⟨rfl, rfl, rfl⟩ := hcs
      exact ⟨[], .inl ⟨rfl, rfl, rfl, rfl⟩⟩
    · simp [Value.cells] at hcs
      obtain ⟨rfl, rfl, rfl⟩ := hcs
      exact ⟨zs, .inr ⟨_, rfl, hl, hm, by simpa using hz, hcell, hwz⟩⟩
  clear hA0 hval0
  refine (walk W a0 len0 cap0 w0.bytes (tab_of_laid hL)).mono fun e W' ⟨he, bel⟩ => ?_
  subst he
  exact ⟨_, rfl, _, _, _, [], _, [], hW', trodAll_mk1 (shut_bool Tryd.underlying4 _), (trodAll_cons_mk (Below.trod laidOut (by kernel_rfl) (of_decide_eq_true (by kernel_rfl)) k0 bel lt0) trodAll_mk0), rfl, bel.frame _, fun h => by cases h⟩

theorem over : Rows.fnRecordsRow.holds Tryd.pinned (OpenSpec.ofChange Rows.fnRecordsSpec) :=
  OpenClaim.holds_of_wide 3 Tryd.f3 rfl rfl rfl rfl rfl rfl rfl ⟨rfl, rfl, rfl, rfl, rfl⟩ rfl rfl rfl rfl rfl (by kernel_rfl) Tryd.func3 (by kernel_rfl)
    (of_decide_eq_true (by kernel_rfl)) (by unfold Func.isWrapper; first | (rw [if_pos (by decide +kernel)]; kernel_rfl) | (rw [if_neg (by decide +kernel)]; exact ⟨rfl, rfl⟩))
    (fun os started H enc _ => lifted os started H enc)

theorem card : Rows.FnRecordsCardSaid :=
  Claim7.holds_tied_plain_at .later [] [.data, .data, .data] true Rows.fnRecordsCard.stood.harness false
    over (fun _ h => by cases h) (by kernel_rfl) (fun _ h => by cases h) fnRecords_row_tie rfl ⟨rfl, rfl⟩ (by kernel_rfl) rfl
    (fun f fn hf hfn => by
      obtain rfl : f = 3 := Option.some.inj ((show Tryd.prog.funcNamed Rows.fnRecordsRow.func = some 3 by kernel_rfl).symm.trans hf) |>.symm
      obtain rfl : fn = Tryd.f3 := (Option.some.inj (Tryd.func3.symm.trans hfn)).symm
      exact ⟨by kernel_rfl, fun j t ht => by
        rw [Tryd.params3] at ht
        have hm : t ∈ [22] := by simpa using Array.mem_of_getElem? ht
        have hall : ([22].all fun u => !Tryd.prog.wantsStandIn u) = true := by kernel_rfl
        exact (show Tryd.prog.wantsStandIn t = false by simpa using List.all_eq_true.1 hall t hm)⟩)
    (by kernel_rfl)
end Go.Proofs.YtlnnghlmhmnnlaaDoor.fnRecords
namespace Go.Proofs.YtlnnghlmhmnnlaaDoor
theorem fnRecords_holds : Rows.FnRecordsCardSaid := fnRecords.card
#print axioms fnRecords_holds
end Go.Proofs.YtlnnghlmhmnnlaaDoor
