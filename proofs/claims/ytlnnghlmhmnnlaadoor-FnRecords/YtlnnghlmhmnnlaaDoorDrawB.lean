/- What the specification's draw of a text (DrawReadRecord) does: some text that is not long, in memory of its own. -/
import Derived.Test.YtlnnghlmhmnnlaaDoorRows
import Derived.Test.YtlnnghlmhmnnlaaDoorDrawR
import Derived.Test.YtlnnghlmhmnnlaaDoorShows
import Derived.Test.YtlnnghlmhmnnlaaDoorBB
import Derived.WalkKit
import Derived.WalkSpells
import Derived.WalkLawsBesides
import Derived.Below
import Derived.Deep.RegionHeldLaw
namespace Go.Proofs.YtlnnghlmhmnnlaaDoor
open Go.RowKit
theorem Cur.later {w w' : World} {c : Nat} {a : Option Addr} {n k : Nat} (h : Cur w c a n k) (hb : Below w.heap.size w w') : Cur w' c a n k :=
  h.turned (c' := w.heap.size) ((Turned.refl _ _).of_below hb) (by have := h.lt; omega)
/-- What is known while a text is turned: the cursor c, the text's bytes in block g. -/
structure BI (v w : World) (c : Nat) (a : Option Addr) (n k g m cap : Nat) : Prop where
  bel : Below v.heap.size v w
  cur : Cur w c a n k
  bytes : Bytes w v.heap.size a n
  bb : BB w g m
  lt : g < w.heap.size
  fg : v.heap.size ≤ g
  fc : v.heap.size ≤ c
  ne : g ≠ c
  mc : m ≤ cap
  cm : cap ≤ maxLen
theorem BI.step {v w w' : World} {c : Nat} {a : Option Addr} {n k g m cap : Nat} (h : BI v w c a n k g m cap) (hc : Cur w' c a n k) (ht : Turned c w w') : BI v w' c a n k g m cap := by
  have hb := ht.below h.fc h.bel.size
  exact ⟨h.bel.trans hb, hc, h.bytes.below hb, h.bb.of_block (ht.block g h.lt h.ne), Nat.lt_of_lt_of_le h.lt ht.size, h.fg, h.fc, h.ne, h.mc, h.cm⟩
theorem BI.alloc {v w : World} {c : Nat} {a : Option Addr} {n k g m cap : Nat} (h : BI v w c a n k g m cap) (o : Obj) : BI v (w.alloc o) c a n k g m cap := h.step (h.cur.alloc o) ((Turned.refl c w).alloc o)
theorem BI.cut {v w : World} {c : Nat} {a : Option Addr} {n k g m cap : Nat} (h : BI v w c a n k g m cap) (m' : Nat) (hm : m' ≤ m) : BI v w c a n k g m' cap :=
  ⟨h.bel, h.cur, h.bytes, h.bb.le hm, h.lt, h.fg, h.fc, h.ne, Nat.le_trans hm h.mc, h.cm⟩
theorem BI.put {v w : World} {c : Nat} {a : Option Addr} {n k g m cap : Nat} (h : BI v w c a n k g m cap) (o : Nat) (x : Int) (h0 : 0 ≤ x) (h1 : x ≤ 255) : BI v (w.setCell ⟨g, o, none⟩ (.int .u8 x)) c a n k g m cap := by
  have hb : Below v.heap.size w (w.setCell ⟨g, o, none⟩ (.int .u8 x)) := (Below.refl _ _).setCell (p := ⟨g, o, none⟩) h.fg _
  exact ⟨h.bel.trans hb, h.cur.put h.ne _ _, h.bytes.below hb, h.bb.set o x h0 h1, by simpa [World.setCell] using h.lt, h.fg, h.fc, h.ne, h.mc, h.cm⟩
theorem BI.moved {v w w' : World} {c : Nat} {a : Option Addr} {n k g m cap g' m' cap' : Nat} (h : BI v w c a n k g m cap) (hb : Below w.heap.size w w') (ho : OB w' w.heap.size g' m' cap') : BI v w' c a n k g' m' cap' := by
  obtain ⟨h1, h2, h3, h4, h5⟩ := ho.out
  have hb' := hb.mono h.bel.size
  have hc := h.cur.lt
  have hs := h.bel.size
  exact ⟨h.bel.trans hb', h.cur.later hb, h.bytes.below hb', h1, h5, by omega, h.fc, by omega, h2, h3⟩
theorem OB.lower {w : World} {base base' g m cap : Nat} (h : OB w base g m cap) (hb : base' ≤ base) : OB w base' g m cap := by
  obtain ⟨xs, h1, h2⟩ := h
  exact ⟨xs, h1, h2.1, h2.2.imp id (fun ⟨g', cap', cur, e, l, r⟩ => ⟨g', cap', cur, e, Nat.le_trans hb l, r⟩)⟩
/-- The first append of an insertion: the bytes ahead of place i onto an empty row d. -/
theorem ins_first {v w W : World} {c : Nat} {a : Option Addr} {n k g m cap i d : Nat} (h : BI v w c a n k g m cap) (hm : m ≤ 1002) (hi : i ≤ m) (b1 : Below w.heap.size w W) (ob0 : OB W w.heap.size d 0 0) :
    ∃ g1 cap1 W2, (Builtin.append_ #[22, 22] 22 #[.slice (some ⟨d, 0, none⟩) 0 0, .slice (some ⟨g, 0, none⟩) i cap]).run Tryd.prog W = .ok (.slice (some ⟨g1, 0, none⟩) i cap1) W2 ∧ OB W2 w.heap.size g1 i cap1 ∧ Below w.heap.size w W2 ∧ W.grownBy W2 (some d) := by
  have bb1 : BB W g m := h.bb.of_block (b1.block g h.lt)
  obtain ⟨g1, cap1, W2, hr1, ob1, gr1⟩ := ob_append W w.heap.size d 0 0 g 0 i cap 22 ob0 (bb1.at 0 i (by omega)) (by omega) b1.size
  simp only [Nat.zero_add] at hr1 ob1
  exact ⟨g1, cap1, W2, hr1, ob1, b1.grown gr1 b1.size (fun k h => by cases h; exact ob0.out.2.2.2.1), gr1⟩
/-- The second and the third: one byte of block e, then the bytes from place i on. -/
theorem ins_rest {v w W : World} {c : Nat} {a : Option Addr} {n k g m cap i g1 cap1 e : Nat} {x : Int} (h : BI v w c a n k g m cap) (hm : m ≤ 1002) (hi : i ≤ m) (b2 : Below w.heap.size w W) (ob1 : OB W w.heap.size g1 i cap1) (hx : W.cell? ⟨e, 0, none⟩ = some (.int .u8 x)) (h0 : 0 ≤ x) (h1 : x ≤ 255) :
    ∃ g2 cap2 W3 g3 cap3 W4, (Builtin.append_ #[22, 22] 22 #[.slice (some ⟨g1, 0, none⟩) i cap1, .slice (some ⟨e, 0, none⟩) 1 1]).run Tryd.prog W = .ok (.slice (some ⟨g2, 0, none⟩) (i + 1) cap2) W3
      ∧ (Builtin.append_ #[22, 22] 22 #[.slice (some ⟨g2, 0, none⟩) (i + 1) cap2, .slice (some ⟨g, i, none⟩) (m - i) (cap - i)]).run Tryd.prog W3 = .ok (.slice (some ⟨g3, 0, none⟩) (i + 1 + (m - i)) cap3) W4
      ∧ BI v W4 c a n k g3 (i + 1 + (m - i)) cap3 := by
  obtain ⟨g2, cap2, W3, hr2, ob2, gr2⟩ := ob_append W w.heap.size g1 i cap1 e 0 1 1 22 ob1 (fun j hj => by
    obtain rfl : j = 0 := by omega
    exact ⟨x, hx, h0, h1⟩) (by omega) b2.size
  have b3 : Below w.heap.size w W3 := b2.grown gr2 b2.size (fun k h => by cases h; exact ob1.out.2.2.2.1)
  have bb3 : BB W3 g m := h.bb.of_block (b3.block g h.lt)
  obtain ⟨g3, cap3, W4, hr3, ob3, gr3⟩ := ob_append W3 w.heap.size g2 (i + 1) cap2 g i (m - i) (cap - i) 22 ob2 (bb3.at i (m - i) (by omega)) (by omega) b3.size
  have b4 : Below w.heap.size w W4 := b3.grown gr3 b3.size (fun k h => by cases h; exact ob2.out.2.2.2.1)
  exact ⟨g2, cap2, W3, g3, cap3, W4, hr2, hr3, h.moved b4 ob3⟩
set_option maxRecDepth 100000 in
set_option maxHeartbeats 8000000 in
theorem DrawReadRecord_any (w : World) (a : Option Addr) (n k : Nat) (hb : Bytes w w.heap.size a n) (hn : n ≤ 4096) :
    Calls Tryd.prog 12 #[.slice a n k] w fun e w' => ∃ bs : List UInt8, e = .returned (.string ⟨bs.toArray⟩) ∧ bs.length ≤ 100000 ∧ Below w.heap.size w w' := by
  go_enter Tryd.func12, Tryd.ntmps12
  go_wp2_with fail
  refine (l1New_any w a n k hb hn).mono ?_
  rintro e w1 ⟨c, rfl, hc, hcur1, b1⟩
  go_wp2_with fail
  refine (l2Draw_any w1 w.heap.size c a n k hcur1 (hb.below b1) hc).mono ?_
  rintro e w2 ⟨K, T, R, g0, m0, cap0, xs, rfl, hK, hT, hR, hx, hm0, hf, _, _, hgl, hs, hcur2, t2⟩
  go_wp2_with fail
  have hf' : ∀ s ∈ xs, s.fits := fun s h => ⟨(hf s h).2.1, (hf s h).2.2.1, (hf s h).2.2.2⟩
  refine (l2Show_some w2 K T R g0 0 cap0 m0 xs hx (by omega) hs hgl hK hT hR hf').mono ?_
  rintro e w3 ⟨rfl, b3⟩
  have hlen : (recText K T R xs).length ≤ 1000 := by
    have h1 := sets_len hf'
    have h2 := itoa_len hK
    have h3 := itoa_len hT
    have h4 := itoa_len hR
    have h5 := itoa_len (n := (xs.length : Int)) (by unfold i64; omega)
    simp only [recText, headText, List.length_append, List.length_cons, List.length_nil]
    omega
  generalize recText K T R xs = tx at *
  have b02 : Below w.heap.size w w2 := b1.trans (t2.below hc b1.size)
  have b03 : Below w.heap.size w w3 := b02.trans (b3.mono b02.size)
  have hcv := run_bytes_of_string (P := Tryd.prog) w3 9 22 5 ⟨tx.toArray⟩ Tryd.underlying9 Tryd.underlying22 Tryd.underlying5
  have hsz : (ByteArray.mk tx.toArray).size = tx.length := by simp [ByteArray.size]
  rw [hsz] at hcv
  have bn := bb_new w3.drew tx (grownCap w3 tx.length 0 5) 5
  have b34 : Below w3.heap.size w3 (w3.drew.alloc (.cells (bytesRow ⟨tx.toArray⟩ (grownCap w3 tx.length 0 5)) 5 ((bytesRow ⟨tx.toArray⟩ (grownCap w3 tx.length 0 5)).size, (bytesRow ⟨tx.toArray⟩ (grownCap w3 tx.length 0 5)).size + 1))) := ((Below.refl _ _).drew).alloc (Nat.le_refl _) _
  have K4 : Hid (BI w (w3.drew.alloc (.cells (bytesRow ⟨tx.toArray⟩ (grownCap w3 tx.length 0 5)) 5 ((bytesRow ⟨tx.toArray⟩ (grownCap w3 tx.length 0 5)).size, (bytesRow ⟨tx.toArray⟩ (grownCap w3 tx.length 0 5)).size + 1))) c a n k w3.heap.size tx.length (grownCap w3 tx.length 0 5)) := by
    have hl := (hcur2.later b3).lt
    have b04 := b03.trans (b34.mono b03.size)
    exact ⟨b04, (hcur2.later b3).later b34, hb.below b04, bn, by simp, b03.size, hc, by omega, grownCap_ge _ _ _ _, grownCap_le_maxLen _ _ _ _ (by unfold maxLen; omega)⟩
  clear hb b1 hcur1 hK hT hR hx hm0 hf hf' hgl hs hcur2 t2 b3 b02 b03 b34 bn hsz
  generalize (w3.drew.alloc (.cells (bytesRow ⟨tx.toArray⟩ (grownCap w3 tx.length 0 5)) 5 ((bytesRow ⟨tx.toArray⟩ (grownCap w3 tx.length 0 5)).size, (bytesRow ⟨tx.toArray⟩ (grownCap w3 tx.length 0 5)).size + 1))) = w4 at *
  generalize grownCap w3 tx.length 0 5 = cap4 at *
  go_wp2_with fail
  refine (l1Below_any w4 w.heap.size c a n k _ K4.out.cur K4.out.bytes K4.out.fc (by omega)).mono ?_
  rintro e w5 ⟨y, rfl, hy0, hy1, c5, t5⟩
  have K5 := (show Hid _ from K4.out.step c5 t5)
  obtain ⟨q0, rfl⟩ := Int.eq_ofNat_of_zero_le hy0
  clear c5 t5 K4 hcv hy0
  generalize w3.heap.size = g5 at *
  go_wp2
  go_loopw [4, 5] (fun v4 v5 wr => ∃ (g m cap q : Nat), v4 = .slice (some ⟨g, 0, none⟩) m cap ∧ v5 = .int .i64 q ∧ q ≤ 2 ∧ m + q ≤ 1002 ∧ BI w wr c a n k g m cap) (fun _ v5 _ => (intOf v5).toNat)
  case atStart => exact ⟨g5, tx.length, cap4, q0, rfl, rfl, by omega, by omega, K5.out⟩
  case round =>
    obtain ⟨g, m, cap, q, rfl, rfl, hq2, hmq, hbi⟩ := hrel
    have KB : Hid (BI w wr c a n k g m cap) := hbi
    clear hbi K5
    rcases Nat.eq_zero_or_pos q with rfl | hqp
    · obtain ⟨bs, hbl, hcv⟩ := bb_string (cap := cap) KB.out.bb
      go_wp2
      go_ret
      exact ⟨bs, rfl, by omega, KB.out.bel⟩
    · rcases Nat.eq_zero_or_pos m with rfl | hmp
      · obtain ⟨bs, hbl, hcv⟩ := bb_string (cap := cap) KB.out.bb
        go_wp2
        go_ret
        exact ⟨bs, rfl, by omega, KB.out.bel⟩
      · obtain ⟨q, rfl⟩ : ∃ p, q = p + 1 := ⟨q - 1, by omega⟩
        have hmi : (0 : Int) < (m : Int) := by omega
        have hqi : (0 : Int) < (q : Int) + 1 := by omega
        go_wp2_with fail
        refine (l1Below_any wr w.heap.size c a n k _ KB.out.cur KB.out.bytes KB.out.fc (by omega)).mono ?_
        rintro e w6 ⟨y, rfl, hy0, hy1, c6, t6⟩
        have K6 := (show Hid _ from KB.out.step c6 t6)
        obtain ⟨i, rfl⟩ := Int.eq_ofNat_of_zero_le hy0
        clear c6 t6 KB hy0
        have him : i < m := by omega
        go_wp2_with fail
        refine (l1Below_any w6 w.heap.size c a n k _ K6.out.cur K6.out.bytes K6.out.fc (by omega)).mono ?_
        rintro e w7 ⟨y, rfl, hy0, hy2, c7, t7⟩
        have K7 := (show Hid _ from K6.out.step c7 t7)
        clear c7 t7 K6
        have hmc := K7.out.mc
        have hcm := K7.out.cm
        unfold maxLen at hcm
        obtain rfl | rfl | rfl | rfl : y = 0 ∨ y = 1 ∨ y = 2 ∨ y = 3 := by omega
        · have hcv : (convert 22 22 (.slice (some ⟨w7.heap.size, 0, none⟩) 7 7)).run Tryd.prog (w7.alloc (.cells #[.int .u8 48, .int .u8 49, .int .u8 50, .int .u8 57, .int .u8 32, .int .u8 45, .int .u8 120] 5)) = .ok (.slice (some ⟨w7.heap.size, 0, none⟩) 7 7) (w7.alloc (.cells #[.int .u8 48, .int .u8 49, .int .u8 50, .int .u8 57, .int .u8 32, .int .u8 45, .int .u8 120] 5 (7, 8))) := Lib.run_convert_bytes_const w7 22 5 _ 7 7 Tryd.underlying22 Tryd.underlying5
          go_wp2_with fail
          refine (l1Below_any _ w.heap.size c a n k _ (K7.out.alloc _).cur (K7.out.alloc _).bytes K7.out.fc (by omega)).mono ?_
          rintro e w9 ⟨y, rfl, hy0, hy9, c9, t9⟩
          obtain ⟨p, rfl⟩ := Int.eq_ofNat_of_zero_le hy0
          obtain ⟨x, hx, hx0, hx1⟩ : ∃ x : Int, w9.cell? ⟨w7.heap.size, p, none⟩ = some (.int .u8 x) ∧ 0 ≤ x ∧ x ≤ 255 := by
            have e := (World.cell?_of_block (a := ⟨w7.heap.size, p, none⟩) (t9.block w7.heap.size (by simp) (by have := K7.out.cur.lt; omega))).trans (World.cell?_alloc_mark w7 _ _ _ p)
            obtain rfl | rfl | rfl | rfl | rfl | rfl | rfl : p = 0 ∨ p = 1 ∨ p = 2 ∨ p = 3 ∨ p = 4 ∨ p = 5 ∨ p = 6 := by omega
            · exact ⟨48, e, by omega, by omega⟩
            · exact ⟨49, e, by omega, by omega⟩
            · exact ⟨50, e, by omega, by omega⟩
            · exact ⟨57, e, by omega, by omega⟩
            · exact ⟨32, e, by omega, by omega⟩
            · exact ⟨45, e, by omega, by omega⟩
            · exact ⟨120, e, by omega, by omega⟩
          have K9 := (show Hid _ from (K7.out.alloc _).step c9 t9)
          obtain ⟨z, hz, _, _, hfz⟩ := K9.out.bb i him
          clear c9 t9 K7 hcv
          go_wp2
          exact ⟨⟨g, m, cap, q, rfl, by simp, by omega, by omega, K9.out.put i x hx0 hx1⟩, by simp [intOf]⟩
        · go_wp2
          exact ⟨⟨g, i, cap, q, rfl, by simp, by omega, by omega, K7.out.cut i (by omega)⟩, by simp [intOf]⟩
        · have ob0 : OB (w7.drew.alloc (.cells #[] 5)) w7.heap.size w7.heap.size 0 0 := OB.empty w7.drew
          have b1 : Below w7.heap.size w7 (w7.drew.alloc (.cells #[] 5)) := ((Below.refl _ _).drew).alloc (Nat.le_refl _) _
          have bb1 : BB (w7.drew.alloc (.cells #[] 5)) g m := K7.out.bb.of_block (b1.block g K7.out.lt)
          obtain ⟨g1, cap1, W2, hr1, ob1, gr1⟩ := ob_append _ w7.heap.size w7.heap.size 0 0 g 0 i cap 22 ob0 (bb1.at 0 i (by omega)) (by omega) b1.size
          have b2 : Below w7.heap.size w7 W2 := b1.grown gr1 b1.size (fun k h => by cases h; exact Nat.le_refl _)
          have bb2 : BB W2 g m := K7.out.bb.of_block (b2.block g K7.out.lt)
          simp only [Nat.zero_add] at hr1 ob1
          by_cases hcap : cap = i + 1
          · obtain rfl : m = i + 1 := by omega
            subst hcap
            obtain ⟨g2, cap2, W3, hr2, ob2, gr2⟩ := ob_append W2 w7.heap.size g1 i cap1 g (0) (0) (0) 22 ob1 (bb2.at (0) (0) (by omega)) (by omega) b2.size
            have b3 : Below w7.heap.size w7 W3 := b2.grown gr2 b2.size (fun k h => by cases h; exact ob1.out.2.2.2.1)
            have K8 : Hid (BI w W3 c a n k g2 (i + 0) cap2) := K7.out.moved b3 ob2
            have ht1 : ((i : Int) + 1).toNat = i + 1 := by omega
            have hwr : IntKind.i64.wrap ((i : Int) + 1) = (i : Int) + 1 := by simp [IntKind.wrap, IntKind.bits, IntKind.signed]; omega
            have hle : (i : Int) + 1 ≤ ((i + 1 : Nat) : Int) := by omega
            clear b1 b2 b3 bb1 bb2 ob0 ob1 ob2 gr1 gr2 K7
            go_wp2_with fail
            refine wp_region_held_drew (S := fun _ => True) (by kernel_rfl) trivial (fun _ => ?_)
            refine wpAnyH_take (i := 1) (v := ?_) rfl (by kernel_rfl) (by kernel_rfl) (by kernel_rfl) (fun _ _ _ h => h) (Or.inl ⟨by rfl, ?_⟩) trivial ?_
            rotate_left
            · (intro w hSw; go_simp; first | done | with_reducible rfl | (rw [if_pos (by omega)]))
            simp only [Act.put]
            refine wpAnyH_take (i := 2) (v := ?_) rfl (by kernel_rfl) (by kernel_rfl) (by kernel_rfl) (fun _ _ _ h => h) (Or.inl ⟨by rfl, ?_⟩) trivial ?_
            rotate_left
            · (intro w hSw; go_simp; first | done | with_reducible rfl | (rw [if_pos (by omega)]))
            simp only [Act.put]
            refine wpAnyH_take (i := 5) (v := ?_) rfl (by kernel_rfl) (by kernel_rfl) (by kernel_rfl) (fun _ _ _ h => h) (Or.inl ⟨by rfl, ?_⟩) trivial ?_
            rotate_left
            · (intro w hSw; go_simp; first | done | with_reducible rfl | (rw [if_pos (by omega)]))
            simp only [Act.put]
            refine wpAnyH_take (i := 6) (v := ?_) rfl (by kernel_rfl) (by kernel_rfl) (by kernel_rfl) (fun _ _ _ h => h) (Or.inl ⟨by rfl, ?_⟩) trivial ?_
            rotate_left
            · (intro w hSw; go_simp; first | done | with_reducible rfl | (rw [if_pos (by omega)]))
            simp only [Act.put]
            refine wpAnyH_take (i := 7) (v := ?_) rfl (by kernel_rfl) (by kernel_rfl) (by kernel_rfl) (fun _ _ _ h => h) (Or.inl ⟨by rfl, ?_⟩) trivial ?_
            rotate_left
            · (intro w hSw; go_simp; first | done | with_reducible rfl | (rw [if_pos (by omega)]))
            simp only [Act.put]
            refine wpAnyH_take (i := 3) (v := ?_) rfl (by kernel_rfl) (by kernel_rfl) (by kernel_rfl) (fun _ _ _ h => h) (Or.inl ⟨by rfl, ?_⟩) trivial ?_
            rotate_left
            · (intro w hSw; go_simp; first | done | with_reducible rfl | (rw [if_pos (by omega)]))
            simp only [Act.put]
            refine wpAnyH_take (i := 8) (v := ?_) rfl (by kernel_rfl) (by kernel_rfl) (by kernel_rfl) (fun _ _ _ h => h) (Or.inl ⟨by rfl, ?_⟩) trivial ?_
            rotate_left
            · (intro w hSw; go_simp; first | done | with_reducible rfl | (rw [if_pos (by omega)]))
            simp only [Act.put]
            refine wpAnyH_ready (rs := [0]) (by kernel_rfl) (by simp) ?_
            refine AllReadyH.cons rfl (fun K hK => ?_) AllReadyH.nil
            go_simp
            refine hK.out _ _ trivial (fun _ => ?_)
            clear hK K
            refine wpAnyH_ready (rs := [4]) (by kernel_rfl) (by simp) ?_
            refine AllReadyH.cons rfl (fun K hK => ?_) AllReadyH.nil
            refine step_known _ rfl (.tmp 48) (.tmp 51) 22 rfl _ _ _ _ (by first | rfl | simp [Act.eval, Act.put]) (by first | rfl | simp [Act.eval, Act.put]) hr1 ?_
            refine hK.out _ _ trivial (fun _ => ?_)
            clear hK K
            simp only [Act.put]
            refine wpAnyH_ready (rs := [9]) (by kernel_rfl) (by simp) ?_
            refine AllReadyH.cons rfl (fun K hK => ?_) AllReadyH.nil
            refine step_known _ rfl (.tmp 52) (.tmp 56) 22 rfl _ _ _ _ (by first | rfl | simp [Act.eval, Act.put]) (by first | rfl | simp [Act.eval, Act.put]) hr2 ?_
            refine hK.out _ _ trivial (fun _ => ?_)
            clear hK K
            simp only [Act.put]
            refine wpAnyH_take (i := 10) (v := ?_) rfl (by kernel_rfl) (by kernel_rfl) (by kernel_rfl) (fun _ _ _ h => h) (Or.inl ⟨by rfl, ?_⟩) trivial ?_
            rotate_left
            · (intro w hSw; go_simp; first | done | with_reducible rfl | (rw [if_pos (by omega)]))
            simp only [Act.put]
            refine wpAnyH_done (by kernel_rfl) ?_ _
            go_wp2
            exact ⟨⟨g2, i + 0, cap2, q, rfl, by simp, by omega, by omega, K8.out⟩, by simp [intOf]⟩
          · have hcap' : ¬ cap = i + 1 := hcap
            obtain ⟨g2, cap2, W3, hr2, ob2, gr2⟩ := ob_append W2 w7.heap.size g1 i cap1 g (i + 1) (m - (i + 1)) (cap - (i + 1)) 22 ob1 (bb2.at (i + 1) (m - (i + 1)) (by omega)) (by omega) b2.size
            have b3 : Below w7.heap.size w7 W3 := b2.grown gr2 b2.size (fun k h => by cases h; exact ob1.out.2.2.2.1)
            have K8 : Hid (BI w W3 c a n k g2 (i + (m - (i + 1))) cap2) := K7.out.moved b3 ob2
            have ht1 : ((i : Int) + 1).toNat = i + 1 := by omega
            have hwr : IntKind.i64.wrap ((i : Int) + 1) = (i : Int) + 1 := by simp [IntKind.wrap, IntKind.bits, IntKind.signed]; omega
            have hle : (i : Int) + 1 ≤ (m : Int) := by omega
            clear b1 b2 b3 bb1 bb2 ob0 ob1 ob2 gr1 gr2 K7
            go_wp2_with fail
            refine wp_region_held_drew (S := fun _ => True) (by kernel_rfl) trivial (fun _ => ?_)
            refine wpAnyH_take (i := 1) (v := ?_) rfl (by kernel_rfl) (by kernel_rfl) (by kernel_rfl) (fun _ _ _ h => h) (Or.inl ⟨by rfl, ?_⟩) trivial ?_
            rotate_left
            · (intro w hSw; go_simp; first | done | with_reducible rfl | (rw [if_pos (by omega)]))
            simp only [Act.put]
            refine wpAnyH_take (i := 2) (v := ?_) rfl (by kernel_rfl) (by kernel_rfl) (by kernel_rfl) (fun _ _ _ h => h) (Or.inl ⟨by rfl, ?_⟩) trivial ?_
            rotate_left
            · (intro w hSw; go_simp; first | done | with_reducible rfl | (rw [if_pos (by omega)]))
            simp only [Act.put]
            refine wpAnyH_take (i := 5) (v := ?_) rfl (by kernel_rfl) (by kernel_rfl) (by kernel_rfl) (fun _ _ _ h => h) (Or.inl ⟨by rfl, ?_⟩) trivial ?_
            rotate_left
            · (intro w hSw; go_simp; first | done | with_reducible rfl | (rw [if_pos (by omega)]))
            simp only [Act.put]
            refine wpAnyH_take (i := 6) (v := ?_) rfl (by kernel_rfl) (by kernel_rfl) (by kernel_rfl) (fun _ _ _ h => h) (Or.inl ⟨by rfl, ?_⟩) trivial ?_
            rotate_left
            · (intro w hSw; go_simp; first | done | with_reducible rfl | (rw [if_pos (by omega)]))
            simp only [Act.put]
            refine wpAnyH_take (i := 7) (v := ?_) rfl (by kernel_rfl) (by kernel_rfl) (by kernel_rfl) (fun _ _ _ h => h) (Or.inl ⟨by rfl, ?_⟩) trivial ?_
            rotate_left
            · (intro w hSw; go_simp; first | done | with_reducible rfl | (rw [if_pos (by omega)]))
            simp only [Act.put]
            refine wpAnyH_take (i := 3) (v := ?_) rfl (by kernel_rfl) (by kernel_rfl) (by kernel_rfl) (fun _ _ _ h => h) (Or.inl ⟨by rfl, ?_⟩) trivial ?_
            rotate_left
            · (intro w hSw; go_simp; first | done | with_reducible rfl | (rw [if_pos (by omega)]))
            simp only [Act.put]
            refine wpAnyH_take (i := 8) (v := ?_) rfl (by kernel_rfl) (by kernel_rfl) (by kernel_rfl) (fun _ _ _ h => h) (Or.inl ⟨by rfl, ?_⟩) trivial ?_
            rotate_left
            · (intro w hSw; go_simp; first | done | with_reducible rfl | (rw [if_pos (by omega)]))
            simp only [Act.put]
            refine wpAnyH_ready (rs := [0]) (by kernel_rfl) (by simp) ?_
            refine AllReadyH.cons rfl (fun K hK => ?_) AllReadyH.nil
            go_simp
            refine hK.out _ _ trivial (fun _ => ?_)
            clear hK K
            refine wpAnyH_ready (rs := [4]) (by kernel_rfl) (by simp) ?_
            refine AllReadyH.cons rfl (fun K hK => ?_) AllReadyH.nil
            refine step_known _ rfl (.tmp 48) (.tmp 51) 22 rfl _ _ _ _ (by first | rfl | simp [Act.eval, Act.put]) (by first | rfl | simp [Act.eval, Act.put]) hr1 ?_
            refine hK.out _ _ trivial (fun _ => ?_)
            clear hK K
            simp only [Act.put]
            refine wpAnyH_ready (rs := [9]) (by kernel_rfl) (by simp) ?_
            refine AllReadyH.cons rfl (fun K hK => ?_) AllReadyH.nil
            refine step_known _ rfl (.tmp 52) (.tmp 56) 22 rfl _ _ _ _ (by first | rfl | simp [Act.eval, Act.put]) (by first | rfl | simp [Act.eval, Act.put]) hr2 ?_
            refine hK.out _ _ trivial (fun _ => ?_)
            clear hK K
            simp only [Act.put]
            refine wpAnyH_take (i := 10) (v := ?_) rfl (by kernel_rfl) (by kernel_rfl) (by kernel_rfl) (fun _ _ _ h => h) (Or.inl ⟨by rfl, ?_⟩) trivial ?_
            rotate_left
            · (intro w hSw; go_simp; first | done | with_reducible rfl | (rw [if_pos (by omega)]))
            simp only [Act.put]
            refine wpAnyH_done (by kernel_rfl) ?_ _
            go_wp2
            exact ⟨⟨g2, i + (m - (i + 1)), cap2, q, rfl, by simp, by omega, by omega, K8.out⟩, by simp [intOf]⟩
        · have hm2 : m ≤ 1002 := by omega
          have hi2 : i ≤ m := by omega
          have bX : Below w7.heap.size w7 (w7.drew.alloc (.cells #[] 5)) := ((Below.refl _ _).drew).alloc (Nat.le_refl _) _
          have oX : OB (w7.drew.alloc (.cells #[] 5)) w7.heap.size w7.heap.size 0 0 := OB.empty w7.drew
          have sX : (w7.drew.alloc (.cells #[] 5)).heap.size = w7.heap.size + 1 := by show (w7.alloc _).heap.size = _; simp
          have bP : Below w7.heap.size w7 (w7.drew.alloc (.cells #[.int .u8 49] 5)) := ((Below.refl _ _).drew).alloc (Nat.le_refl _) _
          have sP : (w7.drew.alloc (.cells #[.int .u8 49] 5)).heap.size = w7.heap.size + 1 := by show (w7.alloc _).heap.size = _; simp
          obtain ⟨ga1, ca1, A2, ra1, oa1, ba1, _⟩ := ins_first K7.out hm2 hi2 bX oX
          obtain ⟨ga2, ca2, A3, ga3, ca3, A4, ra2, ra3, KA⟩ := ins_rest K7.out hm2 hi2 (ba1.alloc ba1.size (.cells #[.int .u8 49] 5)) (oa1.alloc (.cells #[.int .u8 49] 5)) (e := A2.heap.size) (x := 49) (by go_simp) (by omega) (by omega)
          obtain ⟨gb1, cb1, B2, rb1, ob1, bb1, gb⟩ := ins_first K7.out hm2 hi2 (bX.alloc bX.size (.cells #[.int .u8 49] 5)) (oX.alloc (.cells #[.int .u8 49] 5))
          have eb : B2.cell? ⟨w7.heap.size + 1, 0, none⟩ = some (.int .u8 49) := by
            rw [gb.cell_far ⟨w7.heap.size + 1, 0, none⟩ (by simp) (by simp), ← sX]
            go_simp
          obtain ⟨gb2, cb2, B3, gb3, cb3, B4, rb2, rb3, KBB⟩ := ins_rest K7.out hm2 hi2 bb1 ob1 eb (by omega) (by omega)
          obtain ⟨gc1, cc1, C2, rc1, oc1, bc1, gc⟩ := ins_first K7.out hm2 hi2 (bP.alloc bP.size (.cells #[] 5)) ((OB.empty (w7.drew.alloc (.cells #[.int .u8 49] 5))).lower (by omega))
          have ec : C2.cell? ⟨w7.heap.size, 0, none⟩ = some (.int .u8 49) := by
            rw [gc.cell_far ⟨w7.heap.size, 0, none⟩ (by simp; omega) (by rw [sP]; simp)]
            rw [((Below.refl (w7.drew.alloc (.cells #[.int .u8 49] 5)).heap.size (w7.drew.alloc (.cells #[.int .u8 49] 5))).alloc (Nat.le_refl _) (.cells #[] 5)).cell (p := ⟨w7.heap.size, 0, none⟩) (by rw [sP]; simp)]
            show (w7.drew.alloc (.cells #[.int .u8 49] 5)).cell? ⟨w7.drew.heap.size, 0, none⟩ = _
            go_simp
          obtain ⟨gc2, cc2, C3, gc3, cc3, C4, rc2, rc3, KC⟩ := ins_rest K7.out hm2 hi2 bc1 oc1 ec (by omega) (by omega)
          rw [sP] at rc1
          have HA : Hid (BI w A4 c a n k ga3 (i + 1 + (m - i)) ca3) := KA
          have HBB : Hid (BI w B4 c a n k gb3 (i + 1 + (m - i)) cb3) := KBB
          have HC : Hid (BI w C4 c a n k gc3 (i + 1 + (m - i)) cc3) := KC
          have hci : ¬ cap = i := by omega
          clear bX oX sX bP sP oa1 ba1 KA ob1 bb1 gb eb KBB oc1 bc1 gc ec KC K7
          go_wp2_with fail
          refine wp_region_held_drew (S := fun _ => True) (by kernel_rfl) trivial (fun _ => ?_)
          refine wpAnyH_take (i := 1) (v := ?_) rfl (by kernel_rfl) (by kernel_rfl) (by kernel_rfl) (fun _ _ _ h => h) (Or.inl ⟨by rfl, ?_⟩) trivial ?_
          rotate_left
          · (intro w hSw; go_simp; first | done | with_reducible rfl | (rw [if_pos (by omega)]))
          simp only [Act.put]
          refine wpAnyH_take (i := 2) (v := ?_) rfl (by kernel_rfl) (by kernel_rfl) (by kernel_rfl) (fun _ _ _ h => h) (Or.inl ⟨by rfl, ?_⟩) trivial ?_
          rotate_left
          · (intro w hSw; go_simp; first | done | with_reducible rfl | (rw [if_pos (by omega)]))
          simp only [Act.put]
          refine wpAnyH_take (i := 7) (v := ?_) rfl (by kernel_rfl) (by kernel_rfl) (by kernel_rfl) (fun _ _ _ h => h) (Or.inl ⟨by rfl, ?_⟩) trivial ?_
          rotate_left
          · (intro w hSw; go_simp; first | done | with_reducible rfl | (rw [if_pos (by omega)]))
          simp only [Act.put]
          refine wpAnyH_take (i := 8) (v := ?_) rfl (by kernel_rfl) (by kernel_rfl) (by kernel_rfl) (fun _ _ _ h => h) (Or.inl ⟨by rfl, ?_⟩) trivial ?_
          rotate_left
          · (intro w hSw; go_simp; first | done | with_reducible rfl | (rw [if_pos (by omega)]))
          simp only [Act.put]
          refine wpAnyH_take (i := 3) (v := ?_) rfl (by kernel_rfl) (by kernel_rfl) (by kernel_rfl) (fun _ _ _ h => h) (Or.inl ⟨by rfl, ?_⟩) trivial ?_
          rotate_left
          · (intro w hSw; go_simp; first | done | with_reducible rfl | (rw [if_pos (by omega)]))
          simp only [Act.put]
          refine wpAnyH_take (i := 9) (v := ?_) rfl (by kernel_rfl) (by kernel_rfl) (by kernel_rfl) (fun _ _ _ h => h) (Or.inl ⟨by rfl, ?_⟩) trivial ?_
          rotate_left
          · (intro w hSw; go_simp; first | done | with_reducible rfl | (rw [if_pos (by omega)]))
          simp only [Act.put]
          refine wpAnyH_ready (rs := [0, 5]) (by kernel_rfl) (by simp) ?_
          refine AllReadyH.cons rfl (fun K hK => ?_) (AllReadyH.cons rfl (fun K hK => ?_) AllReadyH.nil)
          · go_simp
            refine hK.out _ _ trivial (fun _ => ?_)
            clear hK K
            refine wpAnyH_ready (rs := [4, 5]) (by kernel_rfl) (by simp) ?_
            refine AllReadyH.cons rfl (fun K hK => ?_) (AllReadyH.cons rfl (fun K hK => ?_) AllReadyH.nil)
            · refine step_known _ rfl (.tmp 60) (.tmp 63) 22 rfl _ _ _ _ (by first | rfl | simp [Act.eval, Act.put]) (by first | rfl | simp [Act.eval, Act.put]) ra1 ?_
              refine hK.out _ _ trivial (fun _ => ?_)
              clear hK K
              simp only [Act.put]
              refine wpAnyH_ready (rs := [5]) (by kernel_rfl) (by simp) ?_
              refine AllReadyH.cons rfl (fun K hK => ?_) AllReadyH.nil
              go_simp
              refine hK.out _ _ trivial (fun _ => ?_)
              clear hK K
              refine wpAnyH_ready (rs := [6]) (by kernel_rfl) (by simp) ?_
              refine AllReadyH.cons rfl (fun K hK => ?_) AllReadyH.nil
              refine step_known _ rfl (.tmp 64) (.tmp 65) 22 rfl _ _ _ _ (by first | rfl | simp [Act.eval, Act.put]) (by first | rfl | simp [Act.eval, Act.put]) ra2 ?_
              refine hK.out _ _ trivial (fun _ => ?_)
              clear hK K
              simp only [Act.put]
              refine wpAnyH_ready (rs := [10]) (by kernel_rfl) (by simp) ?_
              refine AllReadyH.cons rfl (fun K hK => ?_) AllReadyH.nil
              refine step_known _ rfl (.tmp 66) (.tmp 69) 22 rfl _ _ _ _ (by first | rfl | simp [Act.eval, Act.put]) (by first | rfl | simp [Act.eval, Act.put]) ra3 ?_
              refine hK.out _ _ trivial (fun _ => ?_)
              clear hK K
              simp only [Act.put]
              refine wpAnyH_take (i := 11) (v := ?_) rfl (by kernel_rfl) (by kernel_rfl) (by kernel_rfl) (fun _ _ _ h => h) (Or.inl ⟨by rfl, ?_⟩) trivial ?_
              rotate_left
              · (intro w hSw; go_simp; first | done | with_reducible rfl | (rw [if_pos (by omega)]))
              simp only [Act.put]
              refine wpAnyH_done (by kernel_rfl) ?_ _
              go_wp2
              exact ⟨⟨ga3, i + 1 + (m - i), ca3, q, rfl, by simp, by omega, by omega, HA.out⟩, by simp [intOf]⟩
            · go_simp
              refine hK.out _ _ trivial (fun _ => ?_)
              clear hK K
              refine wpAnyH_ready (rs := [4]) (by kernel_rfl) (by simp) ?_
              refine AllReadyH.cons rfl (fun K hK => ?_) AllReadyH.nil
              refine step_known _ rfl (.tmp 60) (.tmp 63) 22 rfl _ _ _ _ (by first | rfl | simp [Act.eval, Act.put]) (by first | rfl | simp [Act.eval, Act.put]) rb1 ?_
              refine hK.out _ _ trivial (fun _ => ?_)
              clear hK K
              simp only [Act.put]
              refine wpAnyH_ready (rs := [6]) (by kernel_rfl) (by simp) ?_
              refine AllReadyH.cons rfl (fun K hK => ?_) AllReadyH.nil
              refine step_known _ rfl (.tmp 64) (.tmp 65) 22 rfl _ _ _ _ (by first | rfl | simp [Act.eval, Act.put]) (by first | rfl | simp [Act.eval, Act.put]) rb2 ?_
              refine hK.out _ _ trivial (fun _ => ?_)
              clear hK K
              simp only [Act.put]
              refine wpAnyH_ready (rs := [10]) (by kernel_rfl) (by simp) ?_
              refine AllReadyH.cons rfl (fun K hK => ?_) AllReadyH.nil
              refine step_known _ rfl (.tmp 66) (.tmp 69) 22 rfl _ _ _ _ (by first | rfl | simp [Act.eval, Act.put]) (by first | rfl | simp [Act.eval, Act.put]) rb3 ?_
              refine hK.out _ _ trivial (fun _ => ?_)
              clear hK K
              simp only [Act.put]
              refine wpAnyH_take (i := 11) (v := ?_) rfl (by kernel_rfl) (by kernel_rfl) (by kernel_rfl) (fun _ _ _ h => h) (Or.inl ⟨by rfl, ?_⟩) trivial ?_
              rotate_left
              · (intro w hSw; go_simp; first | done | with_reducible rfl | (rw [if_pos (by omega)]))
              simp only [Act.put]
              refine wpAnyH_done (by kernel_rfl) ?_ _
              go_wp2
              exact ⟨⟨gb3, i + 1 + (m - i), cb3, q, rfl, by simp, by omega, by omega, HBB.out⟩, by simp [intOf]⟩
          · go_simp
            refine hK.out _ _ trivial (fun _ => ?_)
            clear hK K
            refine wpAnyH_ready (rs := [0]) (by kernel_rfl) (by simp) ?_
            refine AllReadyH.cons rfl (fun K hK => ?_) AllReadyH.nil
            go_simp
            refine hK.out _ _ trivial (fun _ => ?_)
            clear hK K
            refine wpAnyH_ready (rs := [4]) (by kernel_rfl) (by simp) ?_
            refine AllReadyH.cons rfl (fun K hK => ?_) AllReadyH.nil
            refine step_known _ rfl (.tmp 60) (.tmp 63) 22 rfl _ _ _ _ (by first | rfl | simp [Act.eval, Act.put]) (by first | rfl | simp [Act.eval, Act.put]) rc1 ?_
            refine hK.out _ _ trivial (fun _ => ?_)
            clear hK K
            simp only [Act.put]
            refine wpAnyH_ready (rs := [6]) (by kernel_rfl) (by simp) ?_
            refine AllReadyH.cons rfl (fun K hK => ?_) AllReadyH.nil
            refine step_known _ rfl (.tmp 64) (.tmp 65) 22 rfl _ _ _ _ (by first | rfl | simp [Act.eval, Act.put]) (by first | rfl | simp [Act.eval, Act.put]) rc2 ?_
            refine hK.out _ _ trivial (fun _ => ?_)
            clear hK K
            simp only [Act.put]
            refine wpAnyH_ready (rs := [10]) (by kernel_rfl) (by simp) ?_
            refine AllReadyH.cons rfl (fun K hK => ?_) AllReadyH.nil
            refine step_known _ rfl (.tmp 66) (.tmp 69) 22 rfl _ _ _ _ (by first | rfl | simp [Act.eval, Act.put]) (by first | rfl | simp [Act.eval, Act.put]) rc3 ?_
            refine hK.out _ _ trivial (fun _ => ?_)
            clear hK K
            simp only [Act.put]
            refine wpAnyH_take (i := 11) (v := ?_) rfl (by kernel_rfl) (by kernel_rfl) (by kernel_rfl) (fun _ _ _ h => h) (Or.inl ⟨by rfl, ?_⟩) trivial ?_
            rotate_left
            · (intro w hSw; go_simp; first | done | with_reducible rfl | (rw [if_pos (by omega)]))
            simp only [Act.put]
            refine wpAnyH_done (by kernel_rfl) ?_ _
            go_wp2
            exact ⟨⟨gc3, i + 1 + (m - i), cc3, q, rfl, by simp, by omega, by omega, HC.out⟩, by simp [intOf]⟩
end Go.Proofs.YtlnnghlmhmnnlaaDoor
