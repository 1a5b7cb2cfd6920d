import Derived.Test.YteiofebmgilclaaRows
import Derived.Test.YteiofebmgilclaaVdS
import Derived.WalkKit
import Derived.WalkSpells
import Derived.WalkLawsBesides
import Derived.Below
import Derived.BigQuiet
import Derived.Deep.QuietTactic
namespace Go.Proofs.Yteiofebmgilclaa
open Go.RowKit
def FirstAt (f : Nat → Bool) (n : Nat) (i : Int) : Prop := (i = -1 ∧ ∀ j, j < n → f j = false) ∨ ∃ k : Nat, i = (k : Int) ∧ k < n ∧ f k = true ∧ ∀ j, j < k → f j = false
theorem hidOf {p : Prop} (h : p) : Hid p := h
theorem bstep {A X Y : World} (h : Below A.heap.size A X) (k : Below X.heap.size X Y) : Below A.heap.size A Y := h.trans (k.mono h.size)
theorem firstN_any {l : List Int} {p : Int → Bool} {i : Int} (h : FirstAt (fun j => p (atN l j)) l.length i) : decide (0 ≤ i) = l.any p := by
  rcases h with ⟨rfl, h⟩ | ⟨j, rfl, hj, h1, _⟩
  · have : l.any p = false := by
      rw [List.any_eq_false]
      intro r hr
      obtain ⟨t, ht, rfl⟩ := List.getElem_of_mem hr
      have := h t ht
      simpa [atN, List.getElem?_eq_getElem ht] using this
    rw [this]; rfl
  · have : l.any p = true := by
      rw [List.any_eq_true]
      exact ⟨l[j], List.getElem_mem hj, by simpa [atN, List.getElem?_eq_getElem hj] using h1⟩
    rw [this]; simp
theorem suchIs_any (w : World) (x v : Int) (g : Nat) (hg : w.cell? ⟨g, 0, none⟩ = some (.int .i64 v)) : Calls Try.prog 16 #[.int .i64 x, .pointer (some ⟨g, 0, none⟩)] w fun e w' => e = .returned (.bool (x == v)) ∧ Below w.heap.size w w' := by
  obtain ⟨d, hd⟩ : ∃ d, (x == v) = d := ⟨_, rfl⟩
  have HD := hidOf hd
  cases d
  all_goals
    (go_enter Try.func16, Try.ntmps16
     go_wp2
     go_ret
     exact ⟨by rw [HD.out]; rfl, Below.refl _ _⟩)
theorem makeIs_any (w : World) (v : Int) : Calls Try.prog 13 #[.int .i64 v] w fun e w' => e = .returned (.func (.func 16) #[] #[.pointer (some ⟨w.heap.size, 0, none⟩)]) ∧ w' = w.alloc (.cells #[.int .i64 v] 2) := by
  go_enter Try.func13, Try.ntmps13
  go_wp2
  go_ret
  exact ⟨rfl, rfl⟩
def idxIsF (w : World) (n : Nat) (rs : List Int) (g : Nat) (f : Nat → Bool) : Prop :=
  ∀ (X : World) (i : Nat) , Below w.heap.size w X → i < n → True → Calls Try.prog 16 #[.int .i64 (atN rs i), .pointer (some ⟨g, 0, none⟩)] X fun e w' => e = .returned (.bool (f i)) ∧ Below X.heap.size X w'
set_option maxHeartbeats 2000000 in
theorem idxIs (w : World) (a : Option Addr) (n cap : Nat) (rs : List Int) (g : Nat) (f : Nat → Bool) (hn : n ≤ maxLen) (hs : SlN w w.heap.size a n rs) (hf : idxIsF w n rs g f) :
    Calls Try.prog 15 #[.slice a n cap, .func (.func 16) #[] #[.pointer (some ⟨g, 0, none⟩)]] w fun e w' => (∃ i : Int, e = .returned (.int .i64 i) ∧ FirstAt f n i) ∧ Below w.heap.size w w' := by
  unfold maxLen at hn
  obtain ⟨hx, hs⟩ := hs
  have HF := hidOf hf
  clear hf
  go_enter Try.func15, Try.ntmps15
  go_wp2
  go_loopw [8] (fun v wr => ∃ j : Nat, j ≤ n ∧ v = .int .i64 j ∧ Below w.heap.size w wr ∧ ∀ i, i < j → f i = false) (fun v _ => n - (intOf v).toNat)
  case atStart => exact ⟨0, Nat.zero_le _, rfl, Below.refl _ _, fun i h => absurd h (by omega)⟩
  case round =>
    obtain ⟨j, hj, rfl, hbl, hall⟩ := hrel
    by_cases hlt : j < n
    · rcases hs with hs | ⟨b, off, rfl, hb, h1⟩
      · omega
      · have c0 := (hbl.cell (p := ⟨b, off + j, none⟩) hb).trans (h1 j _ (atN_of (by omega)))
        have KA : Hid ((∀ i, i < j → f i = false) ∧ Below w.heap.size w wr) := ⟨hall, hbl⟩
        have hw := HF.out wr j hbl hlt trivial
        clear h1 hall hbl
        cases hp : f j with
        | true =>
          rw [hp] at hw
          go_wp2_with fail
          refine hw.mono ?_
          clear hw
          rintro e w1 ⟨rfl, b1⟩
          go_wp2
          go_ret
          exact ⟨⟨_, rfl, .inr ⟨j, rfl, hlt, hp, KA.out.1⟩⟩, KA.out.2.trans (b1.mono KA.out.2.size)⟩
        | false =>
          rw [hp] at hw
          go_wp2_with fail
          refine hw.mono ?_
          clear hw
          rintro e w1 ⟨rfl, b1⟩
          go_wp2
          exact ⟨⟨j + 1, by omega, by simp, KA.out.2.trans (b1.mono KA.out.2.size), fun i hi => by
            by_cases e : i = j
            · rw [e]; exact hp
            · exact KA.out.1 i (by omega)⟩, by simp [intOf]; omega⟩
    · have : j = n := by omega
      subst this
      have hd : decide ((j : Int) < (j : Int)) = false := by simp
      have KA : Hid (∀ i, i < j → f i = false) := hall
      clear hs hall
      go_wp2
      go_ret
      exact ⟨⟨_, rfl, .inl ⟨rfl, KA.out⟩⟩, hbl⟩

set_option maxHeartbeats 1000000 in
theorem contIs_any (w : World) (a : Option Addr) (n cap g : Nat) (v : Int) (zs : List Int) (hn : n ≤ maxLen) (hs : SlN w w.heap.size a n zs) (hg : w.cell? ⟨g, 0, none⟩ = some (.int .i64 v)) (hl : g < w.heap.size) :
    Calls Try.prog 12 #[.slice a n cap, .func (.func 16) #[] #[.pointer (some ⟨g, 0, none⟩)]] w fun e w' => e = .returned (.bool (zs.any fun z => z == v)) ∧ Below w.heap.size w w' := by
  obtain rfl : zs.length = n := hs.1
  have hc := idxIs w a zs.length cap zs g (fun i => (atN zs i) == v) hn hs (fun X i hX hi _ => suchIs_any X (atN zs i) v g ((hX.cell (p := ⟨g, 0, none⟩) hl).trans hg))
  clear hs hg hl
  go_enter Try.func12, Try.ntmps12
  go_wp2_with fail
  refine hc.mono ?_
  clear hc
  rintro e w1 ⟨⟨i, rfl, hfi⟩, b1⟩
  have HF : Hid (decide (0 ≤ i) = zs.any fun z => z == v) := firstN_any (p := fun z => z == v) hfi
  clear hfi
  obtain ⟨d, hd⟩ : ∃ d, decide (0 ≤ i) = d := ⟨_, rfl⟩
  rw [hd] at HF
  go_wp2
  go_ret
  exact ⟨by rw [← HF.out]; first | rfl | (rw [← hd]; rfl), b1⟩
set_option maxHeartbeats 1000000 in
theorem someIs_any (w : World) (a : Option Addr) (n cap g q : Nat) (v : Int) (zs : List Int) (hn : n ≤ maxLen) (hs : SlN w w.heap.size a n zs) (hg : w.cell? ⟨g, 0, none⟩ = some (.int .i64 v)) (hl : g < w.heap.size) (hq : w.cell? ⟨q, 0, none⟩ = some (.slice a n cap)) :
    Calls Try.prog 11 #[.func (.func 16) #[] #[.pointer (some ⟨g, 0, none⟩)], .pointer (some ⟨q, 0, none⟩)] w fun e w' => e = .returned (.bool (zs.any fun z => z == v)) ∧ Below w.heap.size w w' := by
  have hc := contIs_any w a n cap g v zs hn hs hg hl
  clear hs hg hl
  obtain ⟨d, hd⟩ : ∃ d, (zs.any fun z => z == v) = d := ⟨_, rfl⟩
  rw [hd] at hc
  have HD := hidOf hd
  clear hd
  go_enter Try.func11, Try.ntmps11
  go_wp2_with fail
  refine hc.mono ?_
  clear hc
  rintro e w1 ⟨rfl, b1⟩
  go_wp2
  go_ret
  exact ⟨by rw [HD.out]; rfl, b1⟩
theorem suchBe_any (w : World) (x v : Int) (g : Nat) (hg : w.cell? ⟨g, 0, none⟩ = some (.int .i64 v)) : Calls Try.prog 17 #[.int .i64 x, .pointer (some ⟨g, 0, none⟩)] w fun e w' => e = .returned (.bool (decide (x < v))) ∧ Below w.heap.size w w' := by
  obtain ⟨d, hd⟩ : ∃ d, decide (x < v) = d := ⟨_, rfl⟩
  have HD := hidOf hd
  cases d
  all_goals
    (go_enter Try.func17, Try.ntmps17
     go_wp2
     go_ret
     exact ⟨by rw [HD.out]; rfl, Below.refl _ _⟩)
theorem makeBe_any (w : World) (v : Int) : Calls Try.prog 14 #[.int .i64 v] w fun e w' => e = .returned (.func (.func 17) #[] #[.pointer (some ⟨w.heap.size, 0, none⟩)]) ∧ w' = w.alloc (.cells #[.int .i64 v] 2) := by
  go_enter Try.func14, Try.ntmps14
  go_wp2
  go_ret
  exact ⟨rfl, rfl⟩
def idxBeF (w : World) (n : Nat) (rs : List Int) (g : Nat) (f : Nat → Bool) : Prop :=
  ∀ (X : World) (i : Nat) , Below w.heap.size w X → i < n → True → Calls Try.prog 17 #[.int .i64 (atN rs i), .pointer (some ⟨g, 0, none⟩)] X fun e w' => e = .returned (.bool (f i)) ∧ Below X.heap.size X w'
set_option maxHeartbeats 2000000 in
theorem idxBe (w : World) (a : Option Addr) (n cap : Nat) (rs : List Int) (g : Nat) (f : Nat → Bool) (hn : n ≤ maxLen) (hs : SlN w w.heap.size a n rs) (hf : idxBeF w n rs g f) :
    Calls Try.prog 15 #[.slice a n cap, .func (.func 17) #[] #[.pointer (some ⟨g, 0, none⟩)]] w fun e w' => (∃ i : Int, e = .returned (.int .i64 i) ∧ FirstAt f n i) ∧ Below w.heap.size w w' := by
  unfold maxLen at hn
  obtain ⟨hx, hs⟩ := hs
  have HF := hidOf hf
  clear hf
  go_enter Try.func15, Try.ntmps15
  go_wp2
  go_loopw [8] (fun v wr => ∃ j : Nat, j ≤ n ∧ v = .int .i64 j ∧ Below w.heap.size w wr ∧ ∀ i, i < j → f i = false) (fun v _ => n - (intOf v).toNat)
  case atStart => exact ⟨0, Nat.zero_le _, rfl, Below.refl _ _, fun i h => absurd h (by omega)⟩
  case round =>
    obtain ⟨j, hj, rfl, hbl, hall⟩ := hrel
    by_cases hlt : j < n
    · rcases hs with hs | ⟨b, off, rfl, hb, h1⟩
      · omega
      · have c0 := (hbl.cell (p := ⟨b, off + j, none⟩) hb).trans (h1 j _ (atN_of (by omega)))
        have KA : Hid ((∀ i, i < j → f i = false) ∧ Below w.heap.size w wr) := ⟨hall, hbl⟩
        have hw := HF.out wr j hbl hlt trivial
        clear h1 hall hbl
        cases hp : f j with
        | true =>
          rw [hp] at hw
          go_wp2_with fail
          refine hw.mono ?_
          clear hw
          rintro e w1 ⟨rfl, b1⟩
          go_wp2
          go_ret
          exact ⟨⟨_, rfl, .inr ⟨j, rfl, hlt, hp, KA.out.1⟩⟩, KA.out.2.trans (b1.mono KA.out.2.size)⟩
        | false =>
          rw [hp] at hw
          go_wp2_with fail
          refine hw.mono ?_
          clear hw
          rintro e w1 ⟨rfl, b1⟩
          go_wp2
          exact ⟨⟨j + 1, by omega, by simp, KA.out.2.trans (b1.mono KA.out.2.size), fun i hi => by
            by_cases e : i = j
            · rw [e]; exact hp
            · exact KA.out.1 i (by omega)⟩, by simp [intOf]; omega⟩
    · have : j = n := by omega
      subst this
      have hd : decide ((j : Int) < (j : Int)) = false := by simp
      have KA : Hid (∀ i, i < j → f i = false) := hall
      clear hs hall
      go_wp2
      go_ret
      exact ⟨⟨_, rfl, .inl ⟨rfl, KA.out⟩⟩, hbl⟩

set_option maxHeartbeats 1000000 in
theorem contBe_any (w : World) (a : Option Addr) (n cap g : Nat) (v : Int) (zs : List Int) (hn : n ≤ maxLen) (hs : SlN w w.heap.size a n zs) (hg : w.cell? ⟨g, 0, none⟩ = some (.int .i64 v)) (hl : g < w.heap.size) :
    Calls Try.prog 12 #[.slice a n cap, .func (.func 17) #[] #[.pointer (some ⟨g, 0, none⟩)]] w fun e w' => e = .returned (.bool (zs.any fun z => decide (z < v))) ∧ Below w.heap.size w w' := by
  obtain rfl : zs.length = n := hs.1
  have hc := idxBe w a zs.length cap zs g (fun i => decide ((atN zs i) < v)) hn hs (fun X i hX hi _ => suchBe_any X (atN zs i) v g ((hX.cell (p := ⟨g, 0, none⟩) hl).trans hg))
  clear hs hg hl
  go_enter Try.func12, Try.ntmps12
  go_wp2_with fail
  refine hc.mono ?_
  clear hc
  rintro e w1 ⟨⟨i, rfl, hfi⟩, b1⟩
  have HF : Hid (decide (0 ≤ i) = zs.any fun z => decide (z < v)) := firstN_any (p := fun z => decide (z < v)) hfi
  clear hfi
  obtain ⟨d, hd⟩ : ∃ d, decide (0 ≤ i) = d := ⟨_, rfl⟩
  rw [hd] at HF
  go_wp2
  go_ret
  exact ⟨by rw [← HF.out]; first | rfl | (rw [← hd]; rfl), b1⟩
set_option maxHeartbeats 1000000 in
theorem someBe_any (w : World) (a : Option Addr) (n cap g q : Nat) (v : Int) (zs : List Int) (hn : n ≤ maxLen) (hs : SlN w w.heap.size a n zs) (hg : w.cell? ⟨g, 0, none⟩ = some (.int .i64 v)) (hl : g < w.heap.size) (hq : w.cell? ⟨q, 0, none⟩ = some (.slice a n cap)) :
    Calls Try.prog 11 #[.func (.func 17) #[] #[.pointer (some ⟨g, 0, none⟩)], .pointer (some ⟨q, 0, none⟩)] w fun e w' => e = .returned (.bool (zs.any fun z => decide (z < v))) ∧ Below w.heap.size w w' := by
  have hc := contBe_any w a n cap g v zs hn hs hg hl
  clear hs hg hl
  obtain ⟨d, hd⟩ : ∃ d, (zs.any fun z => decide (z < v)) = d := ⟨_, rfl⟩
  rw [hd] at hc
  have HD := hidOf hd
  clear hd
  go_enter Try.func11, Try.ntmps11
  go_wp2_with fail
  refine hc.mono ?_
  clear hc
  rintro e w1 ⟨rfl, b1⟩
  go_wp2
  go_ret
  exact ⟨by rw [HD.out]; rfl, b1⟩
theorem hasB_is (zs : List Int) (v : Int) : (zs.any fun z => z == v) = hasB zs v := by
  unfold hasB
  congr 1
theorem decB_be (zs : List Int) : (zs.all fun v => decide (2 ≤ v)) = !(zs.any fun z => decide (z < 2)) := by
  induction zs with
  | nil => rfl
  | cons z zs ih =>
    rw [List.all_cons, List.any_cons, ih, Bool.not_or]
    congr 1
    by_cases h : z < 2
    · have h2 : ¬ 2 ≤ z := by omega
      simp [h, h2]
    · have h2 : 2 ≤ z := by omega
      simp [h, h2]
set_option maxRecDepth 100000 in
set_option maxHeartbeats 4000000 in
theorem implDecide_any (w : World) (a : Option Addr) (n cap : Nat) (zs : List Int) (hn : n ≤ maxLen) (hs : SlN w w.heap.size a n zs) :
    Calls Try.prog 6 #[.slice a n cap] w fun e w' => e = .returned (.bool (decB zs)) ∧ Below w.heap.size w w' := by
  obtain ⟨U, hU⟩ : ∃ Y, Y = w.alloc (.cells #[.slice a n cap] 22) := ⟨_, rfl⟩
  have BU : Hid (Below w.heap.size w U) := by unfold Hid; rw [hU]; exact (Below.refl _ _).alloc (Nat.le_refl _) _
  have HQ : Hid (U.cell? ⟨w.heap.size, 0, none⟩ = some (.slice a n cap) ∧ w.heap.size < U.heap.size) := by unfold Hid; rw [hU]; exact ⟨by go_simp, by simp⟩
  have HS : Hid (SlN U U.heap.size a n zs) := hs.later BU.out
  have HN := hidOf hn
  have HB0 : Hid (Below U.heap.size U U) := Below.refl _ _
  have HDV : Hid (decB zs = ((zs.any fun z => z == 4) || ((zs.any fun z => z == 3) && !(zs.any fun z => decide (z < 2))))) := by unfold Hid decB; rw [hasB_is, hasB_is, decB_be]
  clear hs hn
  go_enter Try.func6, Try.ntmps6
  go_wp2_with fail
  rw [← hU]
  clear hU
  refine (makeIs_any U 4).mono ?_
  rintro e X1 ⟨rfl, hX1⟩
  have b1a : Below U.heap.size U X1 := by rw [hX1]; exact (Below.refl _ _).alloc (Nat.le_refl _) _
  have g1 : X1.cell? ⟨U.heap.size, 0, none⟩ = some (.int .i64 4) := by rw [hX1]; go_simp
  have l1 : U.heap.size < X1.heap.size := by rw [hX1]; simp
  have C1 : Hid (Below U.heap.size U X1) := bstep HB0.out b1a
  have hc := someIs_any X1 a n cap U.heap.size w.heap.size 4 zs HN.out (HS.out.later C1.out) g1 l1 ((C1.out.cell (p := ⟨w.heap.size, 0, none⟩) HQ.out.2).trans HQ.out.1)
  clear hX1 b1a g1 l1
  go_wp2_with fail
  refine hc.mono ?_
  clear hc
  rintro e W1 ⟨rfl, b1⟩
  have D1 : Hid (Below U.heap.size U W1) := bstep C1.out b1
  clear b1 C1
  cases h4 : (zs.any fun z => z == 4) with
  | true =>
    have HA : Hid (decB zs = true) := by unfold Hid; rw [HDV.out, h4]; rfl
    clear h4 HDV
    go_wp2
    go_ret
    exact ⟨by rw [HA.out]; rfl, bstep BU.out D1.out⟩
  | false =>
  rw [h4] at HDV
  clear h4
  go_wp2_with fail
  refine (makeIs_any W1 3).mono ?_
  rintro e X2 ⟨rfl, hX2⟩
  have b2a : Below W1.heap.size W1 X2 := by rw [hX2]; exact (Below.refl _ _).alloc (Nat.le_refl _) _
  have g2 : X2.cell? ⟨W1.heap.size, 0, none⟩ = some (.int .i64 3) := by rw [hX2]; go_simp
  have l2 : W1.heap.size < X2.heap.size := by rw [hX2]; simp
  have C2 : Hid (Below U.heap.size U X2) := bstep D1.out b2a
  have hc := someIs_any X2 a n cap W1.heap.size w.heap.size 3 zs HN.out (HS.out.later C2.out) g2 l2 ((C2.out.cell (p := ⟨w.heap.size, 0, none⟩) HQ.out.2).trans HQ.out.1)
  clear hX2 b2a g2 l2
  go_wp2_with fail
  refine hc.mono ?_
  clear hc
  rintro e W2 ⟨rfl, b2⟩
  have D2 : Hid (Below U.heap.size U W2) := bstep C2.out b2
  clear b2 C2
  cases h3 : (zs.any fun z => z == 3) with
  | false =>
    have HA : Hid (decB zs = false) := by unfold Hid; rw [HDV.out, h3]; rfl
    clear h3 HDV
    go_wp2
    go_ret
    exact ⟨by rw [HA.out]; rfl, bstep BU.out D2.out⟩
  | true =>
  rw [h3] at HDV
  clear h3
  go_wp2_with fail
  refine (makeBe_any W2 2).mono ?_
  rintro e X3 ⟨rfl, hX3⟩
  have b3a : Below W2.heap.size W2 X3 := by rw [hX3]; exact (Below.refl _ _).alloc (Nat.le_refl _) _
  have g3 : X3.cell? ⟨W2.heap.size, 0, none⟩ = some (.int .i64 2) := by rw [hX3]; go_simp
  have l3 : W2.heap.size < X3.heap.size := by rw [hX3]; simp
  have C3 : Hid (Below U.heap.size U X3) := bstep D2.out b3a
  have hc := someBe_any X3 a n cap W2.heap.size w.heap.size 2 zs HN.out (HS.out.later C3.out) g3 l3 ((C3.out.cell (p := ⟨w.heap.size, 0, none⟩) HQ.out.2).trans HQ.out.1)
  clear hX3 b3a g3 l3
  go_wp2_with fail
  refine hc.mono ?_
  clear hc
  rintro e W3 ⟨rfl, b3⟩
  have D3 : Hid (Below U.heap.size U W3) := bstep C3.out b3
  clear b3 C3
  cases h2 : (zs.any fun z => decide (z < 2)) with
  | true =>
    have HA : Hid (decB zs = false) := by unfold Hid; rw [HDV.out, h2]; rfl
    clear h2 HDV
    go_wp2
    go_ret
    exact ⟨by rw [HA.out]; rfl, bstep BU.out D3.out⟩
  | false =>
    have HA : Hid (decB zs = true) := by unfold Hid; rw [HDV.out, h2]; rfl
    clear h2 HDV
    go_wp2
    go_ret
    exact ⟨by rw [HA.out]; rfl, bstep BU.out D3.out⟩
end Go.Proofs.Yteiofebmgilclaa
