/- What the program's Remap answers at every two rows. -/
import Derived.Test.YtgohihcpmjfhdaaRows
import Derived.Test.YtgohihcpmjfhdaaRemapO
import Derived.Test.YtgohihcpmjfhdaaPlacesI
import Derived.Test.YtgohihcpmjfhdaaPlsQ
import Derived.Test.YtgohihcpmjfhdaaPlsL2
import Derived.Test.YtgohihcpmjfhdaaRemapS2
import Derived.WalkKit
import Derived.WalkSpells
import Derived.WalkLawsBesides
import Derived.Below
namespace Go.Proofs.Ytgohihcpmjfhdaa
open Go.RowKit
/-- Between two rounds: the rows that are done, and the regions that are lost. -/
structure RI (w W : World) (al : List Bool) (zss : List (List Int)) (M n : Nat) (vl : Value) (g : Nat → Nat) (j : Nat) : Prop where
  own : OwnP W w.heap.size M j (remapN al zss j) g
  room : Room W M n
  lost : ON W (M + 1) vl (lostN al zss j)
  ap : ∀ i, i < j → vl.ownBlock ≠ some (g i)
  lt : M < W.heap.size
  low : w.heap.size ≤ M
  bel : Below w.heap.size w W
theorem RI.later {w W V : World} {al : List Bool} {zss : List (List Int)} {M n : Nat} {vl : Value} {g : Nat → Nat} {j : Nat} (h : RI w W al zss M n vl g j) (hb : Below W.heap.size W V) : RI w V al zss M n vl g j :=
  ⟨h.own.later hb h.lt, h.room.below hb h.lt, h.lost.below hb, h.ap, Nat.lt_of_lt_of_le h.lt hb.size, h.low, h.bel.trans (hb.mono h.bel.size)⟩
theorem RI.next {w V : World} {al : List Bool} {zss : List (List Int)} {M n : Nat} {vl : Value} {g : Nat → Nat} {j q cp : Nat} {row : List Int} (hrow : rowR al (atP zss j) = row) (own : OwnP V w.heap.size M j (remapN al zss j) g) (room : Room V M n) (lost : ON V (M + 1) vl (lostN al zss (j + 1)))
    (ap : ∀ i, i < j → vl.ownBlock ≠ some (g i)) (lt : M < V.heap.size) (low : w.heap.size ≤ M) (bel : Below w.heap.size w V) (hj : j < n) (hq : w.heap.size ≤ q) (hql : q < V.heap.size) (hqM : q ≠ M) (hqg : ∀ i, i < j → g i ≠ q) (hqv : vl.ownBlock ≠ some q) (hcp : row.length ≤ cp) (hn : NumsAt V q 0 row) (hr : Room V q row.length) :
    RI w (V.setCell ⟨M, j, none⟩ (.slice (some ⟨q, 0, none⟩) row.length cp)) al zss M n vl (fun i => if i = j then q else g i) (j + 1) := by
  have eb : ∀ k, k ≠ M → (V.setCell ⟨M, j, none⟩ (.slice (some ⟨q, 0, none⟩) row.length cp)).heap[k]? = V.heap[k]? := fun k hk => Below.heap_setCell _ _ _ _ (fun e => hk e)
  have ssz : (V.setCell ⟨M, j, none⟩ (.slice (some ⟨q, 0, none⟩) row.length cp)).heap.size = V.heap.size := by simp [World.setCell]
  obtain ⟨v, d, f⟩ := room j hj
  have hi : ∀ i zs, (remapN al zss j)[i]? = some zs → i < j := fun i zs e => by have := (List.getElem?_eq_some_iff.1 e).1; rw [remapN_len] at this; exact this
  have own2 : OwnP (V.setCell ⟨M, j, none⟩ (.slice (some ⟨q, 0, none⟩) row.length cp)) w.heap.size M j (remapN al zss j) g :=
    ⟨own.len, fun i zs e => by rw [cell_set_other (by have := hi i zs e; omega)]; exact own.cell i zs e, own.low, fun i h => by rw [ssz]; exact own.lt i h, own.ne, fun i zs e => (own.nums i zs e).of_block (eb _ (own.ne i (hi i zs e))), fun i zs e => (own.room i zs e).of_block (eb _ (own.ne i (hi i zs e))), own.inj⟩
  refine ⟨?_, room.set _, lost.kept fun k e => eb k (fun e' => by have := (World.ownsRow.lt lost k e).1; omega), fun i h => ?_, by rw [ssz]; exact lt, low, bel.setCell (p := ⟨M, j, none⟩) low _⟩
  · rw [remapN_succ, hrow]
    exact own2.snoc (cell_set_same d) hcp hq (by rw [ssz]; exact hql) hqM (hn.of_block (eb _ hqM)) (hr.of_block (eb _ hqM)) hqg
  · by_cases e : i = j
    · rw [if_pos e]; exact hqv
    · rw [if_neg e]; exact ap i (by omega)
/-- What Remap leaves. -/
def RemapPostI (w : World) (zss : List (List Int)) (al : List Bool) (e : Ending) (w' : World) : Prop :=
  ∃ a cp g a2 cq, e = .returned (.tuple #[.slice a (remapL zss al).length cp, .slice a2 (lostL zss al).length cq]) ∧ OwnQ w' w.heap.size a (remapL zss al).length (remapL zss al) g
    ∧ ON w' w.heap.size (.slice a2 (lostL zss al).length cq) (lostL zss al) ∧ (∀ x, a2 = some x → a ≠ some ⟨x.block, 0, none⟩ ∧ ∀ i, i < (remapL zss al).length → g i ≠ x.block) ∧ Below w.heap.size w w'
set_option maxHeartbeats 2000000 in
theorem implRemap_out (w : World) (a : Option Addr) (n cap : Nat) (zss : List (List Int)) (a' : Option Addr) (n' cap' : Nat) (al : List Bool) (hn : n ≤ maxLen) (hs : SlP w w.heap.size a n zss) (hl : al.length = n') (hbad : remapB zss al = false) :
    Calls Try.prog 11 #[.slice a n cap, .slice a' n' cap'] w fun e w' => RemapPostI w zss al e w' := by
  have hR : remapL zss al = [] := by simp [remapL, hbad]
  have hL : lostL zss al = [] := by simp [lostL, hbad]
  unfold RemapPostI
  rw [hR, hL]
  have hok := implPlacesOk_any w a n cap zss hn hs
  clear hs hR hL
  cases hp : placesB zss with
  | false =>
    rw [hp] at hok
    go_enter Try.func11, Try.ntmps11
    go_wp2_with fail
    refine hok.mono ?_
    clear hok
    rintro e w1 ⟨rfl, b1⟩
    go_wp2
    refine bodyPost_ret (v := .tuple #[.slice none 0 0, .slice none 0 0]) (by simp [results, Try.results11, go_sem]) rfl ?_
    exact ⟨none, 0, fun _ => 0, none, 0, rfl, .inl ⟨rfl, rfl, rfl⟩, ON.nil _ _, (fun x e => by cases e), b1⟩
  | true =>
    rw [hp] at hok
    have hd8 : decide ((8 : Int) < (n' : Int)) = true := by
      simp only [remapB, hp, Bool.true_and, decide_eq_false_iff_not] at hbad
      simp; omega
    go_enter Try.func11, Try.ntmps11
    go_wp2_with fail
    refine hok.mono ?_
    clear hok
    rintro e w1 ⟨rfl, b1⟩
    go_wp2
    refine bodyPost_ret (v := .tuple #[.slice none 0 0, .slice none 0 0]) (by simp [results, Try.results11, go_sem]) rfl ?_
    exact ⟨none, 0, fun _ => 0, none, 0, rfl, .inl ⟨rfl, rfl, rfl⟩, ON.nil _ _, (fun x e => by cases e), b1⟩
theorem places_in {zss : List (List Int)} (h : placesB zss = true) : zss.length ≤ 6 ∧ ∀ i, i < zss.length → placeB (atP zss i) = true := by
  simp only [placesB, Bool.and_eq_true, decide_eq_true_eq] at h
  exact ⟨h.1.2, fun i hi => List.all_eq_true.1 h.2 i (List.mem_range.2 hi)⟩
set_option maxRecDepth 100000 in
set_option maxHeartbeats 4000000 in
theorem implRemap_in (w : World) (a : Option Addr) (n cap : Nat) (zss : List (List Int)) (a' : Option Addr) (n' cap' : Nat) (al : List Bool) (hn : n ≤ maxLen) (hs : SlP w w.heap.size a n zss) (hs' : SlB w w.heap.size a' n' al) (hp : placesB zss = true) (h8 : n' ≤ 8) :
    Calls Try.prog 11 #[.slice a n cap, .slice a' n' cap'] w fun e w' => ∃ M g a2 cq, e = .returned (.tuple #[.slice (some ⟨M, 0, none⟩) n n, .slice a2 (lostN al zss n).length cq]) ∧ RI w w' al zss M n (.slice a2 (lostN al zss n).length cq) g n := by
  have hok := implPlacesOk_any w a n cap zss hn hs
  rw [hp] at hok
  obtain ⟨p6, pin⟩ := places_in hp
  have hx := hs.1
  have hmk := fun W => make_places n (by omega) W
  have hd8 : decide ((8 : Int) < (n' : Int)) = false := by simp; omega
  have HS : Hid (SlP w w.heap.size a n zss ∧ SlB w w.heap.size a' n' al ∧ ∀ i, i < n → placeB (atP zss i) = true) := ⟨hs, hs', fun i hi => pin i (by omega)⟩
  clear hs hs' hp pin
  unfold maxLen at hn
  go_enter Try.func11, Try.ntmps11
  go_wp2_with fail
  refine hok.mono ?_
  clear hok
  rintro e w1 ⟨rfl, b1⟩
  have B1 : Hid (Below w.heap.size w w1) := b1
  clear b1
  go_wp2
  clear hmk
  go_loopw [7, 25] (fun v7 v25 wr => ∃ (j : Nat) (g : Nat → Nat), j ≤ n ∧ v25 = .int .i64 j ∧ RI w wr al zss w1.heap.size n v7 g j) (fun _ v25 _ => n - (intOf v25).toNat)
  case atStart =>
    refine ⟨0, fun _ => 0, Nat.zero_le _, rfl, ⟨OwnP.nil _ _ _ _, room_made _ _ _ _, ON.nil _ _, fun i h => by omega, by simp, B1.out.size, B1.out.alloc B1.out.size _⟩⟩
  case round =>
    obtain ⟨j, g, hj, rfl, hri⟩ := hrel
    by_cases hlt : j < n
    · have hlt' : (j : Int) < (n : Int) := by omega
      obtain ⟨⟨_, hsp⟩, hsb, hpl⟩ := HS.out
      rcases hsp with h0 | ⟨b, off, rfl, hb, h1⟩
      · omega
      · obtain ⟨ar, capr, hc, ⟨_, hsn⟩, hcp⟩ := h1 j _ (atP_of (by omega))
        obtain ⟨z1, z3, _⟩ := place_in (hpl j hlt)
        rcases hsn with hsn | ⟨br, offr, rfl, hbr, hnr⟩
        · omega
        · have c1 := (hri.bel.cell (p := ⟨b, off + j, none⟩) hb).trans hc
          have bA : Below wr.heap.size wr (wr.alloc (.cells #[.slice (some ⟨br, offr, none⟩) (atP zss j).length capr] 40)) := (Below.refl _ _).alloc (Nat.le_refl _) _
          have bwA := hri.bel.trans (bA.mono hri.bel.size)
          have hone := remapOne_any (wr.alloc (.cells #[.slice (some ⟨br, offr, none⟩) (atP zss j).length capr] 40)) br offr capr (atP zss j) a' n' cap' al (Nat.lt_of_lt_of_le hbr bwA.size) (hnr.below bwA hbr) (hpl j hlt) ((hsb.below bwA).mono bwA.size) h8
          have KR : Hid (RI w wr al zss w1.heap.size n u7 g j ∧ Below wr.heap.size wr (wr.alloc (.cells #[.slice (some ⟨br, offr, none⟩) (atP zss j).length capr] 40))) := ⟨hri, bA⟩
          have HLS : Hid (lostN al zss (j + 1) = if keepL al (atP zss j) = [] then lostN al zss j ++ [(j : Int)] else lostN al zss j) := lostN_succ al zss j
          clear hri bA bwA hc hnr h1 hsb hpl
          obtain ⟨row, hrow⟩ : ∃ row, rowR al (atP zss j) = row := ⟨_, rfl⟩
          unfold RowPost at hone
          rw [hrow] at hone
          have HROW : Hid (rowR al (atP zss j) = row) := hrow
          have hll : (lostN al zss j).length ≤ 6 := Nat.le_trans (lostN_len al zss j) (by omega)
          clear hrow
          cases hke : (keepL al (atP zss j)).isEmpty with
          | false =>
            rw [hke] at hone
            go_wp2_with fail
            refine hone.mono ?_
            clear hone
            rintro e W2 ⟨q, cp, rfl, q1, q2, q3, q4, q5, b2⟩
            have K2 : Hid (wr.heap.size + 1 ≤ q ∧ q < W2.heap.size ∧ row.length ≤ cp ∧ NumsAt W2 q 0 row ∧ Room W2 q row.length ∧ Below wr.heap.size wr W2) := ⟨by simpa using q1, q2, q3, q4, q5, KR.out.2.trans (b2.mono KR.out.2.size)⟩
            clear q1 q2 q3 q4 q5 b2
            have rm := (KR.out.1.later K2.out.2.2.2.2.2).room
            obtain ⟨v0, d0, f0⟩ := rm j hlt
            have mlt := (KR.out.1.later K2.out.2.2.2.2.2).lt
            clear rm
            go_wp2
            have hne : keepL al (atP zss j) ≠ [] := fun e => by rw [e] at hke; cases hke
            obtain ⟨q1, q2, q3, q4, q5, bz⟩ := K2.out
            have hri := KR.out.1
            have hr2 := hri.later bz
            have hls : lostN al zss (j + 1) = lostN al zss j := by rw [HLS.out, if_neg hne]
            have hnx := RI.next (w := w) (V := W2) HROW.out hr2.own hr2.room (by rw [hls]; exact hr2.lost) hr2.ap hr2.lt hr2.low hr2.bel hlt (by have := hri.bel.size; omega) q2 (by have := hri.lt; omega) (fun i hi e => by have := hri.own.lt i hi; omega) (fun e => by have := (World.ownsRow.lt hri.lost q e).2; omega) q3 q4 q5
            exact ⟨⟨j + 1, _, by omega, by simp, hnx.later ((Below.refl _ _).alloc (Nat.le_refl _) _)⟩, by simp [intOf]; omega⟩
          | true =>
            rw [hke] at hone
            go_wp2_with fail
            refine hone.mono ?_
            clear hone
            rintro e W2 ⟨q, cp, rfl, q1, q2, q3, q4, q5, b2⟩
            have K2 : Hid (wr.heap.size + 1 ≤ q ∧ q < W2.heap.size ∧ row.length ≤ cp ∧ NumsAt W2 q 0 row ∧ Room W2 q row.length ∧ Below wr.heap.size wr W2) := ⟨by simpa using q1, q2, q3, q4, q5, KR.out.2.trans (b2.mono KR.out.2.size)⟩
            clear q1 q2 q3 q4 q5 b2
            have hr2 := KR.out.1.later K2.out.2.2.2.2.2
            have b0 : Below W2.heap.size W2 (W2.alloc (.cells #[.slice (some ⟨q, 0, none⟩) row.length cp] 40)) := (Below.refl _ _).alloc (Nat.le_refl _) _
            have s0 : (W2.alloc (.cells #[.slice (some ⟨q, 0, none⟩) row.length cp] 40)).heap.size = W2.heap.size + 1 := by simp
            have bA : Below W2.heap.size W2 ((W2.alloc (.cells #[.slice (some ⟨q, 0, none⟩) row.length cp] 40)).alloc (.cells #[.int .i64 (j : Int)] 2)) := b0.alloc b0.size _
            have sA : ((W2.alloc (.cells #[.slice (some ⟨q, 0, none⟩) row.length cp] 40)).alloc (.cells #[.int .i64 (j : Int)] 2)).heap.size = W2.heap.size + 2 := by simp
            have hrA := hr2.later bA
            have cz : NumsAt ((W2.alloc (.cells #[.slice (some ⟨q, 0, none⟩) row.length cp] 40)).alloc (.cells #[.int .i64 (j : Int)] 2)) (W2.heap.size + 1) 0 [(j : Int)] := fun i x e => by
              obtain ⟨rfl, rfl⟩ : i = 0 ∧ x = (j : Int) := by
                cases i with
                | zero => simp at e; exact ⟨rfl, e.symm⟩
                | succ i => simp at e
              go_simp
            obtain ⟨v', W', hr, ho, hg, hl⟩ := on_append _ (w1.heap.size + 1) u7 (lostN al zss j) [(j : Int)] (W2.heap.size + 1) 0 1 28 hrA.lost cz (by simp; omega) (by have := hr2.lt; omega)
            have ow : ∀ k, u7.ownBlock = some k → w1.heap.size + 1 ≤ k ∧ k < wr.heap.size := fun k e => World.ownsRow.lt KR.out.1.lost k e
            have far : ∀ k, k < W2.heap.size → u7.ownBlock ≠ some k → W'.heap[k]? = W2.heap[k]? := fun k hk hv => (hg.block k (by omega) (fun e => hv e.symm)).trans (bA.block k hk)
            have mne : u7.ownBlock ≠ some w1.heap.size := fun e => by have := (ow _ e).1; omega
            have rm : Room W' w1.heap.size n := hr2.room.of_block (far _ hr2.lt mne)
            obtain ⟨v0, d0, f0⟩ := rm j hlt
            have c44 : W'.cell? ⟨W2.heap.size, 0, none⟩ = some (.slice (some ⟨q, 0, none⟩) row.length cp) := (hg.cell_far ⟨W2.heap.size, 0, none⟩ (by show W2.heap.size < _; omega) (fun e => by have h1 := (ow _ e.symm).2; have h2 := K2.out.2.2.2.2.2.size; simp at h1; omega)).trans (by go_simp)
            have K3 : Hid (ON W' (w1.heap.size + 1) v' (lostN al zss j ++ [(j : Int)]) ∧ (∀ k, k < W2.heap.size → u7.ownBlock ≠ some k → W'.heap[k]? = W2.heap[k]?) ∧ Room W' w1.heap.size n ∧ (v'.ownBlock = u7.ownBlock ∨ v'.ownBlock = some (W2.heap.size + 2)) ∧ W2.heap.size + 2 ≤ W'.heap.size ∧ Below w.heap.size w W') :=
              ⟨ho, far, rm, by rw [← sA]; exact hl, by rw [← sA]; exact hg.size, hrA.bel.grown hg hrA.bel.size (fun k e => by have := (ow k e).1; have := hr2.low; omega)⟩
            have mlt := hr2.lt
            clear ho far rm hl hg b0 s0 bA sA hrA cz ow mne hr2
            go_wp2_with (at_builtin; refine append_known _ rfl (.tmp 38) (.tmp 40) 28 rfl _ _ _ _ rfl rfl hr ?_)
            have hne : keepL al (atP zss j) = [] := by simpa using hke
            obtain ⟨q1, q2, q3, q4, q5, bz⟩ := K2.out
            obtain ⟨ho, far, rm, hl, hsz, hbel⟩ := K3.out
            have hri := KR.out.1
            have hr2 := hri.later bz
            have ow : ∀ k, u7.ownBlock = some k → w1.heap.size + 1 ≤ k ∧ k < wr.heap.size := fun k e => World.ownsRow.lt hri.lost k e
            have hls : lostN al zss (j + 1) = lostN al zss j ++ [(j : Int)] := by rw [HLS.out, if_pos hne]
            have nq : u7.ownBlock ≠ some q := fun e => by have := (ow q e).2; omega
            have own2 : OwnP W' w.heap.size w1.heap.size j (remapN al zss j) g := hr2.own.of_blocks (by omega) (far _ hr2.lt (fun e => by have := (ow _ e).1; omega)) (fun i hi => far _ (hr2.own.lt i hi) (hri.ap i hi))
            have nv : ∀ k, k < W2.heap.size → u7.ownBlock ≠ some k → v'.ownBlock ≠ some k := fun k hk hu e => by
              rcases hl with e' | e'
              · exact hu (by rw [← e', e])
              · rw [e'] at e; cases e; omega
            have hnx := RI.next (w := w) (V := W') HROW.out own2 rm (by rw [hls]; exact ho) (fun i hi => nv _ (hr2.own.lt i hi) (hri.ap i hi)) (by omega) hr2.low hbel hlt (by have := hri.bel.size; omega) (by omega) (by have := hri.lt; omega) (fun i hi e => by have := hri.own.lt i hi; omega) (nv q q2 nq) q3 (q4.of_block (far q q2 nq)) (q5.of_block (far q q2 nq))
            exact ⟨⟨j + 1, _, by omega, by simp, hnx⟩, by simp [intOf]; omega⟩
    · obtain rfl : n = j := by omega
      have hd : decide ((n : Int) < (n : Int)) = false := by simp
      obtain ⟨a2, cq, rfl⟩ : ∃ a2 cq, u7 = .slice a2 (lostN al zss n).length cq := by
        rcases hri.lost.form with ⟨rfl, e⟩ | ⟨q, cp, e, _⟩
        · exact ⟨none, 0, by rw [e]; rfl⟩
        · exact ⟨_, cp, e⟩
      have K0 : Hid (RI w wr al zss w1.heap.size n (.slice a2 (lostN al zss n).length cq) g n) := hri
      clear hri
      go_wp2
      refine bodyPost_ret (v := .tuple #[.slice (some ⟨w1.heap.size, 0, none⟩) n n, .slice a2 (lostN al zss n).length cq]) (by simp [results, Try.results11, go_sem]) rfl ?_
      exact ⟨_, g, a2, cq, rfl, K0.out⟩
/-- At every two rows. -/
theorem implRemap_any (w : World) (a : Option Addr) (n cap : Nat) (zss : List (List Int)) (a' : Option Addr) (n' cap' : Nat) (al : List Bool) (hn : n ≤ maxLen) (hs : SlP w w.heap.size a n zss) (hs' : SlB w w.heap.size a' n' al) :
    Calls Try.prog 11 #[.slice a n cap, .slice a' n' cap'] w fun e w' => RemapPostI w zss al e w' := by
  cases h : remapB zss al with
  | false => exact implRemap_out w a n cap zss a' n' cap' al hn hs hs'.1 h
  | true =>
    have hx := hs.1
    have h' := h
    simp only [remapB, Bool.and_eq_true, decide_eq_true_eq] at h'
    refine (implRemap_in w a n cap zss a' n' cap' al hn hs hs' h'.1 (by have := hs'.1; omega)).mono ?_
    have hR : remapL zss al = remapN al zss n := by simp [remapL, h, hx]
    have hL : lostL zss al = lostN al zss n := by simp [lostL, h, hx]
    rintro e w1 ⟨M, g, a2, cq, rfl, hri⟩
    unfold RemapPostI
    rw [hR, hL, remapN_len]
    refine ⟨_, n, g, a2, cq, rfl, .inr ⟨M, rfl, hri.low, hri.lt, hri.own⟩, hri.lost.lower (by have := hri.low; omega), fun x e => ?_, hri.bel⟩
    subst e
    have hlt := (World.ownsRow.lt hri.lost x.block rfl).1
    exact ⟨fun e => by cases x; cases e; simp only at hlt; omega, fun i hi e => hri.ap i hi (by rw [e]; rfl)⟩
end Go.Proofs.Ytgohihcpmjfhdaa
