/- CapT; SerS; KdC; CelD; FinS; Hd; PlacesRg; PlacesIp; CelS; AgrS; AgM; YNuD; YWanC; YWanA: joined. -/
import Derived.Test.YtdmpobegobfpjaaGreatRows
import Derived.Test.YtdmpobegobfpjaaGreatJ6ExactAgrees
import Derived.WalkKit
import Derived.WalkSpells
import Derived.WalkLawsBesides
import Derived.Below
import Derived.Test.YtdmpobegobfpjaaGreatJ9ExactAgrees
import Derived.Test.YtdmpobegobfpjaaGreatJ7ExactAgrees
import Derived.Lib.QuietBelow
import Derived.BigQuiet
import Derived.Deep.CutRange
import Derived.LaidEql
import Derived.RowKitTokens
import Derived.Test.YtdmpobegobfpjaaGreatJ3ExactAgrees
import Derived.Test.YtdmpobegobfpjaaGreatJ2ExactAgrees
import Derived.Test.YtdmpobegobfpjaaGreatJ5ExactAgrees
import Derived.Test.YtdmpobegobfpjaaGreatJ0ExactAgrees
import Derived.Test.YtdmpobegobfpjaaGreatJ1ExactAgrees
import Derived.Laws.StructEq
import Derived.Deep.RegionWith
import Derived.Deep.QuietTactic
import Derived.Lib.SliceRun
namespace Go.Proofs.YtdmpobegobfpjaaGreat
open Go.RowKit
theorem txs_atC {U : World} {a3 : Option Addr} {ts : List tx.T7} (h : KTkC.RdS U a3 ts) : ∃ tv : Nat → tx.TV, (ts = [] ∨ ∃ b off, a3 = some ⟨b, off, none⟩ ∧ b < U.heap.size ∧ AtX U b off ((List.range ts.length).map fun j => (tv j, atT ts j)) ∧ ∀ j, j < ts.length → tx.SlT U (tv j) (atT ts j)) ∧ ∀ j, j < ts.length → (atT ts j).sets.length ≤ (tv j).ch := by
  rcases h with rfl | ⟨b, off, rfl, hb, h⟩
  · exact ⟨fun _ => ⟨none, 0, none, 0⟩, .inl rfl, fun j hj => absurd hj (Nat.not_lt_zero j)⟩
  · have hc : ∀ j, ∃ v, j < ts.length → At U b (off + j * 7) (KTk.cells v (atT ts j)) ∧ tx.SlT U v (atT ts j) ∧ (atT ts j).sets.length ≤ v.ch := fun j => by
      by_cases hj : j < ts.length
      · obtain ⟨v, h1, h2, h3⟩ := h j _ (atT_of hj)
        exact ⟨v, fun _ => ⟨h1, h2, h3⟩⟩
      · exact ⟨⟨none, 0, none, 0⟩, fun h => absurd h hj⟩
    refine ⟨fun j => Classical.choose (hc j), .inr ⟨b, off, rfl, hb, fun i x hx t u hu => ?_, fun j hj => (Classical.choose_spec (hc j) hj).2.1⟩, fun j hj => (Classical.choose_spec (hc j) hj).2.2⟩
    rw [List.getElem?_map] at hx
    obtain ⟨j, hj, rfl⟩ := Option.map_eq_some_iff.1 hx
    have hjl : i < ts.length := by have := (List.getElem?_eq_some_iff.1 hj).1; simpa using this
    have hij : i = j := by rw [List.getElem?_range hjl] at hj; exact Option.some.inj hj
    subst hij
    exact (Classical.choose_spec (hc i) hjl).1 t u hu
end Go.Proofs.YtdmpobegobfpjaaGreat
namespace Go.Proofs.YtdmpobegobfpjaaGreat
open Go.RowKit
open Go.Sort (grow)
def serB (k : C6) : Bool := clusterB k && (rep0 k).2
set_option maxRecDepth 100000 in
set_option maxHeartbeats 4000000 in
theorem specSerial_any (w : World) (a1 : Option Addr) (c1 : Nat) (a2 : Option Addr) (c2 : Nat) (a3 : Option Addr) (c3 : Nat) (k : C6) (hl : KCl.L k) (h : KCl.Rd w a1 c1 a2 c2 a3 c3 k) (hcp : KTkC.RdS w a3 k.txs) :
    Calls Tryz.prog 16 #[.agg #[.int .i64 k.config, .int .i64 k.clock, .slice a1 k.places.length c1, .slice a2 k.machines.length c2, .slice a3 k.txs.length c3, .bool k.lost]] w fun e w' => e = .returned (.bool (serB k)) ∧ Below w.heap.size w w' := by
  obtain ⟨U, hU⟩ : ∃ Y, Y = w.alloc (.cells #[.int .i64 k.config, .int .i64 k.clock, .slice a1 k.places.length c1, .slice a2 k.machines.length c2, .slice a3 k.txs.length c3, .bool k.lost] 34) := ⟨_, rfl⟩
  have BU : Hid (Below w.heap.size w U) := by unfold Hid; rw [hU]; exact (Below.refl _ _).alloc (Nat.le_refl _) _
  have FA : Hid (Bx U w.heap.size [.int .i64 k.config, .int .i64 k.clock, .slice a1 k.places.length c1, .slice a2 k.machines.length c2, .slice a3 k.txs.length c3, .bool k.lost]) := by unfold Hid; rw [hU]; exact Bx.made w [.int .i64 k.config, .int .i64 k.clock, .slice a1 k.places.length c1, .slice a2 k.machines.length c2, .slice a3 k.txs.length c3, .bool k.lost] _
  have HR : Hid (KCl.Rd U a1 c1 a2 c2 a3 c3 k ∧ KCl.L k ∧ KTkC.RdS U a3 k.txs) := ⟨h.later BU.out, hl, hcp.later BU.out⟩
  have hc := specClusterOk_any U a1 c1 a2 c2 a3 c3 k hl HR.out.1
  clear h hl hcp
  go_enter Tryz.func16, Tryz.ntmps16
  go_wp2_with fail
  rw [← hU]
  clear hU
  refine hc.mono ?_
  clear hc
  rintro e W1 ⟨rfl, b1⟩
  have B1 : Hid (Below U.heap.size U W1) := b1
  clear b1
  cases hk : clusterB k with
  | false =>
    have HV : Hid (serB k = false) := by unfold Hid serB; rw [hk]; rfl
    clear hk
    go_wp2
    go_ret
    exact ⟨by rw [HV.out]; rfl, bstep BU.out B1.out⟩
  | true =>
  have HV : Hid (serB k = (rep0 k).2) := by unfold Hid serB; rw [hk]; rfl
  obtain ⟨tv, ht, hcp⟩ := txs_atC (HR.out.2.2.later B1.out)
  have hr := l13Replay_any W1 a1 c1 a2 c2 a3 c3 k tv hk HR.out.2.1 ht hcp
  have q0 := (FA.out.later B1.out).1 0 _ rfl
  have q1 := (FA.out.later B1.out).1 1 _ rfl
  have q2 := (FA.out.later B1.out).1 2 _ rfl
  have q3 := (FA.out.later B1.out).1 3 _ rfl
  have q4 := (FA.out.later B1.out).1 4 _ rfl
  have q5 := (FA.out.later B1.out).1 5 _ rfl
  clear ht hcp hk
  go_wp2_with fail
  refine hr.mono ?_
  clear hr q0 q1 q2 q3 q4 q5
  rintro e W2 ⟨v, gs, rfl, -, b2⟩
  have B2 : Hid (Below U.heap.size U W2) := bstep B1.out b2
  clear b2
  rw [← HV.out]
  go_wp2
  go_ret
  exact ⟨rfl, bstep BU.out B2.out⟩
def KC.Rd (X : World) (a : Option Addr) (_ : Nat) (xs : List C2) : Prop := SlC X X.heap.size a xs.length xs
theorem KC.Rd.later {X Y : World} {a : Option Addr} {c : Nat} {xs : List C2} (h : KC.Rd X a c xs) (b : Below X.heap.size X Y) : KC.Rd Y a c xs := SlC.later h b
def KC.Ow (w : World) (B : Nat) (a : Option Addr) (_ : Nat) (xs : List C2) (P : Nat → Prop) : Prop := (xs = [] ∨ ∃ q, a = some ⟨q, 0, none⟩ ∧ P q ∧ CellsAt w q 0 xs ∧ Room w q (xs.length * 2)) ∧ (∀ q, P q → B ≤ q ∧ q < w.heap.size)
theorem KC.Ow.of {w : World} {B : Nat} {a : Option Addr} {c : Nat} {xs : List C2} {P : Nat → Prop} (h : KC.Ow w B a c xs P) {q : Nat} (hq : P q) : B ≤ q ∧ q < w.heap.size := h.2 q hq
theorem KC.Ow.sl {w : World} {B : Nat} {a : Option Addr} {c : Nat} {xs : List C2} {P : Nat → Prop} (h : KC.Ow w B a c xs P) : KC.Rd w a c xs := by
  rcases h with ⟨rfl | ⟨q, rfl, hp, h1, h2⟩, hb⟩
  · exact ⟨rfl, .inl rfl⟩
  · exact ⟨rfl, .inr ⟨q, 0, rfl, (hb q hp).2, h1⟩⟩
theorem KC.Ow.keep {w : World} {B : Nat} {a : Option Addr} {c : Nat} {xs : List C2} {P : Nat → Prop} {w' : World} (h : KC.Ow w B a c xs P) (hs : w.heap.size ≤ w'.heap.size) (hk : ∀ q, P q → w'.heap[q]? = w.heap[q]?) : KC.Ow w' B a c xs P := by
  rcases h with ⟨h | ⟨q, e, hp, h1, h2⟩, hb⟩
  · exact ⟨.inl h, fun q hq => ⟨(hb q hq).1, Nat.lt_of_lt_of_le (hb q hq).2 hs⟩⟩
  · exact ⟨.inr ⟨q, e, hp, h1.of_block (hk q hp), room_blk h2 (hk q hp)⟩, fun q hq => ⟨(hb q hq).1, Nat.lt_of_lt_of_le (hb q hq).2 hs⟩⟩
theorem KC.Ow.later {w : World} {B : Nat} {a : Option Addr} {c : Nat} {xs : List C2} {P : Nat → Prop} {w' : World} (h : KC.Ow w B a c xs P) (hb : Below w.heap.size w w') : KC.Ow w' B a c xs P := h.keep hb.size (fun q hq => hb.block q (h.of hq).2)
theorem KC.Ow.low {w : World} {B : Nat} {a : Option Addr} {c : Nat} {xs : List C2} {P : Nat → Prop} {B' : Nat} (h : KC.Ow w B a c xs P) (hb : B' ≤ B) : KC.Ow w B' a c xs P := ⟨h.1, fun q hq => ⟨Nat.le_trans hb (h.2 q hq).1, (h.2 q hq).2⟩⟩
theorem KC.eq (X : World) (a : Option Addr) (c : Nat) (a' : Option Addr) (c' : Nat) (xs : List C2) (ht : xs.length ≤ 1048576) (h1 : KC.Rd X a c xs) (h2 : KC.Rd X a' c' xs) : Calls Tryz.prog 20 #[.slice a xs.length c, .slice a' xs.length c'] X fun e w' => e = .returned (.bool true) ∧ Below X.heap.size X w' := eqCellS_any X a a' xs.length c c' xs (by unfold maxLen; omega) h1 h2
theorem KC.held (X : World) (a : Option Addr) (c : Nat) (xs : List C2) (k : Int) (hk : 0 ≤ k) (hk' : k ≤ 1000000000) (ht : xs.length ≤ 1048576) (h : KC.Rd X a c (mkCells k xs.length)) : Calls Tryz.prog 22 #[.slice a xs.length c, .int .i64 k] X fun r w' => r = .returned (.int .i64 (k + 2 * (xs.length : Int))) ∧ Below X.heap.size X w' := by
  unfold KC.Rd at h
  rw [mkCells_len] at h
  refine (heldCellS_k X a xs.length c k ht hk hk' h).mono ?_
  rintro e w' ⟨rfl, rfl⟩
  exact ⟨rfl, Below.refl _ _⟩
def priM (k : C6) (i : Nat) : M4 := atM k.machines (atN (atP k.places i) 0).toNat
noncomputable def celO (k : C6) (y : Int) : Option (List C2) := if clusterB k = true ∧ 0 ≤ y ∧ y < (k.places.length : Int) ∧ (priM k y.toNat).alive = true then some (atK (priM k y.toNat).copies (idxC (priM k y.toNat) y).toNat).cells else none
noncomputable def celN (k : C6) (y : Int) : List C2 := (celO k y).getD []
noncomputable def celB (k : C6) (y : Int) : Bool := (celO k y).isSome
theorem cel_no {k : C6} {y : Int} (h : ¬ (clusterB k = true ∧ 0 ≤ y ∧ y < (k.places.length : Int) ∧ (priM k y.toNat).alive = true)) : celN k y = [] ∧ celB k y = false := ⟨by simp [celN, celO, h], by simp [celB, celO, h]⟩
theorem cel_yes {k : C6} {i : Nat} {j : Nat} (h1 : clusterB k = true) (h2 : i < k.places.length) (h3 : (priM k i).alive = true) (h4 : idxC (priM k i) (i : Int) = (j : Int)) : celN k (i : Int) = (atK (priM k i).copies j).cells ∧ celB k (i : Int) = true := by
  have h : clusterB k = true ∧ 0 ≤ (i : Int) ∧ (i : Int) < (k.places.length : Int) ∧ (priM k (i : Int).toNat).alive = true := ⟨h1, by omega, by omega, h3⟩
  have e : celO k (i : Int) = some (atK (priM k i).copies j).cells := by
    unfold celO
    rw [if_pos h]
    simp only [Int.toNat_natCast]
    rw [h4]
    rfl
  exact ⟨by rw [celN, e]; rfl, by rw [celB, e]; rfl⟩
theorem clu_pri {k : C6} (h : clusterB k = true) {i : Nat} (hi : i < k.places.length) : ∃ z : Nat, atN (atP k.places i) 0 = (z : Int) ∧ z < k.machines.length ∧ 0 < (atP k.places i).length ∧ priM k i = atM k.machines z ∧ machB (atM k.machines z) = true ∧ ((atM k.machines z).alive = true → hasC (atM k.machines z) (i : Int) = true) := by
  rw [clusterB_eq] at h
  simp only [Bool.and_eq_true, decide_eq_true_eq] at h
  obtain ⟨_, _, ⟨⟨_, _⟩, hm⟩, hp, hpl, _⟩ := h
  have hlen : 1 ≤ (atP k.places i).length := by
    have hp' := hp
    simp only [placesB, Bool.and_eq_true] at hp'
    have h1 := List.all_eq_true.1 hp'.2 i (List.mem_range.2 hi)
    simp only [placeB, Bool.and_eq_true, decide_eq_true_eq] at h1
    omega
  have hz := places_z hp hi (j := 0) (by omega)
  have hs := List.all_eq_true.1 (List.all_eq_true.1 hpl i (List.mem_range.2 hi)) 0 (List.mem_range.2 (by omega))
  obtain ⟨z, hz'⟩ : ∃ z : Nat, atN (atP k.places i) 0 = (z : Int) := ⟨_, (Int.toNat_of_nonneg hz.1).symm⟩
  simp only [servB, hz', Bool.and_eq_true, decide_eq_true_eq, Int.toNat_natCast] at hs
  have hzl : z < k.machines.length := by omega
  exact ⟨z, hz', hzl, by omega, by rw [priM, hz']; rfl, List.all_eq_true.1 hm z (List.mem_range.2 hzl), fun ha => by have := hs.2; rw [ha] at this; simpa using this⟩
def CAns (w : World) (N : List C2) (o : Bool) (e : Ending) (w' : World) : Prop := ∃ (a : Option Addr) (c : Nat) (P : Nat → Prop), e = .returned (.tuple #[.slice a N.length c, .bool o]) ∧ KC.Ow w' w.heap.size a c N P ∧ Below w.heap.size w w'
theorem CAns.zero {w w' : World} {k : C6} {y : Int} (hn : celN k y = [] ∧ celB k y = false) (a : Option Addr) (c : Nat) (h : Below w.heap.size w w') : CAns w (celN k y) (celB k y) (.returned (.tuple #[.slice a 0 c, .bool false])) w' := by
  rw [hn.1, hn.2]
  exact ⟨a, c, fun _ => False, rfl, ⟨.inl rfl, fun _ h => h.elim⟩, h⟩
theorem CAns.some {w w' : World} {k : C6} {y : Int} {xs : List C2} (hn : celN k y = xs ∧ celB k y = true) {q c : Nat} (h1 : w.heap.size ≤ q) (h2 : q < w'.heap.size) (h3 : CellsAt w' q 0 xs) (h4 : Room w' q (xs.length * 2)) (h : Below w.heap.size w w') : CAns w (celN k y) (celB k y) (.returned (.tuple #[.slice (some ⟨q, 0, none⟩) xs.length c, .bool true])) w' := by
  rw [hn.1, hn.2]
  exact ⟨_, c, fun x => x = q, rfl, ⟨.inr ⟨q, rfl, rfl, h3, h4⟩, fun x hx => by subst hx; exact ⟨h1, h2⟩⟩, h⟩
def finB (k : C6) (y : Int) : Bool := serB k && inB 0 ((k.places.length : Int) - 1) y
def finL (k : C6) (y : Int) : List C2 := if finB k y = true then (rep0 k).1[y.toNat]?.getD [] else []
theorem foldA_len (ss : List S5) : ∀ css : List (List C2), (ss.foldl insA css).length = css.length := by
  induction ss with
  | nil => intro css; rfl
  | cons s ss ih => intro css; rw [List.foldl_cons, ih, insA_len]
theorem repl_len (k : C6) : ∀ (js : List Nat) (css : List (List C2)), (repl k css js).1.length = css.length := by
  intro js
  induction js with
  | nil => intro css; rfl
  | cons j js ih =>
    intro css
    rw [repl]
    split
    · rw [ih, foldA_len]
    · rfl
theorem rep0_len (k : C6) : (rep0 k).1.length = k.places.length := by rw [rep0, repl_len, List.length_replicate]
end Go.Proofs.YtdmpobegobfpjaaGreat
namespace Go.Proofs.YtdmpobegobfpjaaGreat
open Go.RowKit
set_option maxHeartbeats 400000 in
theorem implLocked_yes (h : Int) (w : World) (h1 : 0 ≤ h) (h2 : h ≤ 4000003) :
    Calls Tryz.prog 90 #[.int .i64 h] w fun e w' => e = .returned (.bool (lockedB h)) ∧ w' = w := by
  · have b1 := and_1 h h1 h2
    go_enter Tryz.func90, Tryz.ntmps90
    go_wp2
    go_ret
    exact ⟨ret_eqb (locked_ne h), rfl⟩
set_option maxHeartbeats 400000 in
theorem implLocked_no (h : Int) (w : World) (hh : h < 0 ∨ 4000003 < h) :
    Calls Tryz.prog 90 #[.int .i64 h] w fun e w' => e = .returned (.bool false) ∧ w' = w := by
  rcases hh with hh | hh
  · have d : decide (0 ≤ h) = false := by simp; omega
    go_enter Tryz.func90, Tryz.ntmps90
    go_wp2
    go_ret
    exact ⟨rfl, rfl⟩
  · have d : decide (h ≤ 4000003) = false := by simp; omega
    go_enter Tryz.func90, Tryz.ntmps90
    go_wp2
    go_ret
    exact ⟨rfl, rfl⟩
set_option maxHeartbeats 400000 in
theorem specLocked_yes (h : Int) (w : World) (h1 : 0 ≤ h) (h2 : h ≤ 4000003) :
    Calls Tryz.prog 47 #[.int .i64 h] w fun e w' => e = .returned (.bool (lockedB h)) ∧ w' = w := by
  · go_enter Tryz.func47, Tryz.ntmps47
    go_wp2
    go_ret
    exact ⟨rfl, rfl⟩
set_option maxHeartbeats 400000 in
theorem specLocked_no (h : Int) (w : World) (hh : h < 0 ∨ 4000003 < h) :
    Calls Tryz.prog 47 #[.int .i64 h] w fun e w' => e = .returned (.bool false) ∧ w' = w := by
  rcases hh with hh | hh
  · have d : decide (0 ≤ h) = false := by simp; omega
    go_enter Tryz.func47, Tryz.ntmps47
    go_wp2
    go_ret
    exact ⟨rfl, rfl⟩
  · have d : decide (h ≤ 4000003) = false := by simp; omega
    go_enter Tryz.func47, Tryz.ntmps47
    go_wp2
    go_ret
    exact ⟨rfl, rfl⟩
theorem implLocked_any (h : Int) (w : World) : Calls Tryz.prog 90 #[.int .i64 h] w fun e w' => e = .returned (.bool (inB 0 4000003 h && lockedB h)) ∧ w' = w := by
  by_cases hh : 0 ≤ h ∧ h ≤ 4000003
  · rw [inB_yes hh.1 hh.2, Bool.true_and]; exact implLocked_yes h w hh.1 hh.2
  · have e : inB 0 4000003 h = false := by simp [inB]; omega
    rw [e, Bool.false_and]; exact implLocked_no h w (by omega)
theorem specLocked_any (h : Int) (w : World) : Calls Tryz.prog 47 #[.int .i64 h] w fun e w' => e = .returned (.bool (inB 0 4000003 h && lockedB h)) ∧ w' = w := by
  by_cases hh : 0 ≤ h ∧ h ≤ 4000003
  · rw [inB_yes hh.1 hh.2, Bool.true_and]; exact specLocked_yes h w hh.1 hh.2
  · have e : inB 0 4000003 h = false := by simp [inB]; omega
    rw [e, Bool.false_and]; exact specLocked_no h w (by omega)
def regionB (zss : List (List Int)) (r : Int) : Bool := placesB zss && inB 0 ((zss.length : Int) - 1) r
def primR (zss : List (List Int)) (r : Int) : Int := if regionB zss r = true then atN (atP zss r.toNat) 0 else -1
def backL (zss : List (List Int)) (r : Int) : List Int := if regionB zss r = true then (atP zss r.toNat).drop 1 else []
theorem region_bd {zss : List (List Int)} {r : Int} (h : regionB zss r = true) : ∃ i : Nat, r = (i : Int) ∧ i < zss.length ∧ 1 ≤ (atP zss i).length ∧ (atP zss i).length ≤ 3 := by
  simp only [regionB, Bool.and_eq_true, inB_iff] at h
  obtain ⟨i, rfl⟩ := Int.eq_ofNat_of_zero_le h.2.1
  have hi : i < zss.length := by omega
  have hp := h.1
  simp only [placesB, Bool.and_eq_true] at hp
  have := List.all_eq_true.1 hp.2 i (List.mem_range.2 hi)
  simp only [placeB, Bool.and_eq_true, decide_eq_true_eq] at this
  exact ⟨i, rfl, hi, this.1.1, this.1.2⟩
set_option maxHeartbeats 1000000 in
theorem hasPlace_any (w : World) (a : Option Addr) (n cap : Nat) (r : Int) (zss : List (List Int)) (hn : n ≤ maxLen) (hs : SlP w w.heap.size a n zss) :
    Calls Tryz.prog 44 #[.slice a n cap, .int .i64 r] w fun e w' => e = .returned (.bool (regionB zss r)) ∧ Below w.heap.size w w' := by
  have hx := hs.1
  have hc := implPlacesOk_any w a n cap zss hn hs
  unfold maxLen at hn
  clear hs
  cases hp : placesB zss with
  | false =>
    rw [hp] at hc
    have hV : regionB zss r = false := by simp [regionB, hp]
    rw [hV]
    go_enter Tryz.func44, Tryz.ntmps44
    go_wp2_with fail
    refine hc.mono ?_
    clear hc
    rintro e w1 ⟨rfl, b1⟩
    go_wp2
    go_ret
    exact ⟨rfl, b1⟩
  | true =>
    rw [hp] at hc
    have hV : regionB zss r = inB 0 ((n : Int) - 1) r := by simp [regionB, hp, hx]
    rw [hV]
    by_cases h0 : 0 ≤ r
    · by_cases h8 : r < (n : Int)
      · rw [inB_yes (by omega) (by omega)]
        go_enter Tryz.func44, Tryz.ntmps44
        go_wp2_with fail
        refine hc.mono ?_
        clear hc
        rintro e w1 ⟨rfl, b1⟩
        go_wp2
        go_ret
        exact ⟨rfl, b1⟩
      · have hd : decide (r < (n : Int)) = false := by simp; omega
        have hb : inB 0 ((n : Int) - 1) r = false := by cases h : inB 0 ((n : Int) - 1) r with | false => rfl | true => rw [inB_iff] at h; omega
        rw [hb]
        go_enter Tryz.func44, Tryz.ntmps44
        go_wp2_with fail
        refine hc.mono ?_
        clear hc
        rintro e w1 ⟨rfl, b1⟩
        go_wp2
        go_ret
        exact ⟨rfl, b1⟩
    · have hd : decide (0 ≤ r) = false := by simp; omega
      have hb : inB 0 ((n : Int) - 1) r = false := by cases h : inB 0 ((n : Int) - 1) r with | false => rfl | true => rw [inB_iff] at h; omega
      rw [hb]
      go_enter Tryz.func44, Tryz.ntmps44
      go_wp2_with fail
      refine hc.mono ?_
      clear hc
      rintro e w1 ⟨rfl, b1⟩
      go_wp2
      go_ret
      exact ⟨rfl, b1⟩
set_option maxHeartbeats 1000000 in
theorem implPrimary_any (w : World) (a : Option Addr) (n cap : Nat) (r : Int) (zss : List (List Int)) (hn : n ≤ maxLen) (hs : SlP w w.heap.size a n zss) :
    Calls Tryz.prog 89 #[.slice a n cap, .int .i64 r] w fun e w' => e = .returned (.int .i64 (primR zss r)) ∧ Below w.heap.size w w' := by
  go_enter Tryz.func89, Tryz.ntmps89
  go_wp2_with fail
  refine (hasPlace_any w a n cap r zss hn hs).mono ?_
  cases hp : regionB zss r with
  | false =>
    rintro e w1 ⟨rfl, b1⟩
    go_wp2
    go_ret
    exact ⟨by simp [primR, hp], b1⟩
  | true =>
    obtain ⟨i, rfl, hi, l1, l2⟩ := region_bd hp
    rintro e w1 ⟨rfl, b1⟩
    obtain ⟨hx, hs⟩ := hs
    unfold maxLen at hn
    rcases hs with hs | ⟨b, off, rfl, hb, h1⟩
    · omega
    · obtain ⟨a', cap', hc, ⟨_, hsn⟩, hcp⟩ := h1 i _ (atP_of hi)
      rcases hsn with hsn | ⟨b', off', rfl, hb', h2⟩
      · omega
      · have c1 := (b1.cell (p := ⟨b, off + i, none⟩) hb).trans hc
        have c2 := (b1.cell (p := ⟨b', off' + 0, none⟩) hb').trans (h2 0 _ (atN_of (by omega)))
        have hin : (i : Int) < (n : Int) := by omega
        have l1' : (0 : Int) < ((atP zss i).length : Int) := by omega
        have HR : Hid (primR zss (i : Int) = atN (atP zss i) 0) := by unfold Hid; simp [primR, hp]
        have B1 : Hid (Below w.heap.size w w1) := b1
        rw [Nat.add_zero] at c2
        clear h1 h2 hc b1 hp
        generalize (atP zss i).length = m at *
        go_wp2
        go_ret
        exact ⟨by rw [HR.out]; rfl, B1.out⟩
end Go.Proofs.YtdmpobegobfpjaaGreat
namespace Go.Proofs.YtdmpobegobfpjaaGreat
open Go.RowKit
open Go.Sort (grow)
set_option maxRecDepth 100000 in
set_option maxHeartbeats 4000000 in
theorem l8Primary_any (w : World) (a1 : Option Addr) (c1 : Nat) (a2 : Option Addr) (c2 : Nat) (a3 : Option Addr) (c3 : Nat) (k : C6) (i z : Nat) (hl : KCl.L k) (h : KCl.Rd w a1 c1 a2 c2 a3 c3 k) (hi : i < k.places.length) (hz : atN (atP k.places i) 0 = (z : Int)) (hzl : z < k.machines.length) (hz3 : 0 < (atP k.places i).length) :
    Calls Tryz.prog 46 #[.agg #[.int .i64 k.config, .int .i64 k.clock, .slice a1 k.places.length c1, .slice a2 k.machines.length c2, .slice a3 k.txs.length c3, .bool k.lost], .int .i64 (i : Int)] w fun e w' => e = .returned (if (atM k.machines z).alive then .tuple #[.int .i64 (z : Int), .int .i64 (idxC (atM k.machines z) (i : Int))] else .tuple #[.int .i64 (-1), .int .i64 (-1)]) ∧ Below w.heap.size w w' := by
  have hnp := hl.p
  have hnm := hl.m
  have hns := hl.ps _ (List.mem_of_getElem? (atP_of hi))
  have hML := hl.ms _ (List.mem_of_getElem? (atM_of hzl))
  unfold maxLen at hnp hnm hns
  obtain ⟨U, hU⟩ : ∃ Y, Y = w.alloc (.cells #[.int .i64 k.config, .int .i64 k.clock, .slice a1 k.places.length c1, .slice a2 k.machines.length c2, .slice a3 k.txs.length c3, .bool k.lost] 34) := ⟨_, rfl⟩
  have b0 : Below w.heap.size w U := by rw [hU]; exact (Below.refl _ _).alloc (Nat.le_refl _) _
  have FA : Hid (Bx U w.heap.size [.int .i64 k.config, .int .i64 k.clock, .slice a1 k.places.length c1, .slice a2 k.machines.length c2, .slice a3 k.txs.length c3, .bool k.lost]) := by unfold Hid; rw [hU]; exact Bx.made w [.int .i64 k.config, .int .i64 k.clock, .slice a1 k.places.length c1, .slice a2 k.machines.length c2, .slice a3 k.txs.length c3, .bool k.lost] _
  have HR : Hid (KCl.Rd U a1 c1 a2 c2 a3 c3 k ∧ KCl.L k ∧ Below w.heap.size w U) := ⟨h.later b0, hl, b0⟩
  clear b0 h hl
  have b0 : Below U.heap.size U U := Below.refl _ _
  obtain ⟨_, hsp⟩ := HR.out.1.p
  rcases hsp with hsp | ⟨b, off, rfl, hb, hpp⟩
  · omega
  obtain ⟨a', cap', hc1, hsl, hcp⟩ := hpp i _ (atP_of hi)
  obtain ⟨_, hsn⟩ := hsl
  rcases hsn with hsn | ⟨b', off', rfl, hb', h2⟩
  · omega
  have hz1 := h2 0 _ (atN_of hz3)
  rw [hz] at hz1
  have x0 : U.cell? ⟨b, off + i, none⟩ = some (.slice (some ⟨b', off', none⟩) (atP k.places i).length cap') := (b0.cell (p := ⟨b, off + i, none⟩) hb).trans hc1
  have x1 : U.cell? ⟨b', off', none⟩ = some (.int .i64 (z : Int)) := (b0.cell (p := ⟨b', off', none⟩) hb').trans hz1
  clear hpp hc1 hz1 h2
  rcases HR.out.1.m with hs | ⟨b2, off2, rfl, hb2, h1⟩
  · rw [hs] at hzl; simp at hzl
  obtain ⟨⟨m0, m1, m2, m3, m4, m5⟩, hat, hrd⟩ := h1 z _ (atM_of hzl)
  have e0 : U.cell? ⟨b2, off2 + z * 4, none⟩ = some (.bool (atM k.machines z).alive) := (b0.cell (p := ⟨b2, off2 + z * 4, none⟩) hb2).trans (hat 0 _ rfl)
  have e1 : U.cell? ⟨b2, off2 + z * 4 + 1, none⟩ = some (.slice m0 (atM k.machines z).copies.length m1) := (b0.cell (p := ⟨b2, off2 + z * 4 + 1, none⟩) hb2).trans (hat 1 _ rfl)
  have e2 : U.cell? ⟨b2, off2 + z * 4 + 2, none⟩ = some (.slice m2 (atM k.machines z).log.length m3) := (b0.cell (p := ⟨b2, off2 + z * 4 + 2, none⟩) hb2).trans (hat 2 _ rfl)
  have e3 : U.cell? ⟨b2, off2 + z * 4 + 3, none⟩ = some (.slice m4 (atM k.machines z).cleared.length m5) := (b0.cell (p := ⟨b2, off2 + z * 4 + 3, none⟩) hb2).trans (hat 3 _ rfl)
  have hcl := l6At_v U m0 m1 m2 m3 m4 m5 (atM k.machines z) (i : Int) hML (KMk.later hrd b0)
  have p2 := (FA.out.later b0).1 2 _ rfl
  have p3 := (FA.out.later b0).1 3 _ rfl
  have i1 : (i : Int) < (k.places.length : Int) := by omega
  have i2 : (z : Int) < (k.machines.length : Int) := by omega
  have i3 : (0 : Int) < ((atP k.places i).length : Int) := by omega
  clear h1 hat hrd hML b0 hz
  cases ha : (atM k.machines z).alive with
  | false =>
    rw [ha] at e0
    clear hcl e1 e2 e3
    rw [hU] at p2 p3 x0 x1 e0
    go_enter Tryz.func46, Tryz.ntmps46
    go_wp2
    refine bodyPost_ret (v := .tuple #[.int .i64 (-1), .int .i64 (-1)]) (by simp [results, Tryz.results46, go_sem]) rfl ⟨rfl, ?_⟩
    have := HR.out.2.2
    rw [hU] at this
    exact this
  | true =>
    rw [ha] at e0 hcl
    rw [hU] at p2 p3 x0 x1 e0 e1 e2 e3
    go_enter Tryz.func46, Tryz.ntmps46
    go_wp2_with fail
    rw [← hU]
    clear hU p2 p3 x0 x1 e0 e1 e2 e3
    refine hcl.mono ?_
    clear hcl
    rintro e w1 ⟨rfl, b1⟩
    have KB : Hid (Below w.heap.size w w1) := bstep HR.out.2.2 b1
    clear b1
    go_wp2
    exact bodyPost_ret (v := .tuple #[.int .i64 (z : Int), .int .i64 (idxC (atM k.machines z) (i : Int))]) (by simp [results, Tryz.results46, go_sem]) rfl ⟨rfl, KB.out⟩
noncomputable def celZ (k : C6) (r z : Nat) : List C2 := (atK (atM k.machines z).copies (idxC (atM k.machines z) (r : Int)).toNat).cells
theorem allR {f : Nat → Bool} {n : Nat} (h : ∀ i, i < n → f i = true) : (List.range n).all f = true := List.all_eq_true.2 fun i hi => h i (List.mem_range.1 hi)
theorem allN {f : Nat → Bool} {n i : Nat} (hi : i < n) (h : f i = false) : (List.range n).all f = false := by
  rw [List.all_eq_false]
  exact ⟨i, List.mem_range.2 hi, by rw [h]; simp⟩
def lcB (c : C2) : Bool := inB 0 4000003 c.head && lockedB c.head
noncomputable def agrJ (k : C6) (r z j : Nat) : Bool := lcB (atC2 (celZ k r z) j) || eqC2 (atC2 (celZ k r z) j) (atC2 ((rep0 k).1[r]?.getD []) j)
noncomputable def agrR (k : C6) (r : Nat) : Bool := !(atM k.machines (atN (atP k.places r) 0).toNat).alive || (List.range 6).all (agrJ k r (atN (atP k.places r) 0).toNat)
noncomputable def agrB (k : C6) : Bool := serB k && (List.range k.places.length).all (agrR k)
set_option maxRecDepth 100000 in
set_option maxHeartbeats 16000000 in
theorem specAgrees_any (w : World) (a1 : Option Addr) (c1 : Nat) (a2 : Option Addr) (c2 : Nat) (a3 : Option Addr) (c3 : Nat) (k : C6) (hl : KCl.L k) (h : KCl.Rd w a1 c1 a2 c2 a3 c3 k) (hcp : KTkC.RdS w a3 k.txs) :
    Calls Tryz.prog 23 #[.agg #[.int .i64 k.config, .int .i64 k.clock, .slice a1 k.places.length c1, .slice a2 k.machines.length c2, .slice a3 k.txs.length c3, .bool k.lost]] w fun e w' => e = .returned (.bool (agrB k)) ∧ Below w.heap.size w w' := by
  obtain ⟨U, hU⟩ : ∃ Y, Y = w.alloc (.cells #[.int .i64 k.config, .int .i64 k.clock, .slice a1 k.places.length c1, .slice a2 k.machines.length c2, .slice a3 k.txs.length c3, .bool k.lost] 34) := ⟨_, rfl⟩
  have BU : Hid (Below w.heap.size w U) := by unfold Hid; rw [hU]; exact (Below.refl _ _).alloc (Nat.le_refl _) _
  have FA : Hid (Bx U w.heap.size [.int .i64 k.config, .int .i64 k.clock, .slice a1 k.places.length c1, .slice a2 k.machines.length c2, .slice a3 k.txs.length c3, .bool k.lost]) := by unfold Hid; rw [hU]; exact Bx.made w [.int .i64 k.config, .int .i64 k.clock, .slice a1 k.places.length c1, .slice a2 k.machines.length c2, .slice a3 k.txs.length c3, .bool k.lost] _
  have HR : Hid (KCl.Rd U a1 c1 a2 c2 a3 c3 k ∧ KCl.L k ∧ KTkC.RdS U a3 k.txs) := ⟨h.later BU.out, hl, hcp.later BU.out⟩
  have hc := specSerial_any U a1 c1 a2 c2 a3 c3 k hl HR.out.1 HR.out.2.2
  have hEq := eqCell_run
  have hGd := eqCell_guard
  clear h hl hcp
  go_enter Tryz.func23, Tryz.ntmps23
  go_wp2_with fail
  rw [← hU]
  clear hU
  refine hc.mono ?_
  clear hc
  rintro e W1 ⟨rfl, b1⟩
  have B1 : Hid (Below U.heap.size U W1) := b1
  clear b1
  cases hB : serB k with
  | false =>
    have HV : Hid (agrB k = false) := by unfold Hid agrB; rw [hB]; rfl
    clear hB
    go_wp2
    go_ret
    exact ⟨by rw [HV.out]; rfl, bstep BU.out B1.out⟩
  | true =>
    have HS0 : Hid (agrB k = (List.range k.places.length).all (agrR k)) := by unfold Hid agrB; rw [hB]; rfl
    have hk : clusterB k = true := by unfold serB at hB; rw [Bool.and_eq_true] at hB; exact hB.1
    have HK := hidOf hk
    have hp6 := (CSm.of hk).p
    have hm8 := (CSm.of hk).m
    rcases HR.out.1.m with hs | ⟨mb, mo, rfl, hmb, hmrd⟩
    · simp only [clusterB, Bool.and_eq_true, decide_eq_true_eq] at hk
      rw [hs] at hk; simp at hk
    have HMR := hidOf hmrd
    have HMX := hidOf hmb
    clear hmrd hmb
    obtain ⟨tv, ht, hcp⟩ := txs_atC (HR.out.2.2.later B1.out)
    have hr := l13Replay_any W1 a1 c1 (some ⟨mb, mo, none⟩) c2 a3 c3 k tv hk HR.out.2.1 ht hcp
    have q0 := (FA.out.later B1.out).1 0 _ rfl
    have q1 := (FA.out.later B1.out).1 1 _ rfl
    have q2 := (FA.out.later B1.out).1 2 _ rfl
    have q3 := (FA.out.later B1.out).1 3 _ rfl
    have q4 := (FA.out.later B1.out).1 4 _ rfl
    have q5 := (FA.out.later B1.out).1 5 _ rfl
    clear ht hcp hk hB
    go_wp2_with fail
    refine hr.mono ?_
    clear hr q0 q1 q2 q3 q4 q5
    rintro e W2 ⟨v, gs, rfl, hal, b2⟩
    have B2 : Hid (Below U.heap.size U W2) := bstep B1.out b2
    have HAL := hidOf hal
    have HGL : Hid (gs.length = k.places.length) := by unfold Hid; rw [← hal.len, rep0_len]
    obtain ⟨a', c', rfl, hat⟩ := hal.row.at
    have HAT := hidOf hat
    clear hal hat b2
    go_wp2
    go_loopw [5] (fun v wr => ∃ r : Nat, r ≤ k.places.length ∧ v = .int .i64 r ∧ Below W2.heap.size W2 wr ∧ ∀ i, i < r → agrR k i = true) (fun v _ => k.places.length - (intOf v).toNat)
    case atStart => exact ⟨0, Nat.zero_le _, rfl, Below.refl _ _, fun i hi => absurd hi (by omega)⟩
    case round =>
      obtain ⟨r, hr, rfl, hbl, hall⟩ := hrel
      have KD : Hid (Below W2.heap.size W2 wr ∧ ∀ i, i < r → agrR k i = true) := ⟨hbl, hall⟩
      have KUQ : Hid (Below U.heap.size U wr) := bstep B2.out hbl
      clear hbl hall
      by_cases hrl : r < k.places.length
      · obtain ⟨z, hz, hzl, hz3, hpm, hmB, hhas⟩ := clu_pri HK.out hrl
        have hcl := l8Primary_any wr a1 c1 (some ⟨mb, mo, none⟩) c2 a3 c3 k r z HR.out.2.1 (HR.out.1.later KUQ.out) hrl hz hzl hz3
        have HZ : Hid (atN (atP k.places r) 0 = (z : Int)) := hz
        have q0 := (FA.out.later KUQ.out).1 0 _ rfl
        have q1 := (FA.out.later KUQ.out).1 1 _ rfl
        have q2 := (FA.out.later KUQ.out).1 2 _ rfl
        have q3 := (FA.out.later KUQ.out).1 3 _ rfl
        have q4 := (FA.out.later KUQ.out).1 4 _ rfl
        have q5 := (FA.out.later KUQ.out).1 5 _ rfl
        have jr : (r : Int) < (k.places.length : Int) := by omega
        cases ha : (atM k.machines z).alive with
        | false =>
          rw [ha] at hcl
          simp only [Bool.false_eq_true, if_false] at hcl
          have HA : Hid (∀ i, i < r + 1 → agrR k i = true) := fun i hi => by
            by_cases e : i = r
            · rw [e, agrR, HZ.out, Int.toNat_natCast, ha]; rfl
            · exact KD.out.2 i (by omega)
          clear ha hpm hmB hhas hz hzl hz3
          go_wp2_with fail
          refine hcl.mono ?_
          clear hcl q0 q1 q2 q3 q4 q5
          rintro e W3 ⟨rfl, b3⟩
          have K3 : Hid (Below W2.heap.size W2 W3) := bstep KD.out.1 b3
          clear b3
          go_wp2
          exact ⟨⟨r + 1, by omega, by simp, K3.out, HA.out⟩, by simp [intOf]; omega⟩
        | true =>
          rw [ha] at hcl
          simp only [if_true] at hcl
          have hlt := idxC_lt (atM k.machines z) (r : Int)
          rw [hhas ha] at hlt
          obtain ⟨t, hit, htl⟩ : ∃ t : Nat, idxC (atM k.machines z) (r : Int) = (t : Int) ∧ t < (atM k.machines z).copies.length := by
            rcases idxC_first (atM k.machines z) (r : Int) with ⟨e, _⟩ | ⟨t, e, ht, _, _⟩
            · rw [e] at hlt; cases hlt
            · exact ⟨t, e, ht⟩
          rw [hit] at hcl
          have h6 := mach_six hmB _ (List.mem_of_getElem? (atK_of htl))
          have HCZ : Hid (celZ k r z = (atK (atM k.machines z).copies t).cells) := by unfold Hid celZ; rw [hit]; rfl
          have HAR : Hid (agrR k r = (List.range 6).all (agrJ k r z)) := by unfold Hid; rw [agrR, HZ.out, Int.toNat_natCast, ha]; rfl
          obtain ⟨⟨m0, m1, m2, m3, m4, m5⟩, hmel, hmr⟩ := HMR.out z _ (atM_of hzl)
          have hmr' : SlM U ⟨m0, m1, m2, m3, m4, m5⟩ (atM k.machines z) := hmr
          have g1 : U.cell? ⟨mb, mo + z * 4 + 1, none⟩ = some (.slice m0 (atM k.machines z).copies.length m1) := hmel 1 _ rfl
          obtain ⟨_, hkk⟩ := hmr'.k
          rcases hkk with hkk | ⟨cb, co, hce, hcb, hkc⟩
          · omega
          have hce' : m0 = some ⟨cb, co, none⟩ := hce
          subst hce'
          obtain ⟨ca, cc, hcc, hsc, -⟩ := (hkc t _ (atK_of htl)).c1
          rw [h6] at hcc hsc
          obtain ⟨_, hse⟩ := hsc
          rcases hse with hse | ⟨eb, eo, rfl, heb, hec⟩
          · omega
          have HEC : Hid (CellsAt U eb eo (celZ k r z) ∧ eb < U.heap.size ∧ (celZ k r z).length = 6) := ⟨by rw [HCZ.out]; exact hec, heb, by rw [HCZ.out]; exact h6⟩
          have zm : (z : Int) < (k.machines.length : Int) := by omega
          have tm : (t : Int) < ((atM k.machines z).copies.length : Int) := by omega
          have HML : Hid (z < k.machines.length ∧ (atM k.machines z).copies.length ≤ 6) := ⟨hzl, by
            simp only [machB, Bool.and_eq_true, decide_eq_true_eq] at hmB
            omega⟩
          obtain ⟨x, hx⟩ : ∃ x, gs[r]? = some x := ⟨_, List.getElem?_eq_getElem (by rw [HGL.out]; exact hrl)⟩
          obtain ⟨xs, hxs⟩ : ∃ xs, (rep0 k).1[r]? = some xs := ⟨_, List.getElem?_eq_getElem (by rw [rep0_len]; exact hrl)⟩
          obtain ⟨ab, rfl, hab, hca⟩ := HAT.out r x hx
          have hcs := HAL.out.cs r x xs hx hxs
          have HCS : Hid (CellsAt W2 x.1 0 xs ∧ x.1 < W2.heap.size ∧ xs.length = 6 ∧ W2.cell? ⟨ab, r, none⟩ = some (.slice (some ⟨x.1, 0, none⟩) 6 x.2) ∧ ab < W2.heap.size) := ⟨hcs.2.2.1, hcs.2.1, hcs.2.2.2.2.1, hca, hab⟩
          have HXS : Hid ((rep0 k).1[r]?.getD [] = xs) := by unfold Hid; rw [hxs]; rfl
          have HG1 : Hid (U.cell? ⟨mb, mo + z * 4 + 1, none⟩ = some (.slice (some ⟨cb, co, none⟩) (atM k.machines z).copies.length m1) ∧ U.cell? ⟨cb, co + t * 2 + 1, none⟩ = some (.slice (some ⟨eb, eo, none⟩) 6 cc) ∧ cb < U.heap.size) := ⟨g1, hcc, hcb⟩
          clear ha hpm hmB hhas hz hzl hz3 hlt hmel hmr hmr' hkc hcc hec heb hcs hx hxs hca hab g1 hcb hit htl h6
          go_wp2_with fail
          refine hcl.mono ?_
          clear hcl q0 q1 q2 q3 q4 q5
          rintro e W3 ⟨rfl, b3⟩
          have K3 : Hid (Below W2.heap.size W2 W3 ∧ Below U.heap.size U W3) := ⟨bstep KD.out.1 b3, bstep KUQ.out b3⟩
          clear b3
          have q3 := (FA.out.later K3.out.2).1 3 _ rfl
          have g1 := (K3.out.2.cell (p := ⟨mb, mo + z * 4 + 1, none⟩) HMX.out).trans HG1.out.1
          have g2 := (K3.out.2.cell (p := ⟨cb, co + t * 2 + 1, none⟩) HG1.out.2.2).trans HG1.out.2.1
          generalize wr = WO at *
          go_wp2
          clear q3 g1 g2
          go_loopw [9] (fun v wr => ∃ s : Nat, s ≤ 6 ∧ v = .int .i64 s ∧ Below W2.heap.size W2 wr ∧ ∀ j, j < s → agrJ k r z j = true) (fun v _ => 6 - (intOf v).toNat)
          case atStart => exact ⟨0, Nat.zero_le _, rfl, K3.out.1, fun i hi => absurd hi (by omega)⟩
          case round =>
            obtain ⟨s, hs, rfl, hbs, halls⟩ := hrel
            have KS : Hid (Below W2.heap.size W2 wr ∧ ∀ j, j < s → agrJ k r z j = true) := ⟨hbs, halls⟩
            have KUS : Hid (Below U.heap.size U wr) := bstep B2.out hbs
            clear hbs halls
            by_cases hsl : s < 6
            · have e1 := HEC.out.1 s _ (atC2_of (by rw [HEC.out.2.2]; exact hsl))
              have e2 := HCS.out.1 s _ (atC2_of (by rw [HCS.out.2.2.1]; exact hsl))
              have hgj : agrJ k r z s = (lcB (atC2 (celZ k r z) s) || eqC2 (atC2 (celZ k r z) s) (atC2 xs s)) := by rw [agrJ, HXS.out]
              generalize atC2 (celZ k r z) s = x1 at *
              generalize atC2 xs s = x2 at *
              have HE1 : Hid (CellAt U eb (eo + s * 2) x1) := e1
              have HE2 : Hid (W2.cell? ⟨x.1, s * 2, none⟩ = some (.int .i64 x2.head) ∧ W2.cell? ⟨x.1, s * 2 + 1, none⟩ = some (.int .i64 x2.value)) := ⟨by have := e2.c0; rwa [Nat.zero_add] at this, by have := e2.c1; rwa [Nat.zero_add] at this⟩
              clear e1 e2
              have n0 : ∀ dd os, (grow (redrawn wr dd) os).cell? ⟨eb, eo + s * 2, none⟩ = some (.int .i64 x1.head) := fun dd os => ((bstep KUS.out (below_regrown wr dd os)).cell (p := ⟨eb, eo + s * 2, none⟩) HEC.out.2.1).trans HE1.out.c0
              have n1 : ∀ dd os, (grow (redrawn wr dd) os).cell? ⟨eb, eo + s * 2 + 1, none⟩ = some (.int .i64 x1.value) := fun dd os => ((bstep KUS.out (below_regrown wr dd os)).cell (p := ⟨eb, eo + s * 2 + 1, none⟩) HEC.out.2.1).trans HE1.out.c1
              have f0 : ∀ dd os, (grow (redrawn wr dd) os).cell? ⟨x.1, s * 2, none⟩ = some (.int .i64 x2.head) := fun dd os => ((bstep KS.out.1 (below_regrown wr dd os)).cell (p := ⟨x.1, s * 2, none⟩) HCS.out.2.1).trans HE2.out.1
              have f1 : ∀ dd os, (grow (redrawn wr dd) os).cell? ⟨x.1, s * 2 + 1, none⟩ = some (.int .i64 x2.value) := fun dd os => ((bstep KS.out.1 (below_regrown wr dd os)).cell (p := ⟨x.1, s * 2 + 1, none⟩) HCS.out.2.1).trans HE2.out.2
              have ra : ∀ dd os, (grow (redrawn wr dd) os).cell? ⟨ab, r, none⟩ = some (.slice (some ⟨x.1, 0, none⟩) 6 x.2) := fun dd os => ((bstep KS.out.1 (below_regrown wr dd os)).cell (p := ⟨ab, r, none⟩) HCS.out.2.2.2.2).trans HCS.out.2.2.2.1
              have cQ1 : ∀ dd os, Calls Tryz.prog 47 #[.int .i64 x1.head] (grow (redrawn wr dd) os) fun e w'' => e = .returned (.bool (lcB x1)) ∧ ∃ p : Regrown, w'' = grow (redrawn wr p.d) p.os := fun dd os => (specLocked_any x1.head (grow (redrawn wr dd) os)).mono fun e w'' h => ⟨h.1, ⟨⟨dd, os⟩, h.2⟩⟩
              have s6 : (s : Int) < 6 := by omega
              have rg : (r : Int) < (gs.length : Int) := by rw [HGL.out]; omega
              cases hlo : lcB x1 with
              | true =>
                rw [hlo] at cQ1 hgj
                have HGJ : Hid (agrJ k r z s = true) := hgj
                clear hlo hgj
                go_wp2_with fail
                refine wp_region_quiet_below (by kernel_rfl) (by kernel_rfl) ?_
                repeat (go_big_quiet_step (exact cQ1 _ _))
                refine wpQuiet_nil ?_
                intro _ hw'
                obtain ⟨⟨dq, osq⟩, hw''⟩ := hw'
                subst hw''
                have KN : Hid (Below W2.heap.size W2 (grow (redrawn wr dq) osq)) := bstep KS.out.1 (below_regrown wr dq osq)
                clear n0 n1 f0 f1 ra cQ1
                generalize grow (redrawn wr dq) osq = WN at *
                have HN : Hid (∀ j, j < s + 1 → agrJ k r z j = true) := fun j hj => by
                  by_cases e : j = s
                  · rw [e]; exact HGJ.out
                  · exact KS.out.2 j (by omega)
                go_wp2
                exact ⟨⟨s + 1, by omega, by simp, KN.out, HN.out⟩, by simp [intOf]; omega⟩
              | false =>
                rw [hlo, Bool.false_or] at hgj
                rw [hlo] at cQ1
                clear hlo
                cases he : eqC2 x1 x2 with
                | true =>
                  have HGJ : Hid (agrJ k r z s = true) := by unfold Hid; rw [hgj, he]
                  unfold eqC2 at he
                  clear hgj
                  go_wp2_with fail
                  refine wp_region_quiet_below (by kernel_rfl) (by kernel_rfl) ?_
                  repeat (go_big_quiet_step (exact cQ1 _ _))
                  refine wpQuiet_nil ?_
                  intro _ hw'
                  obtain ⟨⟨dq, osq⟩, hw''⟩ := hw'
                  subst hw''
                  have KN : Hid (Below W2.heap.size W2 (grow (redrawn wr dq) osq)) := bstep KS.out.1 (below_regrown wr dq osq)
                  clear n0 n1 f0 f1 ra cQ1
                  generalize grow (redrawn wr dq) osq = WN at *
                  have HN : Hid (∀ j, j < s + 1 → agrJ k r z j = true) := fun j hj => by
                    by_cases e : j = s
                    · rw [e]; exact HGJ.out
                    · exact KS.out.2 j (by omega)
                  go_wp2
                  exact ⟨⟨s + 1, by omega, by simp, KN.out, HN.out⟩, by simp [intOf]; omega⟩
                | false =>
                  have HV : Hid (agrB k = false) := by
                    unfold Hid
                    rw [HS0.out]
                    exact allN hrl (by rw [HAR.out]; exact allN hsl (by rw [hgj, he]))
                  unfold eqC2 at he
                  clear hgj
                  go_wp2_with fail
                  refine wp_region_quiet_below (by kernel_rfl) (by kernel_rfl) ?_
                  repeat (go_big_quiet_step (exact cQ1 _ _))
                  refine wpQuiet_nil ?_
                  intro _ hw'
                  obtain ⟨⟨dq, osq⟩, hw''⟩ := hw'
                  subst hw''
                  have KN : Hid (Below W2.heap.size W2 (grow (redrawn wr dq) osq)) := bstep KS.out.1 (below_regrown wr dq osq)
                  clear n0 n1 f0 f1 ra cQ1
                  generalize grow (redrawn wr dq) osq = WN at *
                  go_wp2
                  go_ret
                  exact ⟨by rw [HV.out]; rfl, bstep BU.out (bstep B2.out KN.out)⟩
            · obtain rfl : s = 6 := by omega
              have HA : Hid (∀ i, i < r + 1 → agrR k i = true) := fun i hi => by
                by_cases e : i = r
                · rw [e, HAR.out]; exact allR KS.out.2
                · exact KD.out.2 i (by omega)
              go_wp2
              exact ⟨⟨r + 1, by omega, by simp, KS.out.1, HA.out⟩, by simp [intOf]; omega⟩
      · obtain rfl : r = k.places.length := by omega
        have hd : decide ((k.places.length : Int) < (k.places.length : Int)) = false := by simp
        have HV : Hid (agrB k = true) := by unfold Hid; rw [HS0.out]; exact allR KD.out.2
        have q2 := (FA.out.later KUQ.out).1 2 _ rfl
        go_wp2
        go_ret
        exact ⟨by rw [HV.out]; rfl, bstep BU.out KUQ.out⟩
def agC (N xs : List C2) (j : Nat) : Bool := lcB (atC2 N j) || eqC2 (atC2 N j) (atC2 xs j)
set_option maxRecDepth 100000 in
set_option maxHeartbeats 8000000 in
theorem agree_any (w : World) (a : Option Addr) (c q : Nat) (N xs : List C2) (hn : N.length ≤ 6) (h1 : SlC w w.heap.size a N.length N) (hq : q < w.heap.size) (h2 : CellsAt w q 0 xs) (h6 : xs.length = 6) :
    Calls Tryz.prog 49 #[.slice a N.length c, .slice (some ⟨q, 0, none⟩) 6 6] w fun e w' => e = .returned (.bool ((List.range N.length).all (agC N xs))) ∧ Below w.heap.size w w' := by
  have hEq := eqCell_run
  have hGd := eqCell_guard
  obtain ⟨agf, hag⟩ : ∃ f, f = agC N xs := ⟨_, rfl⟩
  have HAG := hidOf hag
  rw [← hag]
  obtain ⟨n, hnn⟩ : ∃ n, n = N.length := ⟨_, rfl⟩
  have HNN := hidOf hnn
  rw [← hnn] at hn ⊢
  have H1 : Hid (SlC w w.heap.size a n N) := by unfold Hid; rw [hnn]; exact h1
  have H2 : Hid (CellsAt w q 0 xs ∧ xs.length = 6 ∧ q < w.heap.size) := ⟨h2, h6, hq⟩
  obtain ⟨z, hz⟩ : ∃ z, (List.range n).all agf = z := ⟨_, rfl⟩
  have HZ := hidOf hz
  rw [hz]
  clear hag hnn h1 h2 h6 hq hz
  go_enter Tryz.func49, Tryz.ntmps49
  go_wp2
  go_loopw [9] (fun v wr => ∃ j : Nat, j ≤ n ∧ v = .int .i64 j ∧ Below w.heap.size w wr ∧ ∀ i, i < j → agf i = true) (fun v _ => n - (intOf v).toNat)
  case atStart => exact ⟨0, Nat.zero_le _, rfl, Below.refl _ _, fun i h => absurd h (by omega)⟩
  case round =>
    obtain ⟨j, hj, rfl, hbl, hall⟩ := hrel
    have KA : Hid (Below w.heap.size w wr ∧ ∀ i, i < j → agf i = true) := ⟨hbl, hall⟩
    clear hbl hall
    by_cases hlt : j < n
    · rcases H1.out.2 with h0 | ⟨cb, co, rfl, hcb, hca⟩
      · omega
      have e1 := hca j _ (atC2_of (by rw [← HNN.out]; exact hlt))
      have e2 := H2.out.1 j _ (atC2_of (by rw [H2.out.2.1]; omega))
      have hgj : agf j = (lcB (atC2 N j) || eqC2 (atC2 N j) (atC2 xs j)) := by rw [HAG.out]; rfl
      generalize atC2 N j = x1 at *
      generalize atC2 xs j = x2 at *
      have k0 := (KA.out.1.cell (p := ⟨cb, co + j * 2, none⟩) hcb).trans e1.c0
      have k1 := (KA.out.1.cell (p := ⟨cb, co + j * 2 + 1, none⟩) hcb).trans e1.c1
      have y0 := e2.c0
      have y1 := e2.c1
      rw [Nat.zero_add] at y0 y1
      obtain ⟨X, hX⟩ : ∃ Y, Y = wr.alloc (.cells #[.int .i64 x1.head, .int .i64 x1.value] 75) := ⟨_, rfl⟩
      have bX : Below wr.heap.size wr X := by rw [hX]; exact (Below.refl _ _).alloc (Nat.le_refl _) _
      have xX : Bx X wr.heap.size [.int .i64 x1.head, .int .i64 x1.value] := by rw [hX]; exact Bx.made wr [.int .i64 x1.head, .int .i64 x1.value] _
      have sX : X.heap.size = wr.heap.size + 1 := by rw [hX]; simp
      have BX : Hid (Below w.heap.size w X) := bstep KA.out.1 bX
      have n0 : ∀ dd os, (grow (redrawn X dd) os).cell? ⟨wr.heap.size, 0, none⟩ = some (.int .i64 x1.head) := fun dd os => ((below_regrown X dd os).cell (p := ⟨wr.heap.size, 0, none⟩) xX.2.2).trans (xX.1 0 _ rfl)
      have n1 : ∀ dd os, (grow (redrawn X dd) os).cell? ⟨wr.heap.size, 1, none⟩ = some (.int .i64 x1.value) := fun dd os => ((below_regrown X dd os).cell (p := ⟨wr.heap.size, 1, none⟩) xX.2.2).trans (xX.1 1 _ rfl)
      have f0 : ∀ dd os, (grow (redrawn X dd) os).cell? ⟨q, j * 2, none⟩ = some (.int .i64 x2.head) := fun dd os => ((bstep BX.out (below_regrown X dd os)).cell (p := ⟨q, j * 2, none⟩) H2.out.2.2).trans y0
      have f1 : ∀ dd os, (grow (redrawn X dd) os).cell? ⟨q, j * 2 + 1, none⟩ = some (.int .i64 x2.value) := fun dd os => ((bstep BX.out (below_regrown X dd os)).cell (p := ⟨q, j * 2 + 1, none⟩) H2.out.2.2).trans y1
      have cQ1 : ∀ dd os, Calls Tryz.prog 90 #[.int .i64 x1.head] (grow (redrawn X dd) os) fun e w'' => e = .returned (.bool (lcB x1)) ∧ ∃ p : Regrown, w'' = grow (redrawn X p.d) p.os := fun dd os => (implLocked_any x1.head (grow (redrawn X dd) os)).mono fun e w'' h => ⟨h.1, ⟨⟨dd, os⟩, h.2⟩⟩
      have jn : (j : Int) < (n : Int) := by omega
      have j6 : (j : Int) < 6 := by omega
      clear e1 e2 y0 y1 bX xX sX hca
      cases hlo : lcB x1 with
      | true =>
        rw [hlo] at cQ1 hgj
        have HGJ : Hid (agf j = true) := hgj
        clear hlo hgj
        go_wp2_with fail
        rw [← hX]
        clear hX
        refine wp_region_quiet_below (by kernel_rfl) (by kernel_rfl) ?_
        repeat (go_big_quiet_step (exact cQ1 _ _))
        refine wpQuiet_nil ?_
        intro _ hw'
        obtain ⟨⟨dq, osq⟩, hw''⟩ := hw'
        subst hw''
        have KN : Hid (Below w.heap.size w (grow (redrawn X dq) osq)) := bstep BX.out (below_regrown X dq osq)
        clear n0 n1 f0 f1 cQ1
        generalize grow (redrawn X dq) osq = WN at *
        have HN : Hid (∀ i, i < j + 1 → agf i = true) := fun i hi => by
          by_cases e : i = j
          · rw [e]; exact HGJ.out
          · exact KA.out.2 i (by omega)
        go_wp2
        exact ⟨⟨j + 1, by omega, by simp, KN.out, HN.out⟩, by simp [intOf]; omega⟩
      | false =>
        rw [hlo, Bool.false_or] at hgj
        rw [hlo] at cQ1
        clear hlo
        cases he : eqC2 x1 x2 with
        | true =>
          have HGJ : Hid (agf j = true) := by unfold Hid; rw [hgj, he]
          unfold eqC2 at he
          clear hgj
          go_wp2_with fail
          rw [← hX]
          clear hX
          refine wp_region_quiet_below (by kernel_rfl) (by kernel_rfl) ?_
          repeat (go_big_quiet_step (exact cQ1 _ _))
          refine wpQuiet_nil ?_
          intro _ hw'
          obtain ⟨⟨dq, osq⟩, hw''⟩ := hw'
          subst hw''
          have KN : Hid (Below w.heap.size w (grow (redrawn X dq) osq)) := bstep BX.out (below_regrown X dq osq)
          clear n0 n1 f0 f1 cQ1
          generalize grow (redrawn X dq) osq = WN at *
          clear he
          have HN : Hid (∀ i, i < j + 1 → agf i = true) := fun i hi => by
            by_cases e : i = j
            · rw [e]; exact HGJ.out
            · exact KA.out.2 i (by omega)
          go_wp2
          exact ⟨⟨j + 1, by omega, by simp, KN.out, HN.out⟩, by simp [intOf]; omega⟩
        | false =>
          have HGJ : Hid (agf j = false) := by unfold Hid; rw [hgj, he]
          unfold eqC2 at he
          clear hgj
          go_wp2_with fail
          rw [← hX]
          clear hX
          refine wp_region_quiet_below (by kernel_rfl) (by kernel_rfl) ?_
          repeat (go_big_quiet_step (exact cQ1 _ _))
          refine wpQuiet_nil ?_
          intro _ hw'
          obtain ⟨⟨dq, osq⟩, hw''⟩ := hw'
          subst hw''
          have KN : Hid (Below w.heap.size w (grow (redrawn X dq) osq)) := bstep BX.out (below_regrown X dq osq)
          clear n0 n1 f0 f1 cQ1
          generalize grow (redrawn X dq) osq = WN at *
          clear he
          have HV : Hid (z = false) := by unfold Hid; rw [← HZ.out]; exact allN hlt HGJ.out
          go_wp2
          go_ret
          exact ⟨by rw [HV.out]; rfl, KN.out⟩
    · obtain rfl : j = n := by omega
      have hd : decide ((j : Int) < (j : Int)) = false := by simp
      have HV : Hid (z = true) := by unfold Hid; rw [← HZ.out]; exact allR KA.out.2
      go_wp2
      go_ret
      exact ⟨by rw [HV.out]; rfl, KA.out.1⟩
end Go.Proofs.YtdmpobegobfpjaaGreat
namespace Go.Proofs.YtdmpobegobfpjaaGreat.tx
open Go.RowKit
theorem below_dn {B : Nat} {a w : World} (h : Below B a w) (n : Nat) : Below B a (w.drewN n) := ⟨h.os, h.tape, h.output, h.size, h.block⟩
def NumsAt (w : World) (b off : Nat) (zs : List Int) : Prop := ∀ i z, zs[i]? = some z → w.cell? ⟨b, off + i, none⟩ = some (.int .i64 z)
theorem NumsAt.below {w w' : World} {B b off : Nat} {zs : List Int} (h : NumsAt w b off zs) (hb : Below B w w') (hB : b < B) : NumsAt w' b off zs := fun i z e => by rw [hb.cell (p := ⟨b, off + i, none⟩) hB]; exact h i z e
def SlN (w : World) (B : Nat) (a : Option Addr) (n : Nat) (zs : List Int) : Prop := zs.length = n ∧ (n = 0 ∨ ∃ b off, a = some ⟨b, off, none⟩ ∧ b < B ∧ NumsAt w b off zs)
theorem SlN.later {w w' : World} {a : Option Addr} {n : Nat} {zs : List Int} (h : SlN w w.heap.size a n zs) (hb : Below w.heap.size w w') : SlN w' w'.heap.size a n zs := by
  obtain ⟨h1, h2⟩ := h
  refine ⟨h1, ?_⟩
  rcases h2 with h2 | ⟨b, off, ha, hB, hx⟩
  · exact .inl h2
  · exact .inr ⟨b, off, ha, Nat.lt_of_lt_of_le hB hb.size, hx.below hb hB⟩
def atN (zs : List Int) (i : Nat) : Int := zs[i]?.getD 0
theorem atN_of {zs : List Int} {i : Nat} (h : i < zs.length) : zs[i]? = some (atN zs i) := by simp [atN, List.getElem?_eq_getElem h]
def hasB (zs : List Int) (z : Int) : Bool := zs.any (fun y => decide (y = z))
theorem has_yes {zs : List Int} {z : Int} {i : Nat} (hi : i < zs.length) (h : atN zs i = z) : hasB zs z = true := by
  rw [hasB, List.any_eq_true]
  exact ⟨atN zs i, List.mem_of_getElem? (atN_of hi), by simp [h]⟩
theorem has_no {zs : List Int} {z : Int} (h : ∀ i, i < zs.length → atN zs i ≠ z) : hasB zs z = false := by
  rw [hasB, List.any_eq_false]
  intro y hy
  obtain ⟨i, hi, rfl⟩ := List.getElem_of_mem hy
  have := h i hi
  rw [atN, List.getElem?_eq_getElem hi] at this
  simpa using this
set_option maxHeartbeats 1000000 in
theorem make_nums (n : Nat) (hn : n ≤ 1048576) (w : World) : (Instr.makeSlice 28 (.int .i64 (n : Int)) (.int .i64 (n : Int))).run Tryz.prog w = .ok (.slice (some ⟨w.heap.size, 0, none⟩) n n) (w.alloc (.cells (madeCells #[.int .i64 0] n) 2)) := by
  have info : (Tryz.prog.info? 2).map (fun i => (i.zero, i.size, i.bytes)) = some (some (.int .i64 0), 1, 8) := by kernel_rfl
  obtain ⟨i, hi, hzz⟩ := Option.map_eq_some_iff.1 info
  simp only [Prod.mk.injEq] at hzz
  obtain ⟨hz, hs, hb⟩ := hzz
  have := run_make (P := Tryz.prog) w 28 2 i _ Tryz.underlying28 hi hz .i64 .i64 (n : Int) (n : Int) (by omega) (by omega) (by rw [hb]; omega) (by omega)
  rw [hs] at this
  simpa [Value.cells] using this
theorem NumsAt.put {w : World} {b k : Nat} {zs : List Int} {z : Int} (h : NumsAt w b 0 (zs.take k)) (hz : zs[k]? = some z) {v : Value} (hv : w.cell? ⟨b, k, none⟩ = some v) : NumsAt (w.setCell ⟨b, k, none⟩ (.int .i64 z)) b 0 (zs.take (k + 1)) := by
  intro i t e
  rw [List.getElem?_take] at e
  split at e
  · rename_i hi
    by_cases hik : i = k
    · subst hik
      rw [hz] at e
      obtain rfl := Option.some.inj e
      simpa using cell_set_same hv
    · have := h i t (by rw [List.getElem?_take, if_pos (by omega)]; exact e)
      rw [cell_set_other (by omega)]; exact this
  · cases e
set_option maxHeartbeats 1000000 in
theorem eqInt64S_any (w : World) (a a' : Option Addr) (n cap cap' : Nat) (zs : List Int) (hn : n ≤ maxLen) (h1 : SlN w w.heap.size a n zs) (h2 : SlN w w.heap.size a' n zs) :
    Calls Tryz.prog 11 #[.slice a n cap, .slice a' n cap'] w fun e w' => e = .returned (.bool true) ∧ Below w.heap.size w w' := by
  unfold maxLen at hn
  obtain ⟨hx, h1⟩ := h1
  obtain ⟨_, h2⟩ := h2
  go_enter Tryz.func11, Tryz.ntmps11
  go_wp2
  go_loopw [5] (fun i wr => ∃ k : Nat, k ≤ n ∧ i = .int .i64 k ∧ Below w.heap.size w wr) (fun i _ => n - (intOf i).toNat)
  case atStart => exact ⟨0, Nat.zero_le _, rfl, Below.refl _ _⟩
  case round =>
    obtain ⟨k, hk, rfl, hbl⟩ := hrel
    by_cases hlt : k < n
    · rcases h1 with h1 | ⟨b, off, rfl, hb, h1⟩
      · omega
      · rcases h2 with h2 | ⟨b', off', rfl, hb', h2⟩
        · omega
        · have c1 := (hbl.cell (p := ⟨b, off + k, none⟩) hb).trans (h1 k _ (atN_of (by omega)))
          have c2 := (hbl.cell (p := ⟨b', off' + k, none⟩) hb').trans (h2 k _ (atN_of (by omega)))
          have hlt' : (k : Int) < (n : Int) := by omega
          have K : Hid (Below w.heap.size w wr) := hbl
          clear h1 h2 hbl hx
          go_wp2_with fail
          go_quiet (fail)
          go_wp2
          exact ⟨⟨k + 1, by omega, by simp, below_dn K.out _⟩, by simp [intOf]; omega⟩
    · have : k = n := by omega
      subst this
      have hd : decide (k < k) = false := by simp
      clear h1 h2
      go_wp2
      go_ret
      exact ⟨rfl, hbl⟩
def marks : Nat → Int → List Int
  | 0, _ => []
  | n + 1, k => k :: marks n (k + 1)
set_option maxHeartbeats 1000000 in
theorem l3Has_any (w : World) (a : Option Addr) (n cap : Nat) (z : Int) (zs : List Int) (hn : n ≤ maxLen) (hs : SlN w w.heap.size a n zs) :
    Calls Tryz.prog 97 #[.slice a n cap, .int .i64 z] w fun e w' => e = .returned (.bool (hasB zs z)) ∧ w' = w := by
  unfold maxLen at hn
  obtain ⟨hx, hs⟩ := hs
  go_enter Tryz.func97, Tryz.ntmps97
  go_wp2
  go_loop [5] (fun v => ∃ k : Nat, k ≤ n ∧ v = .int .i64 k ∧ ∀ i, i < k → atN zs i ≠ z) (fun v => n - (intOf v).toNat)
  case atStart => exact ⟨0, Nat.zero_le _, rfl, fun i h => absurd h (by omega)⟩
  case round =>
    obtain ⟨k, hk, rfl, hall⟩ := hrel
    have K : Hid ((∀ i, i < k → atN zs i ≠ z) ∧ zs.length = n) := ⟨hall, hx⟩
    by_cases hlt : k < n
    · rcases hs with hs | ⟨b, off, rfl, hb, h1⟩
      · omega
      · have c := h1 k _ (atN_of (by omega))
        clear h1 hall hx
        by_cases he : atN zs k = z
        · have q : (atN zs k == z) = true := by simp [he]
          have HE : Hid (atN zs k = z) := he
          clear he
          go_wp2
          go_ret
          exact ⟨by rw [has_yes (by rw [K.out.2]; exact hlt) HE.out]; rfl, rfl⟩
        · have q : (atN zs k == z) = false := by simp [he]
          have HE : Hid (atN zs k ≠ z) := he
          clear he
          go_wp2
          refine ⟨⟨k + 1, by omega, by simp, fun i hi => ?_⟩, by simp [intOf]; omega⟩
          by_cases e : i = k
          · rw [e]; exact HE.out
          · exact K.out.1 i (by omega)
    · have : k = n := by omega
      subst this
      have hd : decide ((k : Int) < (k : Int)) = false := by simp
      clear hall hx hs
      go_wp2
      go_ret
      exact ⟨by rw [has_no (by rw [K.out.2]; exact K.out.1)]; rfl, rfl⟩
def cpn (zs : List Int) : Nat → List Int
  | 0 => []
  | j + 1 => if j ≠ 0 ∧ atN zs j = atN zs (j - 1) then cpn zs j else cpn zs j ++ [atN zs j]
theorem cpn_same {zs : List Int} {j : Nat} (h : atN zs (j + 1) = atN zs j) : cpn zs (j + 1 + 1) = cpn zs (j + 1) := by
  rw [cpn]; exact if_pos ⟨by omega, by simpa using h⟩
theorem cpn_next {zs : List Int} {j : Nat} (h : atN zs (j + 1) ≠ atN zs j) : cpn zs (j + 1 + 1) = cpn zs (j + 1) ++ [atN zs (j + 1)] := by
  rw [cpn]; exact if_neg (fun e => h (by simpa using e.2))
theorem cpn_le (zs : List Int) : ∀ j, (cpn zs j).length ≤ j
  | 0 => by simp [cpn]
  | j + 1 => by
    have := cpn_le zs j
    rw [cpn]; split <;> simp <;> omega
theorem cpn_all {zs : List Int} : ∀ {k : Nat}, k ≤ zs.length → (∀ i, i + 1 < k → atN zs (i + 1) ≠ atN zs i) → cpn zs k = zs.take k
  | 0, _, _ => by simp [cpn]
  | 1, h, _ => by
    rw [cpn, cpn, if_neg (by simp), List.take_add_one, atN_of (by omega)]; simp
  | k + 2, h, h' => by
    rw [cpn_next (h' k (by omega)), cpn_all (k := k + 1) (by omega) (fun i hi => h' i (by omega)), List.take_add_one (i := k + 1), atN_of (by omega)]; rfl
theorem Room.setCells {b m : Nat} : ∀ (vs : List Value) (o : Nat) {w : World}, Room w b m → Room (w.setCells b o vs) b m
  | [], _, _, h => h
  | v :: r, o, _, h => Room.setCells r (o + 1) (h.set v)
def Shp (b : Nat) (w w' : World) : Prop := ∀ cur e fz, w.heap[b]? = some (.cells cur e fz) → ∃ cur', w'.heap[b]? = some (.cells cur' e fz) ∧ cur'.size = cur.size
theorem Shp.refl (b : Nat) (w : World) : Shp b w w := fun cur _ _ h => ⟨cur, h, rfl⟩
theorem Shp.trans {b : Nat} {u v w : World} (h : Shp b u v) (k : Shp b v w) : Shp b u w := fun cur e fz hc => by
  obtain ⟨c1, h1, s1⟩ := h cur e fz hc
  obtain ⟨c2, h2, s2⟩ := k c1 e fz h1
  exact ⟨c2, h2, s2.trans s1⟩
theorem Shp.set (b o : Nat) (w : World) (u : Value) : Shp b w (w.setCell ⟨b, o, none⟩ u) := fun cur e fz hc => by
  refine ⟨cur.setIfInBounds o u, ?_, by simp⟩
  show (w.heap.modify b _)[b]? = _
  rw [Array.getElem?_modify, if_pos rfl, hc]
  rfl
structure TurnS (c : Nat) (w w' : World) : Prop where
  t : Turned c w w'
  s : Shp c w w'
theorem TurnS.refl (c : Nat) (w : World) : TurnS c w w := ⟨Turned.refl _ _, Shp.refl _ _⟩
theorem TurnS.trans {c : Nat} {a b d : World} (h : TurnS c a b) (k : TurnS c b d) : TurnS c a d := ⟨h.t.trans k.t, h.s.trans k.s⟩
theorem TurnS.drewN {c : Nat} {a w : World} (h : TurnS c a w) (n : Nat) : TurnS c a (w.drewN n) := ⟨h.t.drewN n, h.s⟩
theorem TurnS.setCell {c : Nat} {a w : World} (h : TurnS c a w) (o : Nat) (u : Value) : TurnS c a (w.setCell ⟨c, o, none⟩ u) := ⟨h.t.setCell o u, h.s.trans (Shp.set c o w u)⟩
theorem TurnS.setCells {c : Nat} {a : World} : ∀ (vs : List Value) (o : Nat) {w : World}, TurnS c a w → TurnS c a (w.setCells c o vs)
  | [], _, _, h => h
  | v :: r, o, _, h => TurnS.setCells r (o + 1) (h.setCell o v)
theorem TurnS.of_below {c : Nat} {w w' : World} (hb : Below w.heap.size w w') (hc : c < w.heap.size) : TurnS c w w' := ⟨(Turned.refl _ _).of_below hb, fun cur _ _ h => ⟨cur, (hb.block c hc).trans h, rfl⟩⟩
set_option maxHeartbeats 4000000 in
theorem compact_own (w : World) (b cap : Nat) (zs : List Int) (hn : zs.length ≤ 1000) (hc : zs.length ≤ cap) (h : NumsAt w b 0 zs) (hr : Room w b zs.length) (hb : b < w.heap.size) :
    Calls Tryz.prog 175 #[.slice (some ⟨b, 0, none⟩) zs.length cap] w fun e w' => e = .returned (.slice (some ⟨b, 0, none⟩) (cpn zs zs.length).length cap) ∧ TurnS b w w' ∧ NumsAt w' b 0 (cpn zs zs.length) ∧ Room w' b zs.length := by
  obtain ⟨n, hN⟩ : ∃ n, n = zs.length := ⟨_, rfl⟩
  have HN : Hid (n = zs.length) := hN
  rw [← hN] at hn hc hr ⊢
  clear hN
  by_cases h2 : n < 2
  · have d2 : decide ((n : Int) < 2) = true := by simp; omega
    have KE : Hid (cpn zs n = zs ∧ NumsAt w b 0 zs ∧ Room w b n) := ⟨by rw [cpn_all (by rw [← HN.out]; exact Nat.le_refl _) (fun i hi => by omega), HN.out, List.take_length], h, hr⟩
    clear h hr h2
    go_enter Tryz.func175, Tryz.ntmps175
    go_wp2
    go_ret
    exact ⟨by rw [KE.out.1, ← HN.out]; rfl, TurnS.refl _ _, by rw [KE.out.1]; exact KE.out.2.1, KE.out.2.2⟩
  have d2 : decide ((n : Int) < 2) = false := by simp; omega
  have H : Hid (NumsAt w b 0 zs ∧ Room w b n) := ⟨h, hr⟩
  clear h hr
  go_enter Tryz.func175, Tryz.ntmps175
  go_wp2
  clear d2
  go_loopw [3] (fun v wr => ∃ j : Nat, j + 1 ≤ n ∧ v = .int .i64 ((j + 1 : Nat) : Int) ∧ Below w.heap.size w wr ∧ ∀ i, i + 1 < j + 1 → atN zs (i + 1) ≠ atN zs i) (fun v _ => n - (intOf v).toNat)
  case atStart => exact ⟨0, by omega, rfl, Below.refl _ _, fun i hi => by omega⟩
  case round =>
    obtain ⟨j, hj, rfl, hbl, hall⟩ := hrel
    have hlz : zs.length = n := HN.out.symm
    by_cases hlt : j + 1 < n
    · have c1 : wr.cell? ⟨b, j + 1, none⟩ = some (.int .i64 (atN zs (j + 1))) := (hbl.cell (p := ⟨b, j + 1, none⟩) hb).trans (by simpa using H.out.1 (j + 1) _ (atN_of (by omega)))
      have c0 : wr.cell? ⟨b, j, none⟩ = some (.int .i64 (atN zs j)) := (hbl.cell (p := ⟨b, j, none⟩) hb).trans (by simpa using H.out.1 j _ (atN_of (by omega)))
      have hi0 : (j : Int) < (n : Int) := by omega
      have hi1 : ((j + 1 : Nat) : Int) < (n : Int) := by omega
      by_cases he : atN zs (j + 1) = atN zs j
      · have q : (atN zs (j + 1) == atN zs j) = true := by simp [he]
        have KA : Hid (Below w.heap.size w wr ∧ (∀ i, i + 1 < j + 1 → atN zs (i + 1) ≠ atN zs i) ∧ atN zs (j + 1) = atN zs j ∧ zs.length = n) := ⟨hbl, hall, he, hlz⟩
        clear he hbl hall hlz
        go_wp2_with fail
        go_quiet (fail)
        have hsl : ¬ cap = j + 1 := by omega
        go_wp2
        have K1 : Hid (TurnS b w (wr.drewN nq) ∧ Room (wr.drewN nq) b n ∧ NumsAt (wr.drewN nq) b 0 zs ∧ b < (wr.drewN nq).heap.size) := by
          have bb := below_dn KA.out.1 nq
          exact ⟨TurnS.of_below bb hb, H.out.2.below bb hb, H.out.1.below bb hb, Nat.lt_of_lt_of_le hb bb.size⟩
        have KZ : Hid (cpn zs (j + 1 + (0 + 1)) = zs.take (j + 1) ∧ zs.length = n) := ⟨by rw [show j + 1 + (0 + 1) = j + 1 + 1 by omega, cpn_same KA.out.2.2.1, cpn_all (by have := KA.out.2.2.2; omega) KA.out.2.1], KA.out.2.2.2⟩
        clear c0 c1 q hi0 hi1 KA
        generalize wr.drewN nq = W1 at *
        clear wr
        go_loopw [3, 5] (fun v3 v5 wr => ∃ k i2 : Nat, i2 + 1 ≤ n - (j + 1) ∧ v5 = .int .i64 ((i2 + 1 : Nat) : Int) ∧ v3 = .int .i64 (k : Int) ∧ k = (cpn zs (j + 1 + (i2 + 1))).length ∧ k ≤ j + 1 + i2 ∧ TurnS b W1 wr ∧ Room wr b n ∧ NumsAt wr b 0 (cpn zs (j + 1 + (i2 + 1))) ∧ (∀ i, j + 1 + i2 ≤ i → i < n → wr.cell? ⟨b, i, none⟩ = some (.int .i64 (atN zs i)))) (fun _ v5 _ => n - (j + 1) - (intOf v5).toNat)
        case atStart =>
          refine ⟨j + 1, 0, by omega, rfl, rfl, ?_, by omega, TurnS.refl _ _, K1.out.2.1, ?_, fun i _ hi => ?_⟩
          · rw [KZ.out.1, List.length_take, KZ.out.2]; omega
          · rw [KZ.out.1]
            intro i z e
            rw [List.getElem?_take] at e
            split at e
            · exact K1.out.2.2.1 i z e
            · cases e
          · simpa using K1.out.2.2.1 i _ (atN_of (by rw [KZ.out.2]; exact hi))
        case round =>
          obtain ⟨k, i2, hi2, rfl, rfl, hk, hkl, htu, hro, hnu, hta⟩ := hrel
          by_cases hlt2 : i2 + 1 < n - (j + 1)
          · have c1 := hta (j + 1 + (i2 + 1)) (by omega) (by omega)
            have c0 := hta (j + 1 + i2) (by omega) (by omega)
            have hx0 : (i2 : Int) < ((n - (j + 1) : Nat) : Int) := by omega
            have hx1 : ((i2 + 1 : Nat) : Int) < ((n - (j + 1) : Nat) : Int) := by omega
            by_cases he : atN zs (j + 1 + (i2 + 1)) = atN zs (j + 1 + i2)
            · have q : (atN zs (j + 1 + (i2 + 1)) != atN zs (j + 1 + i2)) = false := by simp [he]
              have KE : Hid (k = (cpn zs (j + 1 + (i2 + 1 + 1))).length ∧ TurnS b W1 wr ∧ Room wr b n ∧ NumsAt wr b 0 (cpn zs (j + 1 + (i2 + 1 + 1))) ∧ (∀ i, j + 1 + i2 ≤ i → i < n → wr.cell? ⟨b, i, none⟩ = some (.int .i64 (atN zs i)))) := by
                have e : cpn zs (j + 1 + (i2 + 1 + 1)) = cpn zs (j + 1 + (i2 + 1)) := cpn_same (j := j + 1 + i2) he
                rw [Hid, e]; exact ⟨hk, htu, hro, hnu, hta⟩
              clear he hk htu hro hnu hta
              go_wp2_with fail
              go_quiet (fail)
              go_wp2
              obtain ⟨e1, e2, e3, e4, e5⟩ := KE.out
              exact ⟨⟨k, i2 + 1, by omega, by simp, by simp, e1, by omega, e2.drewN _, e3, e4, fun i hi hi' => e5 i (by omega) hi'⟩, by simp [intOf]; omega⟩
            · have q : (atN zs (j + 1 + (i2 + 1)) != atN zs (j + 1 + i2)) = true := by simp [he]
              have hkn : (k : Int) < (n : Int) := by omega
              obtain ⟨vk, dk, fk⟩ := hro k (by omega)
              have KE : Hid (k + 1 = (cpn zs (j + 1 + (i2 + 1 + 1))).length ∧ TurnS b W1 wr ∧ Room wr b n ∧ NumsAt (wr.setCell ⟨b, k, none⟩ (.int .i64 (atN zs (j + 1 + (i2 + 1))))) b 0 (cpn zs (j + 1 + (i2 + 1 + 1))) ∧ (∀ i, j + 1 + i2 ≤ i → i < n → wr.cell? ⟨b, i, none⟩ = some (.int .i64 (atN zs i)))) := by
                have e : cpn zs (j + 1 + (i2 + 1 + 1)) = cpn zs (j + 1 + (i2 + 1)) ++ [atN zs (j + 1 + (i2 + 1))] := cpn_next (j := j + 1 + i2) he
                rw [Hid, e]
                refine ⟨by simp [← hk], htu, hro, fun i z ez => ?_, hta⟩
                rw [Nat.zero_add]
                by_cases ei : i < k
                · rw [List.getElem?_append_left (by omega)] at ez
                  rw [cell_set_other (by omega)]
                  simpa using hnu i z ez
                · have hie : i = k := by
                    have := (List.getElem?_eq_some_iff.1 ez).1
                    simp [← hk] at this
                    omega
                  subst hie
                  rw [List.getElem?_append_right (by omega), ← hk, Nat.sub_self] at ez
                  simp at ez
                  subst ez
                  exact cell_set_same dk
              clear he hk htu hro hnu hta
              go_wp2_with fail
              go_quiet (fail)
              go_wp2
              obtain ⟨e1, e2, e3, e4, e5⟩ := KE.out
              refine ⟨⟨k + 1, i2 + 1, by omega, by simp, by simp, e1, by omega, (e2.drewN _).setCell _ _, e3.set _, e4, fun i hi hi' => ?_⟩, by simp [intOf]; omega⟩
              exact (cell_set_other (by omega)).trans (e5 i (by omega) hi')
          · have hie : i2 + 1 = n - (j + 1) := by omega
            have hd : decide (((i2 + 1 : Nat) : Int) < ((n - (j + 1) : Nat) : Int)) = false := by simp; omega
            have hks : ¬ cap = k := by omega
            have hkc : k < n := by omega
            have hcl : ∀ ty, (Builtin.clear_ #[28] ty #[.slice (some ⟨b, k, none⟩) (n - k) (cap - k)]).run Tryz.prog wr = .ok (.tuple #[]) (wr.setCells b k (List.replicate (n - k) (.int .i64 0))) := fun ty =>
              Lib.run_clear_slice wr 28 2 ty (.int .i64 0) Tryz.underlying28 (fun _ => by kernel_rfl) rfl rfl b k (n - k) (cap - k) (by omega) (fun i hi => by obtain ⟨v, h1, _⟩ := hro (k + i) (by omega); rw [h1]; rfl) (fun i hi => by obtain ⟨v, _, h1⟩ := hro (k + i) (by omega); exact h1)
            have en : j + 1 + (i2 + 1) = n := by omega
            rw [en] at hk hnu
            have KE : Hid (k = (cpn zs n).length ∧ TurnS b w wr ∧ Room wr b n ∧ NumsAt wr b 0 (cpn zs n)) := ⟨hk, K1.out.1.trans htu, hro, hnu⟩
            clear hk htu hro hnu hta hie en
            go_wp2
            go_ret
            obtain ⟨e1, e2, e3, e4⟩ := KE.out
            refine ⟨by rw [← e1]; rfl, TurnS.setCells _ _ e2, fun i z e => ?_, Room.setCells _ _ e3⟩
            rw [World.cell?_setCells_out _ _ _ _ _ (fun _ _ => .inl (by have := (List.getElem?_eq_some_iff.1 e).1; show 0 + i < k; omega))]
            exact e4 i z e
      · have q : (atN zs (j + 1) == atN zs j) = false := by simp [he]
        have KA : Hid (Below w.heap.size w wr ∧ (∀ i, i + 1 < j + 1 → atN zs (i + 1) ≠ atN zs i) ∧ atN zs (j + 1) ≠ atN zs j) := ⟨hbl, hall, he⟩
        clear he hbl hall hlz
        go_wp2_with fail
        go_quiet (fail)
        go_wp2
        exact ⟨⟨j + 1, by omega, by simp, below_dn KA.out.1 _, fun i hi => by
          by_cases e : i = j
          · rw [e]; exact KA.out.2.2
          · exact KA.out.2.1 i (by omega)⟩, by simp [intOf]; omega⟩
    · obtain rfl : n = j + 1 := by omega
      have hd : decide (((j + 1 : Nat) : Int) < ((j + 1 : Nat) : Int)) = false := by simp
      have KE : Hid (cpn zs (j + 1) = zs ∧ Below w.heap.size w wr) := ⟨by rw [cpn_all (by omega) hall, ← hlz, List.take_length], hbl⟩
      clear hall hlz hbl
      go_wp2
      go_ret
      refine ⟨by rw [KE.out.1, ← HN.out]; rfl, TurnS.of_below KE.out.2 hb, ?_, H.out.2.below KE.out.2 hb⟩
      rw [KE.out.1]; exact H.out.1.below KE.out.2 hb
def OwnIn (w : World) (P : Nat → Prop) (a : Option Addr) (zs : List Int) : Prop := zs = [] ∨ ∃ b, a = some ⟨b, 0, none⟩ ∧ P b ∧ b < w.heap.size ∧ NumsAt w b 0 zs ∧ Room w b zs.length
theorem NumsAt.of_blk {w w' : World} {b off : Nat} {zs : List Int} (h : NumsAt w b off zs) (e : w'.heap[b]? = w.heap[b]?) : NumsAt w' b off zs := fun i z hz => (World.cell?_of_block (a := ⟨b, off + i, none⟩) e).trans (h i z hz)
theorem OwnIn.keep {w w' : World} {P : Nat → Prop} {a : Option Addr} {zs : List Int} (h : OwnIn w P a zs) (hs : w.heap.size ≤ w'.heap.size) (hk : ∀ q, q < w.heap.size → P q → w'.heap[q]? = w.heap[q]?) : OwnIn w' P a zs := by
  rcases h with h | ⟨b, ha, hp, hl, hn, hr⟩
  · exact .inl h
  · exact .inr ⟨b, ha, hp, Nat.lt_of_lt_of_le hl hs, hn.of_blk (hk b hl hp), hr.of_block (hk b hl hp)⟩
theorem OwnIn.sl {w : World} {P : Nat → Prop} {a : Option Addr} {zs : List Int} (h : OwnIn w P a zs) : SlN w w.heap.size a zs.length zs := by
  rcases h with e | ⟨b, ha, _, hl, hn, _⟩
  · exact ⟨rfl, .inl (by rw [e]; rfl)⟩
  · exact ⟨rfl, .inr ⟨b, 0, ha, hl, hn⟩⟩
def intC (z : Int) : List Value := [.int .i64 z]
def RowI (W : World) (base : Nat) (v : Value) (zs : List Int) : Prop := W.ownsRow base 2 1 v zs.length (zs.flatMap intC)
theorem infoNum : (Tryz.prog.info? 2).map (fun i => (i.zero, i.size, i.bytes)) = some (some (.int .i64 0), 1, 8) := by kernel_rfl
theorem pushI {W : World} {base : Nat} {v : Value} {zs : List Int} (h : RowI W base v zs) (z : Int) (hm : zs.length + 1 ≤ 1048576) (ty : TypeId) (b k : Nat) (src : W.cell? ⟨b, 0, none⟩ = some (.int .i64 z)) (hbase : base ≤ W.heap.size) :
    ∃ v' W', (Builtin.append_ #[28, 28] ty #[v, .slice (some ⟨b, 0, none⟩) 1 k]).run Tryz.prog W = .ok v' W' ∧ RowI W' base v' (zs ++ [z]) ∧ W.grownBy W' v.ownBlock ∧ (v'.ownBlock = v.ownBlock ∨ v'.ownBlock = some W.heap.size) := by
  obtain ⟨i0, hi0, hz0, hz1, hz2⟩ := partsOf infoNum
  exact pushX (cells := intC) (sz := 1) (by_ := 8) (fun _ => rfl) (fun s u hu => by simp only [intC, List.mem_cons, List.not_mem_nil, or_false] at hu; subst hu; rfl) (by omega) Tryz.underlying28 hi0 hz0 hz1 hz2 rfl (by omega) h [z] hm ty b 0 k (fun i s e t u hu => by
    rcases i with _ | i
    · simp at e; subst e
      rcases t with _ | t
      · simp [intC] at hu; subst hu; exact src
      · simp [intC] at hu
    · simp at e) hbase
theorem RowI.nil (W : World) (base : Nat) : RowI W base (.slice none 0 0) [] := ⟨rfl, .inl ⟨rfl, rfl⟩⟩
theorem RowI.lt {W : World} {base : Nat} {v : Value} {zs : List Int} (h : RowI W base v zs) {q : Nat} (e : v.ownBlock = some q) : base ≤ q ∧ q < W.heap.size := World.ownsRow.lt h q e
theorem RowI.later {W W' : World} {base : Nat} {v : Value} {zs : List Int} (h : RowI W base v zs) (hb : Below W.heap.size W W') : RowI W' base v zs := row_keep h (fun q e => hb.block q (h.lt e).2)
theorem RowI.made (W : World) : RowI (W.alloc (.cells #[] 2)) W.heap.size (.slice (some ⟨W.heap.size, 0, none⟩) 0 0) [] := World.ownsRow_made W #[] 0 (Nat.le_refl _) (Nat.zero_le _) rfl
theorem intC_map (zs : List Int) : zs.flatMap intC = zs.map (Value.int .i64) := List.map_eq_flatMap.symm
theorem RowI.form {W : World} {base : Nat} {v : Value} {zs : List Int} (h : RowI W base v zs) : ∃ a c, v = .slice a zs.length c ∧ OwnIn W (fun q => v.ownBlock = some q) a zs ∧ zs.length ≤ c ∧ (zs ≠ [] → ∃ q, a = some ⟨q, 0, none⟩) := by
  have h' := h
  rcases h.2 with ⟨rfl, h0⟩ | ⟨q, cap, cur, rfl, hb, hg, hl, _⟩
  · have hz := List.eq_nil_of_length_eq_zero h0
    exact ⟨none, 0, by rw [h0], .inl hz, by omega, fun e => absurd hz e⟩
  · refine ⟨some ⟨q, 0, none⟩, cap, rfl, .inr ⟨q, rfl, rfl, (World.ownsRow.lt h q rfl).2, fun i z ez => ?_, fun j hj => ⟨.int .i64 (zs[j]'hj), ?_, World.ownsRow.frozenAt h j⟩⟩, hl, fun _ => ⟨q, rfl⟩⟩
    · have hi := (List.getElem?_eq_some_iff.1 ez).1
      rw [Nat.zero_add, World.ownsRow.cellAt h i (by omega), intC_map, List.getElem?_map, ez]; rfl
    · rw [World.ownsRow.cellAt h j (by omega), intC_map, List.getElem?_map, List.getElem?_eq_getElem hj]; rfl
def IAns (w : World) (zs : List Int) (e : Ending) (w' : World) : Prop :=
  ∃ (a : Option Addr) (c : Nat) (P : Nat → Prop), e = .returned (.slice a zs.length c) ∧ OwnIn w' P a zs ∧ (∀ q, P q → w.heap.size ≤ q ∧ q < w'.heap.size) ∧ Below w.heap.size w w'
theorem IAns.of {w w' : World} {base : Nat} {v : Value} {zs : List Int} (h : RowI w' base v zs) (hb : w.heap.size ≤ base) (b : Below w.heap.size w w') : IAns w zs (.returned v) w' := by
  obtain ⟨a, c, e, ho, _⟩ := h.form
  exact ⟨a, c, _, by rw [e], ho, fun q hq => ⟨Nat.le_trans hb (h.lt hq).1, (h.lt hq).2⟩, b⟩
theorem IAns.none {w w' : World} (a : Option Addr) (c : Nat) (b : Below w.heap.size w w') : IAns w [] (.returned (.slice a 0 c)) w' := ⟨a, c, fun _ => False, rfl, .inl rfl, fun _ h => h.elim, b⟩
def wln (zs : List Int) : Nat → List Int
  | 0 => []
  | j + 1 => if hasB (wln zs j) (atN zs j) = true then wln zs j else wln zs j ++ [atN zs j]
theorem wln_le (zs : List Int) : ∀ j, (wln zs j).length ≤ j
  | 0 => by simp [wln]
  | j + 1 => by have := wln_le zs j; rw [wln]; split <;> simp <;> omega
theorem has_mem {zs : List Int} {z : Int} : hasB zs z = true ↔ z ∈ zs := by
  rw [hasB, List.any_eq_true]
  constructor
  · rintro ⟨y, hy, e⟩; simp at e; rw [← e]; exact hy
  · intro h; exact ⟨z, h, by simp⟩
theorem cpn_wln {zs : List Int} (h : ∀ i, i + 1 < zs.length → atN zs i ≤ atN zs (i + 1)) : ∀ j, j ≤ zs.length → cpn zs j = wln zs j ∧ (∀ z ∈ cpn zs j, ∃ i, i < j ∧ z = atN zs i) ∧ (0 < j → atN zs (j - 1) ∈ cpn zs j)
  | 0, _ => ⟨rfl, fun z hz => by simp [cpn] at hz, fun h => by omega⟩
  | j + 1, hj => by
    obtain ⟨e, hm, hl⟩ := cpn_wln h j (by omega)
    have up : ∀ d i, i + d < zs.length → atN zs i ≤ atN zs (i + d) := by
      intro d
      induction d with
      | zero => intro i _; exact Int.le_refl _
      | succ d ih => intro i hi; exact Int.le_trans (ih i (by omega)) (h (i + d) (by omega))
    by_cases hs : j ≠ 0 ∧ atN zs j = atN zs (j - 1)
    · have e1 : cpn zs (j + 1) = cpn zs j := by rw [cpn]; exact if_pos hs
      have hin : atN zs j ∈ cpn zs j := by rw [hs.2]; exact hl (by omega)
      have e2 : wln zs (j + 1) = wln zs j := by rw [wln]; exact if_pos (has_mem.2 (by rw [← e]; exact hin))
      refine ⟨by rw [e1, e2, e], fun z hz => ?_, fun _ => by rw [e1]; simpa using hin⟩
      rw [e1] at hz
      obtain ⟨i, hi, ez⟩ := hm z hz
      exact ⟨i, by omega, ez⟩
    · have e1 : cpn zs (j + 1) = cpn zs j ++ [atN zs j] := by rw [cpn]; exact if_neg hs
      have hno : ¬ hasB (wln zs j) (atN zs j) = true := fun hh => by
        rw [has_mem, ← e] at hh
        obtain ⟨i, hi, ez⟩ := hm _ hh
        have g1 := up (j - 1 - i) i (by omega)
        rw [show i + (j - 1 - i) = j - 1 by omega] at g1
        have g2 := h (j - 1) (by omega)
        rw [show j - 1 + 1 = j by omega] at g2
        exact hs ⟨by omega, by omega⟩
      have e2 : wln zs (j + 1) = wln zs j ++ [atN zs j] := by rw [wln]; exact if_neg hno
      refine ⟨by rw [e1, e2, e], fun z hz => ?_, fun _ => by rw [e1]; simp⟩
      rw [e1] at hz
      rcases List.mem_append.1 hz with hz | hz
      · obtain ⟨i, hi, ez⟩ := hm z hz
        exact ⟨i, by omega, ez⟩
      · simp at hz
        exact ⟨j, by omega, hz⟩
def rgs (xs : List S5) : List Int := xs.map S5.region
theorem rgs_at {xs : List S5} {k : Nat} (h : k < xs.length) : atN (rgs xs) k = (atSe xs k).region := by
  unfold atN atSe rgs
  rw [List.getElem?_map, List.getElem?_eq_getElem h]; rfl
theorem rgs_take {xs : List S5} {k : Nat} (h : k < xs.length) : rgs (xs.take (k + 1)) = rgs (xs.take k) ++ [(atSe xs k).region] := by
  unfold rgs
  rw [List.take_add_one, atSe_of h, List.map_append]; rfl
theorem rgs_up {t : T7} (h : txB t = true) : ∀ i, i + 1 < (rgs t.sets).length → atN (rgs t.sets) i ≤ atN (rgs t.sets) (i + 1) := by
  intro i hi
  have hl : (rgs t.sets).length = t.sets.length := by simp [rgs]
  rw [hl] at hi
  rw [rgs_at (by omega), rgs_at hi]
  simp only [txB, Bool.and_eq_true] at h
  have := List.all_eq_true.1 h.2 (i + 1) (List.mem_range.2 hi)
  simp only [seAt, Bool.and_eq_true, Bool.or_eq_true, decide_eq_true_eq, lessB] at this
  rcases this.2 with e | e | e
  · omega
  · simp at e; omega
  · have := e.1; simp at this; omega
theorem txB_sets {t : T7} (h : txB t = true) : t.reads.length ≤ 12 ∧ t.sets.length ≤ 12 := by
  simp only [txB, Bool.and_eq_true, decide_eq_true_eq] at h
  exact ⟨h.1.1.1.2, h.1.1.2⟩
def wantsT (t : T7) : List Int := if txB t = true then wln (rgs t.sets) t.sets.length else []
theorem compact_none (w : World) (a : Option Addr) (cap : Nat) : Calls Tryz.prog 175 #[.slice a 0 cap] w fun e w' => e = .returned (.slice a 0 cap) ∧ w' = w := by
  go_enter Tryz.func175, Tryz.ntmps175
  go_wp2
  go_ret
  exact ⟨rfl, rfl⟩
def WAns (w : World) (zs : List Int) (e : Ending) (w' : World) : Prop := ∃ v, e = .returned v ∧ RowI w' w.heap.size v zs ∧ Below w.heap.size w w'
theorem WAns.i {w : World} {zs : List Int} {e : Ending} {w' : World} (h : WAns w zs e w') : IAns w zs e w' := by
  obtain ⟨v, rfl, h1, h2⟩ := h
  exact IAns.of h1 (Nat.le_refl _) h2
theorem RowI.up {W : World} {base base' : Nat} {v : Value} {zs : List Int} (h : RowI W base' v zs) (hb : base ≤ base') : RowI W base v zs := by
  obtain ⟨h1, h2⟩ := h
  refine ⟨h1, h2.imp id ?_⟩
  rintro ⟨g, cap, cur, e, hg, r⟩
  exact ⟨g, cap, cur, e, Nat.le_trans hb hg, r⟩
theorem RowI.cut {w w' : World} {base b k : Nat} {zs C : List Int} (h : RowI w base (.slice (some ⟨b, 0, none⟩) zs.length k) zs) (hs : Shp b w w') (hn : NumsAt w' b 0 C) (hl : C.length ≤ zs.length) : RowI w' base (.slice (some ⟨b, 0, none⟩) C.length k) C := by
  obtain ⟨_, h2⟩ := h
  rcases h2 with ⟨e, _⟩ | ⟨g, cap, cur, e, hb, hg, hn1, hm, hsz, _⟩
  · cases e
  · cases e
    obtain ⟨cur', h3, h4⟩ := hs cur _ _ hg
    refine ⟨by rw [intC_map]; simp, .inr ⟨b, k, cur', rfl, hb, h3, by omega, hm, h4.trans hsz, ?_⟩⟩
    rw [intC_map, Nat.mul_one]
    refine List.ext_getElem? fun i => ?_
    rw [List.getElem?_take, List.getElem?_map]
    by_cases hi : i < C.length
    · have := hn i _ (List.getElem?_eq_getElem hi)
      rw [Nat.zero_add] at this
      simp only [World.cell?, h3] at this
      rw [if_pos hi, List.getElem?_eq_getElem hi, Option.map_some, Array.getElem?_toList]
      simpa using this
    · rw [if_neg hi, List.getElem?_eq_none (by omega)]; rfl
set_option maxHeartbeats 4000000 in
theorem implWantsR_any (w : World) (v : TV) (t : T7) (hl : TL t) (hs : SlT w v t) :
    Calls Tryz.prog 140 #[v.val t] w (WAns w (wantsT t)) := by
  obtain ⟨ar, cr, ah, ch⟩ := v
  simp only [TV.val]
  obtain ⟨W, hW⟩ : ∃ W, W = w.alloc (.cells #[.int .i64 t.id, .int .i64 t.home, .int .i64 t.phase, .int .i64 t.count, .slice ar t.reads.length cr, .slice ah t.sets.length ch, .int .i64 t.stamp] 55) := ⟨_, rfl⟩
  have b0 : Below w.heap.size w W := by rw [hW]; exact (Below.refl _ _).alloc (Nat.le_refl _) _
  have x0 : BT W w.heap.size ⟨ar, cr, ah, ch⟩ t := by rw [hW]; exact BT.box w ⟨ar, cr, ah, ch⟩ t _
  have c1 := implTxOk_any W ⟨ar, cr, ah, ch⟩ t hl (hs.later b0)
  simp only [TV.val] at c1
  have H : Hid (SlT W ⟨ar, cr, ah, ch⟩ t ∧ BT W w.heap.size ⟨ar, cr, ah, ch⟩ t ∧ Below w.heap.size w W) := ⟨hs.later b0, x0, b0⟩
  clear hs b0 x0 hl
  cases hB : txB t with
  | false =>
    rw [hB] at c1
    have HN : Hid (wantsT t = []) := by unfold Hid; simp [wantsT, hB]
    go_enter Tryz.func140, Tryz.ntmps140
    go_wp2_with fail
    rw [← hW]
    clear hW
    refine c1.mono ?_
    clear c1
    rintro e w1 ⟨rfl, b1⟩
    have KB : Hid (Below w.heap.size w w1) := H.out.2.2.trans (b1.mono H.out.2.2.size)
    clear b1
    go_wp2
    go_ret
    rw [HN.out]
    exact ⟨_, rfl, RowI.nil _ _, KB.out⟩
  | true =>
    rw [hB] at c1
    have hlr : (rgs t.sets).length = t.sets.length := by simp [rgs]
    have HN : Hid (wantsT t = cpn (rgs t.sets) (rgs t.sets).length) := by
      unfold Hid
      rw [(cpn_wln (rgs_up hB) _ (Nat.le_refl _)).1, hlr]
      simp [wantsT, hB]
    have HR : Hid ((rgs t.sets).length = t.sets.length) := hlr
    have hl12 := (txB_sets hB).2
    clear hlr
    go_enter Tryz.func140, Tryz.ntmps140
    go_wp2_with fail
    rw [← hW]
    clear hW
    refine c1.mono ?_
    clear c1
    rintro e w1 ⟨rfl, b1⟩
    have p5 := (H.out.2.1.later b1).c5
    dsimp only at p5
    have K1 : Hid (SlT w1 ⟨ar, cr, ah, ch⟩ t ∧ Below w.heap.size w w1) := ⟨H.out.1.later b1, H.out.2.2.trans (b1.mono H.out.2.2.size)⟩
    clear b1 H
    go_wp2
    clear p5
    go_loopw [3, 12] (fun v3 v12 wr => ∃ k : Nat, k ≤ t.sets.length ∧ v12 = .int .i64 k ∧ RowI wr w1.heap.size v3 (rgs (t.sets.take k)) ∧ Below w1.heap.size w1 wr) (fun _ v12 _ => t.sets.length - (intOf v12).toNat)
    case atStart => exact ⟨0, Nat.zero_le _, rfl, by simpa [rgs] using RowI.nil w1 _, Below.refl _ _⟩
    case round =>
      obtain ⟨k, hk, rfl, hrow, hbl⟩ := hrel
      obtain ⟨h1, h2⟩ := K1.out
      have hsz := hbl.size
      by_cases hlt : k < t.sets.length
      · obtain ⟨_, hsk⟩ := (h1.later hbl).s
        dsimp only at hsk
        rcases hsk with hsk | ⟨b, off, rfl, hb, hx⟩
        · omega
        obtain ⟨c0, c1, c2, c3, c4⟩ := hx k _ (atSe_of hlt)
        obtain ⟨U, hU⟩ : ∃ V, V = wr.alloc (.cells #[.int .i64 (atSe t.sets k).region, .int .i64 (atSe t.sets k).slot, .int .i64 (atSe t.sets k).value, .bool (atSe t.sets k).used, .int .i64 (atSe t.sets k).version] 106) := ⟨_, rfl⟩
        have bU : Below wr.heap.size wr U := by rw [hU]; exact (Below.refl _ _).alloc (Nat.le_refl _) _
        have zU : U.heap.size = wr.heap.size + 1 := by rw [hU]; simp
        obtain ⟨V, hV⟩ : ∃ V, V = U.alloc (.cells #[.int .i64 (atSe t.sets k).region] 2) := ⟨_, rfl⟩
        have bV : Below wr.heap.size wr V := by rw [hV]; exact bU.alloc bU.size _
        have hone : V.cell? ⟨wr.heap.size + 1, 0, none⟩ = some (.int .i64 (atSe t.sets k).region) := by rw [hV, ← zU]; go_simp
        have hlk : (rgs (t.sets.take k)).length + 1 ≤ 1048576 := by unfold rgs; rw [List.length_map, List.length_take]; omega
        obtain ⟨v', Y, hr, hrow', hgr, hlies⟩ := pushI (hrow.later bV) (atSe t.sets k).region hlk 28 (wr.heap.size + 1) 1 hone (by have := bV.size; omega)
        have KE : Hid (RowI Y w1.heap.size v' (rgs (t.sets.take (k + 1))) ∧ Below w1.heap.size w1 Y) := by
          refine ⟨by rw [rgs_take hlt]; exact hrow', ?_⟩
          exact (hbl.trans (bV.mono (by omega))).grown hgr (by have := bV.size; omega) (fun q e => (hrow.lt e).1)
        rw [hV, hU] at hr
        clear hV hU bV bU zU hone hrow' hgr hlies hrow hbl h1 h2 hx hlk
        go_wp2_with (at_builtin; refine append_known _ rfl (.tmp 16) (.tmp 19) 28 rfl _ _ _ _ rfl rfl hr ?_)
        exact ⟨⟨k + 1, by omega, by simp, KE.out.1, KE.out.2⟩, by simp [intOf]; omega⟩
      · obtain rfl : k = t.sets.length := by omega
        have hd : decide ((t.sets.length : Int) < (t.sets.length : Int)) = false := by simp
        rw [List.take_length] at hrow
        obtain ⟨a3, k3, rfl, ho3, hc3, hs3⟩ := hrow.form
        have KE : Hid (Below w.heap.size w wr ∧ w.heap.size ≤ w1.heap.size ∧ RowI wr w1.heap.size (.slice a3 (rgs t.sets).length k3) (rgs t.sets)) := ⟨h2.trans (hbl.mono h2.size), h2.size, hrow⟩
        clear hrow hbl h1 h2
        rcases ho3 with hnil | ⟨b3, rfl, hp3, hl3, hn3, hr3⟩
        · have HZ : Hid (wantsT t = [] ∧ (rgs t.sets).length = 0) := ⟨by rw [HN.out, hnil]; rfl, by rw [hnil]; rfl⟩
          have KI : Hid (RowI wr w.heap.size (.slice a3 0 k3) []) := by
            have := KE.out.2.2.up KE.out.2.1
            rw [hnil] at this
            exact this
          have e0 := HZ.out.2
          rw [e0]
          clear hnil hc3 hs3 e0
          have hc := compact_none wr a3 k3
          go_wp2_with fail
          refine hc.mono ?_
          clear hc
          rintro e w' ⟨rfl, rfl⟩
          go_wp2
          go_ret
          rw [HZ.out.1]
          exact ⟨_, rfl, KI.out, KE.out.1⟩
        · have hc := compact_own wr b3 k3 (rgs t.sets) (by rw [HR.out]; omega) hc3 hn3 hr3 hl3
          have KB : Hid (w1.heap.size ≤ b3 ∧ b3 < wr.heap.size) := KE.out.2.2.lt rfl
          clear hc3 hs3 hp3 hl3 hn3 hr3
          have HW : Hid (WAns w (wantsT t) = WAns w (cpn (rgs t.sets) (rgs t.sets).length)) := by unfold Hid; rw [HN.out]
          have HLE : Hid ((cpn (rgs t.sets) (rgs t.sets).length).length ≤ (rgs t.sets).length) := cpn_le _ _
          generalize cpn (rgs t.sets) (rgs t.sets).length = C at *
          go_wp2_with fail
          refine hc.mono ?_
          clear hc
          rintro e w' ⟨rfl, ht, hn, hr⟩
          have KF : Hid (TurnS b3 wr w' ∧ NumsAt w' b3 0 C ∧ Room w' b3 (rgs t.sets).length) := ⟨ht, hn, hr⟩
          clear ht hn hr
          go_wp2
          go_ret
          rw [HW.out]
          obtain ⟨f1, f2, f3⟩ := KF.out
          have g1 := KB.out
          have g2 := KE.out.2.1
          have bb : Below w.heap.size w w' := KE.out.1.trans (f1.t.below (by omega) KE.out.1.size)
          exact ⟨_, rfl, (RowI.cut KE.out.2.2 f1.s f2 HLE.out).up KE.out.2.1, bb⟩
theorem implWants_any (w : World) (v : TV) (t : T7) (hl : TL t) (hs : SlT w v t) : Calls Tryz.prog 140 #[v.val t] w (IAns w (wantsT t)) := (implWantsR_any w v t hl hs).mono fun _ _ h => h.i
end Go.Proofs.YtdmpobegobfpjaaGreat.tx