/- CapT; SerS; KdC; CelD; FinS; YNuD; YWanC; YWanA; Copy; SeA; TfsI; RpL; LstI; RpM; VerI; RpN: joined. -/
import Derived.Test.YtdmpobegobfpjaaGreatRows
import Derived.Test.YtdmpobegobfpjaaGreatJ6ExactFinal
import Derived.WalkKit
import Derived.WalkSpells
import Derived.WalkLawsBesides
import Derived.Below
import Derived.Test.YtdmpobegobfpjaaGreatJ9ExactFinal
import Derived.Test.YtdmpobegobfpjaaGreatJ7ExactFinal
import Derived.Lib.QuietBelow
import Derived.BigQuiet
import Derived.Deep.CutRange
import Derived.LaidEql
import Derived.RowKitTokens
import Derived.Test.YtdmpobegobfpjaaGreatJ3ExactFinal
import Derived.Test.YtdmpobegobfpjaaGreatJ2ExactFinal
import Derived.Deep.QuietTactic
import Derived.Lib.SliceRun
import Derived.Laws.CopyOwn
import Derived.Test.YtdmpobegobfpjaaGreatJ1ExactFinal
import Derived.Test.YtdmpobegobfpjaaGreatJ5ExactFinal
import Derived.Test.YtdmpobegobfpjaaGreatJ0ExactFinal
import Derived.Laws.StructEq
import Derived.ChangeKeysEq
import Derived.Deep.Heap
import Derived.Deep.AppendLies
import Derived.Deep.Upon
import Derived.Deep.RegionWith
namespace Go.Proofs.YtdmpobegobfpjaaGreat
open Go.RowKit
theorem txs_atC {U : World} {a3 : Option Addr} {ts : List tx.T7} (h : KTkC.RdS U a3 ts) : ∃ tv : Nat → tx.TV, (ts = [] ∨ ∃ b off, a3 = some ⟨b, off, none⟩ ∧ b < U.heap.size ∧ AtX U b off ((List.range ts.length).map fun j => (tv j, atT ts j)) ∧ ∀ j, j < ts.length → tx.SlT U (tv j) (atT ts j)) ∧ ∀ j, j < ts.length → (atT ts j).sets.length ≤ (tv j).ch := by
  rcases h with rfl | ⟨b, off, rfl, hb, h⟩
  · exact ⟨fun _ => ⟨none, 0, none, 0⟩, .inl rfl, fun j hj => absurd hj (Nat.not_lt_zero j)⟩
  · have hc : ∀ j, ∃ v, j < ts.length → At U b (off + j * 7) (KTk.cells v (atT ts j)) ∧ tx.SlT U v (atT ts j) ∧ (atT ts j).sets.length ≤ v.ch := fun j => by
      by_cases hj : j < ts.length
      · obtain ⟨v, h1, h2, h3⟩ := h j _ (atT_of hj)
        exact ⟨v, fun _ => ⟨h1, h2, h3⟩⟩
      · exact ⟨⟨none, 0, none, 0⟩, fun h => absurd h hj⟩
    refine ⟨fun j => Classical.choose (hc j), .inr ⟨b, off, rfl, hb, fun i x hx t u hu => ?_, fun j hj => (Classical.choose_spec (hc j) hj).2.1⟩, fun j hj => (Classical.choose_spec (hc j) hj).2.2⟩
    rw [List.getElem?_map] at hx
    obtain ⟨j, hj, rfl⟩ := Option.map_eq_some_iff.1 hx
    have hjl : i < ts.length := by have := (List.getElem?_eq_some_iff.1 hj).1; simpa using this
    have hij : i = j := by rw [List.getElem?_range hjl] at hj; exact Option.some.inj hj
    subst hij
    exact (Classical.choose_spec (hc i) hjl).1 t u hu
end Go.Proofs.YtdmpobegobfpjaaGreat
namespace Go.Proofs.YtdmpobegobfpjaaGreat
open Go.RowKit
open Go.Sort (grow)
def serB (k : C6) : Bool := clusterB k && (rep0 k).2
set_option maxRecDepth 100000 in
set_option maxHeartbeats 4000000 in
theorem specSerial_any (w : World) (a1 : Option Addr) (c1 : Nat) (a2 : Option Addr) (c2 : Nat) (a3 : Option Addr) (c3 : Nat) (k : C6) (hl : KCl.L k) (h : KCl.Rd w a1 c1 a2 c2 a3 c3 k) (hcp : KTkC.RdS w a3 k.txs) :
    Calls Tryz.prog 16 #[.agg #[.int .i64 k.config, .int .i64 k.clock, .slice a1 k.places.length c1, .slice a2 k.machines.length c2, .slice a3 k.txs.length c3, .bool k.lost]] w fun e w' => e = .returned (.bool (serB k)) ∧ Below w.heap.size w w' := by
  obtain ⟨U, hU⟩ : ∃ Y, Y = w.alloc (.cells #[.int .i64 k.config, .int .i64 k.clock, .slice a1 k.places.length c1, .slice a2 k.machines.length c2, .slice a3 k.txs.length c3, .bool k.lost] 34) := ⟨_, rfl⟩
  have BU : Hid (Below w.heap.size w U) := by unfold Hid; rw [hU]; exact (Below.refl _ _).alloc (Nat.le_refl _) _
  have FA : Hid (Bx U w.heap.size [.int .i64 k.config, .int .i64 k.clock, .slice a1 k.places.length c1, .slice a2 k.machines.length c2, .slice a3 k.txs.length c3, .bool k.lost]) := by unfold Hid; rw [hU]; exact Bx.made w [.int .i64 k.config, .int .i64 k.clock, .slice a1 k.places.length c1, .slice a2 k.machines.length c2, .slice a3 k.txs.length c3, .bool k.lost] _
  have HR : Hid (KCl.Rd U a1 c1 a2 c2 a3 c3 k ∧ KCl.L k ∧ KTkC.RdS U a3 k.txs) := ⟨h.later BU.out, hl, hcp.later BU.out⟩
  have hc := specClusterOk_any U a1 c1 a2 c2 a3 c3 k hl HR.out.1
  clear h hl hcp
  go_enter Tryz.func16, Tryz.ntmps16
  go_wp2_with fail
  rw [← hU]
  clear hU
  refine hc.mono ?_
  clear hc
  rintro e W1 ⟨rfl, b1⟩
  have B1 : Hid (Below U.heap.size U W1) := b1
  clear b1
  cases hk : clusterB k with
  | false =>
    have HV : Hid (serB k = false) := by unfold Hid serB; rw [hk]; rfl
    clear hk
    go_wp2
    go_ret
    exact ⟨by rw [HV.out]; rfl, bstep BU.out B1.out⟩
  | true =>
  have HV : Hid (serB k = (rep0 k).2) := by unfold Hid serB; rw [hk]; rfl
  obtain ⟨tv, ht, hcp⟩ := txs_atC (HR.out.2.2.later B1.out)
  have hr := l13Replay_any W1 a1 c1 a2 c2 a3 c3 k tv hk HR.out.2.1 ht hcp
  have q0 := (FA.out.later B1.out).1 0 _ rfl
  have q1 := (FA.out.later B1.out).1 1 _ rfl
  have q2 := (FA.out.later B1.out).1 2 _ rfl
  have q3 := (FA.out.later B1.out).1 3 _ rfl
  have q4 := (FA.out.later B1.out).1 4 _ rfl
  have q5 := (FA.out.later B1.out).1 5 _ rfl
  clear ht hcp hk
  go_wp2_with fail
  refine hr.mono ?_
  clear hr q0 q1 q2 q3 q4 q5
  rintro e W2 ⟨v, gs, rfl, -, b2⟩
  have B2 : Hid (Below U.heap.size U W2) := bstep B1.out b2
  clear b2
  rw [← HV.out]
  go_wp2
  go_ret
  exact ⟨rfl, bstep BU.out B2.out⟩
def KC.Rd (X : World) (a : Option Addr) (_ : Nat) (xs : List C2) : Prop := SlC X X.heap.size a xs.length xs
theorem KC.Rd.later {X Y : World} {a : Option Addr} {c : Nat} {xs : List C2} (h : KC.Rd X a c xs) (b : Below X.heap.size X Y) : KC.Rd Y a c xs := SlC.later h b
def KC.Ow (w : World) (B : Nat) (a : Option Addr) (_ : Nat) (xs : List C2) (P : Nat → Prop) : Prop := (xs = [] ∨ ∃ q, a = some ⟨q, 0, none⟩ ∧ P q ∧ CellsAt w q 0 xs ∧ Room w q (xs.length * 2)) ∧ (∀ q, P q → B ≤ q ∧ q < w.heap.size)
theorem KC.Ow.of {w : World} {B : Nat} {a : Option Addr} {c : Nat} {xs : List C2} {P : Nat → Prop} (h : KC.Ow w B a c xs P) {q : Nat} (hq : P q) : B ≤ q ∧ q < w.heap.size := h.2 q hq
theorem KC.Ow.sl {w : World} {B : Nat} {a : Option Addr} {c : Nat} {xs : List C2} {P : Nat → Prop} (h : KC.Ow w B a c xs P) : KC.Rd w a c xs := by
  rcases h with ⟨rfl | ⟨q, rfl, hp, h1, h2⟩, hb⟩
  · exact ⟨rfl, .inl rfl⟩
  · exact ⟨rfl, .inr ⟨q, 0, rfl, (hb q hp).2, h1⟩⟩
theorem KC.Ow.keep {w : World} {B : Nat} {a : Option Addr} {c : Nat} {xs : List C2} {P : Nat → Prop} {w' : World} (h : KC.Ow w B a c xs P) (hs : w.heap.size ≤ w'.heap.size) (hk : ∀ q, P q → w'.heap[q]? = w.heap[q]?) : KC.Ow w' B a c xs P := by
  rcases h with ⟨h | ⟨q, e, hp, h1, h2⟩, hb⟩
  · exact ⟨.inl h, fun q hq => ⟨(hb q hq).1, Nat.lt_of_lt_of_le (hb q hq).2 hs⟩⟩
  · exact ⟨.inr ⟨q, e, hp, h1.of_block (hk q hp), room_blk h2 (hk q hp)⟩, fun q hq => ⟨(hb q hq).1, Nat.lt_of_lt_of_le (hb q hq).2 hs⟩⟩
theorem KC.Ow.later {w : World} {B : Nat} {a : Option Addr} {c : Nat} {xs : List C2} {P : Nat → Prop} {w' : World} (h : KC.Ow w B a c xs P) (hb : Below w.heap.size w w') : KC.Ow w' B a c xs P := h.keep hb.size (fun q hq => hb.block q (h.of hq).2)
theorem KC.Ow.low {w : World} {B : Nat} {a : Option Addr} {c : Nat} {xs : List C2} {P : Nat → Prop} {B' : Nat} (h : KC.Ow w B a c xs P) (hb : B' ≤ B) : KC.Ow w B' a c xs P := ⟨h.1, fun q hq => ⟨Nat.le_trans hb (h.2 q hq).1, (h.2 q hq).2⟩⟩
theorem KC.eq (X : World) (a : Option Addr) (c : Nat) (a' : Option Addr) (c' : Nat) (xs : List C2) (ht : xs.length ≤ 1048576) (h1 : KC.Rd X a c xs) (h2 : KC.Rd X a' c' xs) : Calls Tryz.prog 20 #[.slice a xs.length c, .slice a' xs.length c'] X fun e w' => e = .returned (.bool true) ∧ Below X.heap.size X w' := eqCellS_any X a a' xs.length c c' xs (by unfold maxLen; omega) h1 h2
theorem KC.mark (X : World) (B : Nat) (a : Option Addr) (c : Nat) (xs : List C2) (P : Nat → Prop) (k : Int) (hk : 0 ≤ k) (hk' : k ≤ 1000000000) (ht : xs.length ≤ 1048576) (h : KC.Ow X B a c xs P) : Calls Tryz.prog 21 #[.slice a xs.length c, .int .i64 k] X fun r w' => r = .returned (.int .i64 (k + 2 * (xs.length : Int))) ∧ KeptP P X w' ∧ KC.Rd w' a c (mkCells k xs.length) := by
  rcases h with ⟨rfl | ⟨q, rfl, hp, h1, h2⟩, hb⟩
  · refine (markCellS_nil X a c k).mono ?_
    rintro e w' ⟨rfl, rfl⟩
    exact ⟨by simp, KeptP.refl _ _, by simp [KC.Rd, mkCells, SlC]⟩
  · refine (markCellS_k X q xs.length c k ht hk hk' h2).mono ?_
    rintro e w' ⟨rfl, ho, hc, hr⟩
    exact ⟨rfl, KeptP.of_only ho hp, by unfold KC.Rd; exact ⟨rfl, .inr ⟨q, 0, rfl, by rw [ho.size]; exact (hb q hp).2, hc⟩⟩⟩
theorem KC.held (X : World) (a : Option Addr) (c : Nat) (xs : List C2) (k : Int) (hk : 0 ≤ k) (hk' : k ≤ 1000000000) (ht : xs.length ≤ 1048576) (h : KC.Rd X a c (mkCells k xs.length)) : Calls Tryz.prog 22 #[.slice a xs.length c, .int .i64 k] X fun r w' => r = .returned (.int .i64 (k + 2 * (xs.length : Int))) ∧ Below X.heap.size X w' := by
  unfold KC.Rd at h
  rw [mkCells_len] at h
  refine (heldCellS_k X a xs.length c k ht hk hk' h).mono ?_
  rintro e w' ⟨rfl, rfl⟩
  exact ⟨rfl, Below.refl _ _⟩
def priM (k : C6) (i : Nat) : M4 := atM k.machines (atN (atP k.places i) 0).toNat
noncomputable def celO (k : C6) (y : Int) : Option (List C2) := if clusterB k = true ∧ 0 ≤ y ∧ y < (k.places.length : Int) ∧ (priM k y.toNat).alive = true then some (atK (priM k y.toNat).copies (idxC (priM k y.toNat) y).toNat).cells else none
noncomputable def celN (k : C6) (y : Int) : List C2 := (celO k y).getD []
noncomputable def celB (k : C6) (y : Int) : Bool := (celO k y).isSome
def CAns (w : World) (N : List C2) (o : Bool) (e : Ending) (w' : World) : Prop := ∃ (a : Option Addr) (c : Nat) (P : Nat → Prop), e = .returned (.tuple #[.slice a N.length c, .bool o]) ∧ KC.Ow w' w.heap.size a c N P ∧ Below w.heap.size w w'
theorem CAns.zero {w w' : World} {k : C6} {y : Int} (hn : celN k y = [] ∧ celB k y = false) (a : Option Addr) (c : Nat) (h : Below w.heap.size w w') : CAns w (celN k y) (celB k y) (.returned (.tuple #[.slice a 0 c, .bool false])) w' := by
  rw [hn.1, hn.2]
  exact ⟨a, c, fun _ => False, rfl, ⟨.inl rfl, fun _ h => h.elim⟩, h⟩
theorem CAns.some {w w' : World} {k : C6} {y : Int} {xs : List C2} (hn : celN k y = xs ∧ celB k y = true) {q c : Nat} (h1 : w.heap.size ≤ q) (h2 : q < w'.heap.size) (h3 : CellsAt w' q 0 xs) (h4 : Room w' q (xs.length * 2)) (h : Below w.heap.size w w') : CAns w (celN k y) (celB k y) (.returned (.tuple #[.slice (some ⟨q, 0, none⟩) xs.length c, .bool true])) w' := by
  rw [hn.1, hn.2]
  exact ⟨_, c, fun x => x = q, rfl, ⟨.inr ⟨q, rfl, rfl, h3, h4⟩, fun x hx => by subst hx; exact ⟨h1, h2⟩⟩, h⟩
def finB (k : C6) (y : Int) : Bool := serB k && inB 0 ((k.places.length : Int) - 1) y
def finL (k : C6) (y : Int) : List C2 := if finB k y = true then (rep0 k).1[y.toNat]?.getD [] else []
theorem fin_zero {w W : World} {k : C6} {y : Int} (h : finB k y = false) (a : Option Addr) (hb : Below w.heap.size w W) : CAns w (finL k y) (finB k y) (.returned (.tuple #[.slice a 0 0, .bool false])) W := by
  have hL : finL k y = [] := by simp [finL, h]
  rw [hL, h]
  exact ⟨a, 0, fun _ => False, rfl, ⟨.inl rfl, fun q hq => hq.elim⟩, hb⟩
theorem foldA_len (ss : List S5) : ∀ css : List (List C2), (ss.foldl insA css).length = css.length := by
  induction ss with
  | nil => intro css; rfl
  | cons s ss ih => intro css; rw [List.foldl_cons, ih, insA_len]
theorem repl_len (k : C6) : ∀ (js : List Nat) (css : List (List C2)), (repl k css js).1.length = css.length := by
  intro js
  induction js with
  | nil => intro css; rfl
  | cons j js ih =>
    intro css
    rw [repl]
    split
    · rw [ih, foldA_len]
    · rfl
theorem rep0_len (k : C6) : (rep0 k).1.length = k.places.length := by rw [rep0, repl_len, List.length_replicate]
set_option maxRecDepth 100000 in
set_option maxHeartbeats 4000000 in
theorem specFinal_any (w : World) (a1 : Option Addr) (c1 : Nat) (a2 : Option Addr) (c2 : Nat) (a3 : Option Addr) (c3 : Nat) (k : C6) (y : Int) (hl : KCl.L k) (h : KCl.Rd w a1 c1 a2 c2 a3 c3 k) (hcp : KTkC.RdS w a3 k.txs) :
    Calls Tryz.prog 18 #[.agg #[.int .i64 k.config, .int .i64 k.clock, .slice a1 k.places.length c1, .slice a2 k.machines.length c2, .slice a3 k.txs.length c3, .bool k.lost], .int .i64 y] w (CAns w (finL k y) (finB k y)) := by
  obtain ⟨U, hU⟩ : ∃ Y, Y = w.alloc (.cells #[.int .i64 k.config, .int .i64 k.clock, .slice a1 k.places.length c1, .slice a2 k.machines.length c2, .slice a3 k.txs.length c3, .bool k.lost] 34) := ⟨_, rfl⟩
  have BU : Hid (Below w.heap.size w U) := by unfold Hid; rw [hU]; exact (Below.refl _ _).alloc (Nat.le_refl _) _
  have FA : Hid (Bx U w.heap.size [.int .i64 k.config, .int .i64 k.clock, .slice a1 k.places.length c1, .slice a2 k.machines.length c2, .slice a3 k.txs.length c3, .bool k.lost]) := by unfold Hid; rw [hU]; exact Bx.made w [.int .i64 k.config, .int .i64 k.clock, .slice a1 k.places.length c1, .slice a2 k.machines.length c2, .slice a3 k.txs.length c3, .bool k.lost] _
  have HR : Hid (KCl.Rd U a1 c1 a2 c2 a3 c3 k ∧ KCl.L k ∧ KTkC.RdS U a3 k.txs) := ⟨h.later BU.out, hl, hcp.later BU.out⟩
  have hc := specSerial_any U a1 c1 a2 c2 a3 c3 k hl HR.out.1 HR.out.2.2
  clear h hl hcp
  go_enter Tryz.func18, Tryz.ntmps18
  go_wp2_with fail
  rw [← hU]
  clear hU
  refine hc.mono ?_
  clear hc
  rintro e W1 ⟨rfl, b1⟩
  have B1 : Hid (Below U.heap.size U W1) := b1
  clear b1
  have KW : Hid (∀ o, Below w.heap.size w (W1.alloc o)) := fun o => (bstep BU.out B1.out).alloc (bstep BU.out B1.out).size o
  cases hB : serB k with
  | false =>
    have HN : Hid (finB k y = false) := by unfold Hid finB; rw [hB]; rfl
    clear hB
    go_wp2
    exact bodyPost_ret (v := .tuple #[.slice (some ⟨W1.heap.size, 0, none⟩) 0 0, .bool false]) (by simp [results, Tryz.results18, go_sem]) rfl (fin_zero HN.out _ (KW.out _))
  | true =>
    have hk : clusterB k = true := by unfold serB at hB; rw [Bool.and_eq_true] at hB; exact hB.1
    have hp6 := (CSm.of hk).p
    have p2 := (FA.out.later B1.out).1 2 _ rfl
    have hin := specIn W1 y 0 ((k.places.length : Int) - 1)
    go_wp2_with fail
    refine hin.mono ?_
    clear hin p2
    rintro e w2 ⟨rfl, rfl⟩
    cases hI : inB 0 ((k.places.length : Int) - 1) y with
    | false =>
      have HN : Hid (finB k y = false) := by unfold Hid finB; rw [hI]; simp
      clear hI hB hk
      go_wp2
      exact bodyPost_ret (v := .tuple #[.slice (some ⟨w2.heap.size, 0, none⟩) 0 0, .bool false]) (by simp [results, Tryz.results18, go_sem]) rfl (fin_zero HN.out _ (KW.out _))
    | true =>
      have hy := inB_iff.1 hI
      obtain ⟨i, rfl⟩ : ∃ i : Nat, y = (i : Int) := ⟨y.toNat, by omega⟩
      have hi : i < k.places.length := by omega
      have HFB : Hid (finB k (i : Int) = true ∧ finL k (i : Int) = (rep0 k).1[i]?.getD []) := by
        have hf : finB k (i : Int) = true := by unfold finB; rw [hB, hI]; rfl
        exact ⟨hf, by rw [finL, if_pos hf]; rfl⟩
      obtain ⟨tv, ht, hcp⟩ := txs_atC (HR.out.2.2.later B1.out)
      have hr := l13Replay_any w2 a1 c1 a2 c2 a3 c3 k tv hk HR.out.2.1 ht hcp
      have q0 := (FA.out.later B1.out).1 0 _ rfl
      have q1 := (FA.out.later B1.out).1 1 _ rfl
      have q2 := (FA.out.later B1.out).1 2 _ rfl
      have q3 := (FA.out.later B1.out).1 3 _ rfl
      have q4 := (FA.out.later B1.out).1 4 _ rfl
      have q5 := (FA.out.later B1.out).1 5 _ rfl
      have i1 : (i : Int) < (k.places.length : Int) := by omega
      clear ht hcp hk hI hy hB
      go_wp2_with fail
      refine hr.mono ?_
      clear hr q0 q1 q2 q3 q4 q5
      rintro e W2 ⟨v, gs, rfl, hal, b2⟩
      have B2 : Hid (Below w.heap.size w W2) := bstep BU.out (bstep B1.out b2)
      have hgl : gs.length = k.places.length := by rw [← hal.len, rep0_len]
      obtain ⟨a', c', rfl, hat⟩ := hal.row.at
      obtain ⟨x, hx⟩ : ∃ x, gs[i]? = some x := ⟨_, List.getElem?_eq_getElem (by omega)⟩
      obtain ⟨xs, hxs⟩ : ∃ xs, (rep0 k).1[i]? = some xs := ⟨_, List.getElem?_eq_getElem (by rw [rep0_len]; exact hi)⟩
      obtain ⟨ab, rfl, hab, hca⟩ := hat i x hx
      have hcl := hal.cs i x xs hx hxs
      have HA : Hid (CAns w (finL k (i : Int)) (finB k (i : Int)) (.returned (.tuple #[.slice (some ⟨x.1, 0, none⟩) 6 x.2, .bool true])) W2) := by
        unfold Hid
        rw [HFB.out.1, HFB.out.2, hxs]
        have hsz : w.heap.size ≤ w2.heap.size := (bstep BU.out B1.out).size
        refine ⟨some ⟨x.1, 0, none⟩, x.2, fun q => q = x.1, ?_, ⟨.inr ⟨x.1, rfl, rfl, hcl.2.2.1, ?_⟩, ?_⟩, B2.out⟩
        · rw [Option.getD_some, hcl.2.2.2.2.1]
        · rw [Option.getD_some, hcl.2.2.2.2.1]; exact hcl.2.2.2.1
        · rintro q rfl
          exact ⟨Nat.le_trans hsz hcl.1, hcl.2.1⟩
      have ig : (i : Int) < (gs.length : Int) := by omega
      clear hal hat hcl b2 hx hxs
      go_wp2
      exact bodyPost_ret (v := .tuple #[.slice (some ⟨x.1, 0, none⟩) 6 x.2, .bool true]) (by simp [results, Tryz.results18, go_sem]) rfl HA.out
end Go.Proofs.YtdmpobegobfpjaaGreat
namespace Go.Proofs.YtdmpobegobfpjaaGreat.tx
open Go.RowKit
theorem below_dn {B : Nat} {a w : World} (h : Below B a w) (n : Nat) : Below B a (w.drewN n) := ⟨h.os, h.tape, h.output, h.size, h.block⟩
def NumsAt (w : World) (b off : Nat) (zs : List Int) : Prop := ∀ i z, zs[i]? = some z → w.cell? ⟨b, off + i, none⟩ = some (.int .i64 z)
theorem NumsAt.below {w w' : World} {B b off : Nat} {zs : List Int} (h : NumsAt w b off zs) (hb : Below B w w') (hB : b < B) : NumsAt w' b off zs := fun i z e => by rw [hb.cell (p := ⟨b, off + i, none⟩) hB]; exact h i z e
def SlN (w : World) (B : Nat) (a : Option Addr) (n : Nat) (zs : List Int) : Prop := zs.length = n ∧ (n = 0 ∨ ∃ b off, a = some ⟨b, off, none⟩ ∧ b < B ∧ NumsAt w b off zs)
theorem SlN.later {w w' : World} {a : Option Addr} {n : Nat} {zs : List Int} (h : SlN w w.heap.size a n zs) (hb : Below w.heap.size w w') : SlN w' w'.heap.size a n zs := by
  obtain ⟨h1, h2⟩ := h
  refine ⟨h1, ?_⟩
  rcases h2 with h2 | ⟨b, off, ha, hB, hx⟩
  · exact .inl h2
  · exact .inr ⟨b, off, ha, Nat.lt_of_lt_of_le hB hb.size, hx.below hb hB⟩
def atN (zs : List Int) (i : Nat) : Int := zs[i]?.getD 0
theorem atN_of {zs : List Int} {i : Nat} (h : i < zs.length) : zs[i]? = some (atN zs i) := by simp [atN, List.getElem?_eq_getElem h]
def hasB (zs : List Int) (z : Int) : Bool := zs.any (fun y => decide (y = z))
theorem has_yes {zs : List Int} {z : Int} {i : Nat} (hi : i < zs.length) (h : atN zs i = z) : hasB zs z = true := by
  rw [hasB, List.any_eq_true]
  exact ⟨atN zs i, List.mem_of_getElem? (atN_of hi), by simp [h]⟩
theorem has_no {zs : List Int} {z : Int} (h : ∀ i, i < zs.length → atN zs i ≠ z) : hasB zs z = false := by
  rw [hasB, List.any_eq_false]
  intro y hy
  obtain ⟨i, hi, rfl⟩ := List.getElem_of_mem hy
  have := h i hi
  rw [atN, List.getElem?_eq_getElem hi] at this
  simpa using this
set_option maxHeartbeats 1000000 in
theorem make_nums (n : Nat) (hn : n ≤ 1048576) (w : World) : (Instr.makeSlice 28 (.int .i64 (n : Int)) (.int .i64 (n : Int))).run Tryz.prog w = .ok (.slice (some ⟨w.heap.size, 0, none⟩) n n) (w.alloc (.cells (madeCells #[.int .i64 0] n) 2)) := by
  have info : (Tryz.prog.info? 2).map (fun i => (i.zero, i.size, i.bytes)) = some (some (.int .i64 0), 1, 8) := by kernel_rfl
  obtain ⟨i, hi, hzz⟩ := Option.map_eq_some_iff.1 info
  simp only [Prod.mk.injEq] at hzz
  obtain ⟨hz, hs, hb⟩ := hzz
  have := run_make (P := Tryz.prog) w 28 2 i _ Tryz.underlying28 hi hz .i64 .i64 (n : Int) (n : Int) (by omega) (by omega) (by rw [hb]; omega) (by omega)
  rw [hs] at this
  simpa [Value.cells] using this
theorem NumsAt.put {w : World} {b k : Nat} {zs : List Int} {z : Int} (h : NumsAt w b 0 (zs.take k)) (hz : zs[k]? = some z) {v : Value} (hv : w.cell? ⟨b, k, none⟩ = some v) : NumsAt (w.setCell ⟨b, k, none⟩ (.int .i64 z)) b 0 (zs.take (k + 1)) := by
  intro i t e
  rw [List.getElem?_take] at e
  split at e
  · rename_i hi
    by_cases hik : i = k
    · subst hik
      rw [hz] at e
      obtain rfl := Option.some.inj e
      simpa using cell_set_same hv
    · have := h i t (by rw [List.getElem?_take, if_pos (by omega)]; exact e)
      rw [cell_set_other (by omega)]; exact this
  · cases e
set_option maxHeartbeats 1000000 in
theorem eqInt64S_any (w : World) (a a' : Option Addr) (n cap cap' : Nat) (zs : List Int) (hn : n ≤ maxLen) (h1 : SlN w w.heap.size a n zs) (h2 : SlN w w.heap.size a' n zs) :
    Calls Tryz.prog 11 #[.slice a n cap, .slice a' n cap'] w fun e w' => e = .returned (.bool true) ∧ Below w.heap.size w w' := by
  unfold maxLen at hn
  obtain ⟨hx, h1⟩ := h1
  obtain ⟨_, h2⟩ := h2
  go_enter Tryz.func11, Tryz.ntmps11
  go_wp2
  go_loopw [5] (fun i wr => ∃ k : Nat, k ≤ n ∧ i = .int .i64 k ∧ Below w.heap.size w wr) (fun i _ => n - (intOf i).toNat)
  case atStart => exact ⟨0, Nat.zero_le _, rfl, Below.refl _ _⟩
  case round =>
    obtain ⟨k, hk, rfl, hbl⟩ := hrel
    by_cases hlt : k < n
    · rcases h1 with h1 | ⟨b, off, rfl, hb, h1⟩
      · omega
      · rcases h2 with h2 | ⟨b', off', rfl, hb', h2⟩
        · omega
        · have c1 := (hbl.cell (p := ⟨b, off + k, none⟩) hb).trans (h1 k _ (atN_of (by omega)))
          have c2 := (hbl.cell (p := ⟨b', off' + k, none⟩) hb').trans (h2 k _ (atN_of (by omega)))
          have hlt' : (k : Int) < (n : Int) := by omega
          have K : Hid (Below w.heap.size w wr) := hbl
          clear h1 h2 hbl hx
          go_wp2_with fail
          go_quiet (fail)
          go_wp2
          exact ⟨⟨k + 1, by omega, by simp, below_dn K.out _⟩, by simp [intOf]; omega⟩
    · have : k = n := by omega
      subst this
      have hd : decide (k < k) = false := by simp
      clear h1 h2
      go_wp2
      go_ret
      exact ⟨rfl, hbl⟩
def marks : Nat → Int → List Int
  | 0, _ => []
  | n + 1, k => k :: marks n (k + 1)
theorem marks_len : ∀ (n : Nat) (k : Int), (marks n k).length = n
  | 0, _ => rfl
  | n + 1, k => by simp [marks, marks_len n]
theorem marks_at : ∀ (n : Nat) (k : Int) (i : Nat), i < n → (marks n k)[i]? = some (k + i)
  | 0, _, _, h => by omega
  | n + 1, k, 0, _ => by simp [marks]
  | n + 1, k, i + 1, h => by
    rw [marks, List.getElem?_cons_succ, marks_at n (k + 1) i (by omega)]
    congr 1; omega
set_option maxHeartbeats 1000000 in
theorem markInt64S_own (w : World) (g n cap : Nat) (k : Int) (hn : n ≤ 1048576) (hk : 0 ≤ k) (hk' : k ≤ 1000000000) (hr : Room w g n) :
    Calls Tryz.prog 14 #[.slice (some ⟨g, 0, none⟩) n cap, .int .i64 k] w fun e w' => e = .returned (.int .i64 (k + n)) ∧ OnlyBlock g w w' ∧ NumsAt w' g 0 (marks n k) ∧ Room w' g n := by
  go_enter Tryz.func14, Tryz.ntmps14
  go_wp2
  go_loopw [1, 5] (fun v1 v5 wr => ∃ j : Nat, j ≤ n ∧ v5 = .int .i64 j ∧ v1 = .int .i64 (k + j) ∧ OnlyBlock g w wr ∧ Room wr g n ∧ NumsAt wr g 0 ((marks n k).take j)) (fun _ v5 _ => n - (intOf v5).toNat)
  case atStart => exact ⟨0, Nat.zero_le _, rfl, by simp, OnlyBlock.refl _ _, hr, fun i s e => by simp at e⟩
  case round =>
    obtain ⟨j, hj, rfl, rfl, ho, hro, hdo⟩ := hrel
    by_cases hlt : j < n
    · obtain ⟨v, d, f⟩ := hro j hlt
      have K : Hid (OnlyBlock g w wr ∧ Room wr g n ∧ NumsAt wr g 0 ((marks n k).take j)) := ⟨ho, hro, hdo⟩
      clear ho hro hdo hr
      go_wp2
      obtain ⟨ho, hro, hdo⟩ := K.out
      exact ⟨⟨j + 1, by omega, by simp, by simp; omega, ho.setCell _ _, hro.set _, hdo.put (marks_at n k j hlt) d⟩, by simp [intOf]; omega⟩
    · have : j = n := by omega
      subst this
      have hd : decide ((j : Int) < (j : Int)) = false := by simp
      rw [show (marks j k).take j = marks j k from List.take_of_length_le (by rw [marks_len]; omega)] at hdo
      have K : Hid (OnlyBlock g w wr ∧ NumsAt wr g 0 (marks j k) ∧ Room wr g j) := ⟨ho, hdo, hro⟩
      clear ho hdo hro hr
      go_wp2
      go_ret
      exact ⟨by simp, K.out.1, K.out.2.1, K.out.2.2⟩
set_option maxHeartbeats 1000000 in
theorem markInt64S_none (w : World) (a : Option Addr) (cap : Nat) (k : Int) : Calls Tryz.prog 14 #[.slice a 0 cap, .int .i64 k] w fun e w' => e = .returned (.int .i64 k) ∧ w' = w := by
  go_enter Tryz.func14, Tryz.ntmps14
  go_wp2
  go_loop [1, 5] (fun v1 v5 => v5 = .int .i64 0 ∧ v1 = .int .i64 k) (fun _ _ => 0)
  case atStart => exact ⟨rfl, rfl⟩
  case round =>
    obtain ⟨rfl, rfl⟩ := hrel
    go_wp2
    go_ret
    exact ⟨rfl, rfl⟩
set_option maxHeartbeats 1000000 in
theorem l3Has_any (w : World) (a : Option Addr) (n cap : Nat) (z : Int) (zs : List Int) (hn : n ≤ maxLen) (hs : SlN w w.heap.size a n zs) :
    Calls Tryz.prog 97 #[.slice a n cap, .int .i64 z] w fun e w' => e = .returned (.bool (hasB zs z)) ∧ w' = w := by
  unfold maxLen at hn
  obtain ⟨hx, hs⟩ := hs
  go_enter Tryz.func97, Tryz.ntmps97
  go_wp2
  go_loop [5] (fun v => ∃ k : Nat, k ≤ n ∧ v = .int .i64 k ∧ ∀ i, i < k → atN zs i ≠ z) (fun v => n - (intOf v).toNat)
  case atStart => exact ⟨0, Nat.zero_le _, rfl, fun i h => absurd h (by omega)⟩
  case round =>
    obtain ⟨k, hk, rfl, hall⟩ := hrel
    have K : Hid ((∀ i, i < k → atN zs i ≠ z) ∧ zs.length = n) := ⟨hall, hx⟩
    by_cases hlt : k < n
    · rcases hs with hs | ⟨b, off, rfl, hb, h1⟩
      · omega
      · have c := h1 k _ (atN_of (by omega))
        clear h1 hall hx
        by_cases he : atN zs k = z
        · have q : (atN zs k == z) = true := by simp [he]
          have HE : Hid (atN zs k = z) := he
          clear he
          go_wp2
          go_ret
          exact ⟨by rw [has_yes (by rw [K.out.2]; exact hlt) HE.out]; rfl, rfl⟩
        · have q : (atN zs k == z) = false := by simp [he]
          have HE : Hid (atN zs k ≠ z) := he
          clear he
          go_wp2
          refine ⟨⟨k + 1, by omega, by simp, fun i hi => ?_⟩, by simp [intOf]; omega⟩
          by_cases e : i = k
          · rw [e]; exact HE.out
          · exact K.out.1 i (by omega)
    · have : k = n := by omega
      subst this
      have hd : decide ((k : Int) < (k : Int)) = false := by simp
      clear hall hx hs
      go_wp2
      go_ret
      exact ⟨by rw [has_no (by rw [K.out.2]; exact K.out.1)]; rfl, rfl⟩
def cpn (zs : List Int) : Nat → List Int
  | 0 => []
  | j + 1 => if j ≠ 0 ∧ atN zs j = atN zs (j - 1) then cpn zs j else cpn zs j ++ [atN zs j]
theorem cpn_same {zs : List Int} {j : Nat} (h : atN zs (j + 1) = atN zs j) : cpn zs (j + 1 + 1) = cpn zs (j + 1) := by
  rw [cpn]; exact if_pos ⟨by omega, by simpa using h⟩
theorem cpn_next {zs : List Int} {j : Nat} (h : atN zs (j + 1) ≠ atN zs j) : cpn zs (j + 1 + 1) = cpn zs (j + 1) ++ [atN zs (j + 1)] := by
  rw [cpn]; exact if_neg (fun e => h (by simpa using e.2))
theorem cpn_le (zs : List Int) : ∀ j, (cpn zs j).length ≤ j
  | 0 => by simp [cpn]
  | j + 1 => by
    have := cpn_le zs j
    rw [cpn]; split <;> simp <;> omega
theorem cpn_all {zs : List Int} : ∀ {k : Nat}, k ≤ zs.length → (∀ i, i + 1 < k → atN zs (i + 1) ≠ atN zs i) → cpn zs k = zs.take k
  | 0, _, _ => by simp [cpn]
  | 1, h, _ => by
    rw [cpn, cpn, if_neg (by simp), List.take_add_one, atN_of (by omega)]; simp
  | k + 2, h, h' => by
    rw [cpn_next (h' k (by omega)), cpn_all (k := k + 1) (by omega) (fun i hi => h' i (by omega)), List.take_add_one (i := k + 1), atN_of (by omega)]; rfl
theorem Room.setCells {b m : Nat} : ∀ (vs : List Value) (o : Nat) {w : World}, Room w b m → Room (w.setCells b o vs) b m
  | [], _, _, h => h
  | v :: r, o, _, h => Room.setCells r (o + 1) (h.set v)
def Shp (b : Nat) (w w' : World) : Prop := ∀ cur e fz, w.heap[b]? = some (.cells cur e fz) → ∃ cur', w'.heap[b]? = some (.cells cur' e fz) ∧ cur'.size = cur.size
theorem Shp.refl (b : Nat) (w : World) : Shp b w w := fun cur _ _ h => ⟨cur, h, rfl⟩
theorem Shp.trans {b : Nat} {u v w : World} (h : Shp b u v) (k : Shp b v w) : Shp b u w := fun cur e fz hc => by
  obtain ⟨c1, h1, s1⟩ := h cur e fz hc
  obtain ⟨c2, h2, s2⟩ := k c1 e fz h1
  exact ⟨c2, h2, s2.trans s1⟩
theorem Shp.set (b o : Nat) (w : World) (u : Value) : Shp b w (w.setCell ⟨b, o, none⟩ u) := fun cur e fz hc => by
  refine ⟨cur.setIfInBounds o u, ?_, by simp⟩
  show (w.heap.modify b _)[b]? = _
  rw [Array.getElem?_modify, if_pos rfl, hc]
  rfl
structure TurnS (c : Nat) (w w' : World) : Prop where
  t : Turned c w w'
  s : Shp c w w'
theorem TurnS.refl (c : Nat) (w : World) : TurnS c w w := ⟨Turned.refl _ _, Shp.refl _ _⟩
theorem TurnS.trans {c : Nat} {a b d : World} (h : TurnS c a b) (k : TurnS c b d) : TurnS c a d := ⟨h.t.trans k.t, h.s.trans k.s⟩
theorem TurnS.drewN {c : Nat} {a w : World} (h : TurnS c a w) (n : Nat) : TurnS c a (w.drewN n) := ⟨h.t.drewN n, h.s⟩
theorem TurnS.setCell {c : Nat} {a w : World} (h : TurnS c a w) (o : Nat) (u : Value) : TurnS c a (w.setCell ⟨c, o, none⟩ u) := ⟨h.t.setCell o u, h.s.trans (Shp.set c o w u)⟩
theorem TurnS.setCells {c : Nat} {a : World} : ∀ (vs : List Value) (o : Nat) {w : World}, TurnS c a w → TurnS c a (w.setCells c o vs)
  | [], _, _, h => h
  | v :: r, o, _, h => TurnS.setCells r (o + 1) (h.setCell o v)
theorem TurnS.of_below {c : Nat} {w w' : World} (hb : Below w.heap.size w w') (hc : c < w.heap.size) : TurnS c w w' := ⟨(Turned.refl _ _).of_below hb, fun cur _ _ h => ⟨cur, (hb.block c hc).trans h, rfl⟩⟩
set_option maxHeartbeats 4000000 in
theorem compact_own (w : World) (b cap : Nat) (zs : List Int) (hn : zs.length ≤ 1000) (hc : zs.length ≤ cap) (h : NumsAt w b 0 zs) (hr : Room w b zs.length) (hb : b < w.heap.size) :
    Calls Tryz.prog 175 #[.slice (some ⟨b, 0, none⟩) zs.length cap] w fun e w' => e = .returned (.slice (some ⟨b, 0, none⟩) (cpn zs zs.length).length cap) ∧ TurnS b w w' ∧ NumsAt w' b 0 (cpn zs zs.length) ∧ Room w' b zs.length := by
  obtain ⟨n, hN⟩ : ∃ n, n = zs.length := ⟨_, rfl⟩
  have HN : Hid (n = zs.length) := hN
  rw [← hN] at hn hc hr ⊢
  clear hN
  by_cases h2 : n < 2
  · have d2 : decide ((n : Int) < 2) = true := by simp; omega
    have KE : Hid (cpn zs n = zs ∧ NumsAt w b 0 zs ∧ Room w b n) := ⟨by rw [cpn_all (by rw [← HN.out]; exact Nat.le_refl _) (fun i hi => by omega), HN.out, List.take_length], h, hr⟩
    clear h hr h2
    go_enter Tryz.func175, Tryz.ntmps175
    go_wp2
    go_ret
    exact ⟨by rw [KE.out.1, ← HN.out]; rfl, TurnS.refl _ _, by rw [KE.out.1]; exact KE.out.2.1, KE.out.2.2⟩
  have d2 : decide ((n : Int) < 2) = false := by simp; omega
  have H : Hid (NumsAt w b 0 zs ∧ Room w b n) := ⟨h, hr⟩
  clear h hr
  go_enter Tryz.func175, Tryz.ntmps175
  go_wp2
  clear d2
  go_loopw [3] (fun v wr => ∃ j : Nat, j + 1 ≤ n ∧ v = .int .i64 ((j + 1 : Nat) : Int) ∧ Below w.heap.size w wr ∧ ∀ i, i + 1 < j + 1 → atN zs (i + 1) ≠ atN zs i) (fun v _ => n - (intOf v).toNat)
  case atStart => exact ⟨0, by omega, rfl, Below.refl _ _, fun i hi => by omega⟩
  case round =>
    obtain ⟨j, hj, rfl, hbl, hall⟩ := hrel
    have hlz : zs.length = n := HN.out.symm
    by_cases hlt : j + 1 < n
    · have c1 : wr.cell? ⟨b, j + 1, none⟩ = some (.int .i64 (atN zs (j + 1))) := (hbl.cell (p := ⟨b, j + 1, none⟩) hb).trans (by simpa using H.out.1 (j + 1) _ (atN_of (by omega)))
      have c0 : wr.cell? ⟨b, j, none⟩ = some (.int .i64 (atN zs j)) := (hbl.cell (p := ⟨b, j, none⟩) hb).trans (by simpa using H.out.1 j _ (atN_of (by omega)))
      have hi0 : (j : Int) < (n : Int) := by omega
      have hi1 : ((j + 1 : Nat) : Int) < (n : Int) := by omega
      by_cases he : atN zs (j + 1) = atN zs j
      · have q : (atN zs (j + 1) == atN zs j) = true := by simp [he]
        have KA : Hid (Below w.heap.size w wr ∧ (∀ i, i + 1 < j + 1 → atN zs (i + 1) ≠ atN zs i) ∧ atN zs (j + 1) = atN zs j ∧ zs.length = n) := ⟨hbl, hall, he, hlz⟩
        clear he hbl hall hlz
        go_wp2_with fail
        go_quiet (fail)
        have hsl : ¬ cap = j + 1 := by omega
        go_wp2
        have K1 : Hid (TurnS b w (wr.drewN nq) ∧ Room (wr.drewN nq) b n ∧ NumsAt (wr.drewN nq) b 0 zs ∧ b < (wr.drewN nq).heap.size) := by
          have bb := below_dn KA.out.1 nq
          exact ⟨TurnS.of_below bb hb, H.out.2.below bb hb, H.out.1.below bb hb, Nat.lt_of_lt_of_le hb bb.size⟩
        have KZ : Hid (cpn zs (j + 1 + (0 + 1)) = zs.take (j + 1) ∧ zs.length = n) := ⟨by rw [show j + 1 + (0 + 1) = j + 1 + 1 by omega, cpn_same KA.out.2.2.1, cpn_all (by have := KA.out.2.2.2; omega) KA.out.2.1], KA.out.2.2.2⟩
        clear c0 c1 q hi0 hi1 KA
        generalize wr.drewN nq = W1 at *
        clear wr
        go_loopw [3, 5] (fun v3 v5 wr => ∃ k i2 : Nat, i2 + 1 ≤ n - (j + 1) ∧ v5 = .int .i64 ((i2 + 1 : Nat) : Int) ∧ v3 = .int .i64 (k : Int) ∧ k = (cpn zs (j + 1 + (i2 + 1))).length ∧ k ≤ j + 1 + i2 ∧ TurnS b W1 wr ∧ Room wr b n ∧ NumsAt wr b 0 (cpn zs (j + 1 + (i2 + 1))) ∧ (∀ i, j + 1 + i2 ≤ i → i < n → wr.cell? ⟨b, i, none⟩ = some (.int .i64 (atN zs i)))) (fun _ v5 _ => n - (j + 1) - (intOf v5).toNat)
        case atStart =>
          refine ⟨j + 1, 0, by omega, rfl, rfl, ?_, by omega, TurnS.refl _ _, K1.out.2.1, ?_, fun i _ hi => ?_⟩
          · rw [KZ.out.1, List.length_take, KZ.out.2]; omega
          · rw [KZ.out.1]
            intro i z e
            rw [List.getElem?_take] at e
            split at e
            · exact K1.out.2.2.1 i z e
            · cases e
          · simpa using K1.out.2.2.1 i _ (atN_of (by rw [KZ.out.2]; exact hi))
        case round =>
          obtain ⟨k, i2, hi2, rfl, rfl, hk, hkl, htu, hro, hnu, hta⟩ := hrel
          by_cases hlt2 : i2 + 1 < n - (j + 1)
          · have c1 := hta (j + 1 + (i2 + 1)) (by omega) (by omega)
            have c0 := hta (j + 1 + i2) (by omega) (by omega)
            have hx0 : (i2 : Int) < ((n - (j + 1) : Nat) : Int) := by omega
            have hx1 : ((i2 + 1 : Nat) : Int) < ((n - (j + 1) : Nat) : Int) := by omega
            by_cases he : atN zs (j + 1 + (i2 + 1)) = atN zs (j + 1 + i2)
            · have q : (atN zs (j + 1 + (i2 + 1)) != atN zs (j + 1 + i2)) = false := by simp [he]
              have KE : Hid (k = (cpn zs (j + 1 + (i2 + 1 + 1))).length ∧ TurnS b W1 wr ∧ Room wr b n ∧ NumsAt wr b 0 (cpn zs (j + 1 + (i2 + 1 + 1))) ∧ (∀ i, j + 1 + i2 ≤ i → i < n → wr.cell? ⟨b, i, none⟩ = some (.int .i64 (atN zs i)))) := by
                have e : cpn zs (j + 1 + (i2 + 1 + 1)) = cpn zs (j + 1 + (i2 + 1)) := cpn_same (j := j + 1 + i2) he
                rw [Hid, e]; exact ⟨hk, htu, hro, hnu, hta⟩
              clear he hk htu hro hnu hta
              go_wp2_with fail
              go_quiet (fail)
              go_wp2
              obtain ⟨e1, e2, e3, e4, e5⟩ := KE.out
              exact ⟨⟨k, i2 + 1, by omega, by simp, by simp, e1, by omega, e2.drewN _, e3, e4, fun i hi hi' => e5 i (by omega) hi'⟩, by simp [intOf]; omega⟩
            · have q : (atN zs (j + 1 + (i2 + 1)) != atN zs (j + 1 + i2)) = true := by simp [he]
              have hkn : (k : Int) < (n : Int) := by omega
              obtain ⟨vk, dk, fk⟩ := hro k (by omega)
              have KE : Hid (k + 1 = (cpn zs (j + 1 + (i2 + 1 + 1))).length ∧ TurnS b W1 wr ∧ Room wr b n ∧ NumsAt (wr.setCell ⟨b, k, none⟩ (.int .i64 (atN zs (j + 1 + (i2 + 1))))) b 0 (cpn zs (j + 1 + (i2 + 1 + 1))) ∧ (∀ i, j + 1 + i2 ≤ i → i < n → wr.cell? ⟨b, i, none⟩ = some (.int .i64 (atN zs i)))) := by
                have e : cpn zs (j + 1 + (i2 + 1 + 1)) = cpn zs (j + 1 + (i2 + 1)) ++ [atN zs (j + 1 + (i2 + 1))] := cpn_next (j := j + 1 + i2) he
                rw [Hid, e]
                refine ⟨by simp [← hk], htu, hro, fun i z ez => ?_, hta⟩
                rw [Nat.zero_add]
                by_cases ei : i < k
                · rw [List.getElem?_append_left (by omega)] at ez
                  rw [cell_set_other (by omega)]
                  simpa using hnu i z ez
                · have hie : i = k := by
                    have := (List.getElem?_eq_some_iff.1 ez).1
                    simp [← hk] at this
                    omega
                  subst hie
                  rw [List.getElem?_append_right (by omega), ← hk, Nat.sub_self] at ez
                  simp at ez
                  subst ez
                  exact cell_set_same dk
              clear he hk htu hro hnu hta
              go_wp2_with fail
              go_quiet (fail)
              go_wp2
              obtain ⟨e1, e2, e3, e4, e5⟩ := KE.out
              refine ⟨⟨k + 1, i2 + 1, by omega, by simp, by simp, e1, by omega, (e2.drewN _).setCell _ _, e3.set _, e4, fun i hi hi' => ?_⟩, by simp [intOf]; omega⟩
              exact (cell_set_other (by omega)).trans (e5 i (by omega) hi')
          · have hie : i2 + 1 = n - (j + 1) := by omega
            have hd : decide (((i2 + 1 : Nat) : Int) < ((n - (j + 1) : Nat) : Int)) = false := by simp; omega
            have hks : ¬ cap = k := by omega
            have hkc : k < n := by omega
            have hcl : ∀ ty, (Builtin.clear_ #[28] ty #[.slice (some ⟨b, k, none⟩) (n - k) (cap - k)]).run Tryz.prog wr = .ok (.tuple #[]) (wr.setCells b k (List.replicate (n - k) (.int .i64 0))) := fun ty =>
              Lib.run_clear_slice wr 28 2 ty (.int .i64 0) Tryz.underlying28 (fun _ => by kernel_rfl) rfl rfl b k (n - k) (cap - k) (by omega) (fun i hi => by obtain ⟨v, h1, _⟩ := hro (k + i) (by omega); rw [h1]; rfl) (fun i hi => by obtain ⟨v, _, h1⟩ := hro (k + i) (by omega); exact h1)
            have en : j + 1 + (i2 + 1) = n := by omega
            rw [en] at hk hnu
            have KE : Hid (k = (cpn zs n).length ∧ TurnS b w wr ∧ Room wr b n ∧ NumsAt wr b 0 (cpn zs n)) := ⟨hk, K1.out.1.trans htu, hro, hnu⟩
            clear hk htu hro hnu hta hie en
            go_wp2
            go_ret
            obtain ⟨e1, e2, e3, e4⟩ := KE.out
            refine ⟨by rw [← e1]; rfl, TurnS.setCells _ _ e2, fun i z e => ?_, Room.setCells _ _ e3⟩
            rw [World.cell?_setCells_out _ _ _ _ _ (fun _ _ => .inl (by have := (List.getElem?_eq_some_iff.1 e).1; show 0 + i < k; omega))]
            exact e4 i z e
      · have q : (atN zs (j + 1) == atN zs j) = false := by simp [he]
        have KA : Hid (Below w.heap.size w wr ∧ (∀ i, i + 1 < j + 1 → atN zs (i + 1) ≠ atN zs i) ∧ atN zs (j + 1) ≠ atN zs j) := ⟨hbl, hall, he⟩
        clear he hbl hall hlz
        go_wp2_with fail
        go_quiet (fail)
        go_wp2
        exact ⟨⟨j + 1, by omega, by simp, below_dn KA.out.1 _, fun i hi => by
          by_cases e : i = j
          · rw [e]; exact KA.out.2.2
          · exact KA.out.2.1 i (by omega)⟩, by simp [intOf]; omega⟩
    · obtain rfl : n = j + 1 := by omega
      have hd : decide (((j + 1 : Nat) : Int) < ((j + 1 : Nat) : Int)) = false := by simp
      have KE : Hid (cpn zs (j + 1) = zs ∧ Below w.heap.size w wr) := ⟨by rw [cpn_all (by omega) hall, ← hlz, List.take_length], hbl⟩
      clear hall hlz hbl
      go_wp2
      go_ret
      refine ⟨by rw [KE.out.1, ← HN.out]; rfl, TurnS.of_below KE.out.2 hb, ?_, H.out.2.below KE.out.2 hb⟩
      rw [KE.out.1]; exact H.out.1.below KE.out.2 hb
def OwnIn (w : World) (P : Nat → Prop) (a : Option Addr) (zs : List Int) : Prop := zs = [] ∨ ∃ b, a = some ⟨b, 0, none⟩ ∧ P b ∧ b < w.heap.size ∧ NumsAt w b 0 zs ∧ Room w b zs.length
theorem NumsAt.of_blk {w w' : World} {b off : Nat} {zs : List Int} (h : NumsAt w b off zs) (e : w'.heap[b]? = w.heap[b]?) : NumsAt w' b off zs := fun i z hz => (World.cell?_of_block (a := ⟨b, off + i, none⟩) e).trans (h i z hz)
theorem OwnIn.keep {w w' : World} {P : Nat → Prop} {a : Option Addr} {zs : List Int} (h : OwnIn w P a zs) (hs : w.heap.size ≤ w'.heap.size) (hk : ∀ q, q < w.heap.size → P q → w'.heap[q]? = w.heap[q]?) : OwnIn w' P a zs := by
  rcases h with h | ⟨b, ha, hp, hl, hn, hr⟩
  · exact .inl h
  · exact .inr ⟨b, ha, hp, Nat.lt_of_lt_of_le hl hs, hn.of_blk (hk b hl hp), hr.of_block (hk b hl hp)⟩
theorem OwnIn.sl {w : World} {P : Nat → Prop} {a : Option Addr} {zs : List Int} (h : OwnIn w P a zs) : SlN w w.heap.size a zs.length zs := by
  rcases h with e | ⟨b, ha, _, hl, hn, _⟩
  · exact ⟨rfl, .inl (by rw [e]; rfl)⟩
  · exact ⟨rfl, .inr ⟨b, 0, ha, hl, hn⟩⟩
def intC (z : Int) : List Value := [.int .i64 z]
def RowI (W : World) (base : Nat) (v : Value) (zs : List Int) : Prop := W.ownsRow base 2 1 v zs.length (zs.flatMap intC)
theorem infoNum : (Tryz.prog.info? 2).map (fun i => (i.zero, i.size, i.bytes)) = some (some (.int .i64 0), 1, 8) := by kernel_rfl
theorem pushI {W : World} {base : Nat} {v : Value} {zs : List Int} (h : RowI W base v zs) (z : Int) (hm : zs.length + 1 ≤ 1048576) (ty : TypeId) (b k : Nat) (src : W.cell? ⟨b, 0, none⟩ = some (.int .i64 z)) (hbase : base ≤ W.heap.size) :
    ∃ v' W', (Builtin.append_ #[28, 28] ty #[v, .slice (some ⟨b, 0, none⟩) 1 k]).run Tryz.prog W = .ok v' W' ∧ RowI W' base v' (zs ++ [z]) ∧ W.grownBy W' v.ownBlock ∧ (v'.ownBlock = v.ownBlock ∨ v'.ownBlock = some W.heap.size) := by
  obtain ⟨i0, hi0, hz0, hz1, hz2⟩ := partsOf infoNum
  exact pushX (cells := intC) (sz := 1) (by_ := 8) (fun _ => rfl) (fun s u hu => by simp only [intC, List.mem_cons, List.not_mem_nil, or_false] at hu; subst hu; rfl) (by omega) Tryz.underlying28 hi0 hz0 hz1 hz2 rfl (by omega) h [z] hm ty b 0 k (fun i s e t u hu => by
    rcases i with _ | i
    · simp at e; subst e
      rcases t with _ | t
      · simp [intC] at hu; subst hu; exact src
      · simp [intC] at hu
    · simp at e) hbase
theorem RowI.nil (W : World) (base : Nat) : RowI W base (.slice none 0 0) [] := ⟨rfl, .inl ⟨rfl, rfl⟩⟩
theorem RowI.lt {W : World} {base : Nat} {v : Value} {zs : List Int} (h : RowI W base v zs) {q : Nat} (e : v.ownBlock = some q) : base ≤ q ∧ q < W.heap.size := World.ownsRow.lt h q e
theorem RowI.later {W W' : World} {base : Nat} {v : Value} {zs : List Int} (h : RowI W base v zs) (hb : Below W.heap.size W W') : RowI W' base v zs := row_keep h (fun q e => hb.block q (h.lt e).2)
theorem RowI.made (W : World) : RowI (W.alloc (.cells #[] 2)) W.heap.size (.slice (some ⟨W.heap.size, 0, none⟩) 0 0) [] := World.ownsRow_made W #[] 0 (Nat.le_refl _) (Nat.zero_le _) rfl
theorem intC_map (zs : List Int) : zs.flatMap intC = zs.map (Value.int .i64) := List.map_eq_flatMap.symm
theorem RowI.form {W : World} {base : Nat} {v : Value} {zs : List Int} (h : RowI W base v zs) : ∃ a c, v = .slice a zs.length c ∧ OwnIn W (fun q => v.ownBlock = some q) a zs ∧ zs.length ≤ c ∧ (zs ≠ [] → ∃ q, a = some ⟨q, 0, none⟩) := by
  have h' := h
  rcases h.2 with ⟨rfl, h0⟩ | ⟨q, cap, cur, rfl, hb, hg, hl, _⟩
  · have hz := List.eq_nil_of_length_eq_zero h0
    exact ⟨none, 0, by rw [h0], .inl hz, by omega, fun e => absurd hz e⟩
  · refine ⟨some ⟨q, 0, none⟩, cap, rfl, .inr ⟨q, rfl, rfl, (World.ownsRow.lt h q rfl).2, fun i z ez => ?_, fun j hj => ⟨.int .i64 (zs[j]'hj), ?_, World.ownsRow.frozenAt h j⟩⟩, hl, fun _ => ⟨q, rfl⟩⟩
    · have hi := (List.getElem?_eq_some_iff.1 ez).1
      rw [Nat.zero_add, World.ownsRow.cellAt h i (by omega), intC_map, List.getElem?_map, ez]; rfl
    · rw [World.ownsRow.cellAt h j (by omega), intC_map, List.getElem?_map, List.getElem?_eq_getElem hj]; rfl
def IAns (w : World) (zs : List Int) (e : Ending) (w' : World) : Prop :=
  ∃ (a : Option Addr) (c : Nat) (P : Nat → Prop), e = .returned (.slice a zs.length c) ∧ OwnIn w' P a zs ∧ (∀ q, P q → w.heap.size ≤ q ∧ q < w'.heap.size) ∧ Below w.heap.size w w'
theorem IAns.of {w w' : World} {base : Nat} {v : Value} {zs : List Int} (h : RowI w' base v zs) (hb : w.heap.size ≤ base) (b : Below w.heap.size w w') : IAns w zs (.returned v) w' := by
  obtain ⟨a, c, e, ho, _⟩ := h.form
  exact ⟨a, c, _, by rw [e], ho, fun q hq => ⟨Nat.le_trans hb (h.lt hq).1, (h.lt hq).2⟩, b⟩
theorem IAns.none {w w' : World} (a : Option Addr) (c : Nat) (b : Below w.heap.size w w') : IAns w [] (.returned (.slice a 0 c)) w' := ⟨a, c, fun _ => False, rfl, .inl rfl, fun _ h => h.elim, b⟩
def wln (zs : List Int) : Nat → List Int
  | 0 => []
  | j + 1 => if hasB (wln zs j) (atN zs j) = true then wln zs j else wln zs j ++ [atN zs j]
theorem wln_le (zs : List Int) : ∀ j, (wln zs j).length ≤ j
  | 0 => by simp [wln]
  | j + 1 => by have := wln_le zs j; rw [wln]; split <;> simp <;> omega
theorem has_mem {zs : List Int} {z : Int} : hasB zs z = true ↔ z ∈ zs := by
  rw [hasB, List.any_eq_true]
  constructor
  · rintro ⟨y, hy, e⟩; simp at e; rw [← e]; exact hy
  · intro h; exact ⟨z, h, by simp⟩
theorem cpn_wln {zs : List Int} (h : ∀ i, i + 1 < zs.length → atN zs i ≤ atN zs (i + 1)) : ∀ j, j ≤ zs.length → cpn zs j = wln zs j ∧ (∀ z ∈ cpn zs j, ∃ i, i < j ∧ z = atN zs i) ∧ (0 < j → atN zs (j - 1) ∈ cpn zs j)
  | 0, _ => ⟨rfl, fun z hz => by simp [cpn] at hz, fun h => by omega⟩
  | j + 1, hj => by
    obtain ⟨e, hm, hl⟩ := cpn_wln h j (by omega)
    have up : ∀ d i, i + d < zs.length → atN zs i ≤ atN zs (i + d) := by
      intro d
      induction d with
      | zero => intro i _; exact Int.le_refl _
      | succ d ih => intro i hi; exact Int.le_trans (ih i (by omega)) (h (i + d) (by omega))
    by_cases hs : j ≠ 0 ∧ atN zs j = atN zs (j - 1)
    · have e1 : cpn zs (j + 1) = cpn zs j := by rw [cpn]; exact if_pos hs
      have hin : atN zs j ∈ cpn zs j := by rw [hs.2]; exact hl (by omega)
      have e2 : wln zs (j + 1) = wln zs j := by rw [wln]; exact if_pos (has_mem.2 (by rw [← e]; exact hin))
      refine ⟨by rw [e1, e2, e], fun z hz => ?_, fun _ => by rw [e1]; simpa using hin⟩
      rw [e1] at hz
      obtain ⟨i, hi, ez⟩ := hm z hz
      exact ⟨i, by omega, ez⟩
    · have e1 : cpn zs (j + 1) = cpn zs j ++ [atN zs j] := by rw [cpn]; exact if_neg hs
      have hno : ¬ hasB (wln zs j) (atN zs j) = true := fun hh => by
        rw [has_mem, ← e] at hh
        obtain ⟨i, hi, ez⟩ := hm _ hh
        have g1 := up (j - 1 - i) i (by omega)
        rw [show i + (j - 1 - i) = j - 1 by omega] at g1
        have g2 := h (j - 1) (by omega)
        rw [show j - 1 + 1 = j by omega] at g2
        exact hs ⟨by omega, by omega⟩
      have e2 : wln zs (j + 1) = wln zs j ++ [atN zs j] := by rw [wln]; exact if_neg hno
      refine ⟨by rw [e1, e2, e], fun z hz => ?_, fun _ => by rw [e1]; simp⟩
      rw [e1] at hz
      rcases List.mem_append.1 hz with hz | hz
      · obtain ⟨i, hi, ez⟩ := hm z hz
        exact ⟨i, by omega, ez⟩
      · simp at hz
        exact ⟨j, by omega, hz⟩
def rgs (xs : List S5) : List Int := xs.map S5.region
theorem rgs_at {xs : List S5} {k : Nat} (h : k < xs.length) : atN (rgs xs) k = (atSe xs k).region := by
  unfold atN atSe rgs
  rw [List.getElem?_map, List.getElem?_eq_getElem h]; rfl
theorem rgs_take {xs : List S5} {k : Nat} (h : k < xs.length) : rgs (xs.take (k + 1)) = rgs (xs.take k) ++ [(atSe xs k).region] := by
  unfold rgs
  rw [List.take_add_one, atSe_of h, List.map_append]; rfl
theorem rgs_up {t : T7} (h : txB t = true) : ∀ i, i + 1 < (rgs t.sets).length → atN (rgs t.sets) i ≤ atN (rgs t.sets) (i + 1) := by
  intro i hi
  have hl : (rgs t.sets).length = t.sets.length := by simp [rgs]
  rw [hl] at hi
  rw [rgs_at (by omega), rgs_at hi]
  simp only [txB, Bool.and_eq_true] at h
  have := List.all_eq_true.1 h.2 (i + 1) (List.mem_range.2 hi)
  simp only [seAt, Bool.and_eq_true, Bool.or_eq_true, decide_eq_true_eq, lessB] at this
  rcases this.2 with e | e | e
  · omega
  · simp at e; omega
  · have := e.1; simp at this; omega
theorem txB_sets {t : T7} (h : txB t = true) : t.reads.length ≤ 12 ∧ t.sets.length ≤ 12 := by
  simp only [txB, Bool.and_eq_true, decide_eq_true_eq] at h
  exact ⟨h.1.1.1.2, h.1.1.2⟩
def wantsT (t : T7) : List Int := if txB t = true then wln (rgs t.sets) t.sets.length else []
theorem compact_none (w : World) (a : Option Addr) (cap : Nat) : Calls Tryz.prog 175 #[.slice a 0 cap] w fun e w' => e = .returned (.slice a 0 cap) ∧ w' = w := by
  go_enter Tryz.func175, Tryz.ntmps175
  go_wp2
  go_ret
  exact ⟨rfl, rfl⟩
def WAns (w : World) (zs : List Int) (e : Ending) (w' : World) : Prop := ∃ v, e = .returned v ∧ RowI w' w.heap.size v zs ∧ Below w.heap.size w w'
theorem WAns.i {w : World} {zs : List Int} {e : Ending} {w' : World} (h : WAns w zs e w') : IAns w zs e w' := by
  obtain ⟨v, rfl, h1, h2⟩ := h
  exact IAns.of h1 (Nat.le_refl _) h2
theorem RowI.up {W : World} {base base' : Nat} {v : Value} {zs : List Int} (h : RowI W base' v zs) (hb : base ≤ base') : RowI W base v zs := by
  obtain ⟨h1, h2⟩ := h
  refine ⟨h1, h2.imp id ?_⟩
  rintro ⟨g, cap, cur, e, hg, r⟩
  exact ⟨g, cap, cur, e, Nat.le_trans hb hg, r⟩
theorem RowI.cut {w w' : World} {base b k : Nat} {zs C : List Int} (h : RowI w base (.slice (some ⟨b, 0, none⟩) zs.length k) zs) (hs : Shp b w w') (hn : NumsAt w' b 0 C) (hl : C.length ≤ zs.length) : RowI w' base (.slice (some ⟨b, 0, none⟩) C.length k) C := by
  obtain ⟨_, h2⟩ := h
  rcases h2 with ⟨e, _⟩ | ⟨g, cap, cur, e, hb, hg, hn1, hm, hsz, _⟩
  · cases e
  · cases e
    obtain ⟨cur', h3, h4⟩ := hs cur _ _ hg
    refine ⟨by rw [intC_map]; simp, .inr ⟨b, k, cur', rfl, hb, h3, by omega, hm, h4.trans hsz, ?_⟩⟩
    rw [intC_map, Nat.mul_one]
    refine List.ext_getElem? fun i => ?_
    rw [List.getElem?_take, List.getElem?_map]
    by_cases hi : i < C.length
    · have := hn i _ (List.getElem?_eq_getElem hi)
      rw [Nat.zero_add] at this
      simp only [World.cell?, h3] at this
      rw [if_pos hi, List.getElem?_eq_getElem hi, Option.map_some, Array.getElem?_toList]
      simpa using this
    · rw [if_neg hi, List.getElem?_eq_none (by omega)]; rfl
set_option maxHeartbeats 4000000 in
theorem implWantsR_any (w : World) (v : TV) (t : T7) (hl : TL t) (hs : SlT w v t) :
    Calls Tryz.prog 140 #[v.val t] w (WAns w (wantsT t)) := by
  obtain ⟨ar, cr, ah, ch⟩ := v
  simp only [TV.val]
  obtain ⟨W, hW⟩ : ∃ W, W = w.alloc (.cells #[.int .i64 t.id, .int .i64 t.home, .int .i64 t.phase, .int .i64 t.count, .slice ar t.reads.length cr, .slice ah t.sets.length ch, .int .i64 t.stamp] 55) := ⟨_, rfl⟩
  have b0 : Below w.heap.size w W := by rw [hW]; exact (Below.refl _ _).alloc (Nat.le_refl _) _
  have x0 : BT W w.heap.size ⟨ar, cr, ah, ch⟩ t := by rw [hW]; exact BT.box w ⟨ar, cr, ah, ch⟩ t _
  have c1 := implTxOk_any W ⟨ar, cr, ah, ch⟩ t hl (hs.later b0)
  simp only [TV.val] at c1
  have H : Hid (SlT W ⟨ar, cr, ah, ch⟩ t ∧ BT W w.heap.size ⟨ar, cr, ah, ch⟩ t ∧ Below w.heap.size w W) := ⟨hs.later b0, x0, b0⟩
  clear hs b0 x0 hl
  cases hB : txB t with
  | false =>
    rw [hB] at c1
    have HN : Hid (wantsT t = []) := by unfold Hid; simp [wantsT, hB]
    go_enter Tryz.func140, Tryz.ntmps140
    go_wp2_with fail
    rw [← hW]
    clear hW
    refine c1.mono ?_
    clear c1
    rintro e w1 ⟨rfl, b1⟩
    have KB : Hid (Below w.heap.size w w1) := H.out.2.2.trans (b1.mono H.out.2.2.size)
    clear b1
    go_wp2
    go_ret
    rw [HN.out]
    exact ⟨_, rfl, RowI.nil _ _, KB.out⟩
  | true =>
    rw [hB] at c1
    have hlr : (rgs t.sets).length = t.sets.length := by simp [rgs]
    have HN : Hid (wantsT t = cpn (rgs t.sets) (rgs t.sets).length) := by
      unfold Hid
      rw [(cpn_wln (rgs_up hB) _ (Nat.le_refl _)).1, hlr]
      simp [wantsT, hB]
    have HR : Hid ((rgs t.sets).length = t.sets.length) := hlr
    have hl12 := (txB_sets hB).2
    clear hlr
    go_enter Tryz.func140, Tryz.ntmps140
    go_wp2_with fail
    rw [← hW]
    clear hW
    refine c1.mono ?_
    clear c1
    rintro e w1 ⟨rfl, b1⟩
    have p5 := (H.out.2.1.later b1).c5
    dsimp only at p5
    have K1 : Hid (SlT w1 ⟨ar, cr, ah, ch⟩ t ∧ Below w.heap.size w w1) := ⟨H.out.1.later b1, H.out.2.2.trans (b1.mono H.out.2.2.size)⟩
    clear b1 H
    go_wp2
    clear p5
    go_loopw [3, 12] (fun v3 v12 wr => ∃ k : Nat, k ≤ t.sets.length ∧ v12 = .int .i64 k ∧ RowI wr w1.heap.size v3 (rgs (t.sets.take k)) ∧ Below w1.heap.size w1 wr) (fun _ v12 _ => t.sets.length - (intOf v12).toNat)
    case atStart => exact ⟨0, Nat.zero_le _, rfl, by simpa [rgs] using RowI.nil w1 _, Below.refl _ _⟩
    case round =>
      obtain ⟨k, hk, rfl, hrow, hbl⟩ := hrel
      obtain ⟨h1, h2⟩ := K1.out
      have hsz := hbl.size
      by_cases hlt : k < t.sets.length
      · obtain ⟨_, hsk⟩ := (h1.later hbl).s
        dsimp only at hsk
        rcases hsk with hsk | ⟨b, off, rfl, hb, hx⟩
        · omega
        obtain ⟨c0, c1, c2, c3, c4⟩ := hx k _ (atSe_of hlt)
        obtain ⟨U, hU⟩ : ∃ V, V = wr.alloc (.cells #[.int .i64 (atSe t.sets k).region, .int .i64 (atSe t.sets k).slot, .int .i64 (atSe t.sets k).value, .bool (atSe t.sets k).used, .int .i64 (atSe t.sets k).version] 106) := ⟨_, rfl⟩
        have bU : Below wr.heap.size wr U := by rw [hU]; exact (Below.refl _ _).alloc (Nat.le_refl _) _
        have zU : U.heap.size = wr.heap.size + 1 := by rw [hU]; simp
        obtain ⟨V, hV⟩ : ∃ V, V = U.alloc (.cells #[.int .i64 (atSe t.sets k).region] 2) := ⟨_, rfl⟩
        have bV : Below wr.heap.size wr V := by rw [hV]; exact bU.alloc bU.size _
        have hone : V.cell? ⟨wr.heap.size + 1, 0, none⟩ = some (.int .i64 (atSe t.sets k).region) := by rw [hV, ← zU]; go_simp
        have hlk : (rgs (t.sets.take k)).length + 1 ≤ 1048576 := by unfold rgs; rw [List.length_map, List.length_take]; omega
        obtain ⟨v', Y, hr, hrow', hgr, hlies⟩ := pushI (hrow.later bV) (atSe t.sets k).region hlk 28 (wr.heap.size + 1) 1 hone (by have := bV.size; omega)
        have KE : Hid (RowI Y w1.heap.size v' (rgs (t.sets.take (k + 1))) ∧ Below w1.heap.size w1 Y) := by
          refine ⟨by rw [rgs_take hlt]; exact hrow', ?_⟩
          exact (hbl.trans (bV.mono (by omega))).grown hgr (by have := bV.size; omega) (fun q e => (hrow.lt e).1)
        rw [hV, hU] at hr
        clear hV hU bV bU zU hone hrow' hgr hlies hrow hbl h1 h2 hx hlk
        go_wp2_with (at_builtin; refine append_known _ rfl (.tmp 16) (.tmp 19) 28 rfl _ _ _ _ rfl rfl hr ?_)
        exact ⟨⟨k + 1, by omega, by simp, KE.out.1, KE.out.2⟩, by simp [intOf]; omega⟩
      · obtain rfl : k = t.sets.length := by omega
        have hd : decide ((t.sets.length : Int) < (t.sets.length : Int)) = false := by simp
        rw [List.take_length] at hrow
        obtain ⟨a3, k3, rfl, ho3, hc3, hs3⟩ := hrow.form
        have KE : Hid (Below w.heap.size w wr ∧ w.heap.size ≤ w1.heap.size ∧ RowI wr w1.heap.size (.slice a3 (rgs t.sets).length k3) (rgs t.sets)) := ⟨h2.trans (hbl.mono h2.size), h2.size, hrow⟩
        clear hrow hbl h1 h2
        rcases ho3 with hnil | ⟨b3, rfl, hp3, hl3, hn3, hr3⟩
        · have HZ : Hid (wantsT t = [] ∧ (rgs t.sets).length = 0) := ⟨by rw [HN.out, hnil]; rfl, by rw [hnil]; rfl⟩
          have KI : Hid (RowI wr w.heap.size (.slice a3 0 k3) []) := by
            have := KE.out.2.2.up KE.out.2.1
            rw [hnil] at this
            exact this
          have e0 := HZ.out.2
          rw [e0]
          clear hnil hc3 hs3 e0
          have hc := compact_none wr a3 k3
          go_wp2_with fail
          refine hc.mono ?_
          clear hc
          rintro e w' ⟨rfl, rfl⟩
          go_wp2
          go_ret
          rw [HZ.out.1]
          exact ⟨_, rfl, KI.out, KE.out.1⟩
        · have hc := compact_own wr b3 k3 (rgs t.sets) (by rw [HR.out]; omega) hc3 hn3 hr3 hl3
          have KB : Hid (w1.heap.size ≤ b3 ∧ b3 < wr.heap.size) := KE.out.2.2.lt rfl
          clear hc3 hs3 hp3 hl3 hn3 hr3
          have HW : Hid (WAns w (wantsT t) = WAns w (cpn (rgs t.sets) (rgs t.sets).length)) := by unfold Hid; rw [HN.out]
          have HLE : Hid ((cpn (rgs t.sets) (rgs t.sets).length).length ≤ (rgs t.sets).length) := cpn_le _ _
          generalize cpn (rgs t.sets) (rgs t.sets).length = C at *
          go_wp2_with fail
          refine hc.mono ?_
          clear hc
          rintro e w' ⟨rfl, ht, hn, hr⟩
          have KF : Hid (TurnS b3 wr w' ∧ NumsAt w' b3 0 C ∧ Room w' b3 (rgs t.sets).length) := ⟨ht, hn, hr⟩
          clear ht hn hr
          go_wp2
          go_ret
          rw [HW.out]
          obtain ⟨f1, f2, f3⟩ := KF.out
          have g1 := KB.out
          have g2 := KE.out.2.1
          have bb : Below w.heap.size w w' := KE.out.1.trans (f1.t.below (by omega) KE.out.1.size)
          exact ⟨_, rfl, (RowI.cut KE.out.2.2 f1.s f2 HLE.out).up KE.out.2.1, bb⟩
theorem implWants_any (w : World) (v : TV) (t : T7) (hl : TL t) (hs : SlT w v t) : Calls Tryz.prog 140 #[v.val t] w (IAns w (wantsT t)) := (implWantsR_any w v t hl hs).mono fun _ _ h => h.i
end Go.Proofs.YtdmpobegobfpjaaGreat.tx
namespace Go.Proofs.YtdmpobegobfpjaaGreat
theorem run_copy_wide {P : Program} (w : World) (dT sT ty elem : TypeId) (g o dLen dCap : Nat) (a : Addr) (sLen sCap : Nat) (cur : Array Value) (t : TypeId) (cs : List Value) (sz : Nat)
    (hu : P.underlying dT = some (.slice elem)) (hs : (P.info? elem).map (·.size) = some sz)
    (hg : w.heap[g]? = some (.cells cur t (0, 0))) (hn : cs.length = Nat.min sLen dLen * sz)
    (hsrc : ∀ j v, cs[j]? = some v → w.cell? (a.add j) = some v) (hfit : o + cs.length ≤ cur.size) (h1 : ∀ v ∈ cs, v.oneCell' = true) :
    (Builtin.copy_ #[dT, sT] ty #[.slice (some ⟨g, o, none⟩) dLen dCap, .slice (some a) sLen sCap]).run P w =
      .ok (goInt (Nat.min sLen dLen)) (w.setRow g (cur.toList.take o ++ cs ++ cur.toList.drop (o + cs.length)).toArray) := by
  have hl := run_loadCells_list (P := P) w a cs hsrc
  have hst := run_storeCells_at P g o t cs 0 cur w hg (by simpa using hfit) h1
  cases hq : P.info? elem with
  | none => simp [hq] at hs
  | some i =>
    have hi : i.size = sz := by simpa [hq] using hs
    simp [Builtin.copy_, run_underlying hu, Builtin.lenOf, Builtin.firstCells, sizeOf, typeInfo, hq, hi, ← hn, hl, hst]
end Go.Proofs.YtdmpobegobfpjaaGreat
namespace Go.Proofs.YtdmpobegobfpjaaGreat
open Go.RowKit
theorem six_of {xs : List C2} (h : xs.length = 6) : ∃ a b c d e f : C2, xs = [a, b, c, d, e, f] := by
  match xs, h with
  | [a, b, c, d, e, f], _ => exact ⟨a, b, c, d, e, f, rfl⟩
def arr6 (xs : List C2) : Array Value := (xs.flatMap C2.cells).toArray
def zer6 : List C2 := [⟨0, 0⟩, ⟨0, 0⟩, ⟨0, 0⟩, ⟨0, 0⟩, ⟨0, 0⟩, ⟨0, 0⟩]
def tk6 (xs : List C2) : List C2 := if cellsB xs = true then xs else zer6
theorem zcell {w : World} {b : Nat} {t : TypeId} {xs : List C2} (h : w.heap[b]? = some (.cells (arr6 xs) t (0, 0))) (i : Nat) (v : Value) (hv : (arr6 xs)[i]? = some v) : w.cell? ⟨b, i, none⟩ = some v := by
  have := World.news_of_block (w := w) (cs := arr6 xs) (t := t) (fr := (0, 0)) h i v (by simpa using hv)
  have e : (⟨b, 0, none⟩ : Addr).add i = ⟨b, i, none⟩ := by by_cases h0 : i = 0 <;> simp [Addr.add, h0]
  rwa [e] at this
set_option maxRecDepth 100000 in
set_option maxHeartbeats 4000000 in
theorem takeCells_any (w : World) (a : Option Addr) (n cap : Nat) (xs : List C2) (hn : n ≤ maxLen) (hs : SlC w w.heap.size a n xs) :
    Calls Tryz.prog 205 #[.slice a n cap] w fun e w' => e = .returned (.tuple #[.agg (arr6 (tk6 xs)), .bool (cellsB xs)]) ∧ Below w.heap.size w w' := by
  obtain ⟨U1, hU1⟩ : ∃ Y, Y = w.alloc (.cells #[.int .i64 0, .int .i64 0, .int .i64 0, .int .i64 0, .int .i64 0, .int .i64 0, .int .i64 0, .int .i64 0, .int .i64 0, .int .i64 0, .int .i64 0, .int .i64 0] 214) := ⟨_, rfl⟩
  obtain ⟨U, hU⟩ : ∃ Y, Y = U1.alloc (.cells #[.int .i64 0, .int .i64 0, .int .i64 0, .int .i64 0, .int .i64 0, .int .i64 0, .int .i64 0, .int .i64 0, .int .i64 0, .int .i64 0, .int .i64 0, .int .i64 0] 214) := ⟨_, rfl⟩
  have b1 : Below w.heap.size w U1 := by rw [hU1]; exact (Below.refl _ _).alloc (Nat.le_refl _) _
  have b2 : Below U1.heap.size U1 U := by rw [hU]; exact (Below.refl _ _).alloc (Nat.le_refl _) _
  have s1 : U1.heap.size = w.heap.size + 1 := by rw [hU1]; simp
  have s2 : U.heap.size = w.heap.size + 2 := by rw [hU]; simp [s1]
  have g1 : U1.heap[w.heap.size]? = some (.cells (arr6 zer6) 214 (0, 0)) := by rw [hU1]; exact Go.Deep.blk_alloc_new w _
  have g2 : U.heap[w.heap.size + 1]? = some (.cells (arr6 zer6) 214 (0, 0)) := by
    have := Go.Deep.blk_alloc_new U1 (.cells #[.int .i64 0, .int .i64 0, .int .i64 0, .int .i64 0, .int .i64 0, .int .i64 0, .int .i64 0, .int .i64 0, .int .i64 0, .int .i64 0, .int .i64 0, .int .i64 0] 214)
    rw [s1] at this
    rw [hU]; exact this
  have g1' : U.heap[w.heap.size]? = some (.cells (arr6 zer6) 214 (0, 0)) := (b2.block _ (by omega)).trans g1
  have bU : Below w.heap.size w U := b1.trans (b2.mono (by omega))
  have XU : Hid (Bx U w.heap.size [.int .i64 0, .int .i64 0, .int .i64 0, .int .i64 0, .int .i64 0, .int .i64 0, .int .i64 0, .int .i64 0, .int .i64 0, .int .i64 0, .int .i64 0, .int .i64 0]) := by
    have h0 : Bx U1 w.heap.size [.int .i64 0, .int .i64 0, .int .i64 0, .int .i64 0, .int .i64 0, .int .i64 0, .int .i64 0, .int .i64 0, .int .i64 0, .int .i64 0, .int .i64 0, .int .i64 0] := by rw [hU1]; exact Bx.made w [.int .i64 0, .int .i64 0, .int .i64 0, .int .i64 0, .int .i64 0, .int .i64 0, .int .i64 0, .int .i64 0, .int .i64 0, .int .i64 0, .int .i64 0, .int .i64 0] _
    exact h0.later b2
  have hc := implCellsOk_any U a n cap xs hn (hs.later bU)
  have hUU : U = (w.alloc (.cells #[.int .i64 0, .int .i64 0, .int .i64 0, .int .i64 0, .int .i64 0, .int .i64 0, .int .i64 0, .int .i64 0, .int .i64 0, .int .i64 0, .int .i64 0, .int .i64 0] 214)).alloc (.cells #[.int .i64 0, .int .i64 0, .int .i64 0, .int .i64 0, .int .i64 0, .int .i64 0, .int .i64 0, .int .i64 0, .int .i64 0, .int .i64 0, .int .i64 0, .int .i64 0] 214) := by rw [hU, hU1]
  have KU : Hid (Below w.heap.size w U ∧ U.heap.size = w.heap.size + 2 ∧ U.heap[w.heap.size]? = some (.cells (arr6 zer6) 214 (0, 0)) ∧ U.heap[w.heap.size + 1]? = some (.cells (arr6 zer6) 214 (0, 0))) := ⟨bU, s2, g1', g2⟩
  have HS : Hid (SlC w w.heap.size a n xs) := hs
  clear hs b1 b2 s1 s2 g1 g2 g1' bU hU hU1
  go_enter Tryz.func205, Tryz.ntmps205
  go_wp2_with fail
  rw [← hUU]
  clear hUU
  refine hc.mono ?_
  clear hc
  rintro e W ⟨rfl, bW⟩
  obtain ⟨kb, ks, kg, kh⟩ := KU.out
  have k2 : W.heap[w.heap.size + 1]? = some (.cells (arr6 zer6) 214 (0, 0)) := (bW.block _ (by omega)).trans kh
  have X1 : Bx W w.heap.size [.int .i64 0, .int .i64 0, .int .i64 0, .int .i64 0, .int .i64 0, .int .i64 0, .int .i64 0, .int .i64 0, .int .i64 0, .int .i64 0, .int .i64 0, .int .i64 0] := XU.out.later bW
  have KW : Hid (Below w.heap.size w W ∧ w.heap.size + 2 ≤ W.heap.size) := ⟨kb.trans (bW.mono kb.size), by have := bW.size; omega⟩
  clear kb ks kg kh
  cases hB : cellsB xs with
  | false =>
    have HT : Hid (tk6 xs = zer6 ∧ cellsB xs = false) := ⟨by simp [tk6, hB], hB⟩
    have KP : Hid (Below w.heap.size w (putB W w.heap.size 0 [.int .i64 0, .int .i64 0, .int .i64 0, .int .i64 0, .int .i64 0, .int .i64 0, .int .i64 0, .int .i64 0, .int .i64 0, .int .i64 0, .int .i64 0, .int .i64 0]) ∧ Bx (putB W w.heap.size 0 [.int .i64 0, .int .i64 0, .int .i64 0, .int .i64 0, .int .i64 0, .int .i64 0, .int .i64 0, .int .i64 0, .int .i64 0, .int .i64 0, .int .i64 0, .int .i64 0]) w.heap.size [.int .i64 0, .int .i64 0, .int .i64 0, .int .i64 0, .int .i64 0, .int .i64 0, .int .i64 0, .int .i64 0, .int .i64 0, .int .i64 0, .int .i64 0, .int .i64 0]) := ⟨putB_below (Nat.le_refl _) _ _ _ KW.out.1, X1.put _ rfl⟩
    have p0 := X1.1 0 _ rfl
    have f0 := X1.2.1 0
    have p1 := X1.1 1 _ rfl
    have f1 := X1.2.1 1
    have p2 := X1.1 2 _ rfl
    have f2 := X1.2.1 2
    have p3 := X1.1 3 _ rfl
    have f3 := X1.2.1 3
    have p4 := X1.1 4 _ rfl
    have f4 := X1.2.1 4
    have p5 := X1.1 5 _ rfl
    have f5 := X1.2.1 5
    have p6 := X1.1 6 _ rfl
    have f6 := X1.2.1 6
    have p7 := X1.1 7 _ rfl
    have f7 := X1.2.1 7
    have p8 := X1.1 8 _ rfl
    have f8 := X1.2.1 8
    have p9 := X1.1 9 _ rfl
    have f9 := X1.2.1 9
    have p10 := X1.1 10 _ rfl
    have f10 := X1.2.1 10
    have p11 := X1.1 11 _ rfl
    have f11 := X1.2.1 11
    have q0 : W.cell? ⟨w.heap.size + 1, 0, none⟩ = some (.int .i64 0) := zcell (xs := zer6) k2 0 _ rfl
    have q1 : W.cell? ⟨w.heap.size + 1, 1, none⟩ = some (.int .i64 0) := zcell (xs := zer6) k2 1 _ rfl
    have q2 : W.cell? ⟨w.heap.size + 1, 2, none⟩ = some (.int .i64 0) := zcell (xs := zer6) k2 2 _ rfl
    have q3 : W.cell? ⟨w.heap.size + 1, 3, none⟩ = some (.int .i64 0) := zcell (xs := zer6) k2 3 _ rfl
    have q4 : W.cell? ⟨w.heap.size + 1, 4, none⟩ = some (.int .i64 0) := zcell (xs := zer6) k2 4 _ rfl
    have q5 : W.cell? ⟨w.heap.size + 1, 5, none⟩ = some (.int .i64 0) := zcell (xs := zer6) k2 5 _ rfl
    have q6 : W.cell? ⟨w.heap.size + 1, 6, none⟩ = some (.int .i64 0) := zcell (xs := zer6) k2 6 _ rfl
    have q7 : W.cell? ⟨w.heap.size + 1, 7, none⟩ = some (.int .i64 0) := zcell (xs := zer6) k2 7 _ rfl
    have q8 : W.cell? ⟨w.heap.size + 1, 8, none⟩ = some (.int .i64 0) := zcell (xs := zer6) k2 8 _ rfl
    have q9 : W.cell? ⟨w.heap.size + 1, 9, none⟩ = some (.int .i64 0) := zcell (xs := zer6) k2 9 _ rfl
    have q10 : W.cell? ⟨w.heap.size + 1, 10, none⟩ = some (.int .i64 0) := zcell (xs := zer6) k2 10 _ rfl
    have q11 : W.cell? ⟨w.heap.size + 1, 11, none⟩ = some (.int .i64 0) := zcell (xs := zer6) k2 11 _ rfl
    clear X1 k2 bW hB
    go_wp2
    obtain ⟨Z, hZ⟩ : ∃ Z, Z = putB W w.heap.size 0 [.int .i64 0, .int .i64 0, .int .i64 0, .int .i64 0, .int .i64 0, .int .i64 0, .int .i64 0, .int .i64 0, .int .i64 0, .int .i64 0, .int .i64 0, .int .i64 0] := ⟨_, rfl⟩
    rw [← hZ] at KP
    simp only [putB, Nat.zero_add, Nat.reduceAdd] at hZ
    rw [← hZ]
    clear hZ
    have r0 := KP.out.2.1 0 _ rfl
    have r1 := KP.out.2.1 1 _ rfl
    have r2 := KP.out.2.1 2 _ rfl
    have r3 := KP.out.2.1 3 _ rfl
    have r4 := KP.out.2.1 4 _ rfl
    have r5 := KP.out.2.1 5 _ rfl
    have r6 := KP.out.2.1 6 _ rfl
    have r7 := KP.out.2.1 7 _ rfl
    have r8 := KP.out.2.1 8 _ rfl
    have r9 := KP.out.2.1 9 _ rfl
    have r10 := KP.out.2.1 10 _ rfl
    have r11 := KP.out.2.1 11 _ rfl
    exact bodyPost_ret (v := .tuple #[.agg #[.int .i64 0, .int .i64 0, .int .i64 0, .int .i64 0, .int .i64 0, .int .i64 0, .int .i64 0, .int .i64 0, .int .i64 0, .int .i64 0, .int .i64 0, .int .i64 0], .bool false]) (by simp [results, Tryz.results205, go_sem, r0, r1, r2, r3, r4, r5, r6, r7, r8, r9, r10, r11]) rfl ⟨by rw [HT.out.1, HT.out.2]; rfl, KP.out.1⟩
  | true =>
    have HT : Hid (tk6 xs = xs ∧ cellsB xs = true) := ⟨by simp [tk6, hB], hB⟩
    have hx6 : xs.length = 6 := by simp only [cellsB, Bool.and_eq_true, decide_eq_true_eq] at hB; exact hB.1
    clear hB
    obtain ⟨hx, hs⟩ := HS.out
    obtain rfl : n = 6 := by omega
    rcases hs with hs | ⟨b, off, rfl, hb, h1⟩
    · omega
    have hsrc : ∀ j v, (xs.flatMap C2.cells)[j]? = some v → W.cell? ((⟨b, off, none⟩ : Addr).add j) = some v := by
      intro j v hv
      have hj : j < 12 := by
        rcases Nat.lt_or_ge j 12 with h | h
        · exact h
        · rw [List.getElem?_eq_none (by rw [flat2_len, hx6]; exact h)] at hv; cases hv
      obtain ⟨i, r, rfl, hr⟩ : ∃ i r, j = i * 2 + r ∧ r < 2 := ⟨j / 2, j % 2, by omega, by omega⟩
      have hi : i < xs.length := by omega
      rw [flat2 xs i _ r (at2_of hi) hr] at hv
      have hc := (h1.get hi).below KW.out.1 hb
      have ea : (⟨b, off, none⟩ : Addr).add (i * 2 + r) = ⟨b, off + i * 2 + r, none⟩ := by
        by_cases h0 : i * 2 + r = 0
        · have : i = 0 := by omega
          have : r = 0 := by omega
          subst i; subst r
          simp [Addr.add]
        · simp only [Addr.add, if_neg h0, Nat.add_assoc]
      rw [ea]
      match r, hr with
      | 0, _ => simp only [C2.cells, List.getElem?_cons_zero, Option.some.injEq] at hv; subst hv; exact hc.c0
      | 1, _ => simp only [C2.cells, List.getElem?_cons_succ, List.getElem?_cons_zero, Option.some.injEq] at hv; subst hv; exact hc.c1
    have h1c : ∀ v ∈ xs.flatMap C2.cells, v.oneCell' = true := by
      intro v hv
      obtain ⟨c, -, hc⟩ := List.mem_flatMap.1 hv
      simp only [C2.cells, List.mem_cons, List.not_mem_nil, or_false] at hc
      rcases hc with rfl | rfl <;> rfl
    have hfl : (xs.flatMap C2.cells).length = 12 := by rw [flat2_len, hx6]
    have hz : (arr6 zer6).size = 12 := by rfl
    have hrun := run_copy_wide (P := Tryz.prog) W 42 42 3 75 (w.heap.size + 1) 0 6 6 ⟨b, off, none⟩ 6 cap (arr6 zer6) 214 (xs.flatMap C2.cells) 2 Tryz.underlying42 (by kernel_rfl) k2 (by rw [hfl]; rfl) hsrc (by rw [hfl, hz]; omega) h1c
    have hl : ((arr6 zer6).toList.take 0 ++ xs.flatMap C2.cells ++ (arr6 zer6).toList.drop (0 + (xs.flatMap C2.cells).length)).toArray = arr6 xs := by
      rw [hfl]; simp [arr6, zer6, C2.cells]
    rw [hl] at hrun
    have k3 := setRow_heap W (w.heap.size + 1) _ (arr6 xs) _ _ k2
    have b3 : Below (w.heap.size + 1) W (W.setRow (w.heap.size + 1) (arr6 xs)) := below_setRow (Below.refl _ _) (Nat.le_refl _) _
    have b4 : Below w.heap.size w (W.setRow (w.heap.size + 1) (arr6 xs)) := below_setRow KW.out.1 (by omega) _
    have X3 := X1.under b3 (by omega)
    generalize W.setRow (w.heap.size + 1) (arr6 xs) = V at *
    obtain ⟨a0, a1, a2, a3, a4, a5, rfl⟩ := six_of hx6
    have X1 := X3
    have KP : Hid (Below w.heap.size w (putB V w.heap.size 0 [.int .i64 a0.head, .int .i64 a0.value, .int .i64 a1.head, .int .i64 a1.value, .int .i64 a2.head, .int .i64 a2.value, .int .i64 a3.head, .int .i64 a3.value, .int .i64 a4.head, .int .i64 a4.value, .int .i64 a5.head, .int .i64 a5.value]) ∧ Bx (putB V w.heap.size 0 [.int .i64 a0.head, .int .i64 a0.value, .int .i64 a1.head, .int .i64 a1.value, .int .i64 a2.head, .int .i64 a2.value, .int .i64 a3.head, .int .i64 a3.value, .int .i64 a4.head, .int .i64 a4.value, .int .i64 a5.head, .int .i64 a5.value]) w.heap.size [.int .i64 a0.head, .int .i64 a0.value, .int .i64 a1.head, .int .i64 a1.value, .int .i64 a2.head, .int .i64 a2.value, .int .i64 a3.head, .int .i64 a3.value, .int .i64 a4.head, .int .i64 a4.value, .int .i64 a5.head, .int .i64 a5.value]) := ⟨putB_below (Nat.le_refl _) _ _ _ b4, X1.put _ rfl⟩
    have p0 := X1.1 0 _ rfl
    have f0 := X1.2.1 0
    have p1 := X1.1 1 _ rfl
    have f1 := X1.2.1 1
    have p2 := X1.1 2 _ rfl
    have f2 := X1.2.1 2
    have p3 := X1.1 3 _ rfl
    have f3 := X1.2.1 3
    have p4 := X1.1 4 _ rfl
    have f4 := X1.2.1 4
    have p5 := X1.1 5 _ rfl
    have f5 := X1.2.1 5
    have p6 := X1.1 6 _ rfl
    have f6 := X1.2.1 6
    have p7 := X1.1 7 _ rfl
    have f7 := X1.2.1 7
    have p8 := X1.1 8 _ rfl
    have f8 := X1.2.1 8
    have p9 := X1.1 9 _ rfl
    have f9 := X1.2.1 9
    have p10 := X1.1 10 _ rfl
    have f10 := X1.2.1 10
    have p11 := X1.1 11 _ rfl
    have f11 := X1.2.1 11
    have q0 : V.cell? ⟨w.heap.size + 1, 0, none⟩ = some (.int .i64 a0.head) := zcell (xs := [a0, a1, a2, a3, a4, a5]) k3 0 _ rfl
    have q1 : V.cell? ⟨w.heap.size + 1, 1, none⟩ = some (.int .i64 a0.value) := zcell (xs := [a0, a1, a2, a3, a4, a5]) k3 1 _ rfl
    have q2 : V.cell? ⟨w.heap.size + 1, 2, none⟩ = some (.int .i64 a1.head) := zcell (xs := [a0, a1, a2, a3, a4, a5]) k3 2 _ rfl
    have q3 : V.cell? ⟨w.heap.size + 1, 3, none⟩ = some (.int .i64 a1.value) := zcell (xs := [a0, a1, a2, a3, a4, a5]) k3 3 _ rfl
    have q4 : V.cell? ⟨w.heap.size + 1, 4, none⟩ = some (.int .i64 a2.head) := zcell (xs := [a0, a1, a2, a3, a4, a5]) k3 4 _ rfl
    have q5 : V.cell? ⟨w.heap.size + 1, 5, none⟩ = some (.int .i64 a2.value) := zcell (xs := [a0, a1, a2, a3, a4, a5]) k3 5 _ rfl
    have q6 : V.cell? ⟨w.heap.size + 1, 6, none⟩ = some (.int .i64 a3.head) := zcell (xs := [a0, a1, a2, a3, a4, a5]) k3 6 _ rfl
    have q7 : V.cell? ⟨w.heap.size + 1, 7, none⟩ = some (.int .i64 a3.value) := zcell (xs := [a0, a1, a2, a3, a4, a5]) k3 7 _ rfl
    have q8 : V.cell? ⟨w.heap.size + 1, 8, none⟩ = some (.int .i64 a4.head) := zcell (xs := [a0, a1, a2, a3, a4, a5]) k3 8 _ rfl
    have q9 : V.cell? ⟨w.heap.size + 1, 9, none⟩ = some (.int .i64 a4.value) := zcell (xs := [a0, a1, a2, a3, a4, a5]) k3 9 _ rfl
    have q10 : V.cell? ⟨w.heap.size + 1, 10, none⟩ = some (.int .i64 a5.head) := zcell (xs := [a0, a1, a2, a3, a4, a5]) k3 10 _ rfl
    have q11 : V.cell? ⟨w.heap.size + 1, 11, none⟩ = some (.int .i64 a5.value) := zcell (xs := [a0, a1, a2, a3, a4, a5]) k3 11 _ rfl
    clear X1 X3 k2 k3 bW b3 b4 hsrc h1c hfl hz hl h1 hx hx6
    go_wp2
    obtain ⟨Z, hZ⟩ : ∃ Z, Z = putB V w.heap.size 0 [.int .i64 a0.head, .int .i64 a0.value, .int .i64 a1.head, .int .i64 a1.value, .int .i64 a2.head, .int .i64 a2.value, .int .i64 a3.head, .int .i64 a3.value, .int .i64 a4.head, .int .i64 a4.value, .int .i64 a5.head, .int .i64 a5.value] := ⟨_, rfl⟩
    rw [← hZ] at KP
    simp only [putB, Nat.zero_add, Nat.reduceAdd] at hZ
    rw [← hZ]
    clear hZ
    have r0 := KP.out.2.1 0 _ rfl
    have r1 := KP.out.2.1 1 _ rfl
    have r2 := KP.out.2.1 2 _ rfl
    have r3 := KP.out.2.1 3 _ rfl
    have r4 := KP.out.2.1 4 _ rfl
    have r5 := KP.out.2.1 5 _ rfl
    have r6 := KP.out.2.1 6 _ rfl
    have r7 := KP.out.2.1 7 _ rfl
    have r8 := KP.out.2.1 8 _ rfl
    have r9 := KP.out.2.1 9 _ rfl
    have r10 := KP.out.2.1 10 _ rfl
    have r11 := KP.out.2.1 11 _ rfl
    exact bodyPost_ret (v := .tuple #[.agg #[.int .i64 a0.head, .int .i64 a0.value, .int .i64 a1.head, .int .i64 a1.value, .int .i64 a2.head, .int .i64 a2.value, .int .i64 a3.head, .int .i64 a3.value, .int .i64 a4.head, .int .i64 a4.value, .int .i64 a5.head, .int .i64 a5.value], .bool true]) (by simp [results, Tryz.results205, go_sem, r0, r1, r2, r3, r4, r5, r6, r7, r8, r9, r10, r11]) rfl ⟨by rw [HT.out.1, HT.out.2]; rfl, KP.out.1⟩
end Go.Proofs.YtdmpobegobfpjaaGreat
namespace Go.Proofs.YtdmpobegobfpjaaGreat
open Go.RowKit
open Go.Sort (grow)
set_option maxHeartbeats 1000000 in
theorem setsRise_any (w : World) (a : Option Addr) (n cap : Nat) (ss : List S5) (hn : n ≤ maxLen) (hs : Sl w w.heap.size a n ss) :
    Calls Tryz.prog 206 #[.slice a n cap] w fun e w' => e = .returned (.bool (riseB ss)) ∧ Below w.heap.size w w' := by
  obtain ⟨hx, hs⟩ := hs
  rcases hs with rfl | ⟨b, off, rfl, hb, h1⟩
  · obtain rfl : ss = [] := List.eq_nil_of_length_eq_zero hx
    go_enter Tryz.func206, Tryz.ntmps206
    go_wp2
    go_loopw [7] (fun i wr => i = .int .i64 0 ∧ Below w.heap.size w wr) (fun _ _ => 0)
    case atStart => exact ⟨rfl, Below.refl _ _⟩
    case round =>
      obtain ⟨rfl, hbl⟩ := hrel
      go_wp2
      go_ret
      exact ⟨rfl, hbl⟩
  · exact setsRise_some w b off cap n ss hx hn h1 hb
set_option maxRecDepth 100000 in
set_option maxHeartbeats 8000000 in
theorem takeForSets_any (w : World) (a : Option Addr) (n cap : Nat) (xs : List C2) (b : Option Addr) (m cap2 : Nat) (ss : List S5) (hn : n ≤ maxLen) (hm : m ≤ maxLen) (hs : SlC w w.heap.size a n xs) (h2 : Sl w w.heap.size b m ss) (hB : cellsB xs = true) :
    Calls Tryz.prog 176 #[.slice a n cap, .slice b m cap2] w fun e w' => e = .returned (.tuple #[.agg (arr6 xs), .bool (riseB ss)]) ∧ Below w.heap.size w w' := by
  have hx6 : xs.length = 6 := by simp only [cellsB, Bool.and_eq_true, decide_eq_true_eq] at hB; exact hB.1
  obtain ⟨u0, u1, u2, u3, u4, u5, hu⟩ := six_of hx6
  have HU : Hid (arr6 xs = #[.int .i64 u0.head, .int .i64 u0.value, .int .i64 u1.head, .int .i64 u1.value, .int .i64 u2.head, .int .i64 u2.value, .int .i64 u3.head, .int .i64 u3.value, .int .i64 u4.head, .int .i64 u4.value, .int .i64 u5.head, .int .i64 u5.value]) := by unfold Hid; rw [hu]; rfl
  obtain ⟨U, hU⟩ : ∃ Y, Y = w.alloc (.cells #[.int .i64 0, .int .i64 0, .int .i64 0, .int .i64 0, .int .i64 0, .int .i64 0, .int .i64 0, .int .i64 0, .int .i64 0, .int .i64 0, .int .i64 0, .int .i64 0] 214) := ⟨_, rfl⟩
  have bU : Below w.heap.size w U := by rw [hU]; exact (Below.refl _ _).alloc (Nat.le_refl _) _
  have XU : Hid (Bx U w.heap.size [.int .i64 0, .int .i64 0, .int .i64 0, .int .i64 0, .int .i64 0, .int .i64 0, .int .i64 0, .int .i64 0, .int .i64 0, .int .i64 0, .int .i64 0, .int .i64 0]) := by unfold Hid; rw [hU]; exact Bx.made w [.int .i64 0, .int .i64 0, .int .i64 0, .int .i64 0, .int .i64 0, .int .i64 0, .int .i64 0, .int .i64 0, .int .i64 0, .int .i64 0, .int .i64 0, .int .i64 0] _
  have hc := takeCells_any U a n cap xs hn (hs.later bU)
  have ht : tk6 xs = xs := by simp [tk6, hB]
  rw [ht, hB] at hc
  have KU : Hid (Below w.heap.size w U ∧ U.heap.size = w.heap.size + 1 ∧ Sl w w.heap.size b m ss ∧ m ≤ maxLen) := ⟨bU, by rw [hU]; simp, h2, hm⟩
  clear hs h2 hB hx6 hu ht bU hn hm
  go_enter Tryz.func176, Tryz.ntmps176
  go_wp2_with fail
  rw [← hU]
  clear hU
  refine hc.mono ?_
  clear hc
  rintro e W1 ⟨rfl, b1⟩
  rw [HU.out]
  obtain ⟨W2, hW2⟩ : ∃ Y, Y = W1.alloc (.cells #[.int .i64 u0.head, .int .i64 u0.value, .int .i64 u1.head, .int .i64 u1.value, .int .i64 u2.head, .int .i64 u2.value, .int .i64 u3.head, .int .i64 u3.value, .int .i64 u4.head, .int .i64 u4.value, .int .i64 u5.head, .int .i64 u5.value] 214) := ⟨_, rfl⟩
  have b2 : Below W1.heap.size W1 W2 := by rw [hW2]; exact (Below.refl _ _).alloc (Nat.le_refl _) _
  have XB : Hid (Bx W2 W1.heap.size [.int .i64 u0.head, .int .i64 u0.value, .int .i64 u1.head, .int .i64 u1.value, .int .i64 u2.head, .int .i64 u2.value, .int .i64 u3.head, .int .i64 u3.value, .int .i64 u4.head, .int .i64 u4.value, .int .i64 u5.head, .int .i64 u5.value]) := by unfold Hid; rw [hW2]; exact Bx.made W1 [.int .i64 u0.head, .int .i64 u0.value, .int .i64 u1.head, .int .i64 u1.value, .int .i64 u2.head, .int .i64 u2.value, .int .i64 u3.head, .int .i64 u3.value, .int .i64 u4.head, .int .i64 u4.value, .int .i64 u5.head, .int .i64 u5.value] _
  have XA : Hid (Bx W2 w.heap.size [.int .i64 0, .int .i64 0, .int .i64 0, .int .i64 0, .int .i64 0, .int .i64 0, .int .i64 0, .int .i64 0, .int .i64 0, .int .i64 0, .int .i64 0, .int .i64 0]) := XU.out.later (bstep b1 b2)
  have KW : Hid (Below w.heap.size w W2) := bstep KU.out.1 (bstep b1 b2)
  have hrs : ∀ X, Below W2.heap.size W2 X → Calls Tryz.prog 206 #[.slice b m cap2] X fun e w' => e = .returned (.bool (riseB ss)) ∧ Below X.heap.size X w' := fun X hX => setsRise_any X b m cap2 ss KU.out.2.2.2 ((Sl.below KU.out.2.2.1 (bstep KW.out hX)).mono (bstep KW.out hX).size)
  have SZ : Hid (w.heap.size ≤ w.heap.size) := Nat.le_refl _
  clear b1 b2
  go_upto_region 2 with fail
  rw [← hW2]
  clear hW2
  generalize W1.heap.size = s6 at *
  obtain ⟨s4, hs4⟩ : ∃ s, w.heap.size = s := ⟨_, rfl⟩
  have SZ : Hid (w.heap.size ≤ s4) := by unfold Hid; omega
  rw [hs4] at XA
  rw [hs4]
  clear hs4
  have bXD : Below W2.heap.size W2 W2.drew := (Below.refl _ _).drew
  have hS : (fun X : World => Bx X s6 [.int .i64 u0.head, .int .i64 u0.value, .int .i64 u1.head, .int .i64 u1.value, .int .i64 u2.head, .int .i64 u2.value, .int .i64 u3.head, .int .i64 u3.value, .int .i64 u4.head, .int .i64 u4.value, .int .i64 u5.head, .int .i64 u5.value]) W2.drew := XB.out.later bXD
  refine wp_region_z (fun z => z == 6) (fun X : World => Bx X s6 [.int .i64 u0.head, .int .i64 u0.value, .int .i64 u1.head, .int .i64 u1.value, .int .i64 u2.head, .int .i64 u2.value, .int .i64 u3.head, .int .i64 u3.value, .int .i64 u4.head, .int .i64 u4.value, .int .i64 u5.head, .int .i64 u5.value]) (by kernel_rfl) ?_
  generalize W2.drew = XD at *
  refine wpZ_take (i := 0) (v := ?_) rfl (by kernel_rfl) (fun _ _ _ h => h) (Or.inl ⟨by rfl, ?_⟩) hS ?_
  rotate_left
  · (intro X hSw; have c0 := hSw.1 0 _ rfl; have c1 := hSw.1 1 _ rfl; have c2 := hSw.1 2 _ rfl; have c3 := hSw.1 3 _ rfl; have c4 := hSw.1 4 _ rfl; have c5 := hSw.1 5 _ rfl; have c6 := hSw.1 6 _ rfl; have c7 := hSw.1 7 _ rfl; have c8 := hSw.1 8 _ rfl; have c9 := hSw.1 9 _ rfl; have c10 := hSw.1 10 _ rfl; have c11 := hSw.1 11 _ rfl; go_simp; first | done | with_reducible rfl | rfl)
  simp only [Act.put]
  refine wpZ_takeP (i := 1) (v := ?_) rfl (by kernel_rfl) (fun _ _ _ h => h) (Or.inl ⟨by rfl, ?_⟩) hS ?_
  rotate_left
  · (intro X _; go_simp; first | done | with_reducible rfl | rfl)
  simp only [Act.put]
  refine wpZ_takeP (i := 2) (v := ?_) rfl (by kernel_rfl) (fun _ _ _ h => h) (Or.inl ⟨by rfl, ?_⟩) hS ?_
  rotate_left
  · (intro X _; go_simp; first | done | with_reducible rfl | rfl)
  simp only [Act.put]
  refine wpZ_takeP (i := 3) (v := ?_) rfl (by kernel_rfl) (fun _ _ _ h => h) (Or.inl ⟨by rfl, ?_⟩) hS ?_
  rotate_left
  · (intro X _; go_simp; first | done | with_reducible rfl | rfl)
  simp only [Act.put]
  refine wpZ_ready (rs := [4]) (by kernel_rfl) (by simp) ?_
  refine AllZ.cons rfl (fun K hK => ?_) AllZ.nil
  go_simp
  refine (hrs XD bXD).mono ?_
  rintro e Y ⟨rfl, bY⟩
  have bYY : Below W2.heap.size W2 Y := bstep bXD bY
  have hS : (fun X : World => Bx X s6 [.int .i64 u0.head, .int .i64 u0.value, .int .i64 u1.head, .int .i64 u1.value, .int .i64 u2.head, .int .i64 u2.value, .int .i64 u3.head, .int .i64 u3.value, .int .i64 u4.head, .int .i64 u4.value, .int .i64 u5.head, .int .i64 u5.value]) Y := XB.out.later bYY
  refine hK.out _ _ (fun _ => hS) ?_
  clear hK K
  refine wpZ_takeP (i := 5) (v := ?_) rfl (by kernel_rfl) (fun _ _ _ h => h) (Or.inl ⟨by rfl, ?_⟩) hS ?_
  rotate_left
  · (intro X _; go_simp; first | done | with_reducible rfl | rfl)
  simp only [Act.put]
  have RY : Hid (Bx Y s4 [.int .i64 0, .int .i64 0, .int .i64 0, .int .i64 0, .int .i64 0, .int .i64 0, .int .i64 0, .int .i64 0, .int .i64 0, .int .i64 0, .int .i64 0, .int .i64 0] ∧ Below w.heap.size w Y) := ⟨XA.out.later bYY, bstep KW.out bYY⟩
  have p0 := RY.out.1.1 0 _ rfl
  have f0 := RY.out.1.2.1 0
  have p1 := RY.out.1.1 1 _ rfl
  have f1 := RY.out.1.2.1 1
  have p2 := RY.out.1.1 2 _ rfl
  have f2 := RY.out.1.2.1 2
  have p3 := RY.out.1.1 3 _ rfl
  have f3 := RY.out.1.2.1 3
  have p4 := RY.out.1.1 4 _ rfl
  have f4 := RY.out.1.2.1 4
  have p5 := RY.out.1.1 5 _ rfl
  have f5 := RY.out.1.2.1 5
  have p6 := RY.out.1.1 6 _ rfl
  have f6 := RY.out.1.2.1 6
  have p7 := RY.out.1.1 7 _ rfl
  have f7 := RY.out.1.2.1 7
  have p8 := RY.out.1.1 8 _ rfl
  have f8 := RY.out.1.2.1 8
  have p9 := RY.out.1.1 9 _ rfl
  have f9 := RY.out.1.2.1 9
  have p10 := RY.out.1.1 10 _ rfl
  have f10 := RY.out.1.2.1 10
  have p11 := RY.out.1.1 11 _ rfl
  have f11 := RY.out.1.2.1 11
  have KP : Hid (Below w.heap.size w (putB Y s4 0 [.int .i64 u0.head, .int .i64 u0.value, .int .i64 u1.head, .int .i64 u1.value, .int .i64 u2.head, .int .i64 u2.value, .int .i64 u3.head, .int .i64 u3.value, .int .i64 u4.head, .int .i64 u4.value, .int .i64 u5.head, .int .i64 u5.value]) ∧ Bx (putB Y s4 0 [.int .i64 u0.head, .int .i64 u0.value, .int .i64 u1.head, .int .i64 u1.value, .int .i64 u2.head, .int .i64 u2.value, .int .i64 u3.head, .int .i64 u3.value, .int .i64 u4.head, .int .i64 u4.value, .int .i64 u5.head, .int .i64 u5.value]) s4 [.int .i64 u0.head, .int .i64 u0.value, .int .i64 u1.head, .int .i64 u1.value, .int .i64 u2.head, .int .i64 u2.value, .int .i64 u3.head, .int .i64 u3.value, .int .i64 u4.head, .int .i64 u4.value, .int .i64 u5.head, .int .i64 u5.value]) := ⟨putB_below (by have := SZ.out; omega) _ _ _ RY.out.2, RY.out.1.put _ rfl⟩
  refine wpZ_ready (rs := [6]) (by kernel_rfl) (by simp) ?_
  refine AllZ.cons rfl (fun K hK => ?_) AllZ.nil
  go_simp
  refine hK.out _ _ (fun h => absurd (show false = true from h.symm.trans (by kernel_rfl)) (by decide)) ?_
  clear hK K
  refine wpZ_ready (rs := [7]) (by kernel_rfl) (by simp) ?_
  refine AllZ.cons rfl (fun K hK => ?_) AllZ.nil
  go_simp
  refine hK.out _ _ (fun h => absurd (show false = true from h.symm.trans (by kernel_rfl)) (by decide)) ?_
  clear hK K
  refine wpZ_done (by kernel_rfl) ?_ _
  go_wp2
  obtain ⟨Z, hZ⟩ : ∃ Z, Z = putB Y s4 0 [.int .i64 u0.head, .int .i64 u0.value, .int .i64 u1.head, .int .i64 u1.value, .int .i64 u2.head, .int .i64 u2.value, .int .i64 u3.head, .int .i64 u3.value, .int .i64 u4.head, .int .i64 u4.value, .int .i64 u5.head, .int .i64 u5.value] := ⟨_, rfl⟩
  rw [← hZ] at KP
  simp only [putB, Nat.zero_add, Nat.reduceAdd] at hZ
  rw [← hZ]
  clear hZ
  have r0 := KP.out.2.1 0 _ rfl
  have r1 := KP.out.2.1 1 _ rfl
  have r2 := KP.out.2.1 2 _ rfl
  have r3 := KP.out.2.1 3 _ rfl
  have r4 := KP.out.2.1 4 _ rfl
  have r5 := KP.out.2.1 5 _ rfl
  have r6 := KP.out.2.1 6 _ rfl
  have r7 := KP.out.2.1 7 _ rfl
  have r8 := KP.out.2.1 8 _ rfl
  have r9 := KP.out.2.1 9 _ rfl
  have r10 := KP.out.2.1 10 _ rfl
  have r11 := KP.out.2.1 11 _ rfl
  exact bodyPost_ret (v := .tuple #[.agg #[.int .i64 u0.head, .int .i64 u0.value, .int .i64 u1.head, .int .i64 u1.value, .int .i64 u2.head, .int .i64 u2.value, .int .i64 u3.head, .int .i64 u3.value, .int .i64 u4.head, .int .i64 u4.value, .int .i64 u5.head, .int .i64 u5.value], .bool (riseB ss)]) (by simp [results, Tryz.results176, go_sem, r0, r1, r2, r3, r4, r5, r6, r7, r8, r9, r10, r11]) rfl ⟨by rw [HU.out], KP.out.1⟩
end Go.Proofs.YtdmpobegobfpjaaGreat
namespace Go.Proofs.YtdmpobegobfpjaaGreat
open Go.RowKit
theorem insC_ok {xs : List C2} {s : S5} (hx : cellsB xs = true) (hs : setOkB s = true) : cellsB (insC xs s) = true := by
  simp only [cellsB, Bool.and_eq_true, decide_eq_true_eq, List.all_eq_true] at hx ⊢
  refine ⟨by rw [insC_len]; exact hx.1, fun c hc => ?_⟩
  unfold insC at hc
  split at hc
  · exact hx.2 c hc
  · rcases List.mem_or_eq_of_mem_set hc with hc | rfl
    · exact hx.2 c hc
    · simp only [setOkB, Bool.and_eq_true, inB_iff] at hs
      obtain ⟨⟨⟨h1, h2⟩, h3⟩, h4⟩ := hs
      simp only [cellB, Bool.and_eq_true, inB_iff, Bool.or_eq_true, decide_eq_true_eq, hdV, usedB]
      cases s.used
      · simp; omega
      · simp; omega
theorem ins_ok : ∀ (ss : List S5) {xs : List C2}, cellsB xs = true → (∀ s ∈ ss, setOkB s = true) → cellsB (ss.foldl insC xs) = true
  | [], _, h, _ => h
  | s :: ss, _, h, hs => ins_ok ss (insC_ok h (hs s (List.mem_cons_self ..))) (fun x hx => hs x (List.mem_cons_of_mem _ hx))
theorem zeros_ok : cellsB zeros = true := by decide
theorem fold_at : ∀ (ss : List S5) (css : List (List C2)) (r : Nat), (ss.foldl insA css)[r]? = (css[r]?).map fun xs => (ss.filter fun s => s.region.toNat == r).foldl insC xs
  | [], css, r => by simp
  | s :: ss, css, r => by
    rw [List.foldl_cons, fold_at ss]
    by_cases e : s.region.toNat = r
    · subst e
      rw [insA]
      by_cases hl : s.region.toNat < css.length
      · rw [List.getElem?_set_self hl, List.getElem?_eq_getElem hl]
        simp
      · have h1 : css[s.region.toNat]? = none := List.getElem?_eq_none (by omega)
        rw [h1, List.getElem?_eq_none (by rw [List.length_set]; omega)]
        rfl
    · rw [insA, List.getElem?_set_ne e]
      simp [e]
def grpA (ss : List S5) (css : List (List C2)) (g : Int) : List (List C2) := css.set g.toNat ((tx.ofR g ss).foldl insC (css[g.toNat]?.getD []))
theorem grpA_len (ss : List S5) (css : List (List C2)) (g : Int) : (grpA ss css g).length = css.length := by simp [grpA]
theorem grp_at (ss : List S5) : ∀ (gs : List Int) (css : List (List C2)) (r : Nat), gs.Nodup → (∀ g ∈ gs, 0 ≤ g) → (gs.foldl (grpA ss) css)[r]? = if (r : Int) ∈ gs then (css[r]?).map fun xs => (tx.ofR (r : Int) ss).foldl insC xs else css[r]?
  | [], css, r, _, _ => by simp
  | g :: gs, css, r, hn, h0 => by
    obtain ⟨h1, h2⟩ := List.nodup_cons.1 hn
    rw [List.foldl_cons, grp_at ss gs _ r h2 (fun x hx => h0 x (List.mem_cons_of_mem _ hx))]
    have hg := h0 g (List.mem_cons_self ..)
    by_cases e : (r : Int) = g
    · subst e
      rw [if_neg h1, if_pos (List.mem_cons_self ..), grpA, Int.toNat_natCast]
      by_cases hl : r < css.length
      · rw [List.getElem?_set_self hl, List.getElem?_eq_getElem hl]; rfl
      · rw [List.getElem?_eq_none (by rw [List.length_set]; omega), List.getElem?_eq_none (by omega)]; rfl
    · have hne : g.toNat ≠ r := by omega
      have hm : (r : Int) ∈ g :: gs ↔ (r : Int) ∈ gs := by rw [List.mem_cons]; exact ⟨fun h => h.resolve_left e, .inr⟩
      simp only [hm, grpA, List.getElem?_set_ne hne]
theorem wln_nd (zs : List Int) : ∀ j, (tx.wln zs j).Nodup
  | 0 => List.nodup_nil
  | j + 1 => by
    have ih := wln_nd zs j
    rw [tx.wln]
    split
    · exact ih
    · next hh =>
      refine List.nodup_append.2 ⟨ih, by simp, fun a ha b hb e => ?_⟩
      rw [List.mem_singleton] at hb
      subst hb
      subst e
      exact hh (tx.has_mem.2 ha)
theorem wln_in (zs : List Int) : ∀ j z, z ∈ tx.wln zs j ↔ ∃ i, i < j ∧ atN zs i = z
  | 0, z => by simp [tx.wln]
  | j + 1, z => by
    have ih := wln_in zs j z
    rw [tx.wln]
    split
    · next hh =>
      rw [ih]
      constructor
      · rintro ⟨i, hi, e⟩; exact ⟨i, by omega, e⟩
      · rintro ⟨i, hi, e⟩
        by_cases h2 : i = j
        · subst h2
          exact (wln_in zs i z).1 (by rw [← e]; exact tx.has_mem.1 hh)
        · exact ⟨i, by omega, e⟩
    · rw [List.mem_append, ih, List.mem_singleton]
      constructor
      · rintro (⟨i, hi, e⟩ | e)
        · exact ⟨i, by omega, e⟩
        · exact ⟨j, by omega, e.symm⟩
      · rintro ⟨i, hi, e⟩
        by_cases h2 : i = j
        · subst h2; exact .inr e.symm
        · exact .inl ⟨i, by omega, e⟩
theorem want_in {t : tx.T7} (h : tx.txB t = true) (g : Int) : g ∈ tx.wantsT t ↔ ∃ s ∈ t.sets, s.region = g := by
  rw [tx.wantsT, if_pos h, wln_in]
  constructor
  · rintro ⟨i, hi, e⟩
    refine ⟨t.sets[i], List.getElem_mem hi, ?_⟩
    rw [← e, atN, tx.rgs, List.getElem?_map, List.getElem?_eq_getElem hi]
    rfl
  · rintro ⟨s, hs, e⟩
    obtain ⟨i, hi, rfl⟩ := List.getElem_of_mem hs
    exact ⟨i, hi, by rw [atN, tx.rgs, List.getElem?_map, List.getElem?_eq_getElem hi]; exact e⟩
theorem set_in {t : tx.T7} (h : tx.txB t = true) {s : S5} (hs : s ∈ t.sets) : (0 ≤ s.region ∧ s.region ≤ 5) ∧ 0 ≤ s.slot ∧ s.slot ≤ 5 := by
  have := tx.seOk_in ((tx.txB_se h).1 s hs)
  rw [inB_iff, inB_iff] at this
  exact this
theorem grp_all {t : tx.T7} (h : tx.txB t = true) (css : List (List C2)) : (tx.wantsT t).foldl (grpA t.sets) css = t.sets.foldl insA css := by
  refine List.ext_getElem? fun r => ?_
  have h0 : ∀ g ∈ tx.wantsT t, 0 ≤ g := fun g hg => by
    obtain ⟨s, hs, rfl⟩ := (want_in h g).1 hg
    exact (set_in h hs).1.1
  have hnd : (tx.wantsT t).Nodup := by rw [tx.wantsT, if_pos h]; exact wln_nd _ _
  have hf : (t.sets.filter fun s => s.region.toNat == r) = tx.ofR (r : Int) t.sets := by
    refine List.filter_congr fun s hs => ?_
    have := (set_in h hs).1.1
    by_cases e : s.region = (r : Int)
    · simp [e]
    · have : s.region.toNat ≠ r := by omega
      simp [e, this]
  rw [grp_at _ _ _ _ hnd h0, fold_at, hf]
  split
  · rfl
  · next hr =>
    have : tx.ofR (r : Int) t.sets = [] := List.filter_eq_nil_iff.2 fun s hs he => hr ((want_in h _).2 ⟨s, hs, by simpa using he⟩)
    rw [this]
    simp
theorem ofR_rise {t : tx.T7} (h : tx.txB t = true) (g : Int) : riseB (tx.ofR g t.sets) = true := by
  have h1 := tx.txB_se h
  have h2 : (tx.ofR g t.sets).Pairwise fun a b => tx.seR a < tx.seR b := List.Pairwise.filter _ h1.2
  refine List.all_eq_true.2 fun i hi => ?_
  have hl : i < (tx.ofR g t.sets).length := List.mem_range.1 hi
  have hm : ∀ s ∈ tx.ofR g t.sets, s ∈ t.sets ∧ s.region = g := fun s hs => by
    have := List.mem_filter.1 hs
    exact ⟨this.1, by simpa using this.2⟩
  have e : ∀ j (hj : j < (tx.ofR g t.sets).length), at5 (tx.ofR g t.sets) j = (tx.ofR g t.sets)[j] := fun j hj => by rw [at5, List.getElem?_eq_getElem hj]; rfl
  rw [riseAt, Bool.and_eq_true, e i hl]
  refine ⟨h1.1 _ (hm _ (List.getElem_mem hl)).1, ?_⟩
  rcases i with _ | i
  · rfl
  · have hl' : i < (tx.ofR g t.sets).length := by omega
    rw [Nat.add_sub_cancel, e i hl']
    have := List.pairwise_iff_getElem.1 h2 i (i + 1) hl' hl (by omega)
    have r1 := (hm _ (List.getElem_mem hl')).2
    have r2 := (hm _ (List.getElem_mem hl)).2
    simp only [tx.seR, tx.rk, r1, r2] at this
    simp only [Bool.or_eq_true, decide_eq_true_eq]
    right
    omega
end Go.Proofs.YtdmpobegobfpjaaGreat
namespace Go.Proofs.YtdmpobegobfpjaaGreat
open Go.RowKit
open Go.Sort (grow)
set_option maxRecDepth 10000 in
set_option maxHeartbeats 1000000 in
theorem implList_any (w : World) (zs : List Value) (hz : zs.length = 12) (h1 : ∀ v ∈ zs, v.oneCell' = true) : Calls Tryz.prog 171 #[.agg zs.toArray] w fun e w' => e = .returned (.slice (some ⟨w.heap.size + 1, 0, none⟩) 6 6) ∧ Below w.heap.size w w' ∧ w'.heap[w.heap.size + 1]? = some (.cells zs.toArray 75 (0, 0)) := by
  have hmk := make_six
  have H1 : Hid (∀ v ∈ zs, v.oneCell' = true) := h1
  have HN : Hid (zs.length = Nat.min 6 6 * 2) := hz
  have HG : Hid (((w.alloc (.cells zs.toArray 214)).alloc (.cells (madeCells #[.int .i64 0, .int .i64 0] 12) 75)).heap[w.heap.size + 1]? = some (.cells (madeCells #[.int .i64 0, .int .i64 0] 12) 75 (0, 0))) := by
    have := Go.Deep.blk_alloc_new (w.alloc (.cells zs.toArray 214)) (.cells (madeCells #[.int .i64 0, .int .i64 0] 12) 75)
    unfold Hid
    have e : (w.alloc (.cells zs.toArray 214)).heap.size = w.heap.size + 1 := by simp
    rw [e] at this
    exact this
  have HS : Hid (∀ (j : Nat) (v : Value), zs[j]? = some v → ((w.alloc (.cells zs.toArray 214)).alloc (.cells (madeCells #[.int .i64 0, .int .i64 0] 12) 75)).cell? ((⟨w.heap.size, 0, none⟩ : Addr).add j) = some v) := by
    refine World.news_of_block (cs := zs.toArray) (t := 214) (fr := (0, 0)) ?_
    rw [Below.heap_alloc _ _ _ (by simp)]
    exact Go.Deep.blk_alloc_new w _
  have HF : Hid (0 + zs.length ≤ (madeCells #[.int .i64 0, .int .i64 0] 12).size) := by unfold Hid; rw [size_madeCells]; omega
  have b0 : Hid (Below w.heap.size w ((w.alloc (.cells zs.toArray 214)).alloc (.cells (madeCells #[.int .i64 0, .int .i64 0] 12) 75))) := ((Below.refl _ _).alloc (Nat.le_refl _) _).alloc (by simp) _
  have hl : ((madeCells #[.int .i64 0, .int .i64 0] 12).toList.take 0 ++ zs ++ (madeCells #[.int .i64 0, .int .i64 0] 12).toList.drop (0 + zs.length)).toArray = zs.toArray := by
    have : (madeCells #[.int .i64 0, .int .i64 0] 12).toList.drop (0 + zs.length) = [] := List.drop_eq_nil_of_le (by rw [Array.length_toList, size_madeCells]; omega)
    rw [this]; simp
  have hrun := run_copy_wide (P := Tryz.prog) _ 42 42 3 75 (w.heap.size + 1) 0 6 6 ⟨w.heap.size, 0, none⟩ 6 6 (madeCells #[.int .i64 0, .int .i64 0] 12) 75 zs 2 Tryz.underlying42 info_cell_size HG.out HN.out HS.out HF.out H1.out
  rw [hl] at hrun
  have HW : Hid ((((w.alloc (.cells zs.toArray 214)).alloc (.cells (madeCells #[.int .i64 0, .int .i64 0] 12) 75)).setRow (w.heap.size + 1) zs.toArray).heap[w.heap.size + 1]? = some (.cells zs.toArray 75 (0, 0)) ∧ Below w.heap.size w (((w.alloc (.cells zs.toArray 214)).alloc (.cells (madeCells #[.int .i64 0, .int .i64 0] 12) 75)).setRow (w.heap.size + 1) zs.toArray)) := ⟨setRow_heap _ _ _ _ _ _ HG.out, below_setRow b0.out (by omega) _⟩
  generalize ((w.alloc (.cells zs.toArray 214)).alloc (.cells (madeCells #[.int .i64 0, .int .i64 0] 12) 75)).setRow (w.heap.size + 1) zs.toArray = W at HW hrun
  clear h1 hz hl
  go_enter Tryz.func171, Tryz.ntmps171
  go_wp2
  go_ret
  exact ⟨rfl, HW.out.2, HW.out.1⟩
theorem implNewCells_any (w : World) : Calls Tryz.prog 132 #[] w fun e w' => e = .returned (.slice (some ⟨w.heap.size + 1, 0, none⟩) 6 6) ∧ Below w.heap.size w w' ∧ w'.heap[w.heap.size + 1]? = some (.cells (zeros.flatMap C2.cells).toArray 75 (0, 0)) := by
  go_enter Tryz.func132, Tryz.ntmps132
  go_wp2_with fail
  refine (implList_any w (zeros.flatMap C2.cells) rfl (by decide)).mono ?_
  rintro e w1 ⟨rfl, b1, h1⟩
  have K : Hid (w1.heap[w.heap.size + 1]? = some (.cells (zeros.flatMap C2.cells).toArray 75 (0, 0))) := h1
  clear h1
  go_wp2
  go_ret
  exact ⟨rfl, b1, K.out⟩
structure Rep (W : World) (base b n : Nat) (g : Nat → Nat) (css : List (List C2)) : Prop where
  lo : base ≤ b
  hi : b < W.heap.size
  rm : Room W b n
  le : css.length ≤ n
  cs : ∀ (r : Nat) (xs : List C2), css[r]? = some xs → W.cell? ⟨b, r, none⟩ = some (.slice (some ⟨g r, 0, none⟩) 6 6) ∧ base ≤ g r ∧ g r < W.heap.size ∧ g r ≠ b ∧ CellsAt W (g r) 0 xs ∧ Room W (g r) 12 ∧ cellsB xs = true
theorem CellsAt.blk {W W' : World} {b off : Nat} {xs : List C2} (h : CellsAt W b off xs) (e : W'.heap[b]? = W.heap[b]?) : CellsAt W' b off xs := fun i s hi => ⟨(World.cell?_of_block (a := ⟨b, _, none⟩) e).trans (h i s hi).c0, (World.cell?_of_block (a := ⟨b, _, none⟩) e).trans (h i s hi).c1⟩
theorem Rep.later {W W' : World} {base b n : Nat} {g : Nat → Nat} {css : List (List C2)} (h : Rep W base b n g css) (hb : Below W.heap.size W W') : Rep W' base b n g css :=
  ⟨h.lo, Nat.lt_of_lt_of_le h.hi hb.size, h.rm.below hb h.hi, h.le, fun r xs hx => by
    obtain ⟨h1, h2, h3, h4, h5, h6, h7⟩ := h.cs r xs hx
    exact ⟨(hb.cell (p := ⟨b, r, none⟩) h.hi).trans h1, h2, Nat.lt_of_lt_of_le h3 hb.size, h4, h5.blk (hb.block _ h3), h6.below hb h3, h7⟩⟩
theorem Rep.store {W : World} {base b n : Nat} {g : Nat → Nat} {css : List (List C2)} (h : Rep W base b n g css) {r q : Nat} {ys : List C2} {css' : List (List C2)} (hr : r < n) (hq : base ≤ q) (hq2 : q < W.heap.size) (hqb : q ≠ b) (hc : CellsAt W q 0 ys) (hrm : Room W q 12) (hok : cellsB ys = true) (hle : css'.length ≤ n) (hcs : ∀ r' xs, css'[r']? = some xs → (r' = r ∧ xs = ys) ∨ (r' ≠ r ∧ css[r']? = some xs)) :
    Rep (W.setCell ⟨b, r, none⟩ (.slice (some ⟨q, 0, none⟩) 6 6)) base b n (fun z => if z = r then q else g z) css' := by
  have hs : (W.setCell ⟨b, r, none⟩ (.slice (some ⟨q, 0, none⟩) 6 6)).heap.size = W.heap.size := by simp [World.setCell]
  have far : ∀ z, z ≠ b → (W.setCell ⟨b, r, none⟩ (.slice (some ⟨q, 0, none⟩) 6 6)).heap[z]? = W.heap[z]? := fun z hz => Below.heap_setCell _ _ _ _ hz
  refine ⟨h.lo, by rw [hs]; exact h.hi, h.rm.set _, hle, fun r' xs hx => ?_⟩
  rcases hcs r' xs hx with ⟨rfl, rfl⟩ | ⟨hne, hx'⟩
  · obtain ⟨v, hv, _⟩ := h.rm r' hr
    rw [if_pos rfl]
    exact ⟨cell_set_same hv, hq, by rw [hs]; exact hq2, hqb, hc.blk (far q hqb), hrm.of_block (far q hqb), hok⟩
  · obtain ⟨h1, h2, h3, h4, h5, h6, h7⟩ := h.cs r' xs hx'
    rw [if_neg hne]
    exact ⟨(cell_set_other (by omega)).trans h1, h2, by rw [hs]; exact h3, h4, h5.blk (far _ h4), h6.of_block (far _ h4), h7⟩
theorem blk_six {W : World} {q : Nat} {ys : List C2} {T : TypeId} (h : W.heap[q]? = some (.cells (arr6 ys) T (0, 0))) (h6 : ys.length = 6) : q < W.heap.size ∧ CellsAt W q 0 ys ∧ Room W q 12 := by
  have hl : (ys.flatMap C2.cells).length = 12 := by rw [flat2_len, h6]
  have hc : ∀ j, W.cell? ⟨q, j, none⟩ = (ys.flatMap C2.cells)[j]? := fun j => by simp only [World.cell?, h]; simp [arr6]
  refine ⟨(Array.getElem?_eq_some_iff.1 h).1, fun i s hi => ?_, fun j hj => ⟨_, (hc j).trans (List.getElem?_eq_getElem (by omega)), by simp [World.frozen?, h]⟩⟩
  have f := fun t (ht : t < 2) => tx.flat_at (f := C2.cells) (l := ys) (sz := 2) (fun _ _ => rfl) hi ht
  refine ⟨(hc _).trans ?_, (hc _).trans ?_⟩
  · have := f 0 (by omega); rw [Nat.zero_add]; simpa [C2.cells] using this
  · have := f 1 (by omega); rw [Nat.zero_add]; simpa [C2.cells] using this
theorem make_rep (n : Nat) (hn : n ≤ 1048576) (w : World) : (Instr.makeSlice 68 (.int .i64 (n : Int)) (.int .i64 (n : Int))).run Tryz.prog w = .ok (.slice (some ⟨w.heap.size, 0, none⟩) n n) (w.alloc (.cells (madeCells #[.slice none 0 0] n) 42)) := by
  obtain ⟨i, hi, hz, hs, hb⟩ := partsOf infoCellS
  have := run_make (P := Tryz.prog) w 68 42 i _ Tryz.underlying68 hi hz .i64 .i64 (n : Int) (n : Int) (by omega) (by omega) (by rw [hb]; omega) (by omega)
  simpa [hs, Value.cells] using this
set_option maxRecDepth 10000 in
set_option maxHeartbeats 2000000 in
theorem newReplay_any (w : World) (n : Nat) (hn : n ≤ 6) : Calls Tryz.prog 83 #[.int .i64 (n : Int)] w fun e w' => ∃ b g, e = .returned (.slice (some ⟨b, 0, none⟩) n n) ∧ Rep w' w.heap.size b n g (List.replicate n zeros) ∧ Below w.heap.size w w' := by
  have hmk := fun w : World => make_rep n (by omega) w
  obtain ⟨U, hU⟩ : ∃ Y, Y = w.alloc (.cells (madeCells #[.slice none 0 0] n) 42) := ⟨_, rfl⟩
  have K0 : Hid (Rep U w.heap.size w.heap.size n (fun _ => 0) (List.replicate 0 zeros) ∧ Below w.heap.size w U) := by
    unfold Hid
    rw [hU]
    exact ⟨⟨Nat.le_refl _, by simp, room_made w _ n _, Nat.zero_le _, fun r xs hx => by simp at hx⟩, (Below.refl _ _).alloc (Nat.le_refl _) _⟩
  go_enter Tryz.func83, Tryz.ntmps83
  go_wp2
  rw [← hU]
  clear hU hmk
  go_loopw [9] (fun v9 wr => ∃ (i : Nat) (g : Nat → Nat), i ≤ n ∧ v9 = .int .i64 i ∧ Rep wr w.heap.size w.heap.size n g (List.replicate i zeros) ∧ Below w.heap.size w wr) (fun v9 _ => n - (intOf v9).toNat)
  case atStart => exact ⟨0, _, Nat.zero_le _, rfl, K0.out.1, K0.out.2⟩
  case round =>
    obtain ⟨i, g, hi, rfl, hrep, hbl⟩ := hrel
    by_cases hlt : i < n
    · have KR : Hid (Rep wr w.heap.size w.heap.size n g (List.replicate i zeros) ∧ Below w.heap.size w wr) := ⟨hrep, hbl⟩
      have hnc := implNewCells_any wr
      have jn : (i : Int) < (n : Int) := by omega
      clear hrep hbl
      go_wp2_with fail
      refine hnc.mono ?_
      clear hnc
      rintro e W1 ⟨rfl, b1, h1⟩
      have hR := KR.out.1.later b1
      obtain ⟨q1, q2, q3⟩ := blk_six (ys := zeros) h1 rfl
      have hst := hR.store (r := i) (q := wr.heap.size + 1) (ys := zeros) (css' := List.replicate (i + 1) zeros) hlt (by have := KR.out.2.size; omega) q1 (by have := KR.out.1.hi; omega) q2 q3 zeros_ok (by simp; omega) (fun r' xs hx => by
        rw [List.getElem?_replicate] at hx
        split at hx
        · next hr =>
          cases hx
          by_cases e : r' = i
          · exact .inl ⟨e, rfl⟩
          · exact .inr ⟨e, by rw [List.getElem?_replicate, if_pos (by omega)]⟩
        · cases hx)
      have KE : Hid (Rep (W1.setCell ⟨w.heap.size, i, none⟩ (.slice (some ⟨wr.heap.size + 1, 0, none⟩) 6 6)) w.heap.size w.heap.size n (fun z => if z = i then wr.heap.size + 1 else g z) (List.replicate (i + 1) zeros) ∧ Below w.heap.size w (W1.setCell ⟨w.heap.size, i, none⟩ (.slice (some ⟨wr.heap.size + 1, 0, none⟩) 6 6))) := ⟨hst, (bstep KR.out.2 b1).setCell (p := ⟨w.heap.size, i, none⟩) (Nat.le_refl _) _⟩
      obtain ⟨v0, c0, f0⟩ := hR.rm i hlt
      clear hR hst q1 q2 q3 h1 b1
      go_wp2
      exact ⟨⟨i + 1, _, by omega, by simp, KE.out.1, KE.out.2⟩, by simp [intOf]; omega⟩
    · obtain rfl : i = n := by omega
      have hd : decide ((i : Int) < (i : Int)) = false := by simp
      have KR : Hid (Rep wr w.heap.size w.heap.size i g (List.replicate i zeros) ∧ Below w.heap.size w wr) := ⟨hrep, hbl⟩
      clear hrep hbl
      go_wp2
      go_ret
      exact ⟨_, g, rfl, KR.out.1, KR.out.2⟩
set_option maxHeartbeats 400000 in
theorem implPackV_yes (v : Int) (u l : Bool) (w : World) (h1 : 0 ≤ v) (h2 : v ≤ 1000000) :
    Calls Tryz.prog 207 #[.int .i64 v, .bool u, .bool l] w fun e w' => e = .returned (.tuple #[.int .i64 (v * 4 + bump u l), .bool true]) ∧ w' = w := by
  have b1 := or4_2 v h1 h2
  have b2 := or4_1 v h1 h2
  have b3 := or42_1 v h1 h2
  cases u <;> cases l
  all_goals
    go_enter Tryz.func207, Tryz.ntmps207
    go_wp2
    go_ret2
    exact ⟨by simp [bump], rfl⟩
set_option maxHeartbeats 400000 in
theorem implVersionV_yes (h : Int) (w : World) (h1 : 0 ≤ h) (h2 : h ≤ 4000003) :
    Calls Tryz.prog 203 #[.int .i64 h] w fun e w' => e = .returned (.int .i64 (h / 4)) ∧ w' = w := by
  · go_enter Tryz.func203, Tryz.ntmps203
    go_wp2
    go_ret
    exact ⟨rfl, rfl⟩
set_option maxHeartbeats 400000 in
theorem implVersionV_no (h : Int) (w : World) (hh : h < 0 ∨ 4000003 < h) :
    Calls Tryz.prog 203 #[.int .i64 h] w fun e w' => e = .returned (.int .i64 (-1)) ∧ w' = w := by
  rcases hh with hh | hh
  · have d : decide (0 ≤ h) = false := by simp; omega
    go_enter Tryz.func203, Tryz.ntmps203
    go_wp2
    go_ret
    exact ⟨rfl, rfl⟩
  · have d : decide (h ≤ 4000003) = false := by simp; omega
    go_enter Tryz.func203, Tryz.ntmps203
    go_wp2
    go_ret
    exact ⟨rfl, rfl⟩
theorem implVersion_any (h : Int) (w : World) : Calls Tryz.prog 203 #[.int .i64 h] w fun e w' => e = .returned (.int .i64 (verV h)) ∧ w' = w := by
  by_cases hh : 0 ≤ h ∧ h ≤ 4000003
  · rw [verV, if_pos (inB_yes hh.1 hh.2)]; exact implVersionV_yes h w hh.1 hh.2
  · rw [verV, if_neg (by rw [inB_iff]; omega)]; exact implVersionV_no h w (by omega)
theorem implPack_val (w : World) (v : Int) (u : Bool) (h0 : 0 ≤ v) (h1 : v ≤ 1000000) : Calls Tryz.prog 207 #[.int .i64 v, .bool u, .bool false] w fun e w' => e = .returned (.tuple #[.int .i64 (hdV v u), .bool true]) ∧ w' = w := by
  refine (implPackV_yes v u false w h0 h1).mono ?_
  rintro e w' ⟨rfl, rfl⟩
  refine ⟨?_, rfl⟩
  cases u <;> simp [hdV, bump] <;> omega
set_option maxRecDepth 100000 in
set_option maxHeartbeats 8000000 in
theorem noteFrom_any (w : World) (r s h v : Int) : Calls Tryz.prog 172 #[.agg #[.int .i64 r, .int .i64 s], .agg #[.int .i64 h, .int .i64 v]] w fun e w' => e = .returned (.agg #[.int .i64 r, .int .i64 s, .int .i64 (verV h), .int .i64 v, .bool (usedV h)]) ∧ Below w.heap.size w w' := by
  obtain ⟨U0, hU0⟩ : ∃ Y, Y = w.alloc (.cells #[.int .i64 r, .int .i64 s] 169) := ⟨_, rfl⟩
  have bU0 : Below w.heap.size w U0 := by rw [hU0]; exact (Below.refl _ _).alloc (Nat.le_refl _) _
  have xU0 : Bx U0 w.heap.size [.int .i64 r, .int .i64 s] := by rw [hU0]; exact Bx.made w [.int .i64 r, .int .i64 s] _
  have sU0 : U0.heap.size = w.heap.size + 1 := by rw [hU0]; simp
  obtain ⟨U1, hU1⟩ : ∃ Y, Y = U0.alloc (.cells #[.int .i64 h, .int .i64 v] 75) := ⟨_, rfl⟩
  have bU1 : Below U0.heap.size U0 U1 := by rw [hU1]; exact (Below.refl _ _).alloc (Nat.le_refl _) _
  have xU1 : Bx U1 U0.heap.size [.int .i64 h, .int .i64 v] := by rw [hU1]; exact Bx.made U0 [.int .i64 h, .int .i64 v] _
  have sU1 : U1.heap.size = U0.heap.size + 1 := by rw [hU1]; simp
  obtain ⟨U2, hU2⟩ : ∃ Y, Y = U1.alloc (.cells #[.int .i64 0, .int .i64 0, .int .i64 0, .int .i64 0, .bool false] 104) := ⟨_, rfl⟩
  have bU2 : Below U1.heap.size U1 U2 := by rw [hU2]; exact (Below.refl _ _).alloc (Nat.le_refl _) _
  have xU2 : Bx U2 U1.heap.size [.int .i64 0, .int .i64 0, .int .i64 0, .int .i64 0, .bool false] := by rw [hU2]; exact Bx.made U1 [.int .i64 0, .int .i64 0, .int .i64 0, .int .i64 0, .bool false] _
  have sU2 : U2.heap.size = U1.heap.size + 1 := by rw [hU2]; simp
  have hU : U2 = ((w.alloc (.cells #[.int .i64 r, .int .i64 s] 169)).alloc (.cells #[.int .i64 h, .int .i64 v] 75)).alloc (.cells #[.int .i64 0, .int .i64 0, .int .i64 0, .int .i64 0, .bool false] 104) := by rw [hU2, hU1, hU0]
  have z1 : U1.heap.size = w.heap.size + 2 := by rw [sU1, sU0]
  have BU : Hid (Below w.heap.size w U2 ∧ w.heap.size + 2 < U2.heap.size) := ⟨bstep (bstep bU0 bU1) bU2, by rw [sU2, z1]; omega⟩
  have x0 := (xU0.later bU1).later bU2
  have x1 := xU1.later bU2
  rw [sU0] at x1
  rw [z1] at xU2
  have X2 : Hid (Bx U2 (w.heap.size + 2) [.int .i64 0, .int .i64 0, .int .i64 0, .int .i64 0, .bool false]) := xU2
  have hS : (fun X : World => Below U2.heap.size U2 X ∧ X.cell? ⟨w.heap.size, 0, none⟩ = some (.int .i64 r) ∧ X.cell? ⟨w.heap.size, 1, none⟩ = some (.int .i64 s) ∧ X.cell? ⟨w.heap.size + 1, 0, none⟩ = some (.int .i64 h) ∧ X.cell? ⟨w.heap.size + 1, 1, none⟩ = some (.int .i64 v)) U2.drew := ⟨(Below.refl _ _).drew, x0.1 0 _ rfl, x0.1 1 _ rfl, x1.1 0 _ rfl, x1.1 1 _ rfl⟩
  clear hU0 hU1 hU2 bU0 bU1 bU2 xU0 xU1 xU2 sU0 sU1 sU2 z1 x0 x1
  obtain ⟨ver, hver⟩ : ∃ z, verV h = z := ⟨_, rfl⟩
  obtain ⟨us, hus⟩ : ∃ z, usedV h = z := ⟨_, rfl⟩
  have cV := fun X => implVersion_any h X
  have cU := fun X => implUsed_any h X
  simp only [show (inB 0 4000003 h && usedB h) = us from hus, hver] at cU cV
  rw [hver, hus]
  clear hver hus
  clear U0 U1
  go_enter Tryz.func172, Tryz.ntmps172
  go_wp2_with fail
  rw [← hU]
  clear hU
  refine wp_region_z (fun z => z == 13) (fun X : World => Below U2.heap.size U2 X ∧ X.cell? ⟨w.heap.size, 0, none⟩ = some (.int .i64 r) ∧ X.cell? ⟨w.heap.size, 1, none⟩ = some (.int .i64 s) ∧ X.cell? ⟨w.heap.size + 1, 0, none⟩ = some (.int .i64 h) ∧ X.cell? ⟨w.heap.size + 1, 1, none⟩ = some (.int .i64 v)) (by kernel_rfl) ?_
  generalize U2.drew = Wd at *
  refine wpZ_takeP (i := 0) (v := ?_) rfl (by kernel_rfl) (fun _ _ _ h => h) (Or.inl ⟨by rfl, ?_⟩) hS ?_
  rotate_left
  · (intro w _; go_simp; first | done | with_reducible rfl | (rw [if_pos (by omega)]) | (rw [if_pos (by omega)]; go_simp))
  simp only [Act.put]
  refine wpZ_take (i := 1) (v := ?_) rfl (by kernel_rfl) (fun _ _ _ h => h) (Or.inl ⟨by rfl, ?_⟩) hS ?_
  rotate_left
  · (intro w hSw; obtain ⟨-, s0, s1, s2, s3⟩ := hSw; go_simp; first | done | with_reducible rfl)
  simp only [Act.put]
  refine wpZ_takeP (i := 2) (v := ?_) rfl (by kernel_rfl) (fun _ _ _ h => h) (Or.inl ⟨by rfl, ?_⟩) hS ?_
  rotate_left
  · (intro w _; go_simp; first | done | with_reducible rfl | (rw [if_pos (by omega)]) | (rw [if_pos (by omega)]; go_simp))
  simp only [Act.put]
  refine wpZ_take (i := 3) (v := ?_) rfl (by kernel_rfl) (fun _ _ _ h => h) (Or.inl ⟨by rfl, ?_⟩) hS ?_
  rotate_left
  · (intro w hSw; obtain ⟨-, s0, s1, s2, s3⟩ := hSw; go_simp; first | done | with_reducible rfl)
  simp only [Act.put]
  refine wpZ_takeP (i := 4) (v := ?_) rfl (by kernel_rfl) (fun _ _ _ h => h) (Or.inl ⟨by rfl, ?_⟩) hS ?_
  rotate_left
  · (intro w _; go_simp; first | done | with_reducible rfl | (rw [if_pos (by omega)]) | (rw [if_pos (by omega)]; go_simp))
  simp only [Act.put]
  refine wpZ_take (i := 5) (v := ?_) rfl (by kernel_rfl) (fun _ _ _ h => h) (Or.inl ⟨by rfl, ?_⟩) hS ?_
  rotate_left
  · (intro w hSw; obtain ⟨-, s0, s1, s2, s3⟩ := hSw; go_simp; first | done | with_reducible rfl)
  simp only [Act.put]
  refine wpZ_takeP (i := 7) (v := ?_) rfl (by kernel_rfl) (fun _ _ _ h => h) (Or.inl ⟨by rfl, ?_⟩) hS ?_
  rotate_left
  · (intro w _; go_simp; first | done | with_reducible rfl | (rw [if_pos (by omega)]) | (rw [if_pos (by omega)]; go_simp))
  simp only [Act.put]
  refine wpZ_take (i := 8) (v := ?_) rfl (by kernel_rfl) (fun _ _ _ h => h) (Or.inl ⟨by rfl, ?_⟩) hS ?_
  rotate_left
  · (intro w hSw; obtain ⟨-, s0, s1, s2, s3⟩ := hSw; go_simp; first | done | with_reducible rfl)
  simp only [Act.put]
  refine wpZ_takeP (i := 9) (v := ?_) rfl (by kernel_rfl) (fun _ _ _ h => h) (Or.inl ⟨by rfl, ?_⟩) hS ?_
  rotate_left
  · (intro w _; go_simp; first | done | with_reducible rfl | (rw [if_pos (by omega)]) | (rw [if_pos (by omega)]; go_simp))
  simp only [Act.put]
  refine wpZ_take (i := 10) (v := ?_) rfl (by kernel_rfl) (fun _ _ _ h => h) (Or.inl ⟨by rfl, ?_⟩) hS ?_
  rotate_left
  · (intro w hSw; obtain ⟨-, s0, s1, s2, s3⟩ := hSw; go_simp; first | done | with_reducible rfl)
  simp only [Act.put]
  refine wpZ_ready (rs := [6]) (by kernel_rfl) (by simp) ?_
  refine AllZ.cons rfl (fun K hK => ?_) AllZ.nil
  go_simp
  refine (cV _).mono ?_
  rintro e X ⟨rfl, rfl⟩
  refine hK.out _ _ (fun _ => hS) ?_
  clear hK K
  refine wpZ_ready (rs := [11]) (by kernel_rfl) (by simp) ?_
  refine AllZ.cons rfl (fun K hK => ?_) AllZ.nil
  go_simp
  refine (cU _).mono ?_
  rintro e X ⟨rfl, rfl⟩
  refine hK.out _ _ (fun _ => hS) ?_
  clear hK K
  refine wpZ_ready (rs := [12]) (by kernel_rfl) (by simp) ?_
  refine AllZ.cons rfl (fun K hK => ?_) AllZ.nil
  go_simp
  refine hK.out _ _ (fun _ => hS) ?_
  clear hK K
  have XB := X2.out.later hS.1
  have BW : Hid (Below w.heap.size w X) := bstep BU.out.1 hS.1
  have c0 := XB.1 0 _ rfl
  have c1 := XB.1 1 _ rfl
  have c2 := XB.1 2 _ rfl
  have c3 := XB.1 3 _ rfl
  have c4 := XB.1 4 _ rfl
  have f0 := XB.2.1 0
  have f1 := XB.2.1 1
  have f2 := XB.2.1 2
  have f3 := XB.2.1 3
  have f4 := XB.2.1 4
  have XB' := XB.put [.int .i64 r, .int .i64 s, .int .i64 ver, .int .i64 v, .bool us] rfl
  refine wpZ_ready (rs := [13]) (by kernel_rfl) (by simp) ?_
  refine AllZ.cons rfl (fun K hK => ?_) AllZ.nil
  go_simp
  refine hK.out _ _ (fun h => absurd (show false = true from h.symm.trans (by kernel_rfl)) (by decide)) ?_
  clear hK K
  refine wpZ_done (by kernel_rfl) ?_ _
  obtain ⟨Y, hY⟩ : ∃ Y, Y = putB X (w.heap.size + 2) 0 [.int .i64 r, .int .i64 s, .int .i64 ver, .int .i64 v, .bool us] := ⟨_, rfl⟩
  rw [← hY] at XB'
  have BY : Hid (Below w.heap.size w Y) := by unfold Hid; rw [hY]; exact putB_below (by omega) _ _ _ BW.out
  have hYn : Y = ((((X.setCell ⟨w.heap.size + 2, 0, none⟩ (.int .i64 r)).setCell ⟨w.heap.size + 2, 1, none⟩ (.int .i64 s)).setCell ⟨w.heap.size + 2, 2, none⟩ (.int .i64 ver)).setCell ⟨w.heap.size + 2, 3, none⟩ (.int .i64 v)).setCell ⟨w.heap.size + 2, 4, none⟩ (.bool us) := hY
  rw [← hYn]
  have y0 := XB'.1 0 _ rfl
  have y1 := XB'.1 1 _ rfl
  have y2 := XB'.1 2 _ rfl
  have y3 := XB'.1 3 _ rfl
  have y4 := XB'.1 4 _ rfl
  clear hYn hY XB' XB c0 c1 c2 c3 c4 f0 f1 f2 f3 f4 hS X2 BW cU cV
  go_wp2
  exact bodyPost_ret (v := .agg #[.int .i64 r, .int .i64 s, .int .i64 ver, .int .i64 v, .bool us]) (by simp [results, Tryz.results172, go_sem, y0, y1, y2, y3, y4]) rfl ⟨rfl, BY.out⟩
set_option maxRecDepth 100000 in
set_option maxHeartbeats 8000000 in
theorem noteAt_any (w : World) (base b n : Nat) (g : Nat → Nat) (css : List (List C2)) (hR : Rep w base b n g css) (i j : Nat) (hi : i < css.length) (hj : j < 6) : Calls Tryz.prog 134 #[.slice (some ⟨b, 0, none⟩) n n, .agg #[.int .i64 (i : Int), .int .i64 (j : Int)]] w fun e w' => e = .returned (.agg #[.int .i64 (i : Int), .int .i64 (j : Int), .int .i64 (verV (atCC css (i : Int) (j : Int)).head), .int .i64 (atCC css (i : Int) (j : Int)).value, .bool (usedV (atCC css (i : Int) (j : Int)).head)]) ∧ Below w.heap.size w w' := by
  obtain ⟨xs, hxs⟩ : ∃ xs, css[i]? = some xs := ⟨_, List.getElem?_eq_getElem hi⟩
  obtain ⟨h1, -, h3, -, h5, -, h7⟩ := hR.cs i xs hxs
  have hx6 : xs.length = 6 := by simp only [cellsB, Bool.and_eq_true, decide_eq_true_eq] at h7; exact h7.1
  have hcc : atCC css (i : Int) (j : Int) = atC2 xs j := by rw [atCC, Int.toNat_natCast, Int.toNat_natCast, hxs]; rfl
  have hat : xs[j]? = some (atC2 xs j) := by rw [atC2, List.getElem?_eq_getElem (by omega)]; rfl
  have ce := h5 j _ hat
  rw [Nat.zero_add] at ce
  obtain ⟨ce0, ce1⟩ := ce
  rw [hcc]
  obtain ⟨h, hh⟩ : ∃ z, (atC2 xs j).head = z := ⟨_, rfl⟩
  obtain ⟨v, hv⟩ : ∃ z, (atC2 xs j).value = z := ⟨_, rfl⟩
  rw [hh] at ce0
  rw [hv] at ce1
  rw [hh, hv]
  generalize g i = q at *
  have hbw := hR.hi
  have hin : i < n := Nat.lt_of_lt_of_le hi hR.le
  obtain ⟨U0, hU0⟩ : ∃ Y, Y = w.alloc (.cells #[.int .i64 (i : Int), .int .i64 (j : Int)] 169) := ⟨_, rfl⟩
  have bU0 : Below w.heap.size w U0 := by rw [hU0]; exact (Below.refl _ _).alloc (Nat.le_refl _) _
  have xU0 : Bx U0 w.heap.size [.int .i64 (i : Int), .int .i64 (j : Int)] := by rw [hU0]; exact Bx.made w [.int .i64 (i : Int), .int .i64 (j : Int)] _
  have sU0 : U0.heap.size = w.heap.size + 1 := by rw [hU0]; simp
  obtain ⟨U1, hU1⟩ : ∃ Y, Y = U0.alloc (.cells #[.int .i64 0, .int .i64 0, .int .i64 0, .int .i64 0, .bool false] 104) := ⟨_, rfl⟩
  have bU1 : Below U0.heap.size U0 U1 := by rw [hU1]; exact (Below.refl _ _).alloc (Nat.le_refl _) _
  have xU1 : Bx U1 U0.heap.size [.int .i64 0, .int .i64 0, .int .i64 0, .int .i64 0, .bool false] := by rw [hU1]; exact Bx.made U0 [.int .i64 0, .int .i64 0, .int .i64 0, .int .i64 0, .bool false] _
  have sU1 : U1.heap.size = U0.heap.size + 1 := by rw [hU1]; simp
  have hU : U1 = (w.alloc (.cells #[.int .i64 (i : Int), .int .i64 (j : Int)] 169)).alloc (.cells #[.int .i64 0, .int .i64 0, .int .i64 0, .int .i64 0, .bool false] 104) := by rw [hU1, hU0]
  have bU : Below w.heap.size w U1 := bstep bU0 bU1
  have BU : Hid (Below w.heap.size w U1 ∧ w.heap.size + 1 < U1.heap.size) := ⟨bU, by rw [sU1, sU0]; omega⟩
  have x0 := xU0.later bU1
  rw [sU0] at xU1
  have X2 : Hid (Bx U1 (w.heap.size + 1) [.int .i64 0, .int .i64 0, .int .i64 0, .int .i64 0, .bool false]) := xU1
  have hS : (fun Z : World => Below U1.heap.size U1 Z ∧ Z.cell? ⟨w.heap.size, 0, none⟩ = some (.int .i64 (i : Int)) ∧ Z.cell? ⟨w.heap.size, 1, none⟩ = some (.int .i64 (j : Int)) ∧ Z.cell? ⟨b, i, none⟩ = some (.slice (some ⟨q, 0, none⟩) 6 6) ∧ Z.cell? ⟨q, j * 2, none⟩ = some (.int .i64 h) ∧ Z.cell? ⟨q, j * 2 + 1, none⟩ = some (.int .i64 v)) U1.drew := ⟨(Below.refl _ _).drew, x0.1 0 _ rfl, x0.1 1 _ rfl, (bU.cell (p := ⟨b, i, none⟩) hbw).trans h1, (bU.cell (p := ⟨q, j * 2, none⟩) h3).trans ce0, (bU.cell (p := ⟨q, j * 2 + 1, none⟩) h3).trans ce1⟩
  have HL : Hid (b < w.heap.size ∧ q < w.heap.size) := ⟨hbw, h3⟩
  have cN := fun X => noteFrom_any X (i : Int) (j : Int) h v
  have ix : (i : Int) < (n : Int) := by omega
  have jx : (j : Int) < (6 : Int) := by omega
  clear hU0 hU1 bU0 bU1 bU xU0 xU1 sU0 sU1 x0 hR h1 h3 h5 h7 ce0 ce1 hxs hat hcc hh hv hx6 hbw U0
  obtain ⟨ver, hver⟩ : ∃ z, verV h = z := ⟨_, rfl⟩
  obtain ⟨us, hus⟩ : ∃ z, usedV h = z := ⟨_, rfl⟩
  simp only [hver, hus] at cN
  rw [hver, hus]
  clear hver hus
  go_enter Tryz.func134, Tryz.ntmps134
  go_wp2_with fail
  rw [← hU]
  clear hU
  refine wp_region_z (fun z => z == 11) (fun Z : World => Below U1.heap.size U1 Z ∧ Z.cell? ⟨w.heap.size, 0, none⟩ = some (.int .i64 (i : Int)) ∧ Z.cell? ⟨w.heap.size, 1, none⟩ = some (.int .i64 (j : Int)) ∧ Z.cell? ⟨b, i, none⟩ = some (.slice (some ⟨q, 0, none⟩) 6 6) ∧ Z.cell? ⟨q, j * 2, none⟩ = some (.int .i64 h) ∧ Z.cell? ⟨q, j * 2 + 1, none⟩ = some (.int .i64 v)) (by kernel_rfl) ?_
  generalize U1.drew = Wd at *
  refine wpZ_take (i := 0) (v := ?_) rfl (by kernel_rfl) (fun _ _ _ h => h) (Or.inl ⟨by rfl, ?_⟩) hS ?_
  rotate_left
  · (intro w hSw; obtain ⟨-, s0, s1, s2, s3, s4⟩ := hSw; go_simp; first | done | with_reducible rfl)
  simp only [Act.put]
  refine wpZ_takeP (i := 1) (v := ?_) rfl (by kernel_rfl) (fun _ _ _ h => h) (Or.inl ⟨by rfl, ?_⟩) hS ?_
  rotate_left
  · (intro w _; go_simp; first | done | with_reducible rfl | (rw [if_pos (by omega)]) | (rw [if_pos (by omega)]; go_simp))
  simp only [Act.put]
  refine wpZ_takeP (i := 2) (v := ?_) rfl (by kernel_rfl) (fun _ _ _ h => h) (Or.inl ⟨by rfl, ?_⟩) hS ?_
  rotate_left
  · (intro w _; go_simp; first | done | with_reducible rfl | (rw [if_pos (by omega)]) | (rw [if_pos (by omega)]; go_simp))
  simp only [Act.put]
  refine wpZ_take (i := 3) (v := ?_) rfl (by kernel_rfl) (fun _ _ _ h => h) (Or.inl ⟨by rfl, ?_⟩) hS ?_
  rotate_left
  · (intro w hSw; obtain ⟨-, s0, s1, s2, s3, s4⟩ := hSw; go_simp; first | done | with_reducible rfl)
  simp only [Act.put]
  refine wpZ_takeP (i := 4) (v := ?_) rfl (by kernel_rfl) (fun _ _ _ h => h) (Or.inl ⟨by rfl, ?_⟩) hS ?_
  rotate_left
  · (intro w _; go_simp; first | done | with_reducible rfl | (rw [if_pos (by omega)]) | (rw [if_pos (by omega)]; go_simp))
  simp only [Act.put]
  refine wpZ_take (i := 5) (v := ?_) rfl (by kernel_rfl) (fun _ _ _ h => h) (Or.inl ⟨by rfl, ?_⟩) hS ?_
  rotate_left
  · (intro w hSw; obtain ⟨-, s0, s1, s2, s3, s4⟩ := hSw; go_simp; first | done | with_reducible rfl)
  simp only [Act.put]
  refine wpZ_takeP (i := 6) (v := ?_) rfl (by kernel_rfl) (fun _ _ _ h => h) (Or.inl ⟨by rfl, ?_⟩) hS ?_
  rotate_left
  · (intro w _; go_simp; first | done | with_reducible rfl | (rw [if_pos (by omega)]) | (rw [if_pos (by omega)]; go_simp))
  simp only [Act.put]
  refine wpZ_take (i := 7) (v := ?_) rfl (by kernel_rfl) (fun _ _ _ h => h) (Or.inl ⟨by rfl, ?_⟩) hS ?_
  rotate_left
  · (intro w hSw; obtain ⟨-, s0, s1, s2, s3, s4⟩ := hSw; go_simp; first | done | with_reducible rfl)
  simp only [Act.put]
  refine wpZ_takeP (i := 8) (v := ?_) rfl (by kernel_rfl) (fun _ _ _ h => h) (Or.inl ⟨by rfl, ?_⟩) hS ?_
  rotate_left
  · (intro w _; go_simp; first | done | with_reducible rfl | (rw [if_pos (by omega)]) | (rw [if_pos (by omega)]; go_simp))
  simp only [Act.put]
  refine wpZ_take (i := 9) (v := ?_) rfl (by kernel_rfl) (fun _ _ _ h => h) (Or.inl ⟨by rfl, ?_⟩) hS ?_
  rotate_left
  · (intro w hSw; obtain ⟨-, s0, s1, s2, s3, s4⟩ := hSw; go_simp; first | done | with_reducible rfl)
  simp only [Act.put]
  refine wpZ_ready (rs := [10]) (by kernel_rfl) (by simp) ?_
  refine AllZ.cons rfl (fun K hK => ?_) AllZ.nil
  go_simp
  refine (cN _).mono ?_
  rintro e X ⟨rfl, bX⟩
  have h9 := hS.1.size
  have h8 := BU.out.2
  have h7 := HL.out
  have hc : ∀ q j, q < Wd.heap.size → X.cell? ⟨q, j, none⟩ = Wd.cell? ⟨q, j, none⟩ := fun q j hq => bX.cell (p := ⟨q, j, none⟩) hq
  replace hS : (fun Z : World => Below U1.heap.size U1 Z ∧ Z.cell? ⟨w.heap.size, 0, none⟩ = some (.int .i64 (i : Int)) ∧ Z.cell? ⟨w.heap.size, 1, none⟩ = some (.int .i64 (j : Int)) ∧ Z.cell? ⟨b, i, none⟩ = some (.slice (some ⟨q, 0, none⟩) 6 6) ∧ Z.cell? ⟨q, j * 2, none⟩ = some (.int .i64 h) ∧ Z.cell? ⟨q, j * 2 + 1, none⟩ = some (.int .i64 v)) X := ⟨bstep hS.1 bX, (hc _ _ (by omega)).trans hS.2.1, (hc _ _ (by omega)).trans hS.2.2.1, (hc _ _ (by omega)).trans hS.2.2.2.1, (hc _ _ (by omega)).trans hS.2.2.2.2.1, (hc _ _ (by omega)).trans hS.2.2.2.2.2⟩
  clear hc h9 h8 h7 bX
  refine hK.out _ _ (fun _ => hS) ?_
  clear hK K
  have XB := X2.out.later hS.1
  have BW : Hid (Below w.heap.size w X) := bstep BU.out.1 hS.1
  have c0 := XB.1 0 _ rfl
  have c1 := XB.1 1 _ rfl
  have c2 := XB.1 2 _ rfl
  have c3 := XB.1 3 _ rfl
  have c4 := XB.1 4 _ rfl
  have f0 := XB.2.1 0
  have f1 := XB.2.1 1
  have f2 := XB.2.1 2
  have f3 := XB.2.1 3
  have f4 := XB.2.1 4
  have XB' := XB.put [.int .i64 (i : Int), .int .i64 (j : Int), .int .i64 ver, .int .i64 v, .bool us] rfl
  refine wpZ_ready (rs := [11]) (by kernel_rfl) (by simp) ?_
  refine AllZ.cons rfl (fun K hK => ?_) AllZ.nil
  go_simp
  refine hK.out _ _ (fun h => absurd (show false = true from h.symm.trans (by kernel_rfl)) (by decide)) ?_
  clear hK K
  refine wpZ_done (by kernel_rfl) ?_ _
  obtain ⟨Y, hY⟩ : ∃ Y, Y = putB X (w.heap.size + 1) 0 [.int .i64 (i : Int), .int .i64 (j : Int), .int .i64 ver, .int .i64 v, .bool us] := ⟨_, rfl⟩
  rw [← hY] at XB'
  have BY : Hid (Below w.heap.size w Y) := by unfold Hid; rw [hY]; exact putB_below (by omega) _ _ _ BW.out
  have hYn : Y = ((((X.setCell ⟨w.heap.size + 1, 0, none⟩ (.int .i64 (i : Int))).setCell ⟨w.heap.size + 1, 1, none⟩ (.int .i64 (j : Int))).setCell ⟨w.heap.size + 1, 2, none⟩ (.int .i64 ver)).setCell ⟨w.heap.size + 1, 3, none⟩ (.int .i64 v)).setCell ⟨w.heap.size + 1, 4, none⟩ (.bool us) := hY
  rw [← hYn]
  have y0 := XB'.1 0 _ rfl
  have y1 := XB'.1 1 _ rfl
  have y2 := XB'.1 2 _ rfl
  have y3 := XB'.1 3 _ rfl
  have y4 := XB'.1 4 _ rfl
  clear hYn hY XB' XB c0 c1 c2 c3 c4 f0 f1 f2 f3 f4 hS X2 BW cN
  go_wp2
  exact bodyPost_ret (v := .agg #[.int .i64 (i : Int), .int .i64 (j : Int), .int .i64 ver, .int .i64 v, .bool us]) (by simp [results, Tryz.results134, go_sem, y0, y1, y2, y3, y4]) rfl ⟨rfl, BY.out⟩
end Go.Proofs.YtdmpobegobfpjaaGreat