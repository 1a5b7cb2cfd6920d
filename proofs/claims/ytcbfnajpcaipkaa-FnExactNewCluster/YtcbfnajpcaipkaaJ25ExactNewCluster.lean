/- CluD; KdMm; KdTm; MkH0: joined. -/
import Derived.Test.YtcbfnajpcaipkaaRows
import Derived.Test.YtcbfnajpcaipkaaJ24ExactNewCluster
import Derived.WalkKit
import Derived.WalkSpells
import Derived.WalkLawsBesides
import Derived.Below
import Derived.Test.YtcbfnajpcaipkaaJ9ExactNewCluster
import Derived.Lib.QuietBelow
import Derived.BigQuiet
import Derived.Deep.CutRange
import Derived.Test.YtcbfnajpcaipkaaJ15ExactNewCluster
import Derived.Test.YtcbfnajpcaipkaaJ22ExactNewCluster
namespace Go.Proofs.Ytcbfnajpcaipkaa
open Go.RowKit
def atM (ms : List M4) (i : Nat) : M4 := ms[i]?.getD ⟨false, [], [], []⟩
theorem atM_of {ms : List M4} {i : Nat} (h : i < ms.length) : ms[i]? = some (atM ms i) := by simp [atM, List.getElem?_eq_getElem h]
def atT (ts : List tx.T7) (i : Nat) : tx.T7 := ts[i]?.getD ⟨0, 0, 0, 0, [], [], 0⟩
theorem atT_of {ts : List tx.T7} {i : Nat} (h : i < ts.length) : ts[i]? = some (atT ts i) := by simp [atT, List.getElem?_eq_getElem h]
def servB (ms : List M4) (r : Nat) (z : Int) : Bool := decide (z < (ms.length : Int)) && (!(atM ms z.toNat).alive || hasC (atM ms z.toNat) (r : Int))
def placB (ms : List M4) (r : Nat) (zs : List Int) : Bool := (List.range zs.length).all fun j => servB ms r (atN zs j)
def placedB (zss : List (List Int)) (ms : List M4) : Bool := (List.range zss.length).all fun r => placB ms r (atP zss r)
def readsB (n : Nat) (xs : List tx.N5) : Bool := (List.range xs.length).all fun j => decide ((tx.atNo xs j).region < (n : Int))
def setsB (n : Nat) (xs : List S5) : Bool := (List.range xs.length).all fun j => decide ((tx.atSe xs j).region < (n : Int))
def txAtB (k : C6) (i : Nat) : Bool := tx.txB (atT k.txs i) && (decide (i = 0) || decide ((atT k.txs (i - 1)).id < (atT k.txs i).id)) && decide ((atT k.txs i).home < (k.machines.length : Int)) && decide ((atT k.txs i).stamp ≤ k.clock) && readsB k.places.length (atT k.txs i).reads && setsB k.places.length (atT k.txs i).sets
def machsB (ms : List M4) : Bool := (List.range ms.length).all fun i => machB (atM ms i)
def txsB (k : C6) : Bool := (List.range k.txs.length).all (txAtB k)
def clusterB (k : C6) : Bool := inB 1 1000000 k.config && inB 0 1000000 k.clock && decide (1 ≤ k.machines.length) && decide (k.machines.length ≤ 8) && placesB k.places && decide (k.txs.length ≤ 60) && machsB k.machines && placedB k.places k.machines && txsB k
end Go.Proofs.Ytcbfnajpcaipkaa
namespace Go.Proofs.Ytcbfnajpcaipkaa
open Go.RowKit
open Go.Sort (grow)
structure Kd.Rest {D V : Type} (K : Kd D V) (X : World) (B b n : Nat) (ys : List D) (g : Nat → Nat → Prop) (j : Nat) : Prop where
  rm : Room X b (n * K.n)
  at_ : ∀ i d, j ≤ i → ys[i]? = some d → ∃ v, At X b (i * K.n) (K.cells v d) ∧ K.Ow X B v d (g i)
  ne : ∀ i q, i < ys.length → g i q → q ≠ b
  ap : ∀ i j q, i < ys.length → j < ys.length → i ≠ j → g i q → ¬ g j q
theorem Kd.Part.rest {D V : Type} {K : Kd D V} {X : World} {B b n : Nat} {ys : List D} {g : Nat → Nat → Prop} (h : K.Part X B b n ys g) : K.Rest X B b n ys g 0 := ⟨h.rm, fun i d _ hi => h.at_ i d hi, h.ne, h.ap⟩
theorem Kd.Rest.up {D V : Type} {K : Kd D V} {X : World} {B b n : Nat} {ys : List D} {g : Nat → Nat → Prop} {j : Nat} (h : K.Rest X B b n ys g j) : K.Rest X B b n ys g (j + 1) := ⟨h.rm, fun i d hj hi => h.at_ i d (by omega) hi, h.ne, h.ap⟩
theorem Kd.Rest.set {D V : Type} {K : Kd D V} {X : World} {B b n : Nat} {ys : List D} {g : Nat → Nat → Prop} {j o : Nat} (h : K.Rest X B b n ys g (j + 1)) (ho : o < (j + 1) * K.n) (u : Value) : K.Rest (X.setCell ⟨b, o, none⟩ u) B b n ys g (j + 1) := by
  refine ⟨h.rm.set _, fun i d hj hi => ?_, h.ne, h.ap⟩
  obtain ⟨v, h1, h2⟩ := h.at_ i d hj hi
  have hm := Nat.mul_le_mul_right K.n hj
  exact ⟨v, fun q u' e => (cell_set_other (by omega)).trans (h1 q u' e), K.keep h2 (by simp [World.setCell]) (fun q hq => Below.heap_setCell _ _ _ _ (h.ne i q (List.getElem?_eq_some_iff.1 hi).1 hq))⟩
theorem Kd.Rest.kept {D V : Type} {K : Kd D V} {X Y : World} {B b n : Nat} {ys : List D} {g : Nat → Nat → Prop} {j : Nat} {Q : Nat → Prop} (h : K.Rest X B b n ys g (j + 1)) (hk : KeptP Q X Y) (hb : b < X.heap.size) (hj : j < ys.length) (hQ : ∀ q, Q q → g j q) : K.Rest Y B b n ys g (j + 1) := by
  have hbb : Y.heap[b]? = X.heap[b]? := hk.block b hb (fun e => h.ne j b hj (hQ b e) rfl)
  refine ⟨room_blk h.rm hbb, fun i d hji hi => ?_, h.ne, h.ap⟩
  obtain ⟨v, h1, h2⟩ := h.at_ i d hji hi
  have hl := (List.getElem?_eq_some_iff.1 hi).1
  exact ⟨v, h1.of_block hbb, K.keep h2 hk.size (fun q hq => hk.block q (K.of h2 hq).2 (fun e => h.ap i j q hl hj (by omega) hq (hQ q e)))⟩
def cM (m : M4) : Nat := 1 + (offG cK m.copies m.copies.length + offG cR m.log m.log.length + m.cleared.length)
structure MRow (w X : World) (B b : Nat) (ms : List M4) (g : Nat → Nat → Prop) (P : Nat → Prop) (j : Nat) (a2 : Option Addr) (c2 : Nat) (a3 : Option Addr) (c3 : Nat) (PR PD : Nat → Prop) : Prop where
  r : OwnL 4 hdR lnR AtR X PR a2 (atM ms j).log
  n : OwnN X PD a3 (atM ms j).cleared
  e2 : X.cell? ⟨b, j * 4 + 2, none⟩ = some (.slice a2 (atM ms j).log.length c2)
  e3 : X.cell? ⟨b, j * 4 + 3, none⟩ = some (.slice a3 (atM ms j).cleared.length c3)
  rest : KMk.Rest X B b ms.length ms g (j + 1)
  kp : KeptP P w X
  lt : b < X.heap.size
theorem kp_of {P : Nat → Prop} {a b : World} (h : tx.KeptP P a b) : KeptP P a b := ⟨h.os, h.tape, h.output, h.size, h.block⟩
def cT (t : tx.T7) : Nat := 5 + (5 * t.reads.length + 5 * t.sets.length)
structure TRow (w X : World) (B b : Nat) (ts : List tx.T7) (g : Nat → Nat → Prop) (P : Nat → Prop) (j : Nat) (a2 : Option Addr) (c2 : Nat) (PS : Nat → Prop) : Prop where
  s : tx.OwnSe X PS a2 (atT ts j).sets
  e5 : X.cell? ⟨b, j * 7 + 5, none⟩ = some (.slice a2 (atT ts j).sets.length c2)
  rest : KTk.Rest X B b ts.length ts g (j + 1)
  kp : KeptP P w X
  lt : b < X.heap.size
end Go.Proofs.Ytcbfnajpcaipkaa
namespace Go.Proofs.Ytcbfnajpcaipkaa
open Go.RowKit
theorem hidOf' {p : Prop} (h : p) : Hid p := h
theorem mkKs_at {ks : List K2} {k : Int} {j : Nat} (h : j < ks.length) : (mkKs ks k)[j]? = some (mkK ks k j) := by simp [mkKs, h]
theorem mkRs_at {ks : List R4} {k : Int} {j : Nat} (h : j < ks.length) : (mkRs ks k)[j]? = some (mkR ks k j) := by simp [mkRs, h]
set_option maxHeartbeats 4000000 in
theorem heldCopyS_any (w : World) (a : Option Addr) (cap : Nat) (ks : List K2) (k : Int) (hk : 0 ≤ k) (hk' : k ≤ 500000000) (ht : offG cK ks ks.length ≤ 100000000) (hn : ks.length ≤ 1048576) (hl : ∀ c ∈ ks, c.cells.length ≤ 1048576) (hs : SlK w w.heap.size a ks.length (mkKs ks k)) :
    Calls Try.prog 79 #[.slice a ks.length cap, .int .i64 k] w fun e w' => e = .returned (.int .i64 (k + offG cK ks ks.length)) ∧ w' = w := by
  obtain ⟨_, hs⟩ := hs
  have HL := hidOf' hl
  clear hl
  go_enter Try.func79, Try.ntmps79
  go_wp2
  go_loop [1, 5] (fun v1 v5 => ∃ j : Nat, j ≤ ks.length ∧ v5 = .int .i64 j ∧ v1 = .int .i64 (k + (offG cK ks j : Int))) (fun _ v5 => ks.length - (intOf v5).toNat)
  case atStart => exact ⟨0, Nat.zero_le _, rfl, by rw [offG_zero]; simp⟩
  case round =>
    obtain ⟨j, hj, rfl, rfl⟩ := hrel
    have hb2 := offG_le cK ks j
    by_cases hlt : j < ks.length
    · rcases hs with hs | ⟨b, off, rfl, hb, h1⟩
      · omega
      have hks : ks[j]? = some (atK ks j) := atK_of hlt
      have hr := h1 j _ (mkKs_at hlt)
      have c0 := hr.c0
      obtain ⟨a', cap', c1, hsl, hcp⟩ := hr.c1
      simp only [mkK, mkCells_len] at c0 c1 hsl
      have hoff : Hid (offG cK ks (j + 1) = offG cK ks j + cK (atK ks j)) := offG_succ cK hks
      have hln := HL.out _ (List.mem_of_getElem? hks)
      have hm := heldCellS_k w a' (atK ks j).cells.length cap' (k + (offG cK ks j : Int) + 1) hln (by omega) (by omega) hsl
      have dN : decide (k + (offG cK ks j : Int) + 1 + 2 * ((atK ks j).cells.length : Int) < 0) = false := by simp; omega
      clear h1 hr hsl hcp hks
      go_wp2_with fail
      refine hm.mono ?_
      clear hm
      rintro e w ⟨rfl, rfl⟩
      go_wp2
      exact ⟨⟨j + 1, by omega, by simp, by rw [hoff.out]; simp [cK]; omega⟩, by simp [intOf]; omega⟩
    · obtain rfl : j = ks.length := by omega
      have hd : decide ((ks.length : Int) < (ks.length : Int)) = false := by simp
      clear hs
      go_wp2
      go_ret
      exact ⟨rfl, rfl⟩
set_option maxHeartbeats 4000000 in
theorem heldRecordS_any (w : World) (a : Option Addr) (cap : Nat) (ks : List R4) (k : Int) (hk : 0 ≤ k) (hk' : k ≤ 500000000) (ht : offG cR ks ks.length ≤ 100000000) (hn : ks.length ≤ 1048576) (hl : ∀ c ∈ ks, c.sets.length ≤ 1048576) (hs : SlR w w.heap.size a ks.length (mkRs ks k)) :
    Calls Try.prog 80 #[.slice a ks.length cap, .int .i64 k] w fun e w' => e = .returned (.int .i64 (k + offG cR ks ks.length)) ∧ w' = w := by
  obtain ⟨_, hs⟩ := hs
  have HL := hidOf' hl
  clear hl
  go_enter Try.func80, Try.ntmps80
  go_wp2
  go_loop [1, 5] (fun v1 v5 => ∃ j : Nat, j ≤ ks.length ∧ v5 = .int .i64 j ∧ v1 = .int .i64 (k + (offG cR ks j : Int))) (fun _ v5 => ks.length - (intOf v5).toNat)
  case atStart => exact ⟨0, Nat.zero_le _, rfl, by rw [offG_zero]; simp⟩
  case round =>
    obtain ⟨j, hj, rfl, rfl⟩ := hrel
    have hb2 := offG_le cR ks j
    by_cases hlt : j < ks.length
    · rcases hs with hs | ⟨b, off, rfl, hb, h1⟩
      · omega
      have hks : ks[j]? = some (atR ks j) := atR_of hlt
      have hr := h1 j _ (mkRs_at hlt)
      have c0 := hr.c0
      have c1 := hr.c1
      have c2 := hr.c2
      obtain ⟨a', cap', c3, hsl, hcp⟩ := hr.c3
      simp only [mkR, mkSets_len] at c0 c1 c2 c3 hsl
      have hoff : Hid (offG cR ks (j + 1) = offG cR ks j + cR (atR ks j)) := offG_succ cR hks
      have hln := HL.out _ (List.mem_of_getElem? hks)
      have hm := heldSetS_k w a' (atR ks j).sets.length cap' (k + (offG cR ks j : Int) + 1 + 1 + 1) hln (by omega) (by omega) hsl
      have dN : decide (k + (offG cR ks j : Int) + 1 + 1 + 1 + 5 * ((atR ks j).sets.length : Int) < 0) = false := by simp; omega
      clear h1 hr hsl hcp hks
      go_wp2_with fail
      refine hm.mono ?_
      clear hm
      rintro e w ⟨rfl, rfl⟩
      go_wp2
      exact ⟨⟨j + 1, by omega, by simp, by rw [hoff.out]; simp [cR]; omega⟩, by simp [intOf]; omega⟩
    · obtain rfl : j = ks.length := by omega
      have hd : decide ((ks.length : Int) < (ks.length : Int)) = false := by simp
      clear hs
      go_wp2
      go_ret
      exact ⟨rfl, rfl⟩
end Go.Proofs.Ytcbfnajpcaipkaa