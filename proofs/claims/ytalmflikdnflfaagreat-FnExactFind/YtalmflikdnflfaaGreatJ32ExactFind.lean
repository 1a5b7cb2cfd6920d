/- CluD; YTxR: joined. -/
import Derived.Test.YtalmflikdnflfaaGreatRows
import Derived.Test.YtalmflikdnflfaaGreatJ23ExactFind
import Derived.Test.YtalmflikdnflfaaGreatJ30ExactFind
import Derived.Test.YtalmflikdnflfaaGreatYTxSJ
import Derived.WalkKit
import Derived.WalkSpells
import Derived.WalkLawsBesides
import Derived.Below
import Derived.Lib.QuietBelow
import Derived.BigQuiet
/- What ClusterOk answers. -/
namespace Go.Proofs.YtalmflikdnflfaaGreat
open Go.RowKit
/-- What ClusterOk answers. -/
def atM (ms : List M4) (i : Nat) : M4 := ms[i]?.getD ⟨false, [], [], []⟩
theorem atM_of {ms : List M4} {i : Nat} (h : i < ms.length) : ms[i]? = some (atM ms i) := by simp [atM, List.getElem?_eq_getElem h]
def atT (ts : List tx.T7) (i : Nat) : tx.T7 := ts[i]?.getD ⟨0, 0, 0, 0, [], [], 0⟩
theorem atT_of {ts : List tx.T7} {i : Nat} (h : i < ts.length) : ts[i]? = some (atT ts i) := by simp [atT, List.getElem?_eq_getElem h]
/-- Machine z of a Place of region r: there, and dead or with a copy. -/
def servB (ms : List M4) (r : Nat) (z : Int) : Bool := decide (z < (ms.length : Int)) && (!(atM ms z.toNat).alive || hasC (atM ms z.toNat) (r : Int))
def placB (ms : List M4) (r : Nat) (zs : List Int) : Bool := (List.range zs.length).all fun j => servB ms r (atN zs j)
def placedB (zss : List (List Int)) (ms : List M4) : Bool := (List.range zss.length).all fun r => placB ms r (atP zss r)
def readsB (n : Nat) (xs : List tx.N5) : Bool := (List.range xs.length).all fun j => decide ((tx.atNo xs j).region < (n : Int))
def setsB (n : Nat) (xs : List S5) : Bool := (List.range xs.length).all fun j => decide ((tx.atSe xs j).region < (n : Int))
def txAtB (k : C6) (i : Nat) : Bool := tx.txB (atT k.txs i) && (decide (i = 0) || decide ((atT k.txs (i - 1)).id < (atT k.txs i).id)) && decide ((atT k.txs i).home < (k.machines.length : Int)) && decide ((atT k.txs i).stamp ≤ k.clock) && readsB k.places.length (atT k.txs i).reads && setsB k.places.length (atT k.txs i).sets
def machsB (ms : List M4) : Bool := (List.range ms.length).all fun i => machB (atM ms i)
def txsB (k : C6) : Bool := (List.range k.txs.length).all (txAtB k)
def clusterB (k : C6) : Bool := inB 1 1000000 k.config && inB 0 1000000 k.clock && decide (1 ≤ k.machines.length) && decide (k.machines.length ≤ 8) && placesB k.places && decide (k.txs.length ≤ 60) && machsB k.machines && placedB k.places k.machines && txsB k
theorem places_z {zss : List (List Int)} (h : placesB zss = true) {r j : Nat} (hr : r < zss.length) (hj : j < (atP zss r).length) : 0 ≤ atN (atP zss r) j ∧ atN (atP zss r) j ≤ 7 := by
  simp only [placesB, Bool.and_eq_true] at h
  have h1 := List.all_eq_true.1 h.2 r (List.mem_range.2 hr)
  simp only [placeB, Bool.and_eq_true] at h1
  have h2 := List.all_eq_true.1 h1.2 j (List.mem_range.2 hj)
  simp only [goodAt, Bool.and_eq_true] at h2
  have := inB_iff.1 h2.1
  omega
end Go.Proofs.YtalmflikdnflfaaGreat
/- What the program's TxOk answers at every transaction. -/
namespace Go.Proofs.YtalmflikdnflfaaGreat.tx
open Go.RowKit
open Go.Sort (grow)
/-- The first place where f holds, or -1. -/
def FirstAt (f : Nat → Bool) (n : Nat) (i : Int) : Prop := (i = -1 ∧ ∀ j, j < n → f j = false) ∨ ∃ k : Nat, i = (k : Int) ∧ k < n ∧ f k = true ∧ ∀ j, j < k → f j = false
theorem first_has {f : Nat → Bool} {n : Nat} {i : Int} (h : FirstAt f n i) : decide (0 ≤ i) = !((List.range n).all fun j => !f j) := by
  rcases h with ⟨rfl, h⟩ | ⟨k, rfl, hk, hf, _⟩
  · have : ((List.range n).all fun j => !f j) = true := by rw [List.all_eq_true]; intro j hj; simp [h j (List.mem_range.1 hj)]
    rw [this]; rfl
  · have : ((List.range n).all fun j => !f j) = false := by rw [List.all_eq_false]; exact ⟨k, List.mem_range.2 hk, by simp [hf]⟩
    rw [this]; simp
theorem implId (w : World) (x : Int) : Calls Tryz.prog 87 #[.int .i64 x] w fun e w' => e = .returned (.bool (inB 1 1000000 x)) ∧ w' = w := by
  go_enter Tryz.func87, Tryz.ntmps87
  go_wp2
  all_goals (go_ret; refine ⟨ret_bool ?_, rfl⟩; simp [inB_iff]; try omega)
theorem implMachine (w : World) (x : Int) : Calls Tryz.prog 134 #[.int .i64 x] w fun e w' => e = .returned (.bool (inB 0 7 x)) ∧ w' = w := by
  go_enter Tryz.func134, Tryz.ntmps134
  go_wp2
  all_goals (go_ret; refine ⟨ret_bool ?_, rfl⟩; simp [inB_iff]; try omega)
theorem implPhase (w : World) (x : Int) : Calls Tryz.prog 189 #[.int .i64 x] w fun e w' => e = .returned (.bool (inB 1 9 x)) ∧ w' = w := by
  go_enter Tryz.func189, Tryz.ntmps189
  go_wp2
  all_goals (go_ret; refine ⟨ret_bool ?_, rfl⟩; simp [inB_iff]; try omega)
theorem implDone (w : World) (x : Int) : Calls Tryz.prog 190 #[.int .i64 x] w fun e w' => e = .returned (.bool (inB 0 1000 x)) ∧ w' = w := by
  go_enter Tryz.func190, Tryz.ntmps190
  go_wp2
  all_goals (go_ret; refine ⟨ret_bool ?_, rfl⟩; simp [inB_iff]; try omega)
theorem implStamp (w : World) (x : Int) : Calls Tryz.prog 41 #[.int .i64 x] w fun e w' => e = .returned (.bool (inB 0 1000000 x)) ∧ w' = w := by
  go_enter Tryz.func41, Tryz.ntmps41
  go_wp2
  all_goals (go_ret; refine ⟨ret_bool ?_, rfl⟩; simp [inB_iff]; try omega)
theorem implVersion (w : World) (x : Int) : Calls Tryz.prog 230 #[.int .i64 x] w fun e w' => e = .returned (.bool (inB 0 1000000 x)) ∧ w' = w := by
  go_enter Tryz.func230, Tryz.ntmps230
  go_wp2
  all_goals (go_ret; refine ⟨ret_bool ?_, rfl⟩; simp [inB_iff]; try omega)
theorem implNoteOk (w : World) (s : N5) : Calls Tryz.prog 192 #[.agg #[.int .i64 s.region, .int .i64 s.slot, .int .i64 s.version, .int .i64 s.value, .bool s.used]] w fun e w' => e = .returned (.bool (noteOkB s)) ∧ Below w.heap.size w w' := by
  obtain ⟨r, l, v, u, x⟩ := s
  go_enter Tryz.func192, Tryz.ntmps192
  cases h1 : inB 0 5 r <;> cases h2 : inB 0 5 l <;> cases h3 : inB 0 1000000 v
  all_goals go_wp2_with (first | (go_at_call 230; refine (implVersion _ _).mono ?_; rintro e w' ⟨rfl, rfl⟩) | (go_at_call 176; refine (implRegion _ _).mono ?_; rintro e w' ⟨rfl, rfl⟩) | (go_at_call 229; refine (implSlot _ _).mono ?_; rintro e w' ⟨rfl, rfl⟩) | (go_at_call 231; refine (implValue _ _).mono ?_; rintro e w' ⟨rfl, rfl⟩))
  all_goals (go_ret; refine ⟨ret_bool ?_, (Below.refl _ _).alloc (Nat.le_refl _) _⟩; simp only [noteOkB, h1, h2, h3, Bool.and_true, Bool.and_false, Bool.false_and, Bool.true_and]; try simp [inB_iff]; try omega)
/-- The rank of a cell. -/
def rk (r s : Int) : Int := r * 6 + s
theorem rank_any (w : World) (r s : Int) (h1 : inB 0 5 r = true) (h2 : inB 0 5 s = true) : Calls Tryz.prog 245 #[.agg #[.int .i64 r, .int .i64 s]] w fun e w' => e = .returned (.int .i64 (rk r s)) ∧ Below w.heap.size w w' := by
  rw [inB_iff] at h1 h2
  have e1 : IntKind.i64.wrap (r * 6) = r * 6 := by simp [IntKind.wrap, IntKind.bits, IntKind.signed]; omega
  have e2 : IntKind.i64.wrap (r * 6 + s) = r * 6 + s := by simp [IntKind.wrap, IntKind.bits, IntKind.signed]; omega
  go_enter Tryz.func245, Tryz.ntmps245
  go_wp2
  go_ret
  exact ⟨by simp [rk], (Below.refl _ _).alloc (Nat.le_refl _) _⟩
theorem less_rk {r s q t : Int} (h1 : inB 0 5 s = true) (h2 : inB 0 5 t = true) : lessB r s q t = decide (rk r s < rk q t) := by
  rw [inB_iff] at h1 h2
  have hk : ∀ a b, rk a b = a * 6 + b := fun _ _ => rfl
  have hd : (r < q ∨ r = q ∧ s < t) ↔ rk r s < rk q t := by
    rw [hk, hk]
    constructor
    · rintro (h | ⟨h, h'⟩) <;> omega
    · intro h
      by_cases hr : r < q
      · exact .inl hr
      · exact .inr ⟨by omega, by omega⟩
  rw [Bool.eq_iff_iff]
  simp [lessB, hd]
set_option maxHeartbeats 1000000 in
theorem noCell_any (w : World) (s : N5) : Calls Tryz.prog 264 #[.agg #[.int .i64 s.region, .int .i64 s.slot, .int .i64 s.version, .int .i64 s.value, .bool s.used]] w fun e w' => e = .returned (.agg #[.int .i64 s.region, .int .i64 s.slot]) ∧ Below w.heap.size w w' := by
  obtain ⟨f0, f1, f2, f3, f4⟩ := s
  go_enter Tryz.func264, Tryz.ntmps264
  go_wp2
  refine bodyPost_ret (v := .agg #[.int .i64 f0, .int .i64 f1]) (by simp [results, Tryz.results264, go_sem]) rfl ⟨rfl, ?_⟩
  exact ((Below.refl _ _).alloc (Nat.le_refl _) _).alloc (by simp) _
set_option maxHeartbeats 1000000 in
theorem noRank_any (w : World) (s : N5) (h1 : inB 0 5 s.region = true) (h2 : inB 0 5 s.slot = true) : Calls Tryz.prog 228 #[.agg #[.int .i64 s.region, .int .i64 s.slot, .int .i64 s.version, .int .i64 s.value, .bool s.used]] w fun e w' => e = .returned (.int .i64 (rk s.region s.slot)) ∧ Below w.heap.size w w' := by
  have b0 : Below w.heap.size w (w.alloc (.cells #[.int .i64 s.region, .int .i64 s.slot, .int .i64 s.version, .int .i64 s.value, .bool s.used] 72)) := (Below.refl _ _).alloc (Nat.le_refl _) _
  have c1 := noCell_any (w.alloc (.cells #[.int .i64 s.region, .int .i64 s.slot, .int .i64 s.version, .int .i64 s.value, .bool s.used] 72)) s
  have hm : ∀ w : World, (method 399 72 (.agg #[.int .i64 s.region, .int .i64 s.slot, .int .i64 s.version, .int .i64 s.value, .bool s.used]) "loop.example/g00153/impl.cell").run Tryz.prog w = .ok (264, .agg #[.int .i64 s.region, .int .i64 s.slot, .int .i64 s.version, .int .i64 s.value, .bool s.used]) w := fun _ => by kernel_rfl
  go_enter Tryz.func228, Tryz.ntmps228
  go_wp2_with (first | (go_at_call 264; refine c1.mono ?_; rintro e w1 ⟨rfl, b1⟩) | (go_at_call 245; refine (rank_any _ _ _ h1 h2).mono ?_; rintro e w2 ⟨rfl, b2⟩))
  go_ret
  exact ⟨rfl, b0.trans ((b1.trans (b2.mono b1.size)).mono b0.size)⟩
set_option maxHeartbeats 1000000 in
theorem seCell_any (w : World) (s : S5) : Calls Tryz.prog 265 #[.agg #[.int .i64 s.region, .int .i64 s.slot, .int .i64 s.value, .bool s.used, .int .i64 s.version]] w fun e w' => e = .returned (.agg #[.int .i64 s.region, .int .i64 s.slot]) ∧ Below w.heap.size w w' := by
  obtain ⟨f0, f1, f2, f3, f4⟩ := s
  go_enter Tryz.func265, Tryz.ntmps265
  go_wp2
  refine bodyPost_ret (v := .agg #[.int .i64 f0, .int .i64 f1]) (by simp [results, Tryz.results265, go_sem]) rfl ⟨rfl, ?_⟩
  exact ((Below.refl _ _).alloc (Nat.le_refl _) _).alloc (by simp) _
set_option maxHeartbeats 1000000 in
theorem seRank_any (w : World) (s : S5) (h1 : inB 0 5 s.region = true) (h2 : inB 0 5 s.slot = true) : Calls Tryz.prog 234 #[.agg #[.int .i64 s.region, .int .i64 s.slot, .int .i64 s.value, .bool s.used, .int .i64 s.version]] w fun e w' => e = .returned (.int .i64 (rk s.region s.slot)) ∧ Below w.heap.size w w' := by
  have b0 : Below w.heap.size w (w.alloc (.cells #[.int .i64 s.region, .int .i64 s.slot, .int .i64 s.value, .bool s.used, .int .i64 s.version] 74)) := (Below.refl _ _).alloc (Nat.le_refl _) _
  have c1 := seCell_any (w.alloc (.cells #[.int .i64 s.region, .int .i64 s.slot, .int .i64 s.value, .bool s.used, .int .i64 s.version] 74)) s
  have hm : ∀ w : World, (method 399 74 (.agg #[.int .i64 s.region, .int .i64 s.slot, .int .i64 s.value, .bool s.used, .int .i64 s.version]) "loop.example/g00153/impl.cell").run Tryz.prog w = .ok (265, .agg #[.int .i64 s.region, .int .i64 s.slot, .int .i64 s.value, .bool s.used, .int .i64 s.version]) w := fun _ => by kernel_rfl
  go_enter Tryz.func234, Tryz.ntmps234
  go_wp2_with (first | (go_at_call 265; refine c1.mono ?_; rintro e w1 ⟨rfl, b1⟩) | (go_at_call 245; refine (rank_any _ _ _ h1 h2).mono ?_; rintro e w2 ⟨rfl, b2⟩))
  go_ret
  exact ⟨rfl, b0.trans ((b1.trans (b2.mono b1.size)).mono b0.size)⟩
end Go.Proofs.YtalmflikdnflfaaGreat.tx
