/- SeB; CluI6; PlacesI1; PlacesIa; CluI7; SeI: joined. -/
import Derived.Test.YtphpcgmnljhimaaGreatRows
import Derived.Test.YtphpcgmnljhimaaGreatJ11ExactSettled
import Derived.WalkKit
import Derived.WalkSpells
import Derived.WalkLawsBesides
import Derived.Below
import Derived.Lib.QuietBelow
import Derived.BigQuiet
import Derived.Deep.CutRange
import Derived.Test.YtphpcgmnljhimaaGreatJ10ExactSettled
import Derived.Test.YtphpcgmnljhimaaGreatJ7ExactSettled
import Derived.Deep.QuietTactic
import Derived.Deep.Upon
import Derived.Deep.RegionWith
import Derived.LaidEql
import Derived.RowKitTokens
import Derived.WalkMore
namespace Go.Proofs.YtphpcgmnljhimaaGreat
open Go.RowKit
open Go.Sort (grow)
def idxSF (w : World) (xs : List M4)  (f : Nat → Bool) : Prop :=
  ∀ (X : World) (i : Nat) (m0 : Option Addr) (m1 : Nat) (m2 : Option Addr) (m3 : Nat) (m4 : Option Addr) (m5 : Nat), Below w.heap.size w X → i < xs.length → KMk.Rd X ⟨m0, m1, m2, m3, m4, m5⟩ (atM xs i) → Calls Tryz.prog 36 #[.agg #[.bool (atM xs i).alive, .slice m0 (atM xs i).copies.length m1, .slice m2 (atM xs i).log.length m3, .slice m4 (atM xs i).cleared.length m5]] X fun e w' => e = .returned (.bool (f i)) ∧ Below X.heap.size X w'
set_option maxRecDepth 100000 in
set_option maxHeartbeats 2000000 in
theorem idxS (w : World) (a : Option Addr) (cap : Nat) (xs : List M4)  (f : Nat → Bool) (hn : xs.length ≤ maxLen) (hs : KMk.RdS w a xs) (hf : idxSF w xs  f) :
    Calls Tryz.prog 71 #[.slice a xs.length cap, .func (.func 36) #[] #[]] w fun e w' => (∃ i : Int, e = .returned (.int .i64 i) ∧ FirstAt f xs.length i) ∧ Below w.heap.size w w' := by
  unfold maxLen at hn
  have HF := hidOf hf
  clear hf
  go_enter Tryz.func71, Tryz.ntmps71
  go_wp2
  go_loopw [8] (fun v wr => ∃ j : Nat, j ≤ xs.length ∧ v = .int .i64 j ∧ Below w.heap.size w wr ∧ ∀ i, i < j → f i = false) (fun v _ => xs.length - (intOf v).toNat)
  case atStart => exact ⟨0, Nat.zero_le _, rfl, Below.refl _ _, fun i h => absurd h (by omega)⟩
  case round =>
    obtain ⟨j, hj, rfl, hbl, hall⟩ := hrel
    by_cases hlt : j < xs.length
    · rcases hs with hs | ⟨b, off, rfl, hb, h1⟩
      · rw [hs] at hlt; simp at hlt
      obtain ⟨⟨m0, m1, m2, m3, m4, m5⟩, hat, hrd⟩ := h1 j _ (atM_of hlt)
      have e0 : wr.cell? ⟨b, off + j * 4, none⟩ = some (.bool (atM xs j).alive) := (hbl.cell (p := ⟨b, off + j * 4, none⟩) hb).trans (hat 0 _ rfl)
      have e1 : wr.cell? ⟨b, off + j * 4 + 1, none⟩ = some (.slice m0 (atM xs j).copies.length m1) := (hbl.cell (p := ⟨b, off + j * 4 + 1, none⟩) hb).trans (hat 1 _ rfl)
      have e2 : wr.cell? ⟨b, off + j * 4 + 2, none⟩ = some (.slice m2 (atM xs j).log.length m3) := (hbl.cell (p := ⟨b, off + j * 4 + 2, none⟩) hb).trans (hat 2 _ rfl)
      have e3 : wr.cell? ⟨b, off + j * 4 + 3, none⟩ = some (.slice m4 (atM xs j).cleared.length m5) := (hbl.cell (p := ⟨b, off + j * 4 + 3, none⟩) hb).trans (hat 3 _ rfl)
      have hw := HF.out wr j m0 m1 m2 m3 m4 m5 hbl hlt (KMk.later hrd hbl)
      have KA : Hid ((∀ i, i < j → f i = false) ∧ Below w.heap.size w wr) := ⟨hall, hbl⟩
      have jn : (j : Int) < (xs.length : Int) := by omega
      clear h1 hat hrd hall hbl
      cases hp : f j with
      | true =>
        rw [hp] at hw
        go_wp2_with fail
        refine hw.mono ?_
        clear hw
        rintro e w1 ⟨rfl, b1⟩
        go_wp2
        go_ret
        exact ⟨⟨_, rfl, .inr ⟨j, rfl, hlt, hp, KA.out.1⟩⟩, KA.out.2.trans (b1.mono KA.out.2.size)⟩
      | false =>
        rw [hp] at hw
        go_wp2_with fail
        refine hw.mono ?_
        clear hw
        rintro e w1 ⟨rfl, b1⟩
        go_wp2
        exact ⟨⟨j + 1, by omega, by simp, KA.out.2.trans (b1.mono KA.out.2.size), fun i hi => by
          by_cases e : i = j
          · rw [e]; exact hp
          · exact KA.out.1 i (by omega)⟩, by simp [intOf]; omega⟩
    · obtain rfl : j = xs.length := by omega
      have hd : decide ((xs.length : Int) < (xs.length : Int)) = false := by simp
      have KA : Hid ((∀ i, i < xs.length → f i = false) ∧ Below w.heap.size w wr) := ⟨hall, hbl⟩
      clear hall hbl hs
      go_wp2
      go_ret
      exact ⟨⟨_, rfl, .inl ⟨rfl, KA.out.1⟩⟩, KA.out.2⟩
set_option maxHeartbeats 1000000 in
theorem idxS_has (w : World) (a : Option Addr) (cap : Nat) (xs : List M4)  (f : Nat → Bool) (hn : xs.length ≤ maxLen) (hs : KMk.RdS w a xs) (hf : idxSF w xs  f) :
    Calls Tryz.prog 38 #[.slice a xs.length cap, .func (.func 36) #[] #[]] w fun e w' => e = .returned (.bool (!((List.range xs.length).all fun j => !f j))) ∧ Below w.heap.size w w' := by
  have hc := idxS w a cap xs  f hn hs hf
  clear hs hf
  go_enter Tryz.func38, Tryz.ntmps38
  go_wp2_with fail
  refine hc.mono ?_
  clear hc
  rintro e w1 ⟨⟨i, rfl, hi⟩, b1⟩
  have h := first_has hi
  have KB := hidOf b1
  clear b1 hi
  go_wp2
  go_ret
  exact ⟨by rw [← h]; rfl, KB.out⟩
set_option maxHeartbeats 1000000 in
theorem logsOne (X : World) (m0 : Option Addr) (m1 : Nat) (m2 : Option Addr) (m3 : Nat) (m4 : Option Addr) (m5 : Nat) (m : M4) : Calls Tryz.prog 36 #[.agg #[.bool m.alive, .slice m0 m.copies.length m1, .slice m2 m.log.length m3, .slice m4 m.cleared.length m5]] X fun e w' => e = .returned (.bool (!decide (m.log.length = 0))) ∧ Below X.heap.size X w' := by
  cases hd : decide (m.log.length = 0) with
  | true =>
    have hz : m.log.length = 0 := by simpa using hd
    rw [hz]
    clear hd hz
    go_enter Tryz.func36, Tryz.ntmps36
    go_wp2
    go_ret
    exact ⟨rfl, (Below.refl _ _).alloc (Nat.le_refl _) _⟩
  | false =>
    have hz : ¬ m.log.length = 0 := by simpa using hd
    have d0 : decide ((0 : Int) < (m.log.length : Int)) = true := by simp; omega
    have d1 : (0 : Int) < (m.log.length : Int) := by omega
    clear hd
    generalize m.log.length = ln at *
    go_enter Tryz.func36, Tryz.ntmps36
    go_wp2
    go_ret
    exact ⟨by simp [show 0 < ln by omega], (Below.refl _ _).alloc (Nat.le_refl _) _⟩
theorem logsAny (w : World) (a : Option Addr) (cap : Nat) (ms : List M4) (hn : ms.length ≤ maxLen) (hs : KMk.RdS w a ms) :
    Calls Tryz.prog 38 #[.slice a ms.length cap, .func (.func 36) #[] #[]] w fun e w' => e = .returned (.bool (!((List.range ms.length).all fun i => decide ((atM ms i).log.length = 0)))) ∧ Below w.heap.size w w' := by
  have hc := idxS_has w a cap ms (fun i => !decide ((atM ms i).log.length = 0)) hn hs (fun X i m0 m1 m2 m3 m4 m5 _ _ _ => logsOne X m0 m1 m2 m3 m4 m5 (atM ms i))
  simpa using hc
theorem samB_comm (xs ys : List C2) : samB xs ys = samB ys xs := by
  have h : ∀ x y : C2, eqC2 x y = eqC2 y x := fun x y => by
    unfold eqC2
    rw [Bool.beq_comm (a := x.head), Bool.beq_comm (a := x.value)]
  unfold samB
  congr 1
  funext s
  exact h _ _
theorem mach_cel {m : M4} (h : machB m = true) : ∀ c ∈ m.copies, cellsB c.cells = true := by
  simp only [machB, Bool.and_eq_true, decide_eq_true_eq] at h
  obtain ⟨⟨⟨⟨⟨h1, h2⟩, h3⟩, _⟩, h4⟩, h5⟩ := h
  intro c hc
  obtain ⟨i, hi, rfl⟩ := List.getElem_of_mem hc
  have := List.all_eq_true.1 h4 i (List.mem_range.2 hi)
  simp only [copB, atK, List.getElem?_eq_getElem hi, Option.getD_some, Bool.and_eq_true] at this
  exact this.1.2
theorem ansL_le {m : M4} (h : machB m = true) (y : Int) : (ansL m y).length ≤ 6 := by
  unfold ansL ansC
  rw [if_pos h]
  cases hq : m.copies.find? (fun k => decide (k.region = y)) with
  | none => simp
  | some c => simp [mach_six h c (List.mem_of_find?_eq_some hq)]
noncomputable def celJ (k : C6) (r j : Nat) : List C2 := ansL (atM k.machines (atN (atP k.places r) j).toNat) (r : Int)
noncomputable def okI (k : C6) (r j : Nat) : Bool := (atM k.machines (atN (atP k.places r) j).toNat).alive && samB (tk6 (celJ k r j)) (tk6 (celJ k r 0)) && !(celJ k r j).any loB
theorem clu_al {k : C6} (hk : clusterB k = true) {r j : Nat} (hr : r < k.places.length) (hj : j < (atP k.places r).length) (hal : (atM k.machines (atN (atP k.places r) j).toNat).alive = true) :
    celJ k r j = zcC k r (atN (atP k.places r) j) ∧ cellsB (celJ k r j) = true := by
  have hz := clu_z hk hr hj
  obtain ⟨z, hz'⟩ : ∃ z : Nat, atN (atP k.places r) j = (z : Int) := ⟨_, (Int.toNat_of_nonneg hz.1).symm⟩
  have hzl : z < k.machines.length := by omega
  rw [hz', Int.toNat_natCast] at hal
  have hk' := hk
  simp only [clusterB, Bool.and_eq_true] at hk'
  have hm : machB (atM k.machines z) = true := List.all_eq_true.1 hk'.1.1.2 z (List.mem_range.2 hzl)
  have hs := List.all_eq_true.1 (List.all_eq_true.1 hk'.1.2 r (List.mem_range.2 hr)) j (List.mem_range.2 hj)
  simp only [servB, hz', Bool.and_eq_true, decide_eq_true_eq, Int.toNat_natCast] at hs
  have hhas : hasC (atM k.machines z) (r : Int) = true := by have := hs.2; rw [hal] at this; simpa using this
  have hlt := idxC_lt (atM k.machines z) (r : Int)
  rw [hhas] at hlt
  rcases idxC_first (atM k.machines z) (r : Int) with ⟨e, _⟩ | ⟨t, e, ht, hft, hlo⟩
  · rw [e] at hlt; cases hlt
  · have h1 : ansC (atM k.machines z) (r : Int) = some (atK (atM k.machines z).copies t).cells := ansC_first hm ht (by simpa using hft) (fun i hi => by simpa using hlo i hi)
    have h2 : celJ k r j = (atK (atM k.machines z).copies t).cells := by rw [celJ, hz', Int.toNat_natCast, ansL, h1]; rfl
    exact ⟨by rw [h2, zcC, hz', Int.toNat_natCast, e, Int.toNat_natCast], by rw [h2]; exact mach_cel hm _ (List.mem_of_getElem? (atK_of ht))⟩
theorem lok_any {xs : List C2} (h : xs.length = 6) : lokB xs = xs.any loB := by
  obtain ⟨a, b, c, d, e, f, rfl⟩ := six_of h
  simp [lokB, atC2, loB, List.range, List.range.loop]
theorem cel_six {xs : List C2} (h : cellsB xs = true) : xs.length = 6 := by
  simp only [cellsB, Bool.and_eq_true, decide_eq_true_eq] at h
  exact h.1
theorem okI_setR {k : C6} (hk : clusterB k = true) {r : Nat} (hr : r < k.places.length) (h0 : 0 < (atP k.places r).length) : (List.range (atP k.places r).length).all (okI k r) = setR k r := by
  have key : ∀ j, j < (atP k.places r).length → (atM k.machines (atN (atP k.places r) 0).toNat).alive = true → (atM k.machines (atN (atP k.places r) j).toNat).alive = true → okI k r j = goodJ k r j := fun j hj ha0 haj => by
    obtain ⟨e1, e2⟩ := clu_al hk hr hj haj
    obtain ⟨g1, g2⟩ := clu_al hk hr h0 ha0
    have t1 : tk6 (celJ k r j) = celJ k r j := by simp [tk6, e2]
    have t2 : tk6 (celJ k r 0) = celJ k r 0 := by simp [tk6, g2]
    rw [okI, goodJ, haj, t1, t2, samB_comm, ← lok_any (cel_six e2), e1, g1]
    simp
  rw [Bool.eq_iff_iff, setR, Bool.and_eq_true, List.all_eq_true, List.all_eq_true]
  constructor
  · intro h
    have hal : ∀ j, j < (atP k.places r).length → (atM k.machines (atN (atP k.places r) j).toNat).alive = true := fun j hj => by
      have := h j (List.mem_range.2 hj)
      simp only [okI, Bool.and_eq_true] at this
      exact this.1.1
    refine ⟨by rw [down_no (fun t ht => hal t ht)]; rfl, fun j hj => ?_⟩
    have hj' := List.mem_range.1 hj
    rw [← key j hj' (hal 0 h0) (hal j hj')]
    exact h j hj
  · rintro ⟨hd, h⟩ j hj
    have hj' := List.mem_range.1 hj
    have hal : ∀ j, j < (atP k.places r).length → (atM k.machines (atN (atP k.places r) j).toNat).alive = true := fun j hj => by
      simp only [Bool.not_eq_true', downB, List.any_eq_false] at hd
      have := hd _ (List.mem_of_getElem? (atN_of hj))
      simpa [alB] using this
    rw [key j hj' (hal 0 h0) (hal j hj')]
    exact h j hj
theorem info_Mem : (Tryz.prog.info? 102).map (fun i => (i.zero, i.size, i.bytes)) = some (some (.nilIface), 1, 16) := by kernel_rfl
theorem make_Mem (n : Nat) (hn : n ≤ 1048576) (w : World) : (Instr.makeSlice 115 (.int .i64 (n : Int)) (.int .i64 (n : Int))).run Tryz.prog w = .ok (.slice (some ⟨w.heap.size, 0, none⟩) n n) (w.alloc (.cells (madeCells #[.nilIface] n) 102)) := by
  obtain ⟨i, hi, hzz⟩ := Option.map_eq_some_iff.1 info_Mem
  simp only [Prod.mk.injEq] at hzz
  obtain ⟨hz, hs, hb⟩ := hzz
  have := run_make (P := Tryz.prog) w 115 102 i _ Tryz.underlying115 hi hz .i64 .i64 (n : Int) (n : Int) (by omega) (by omega) (by rw [hb]; omega) (by omega)
  rw [hs] at this
  simpa [Value.cells] using this
def MemAt (w X : World) (b j : Nat) (ms : List M4) : Prop := ∀ t, t < j → ∃ a c, X.cell? ⟨b, t, none⟩ = some (memV (atM ms t) a c) ∧ SlK w w.heap.size a (atM ms t).copies.length (atM ms t).copies
theorem MemAt.below {w X Y : World} {b j B : Nat} {ms : List M4} (h : MemAt w X b j ms) (hb : Below B X Y) (hB : b < B) : MemAt w Y b j ms := fun t ht => by
  obtain ⟨a, c, h1, h2⟩ := h t ht
  exact ⟨a, c, (hb.cell (p := ⟨b, t, none⟩) hB).trans h1, h2⟩
theorem MemAt.set {w X : World} {b j : Nat} {ms : List M4} (h : MemAt w X b j ms) {v : Value} (hv : X.cell? ⟨b, j, none⟩ = some v) {a : Option Addr} {c : Nat} (hs : SlK w w.heap.size a (atM ms j).copies.length (atM ms j).copies) : MemAt w (X.setCell ⟨b, j, none⟩ (memV (atM ms j) a c)) b (j + 1) ms := fun t ht => by
  by_cases e : t = j
  · subst e
    exact ⟨a, c, cell_set_same hv, hs⟩
  · obtain ⟨a', c', h1, h2⟩ := h t (by omega)
    exact ⟨a', c', (cell_set_other e).trans h1, h2⟩
theorem memV_eq (m : M4) (a : Option Addr) (c : Nat) : ∃ T u, memV m a c = .iface T u := by
  cases h : m.alive
  · exact ⟨_, _, by simp only [memV, h]; rfl⟩
  · exact ⟨_, _, by simp only [memV, h]; rfl⟩
set_option maxRecDepth 100000 in
set_option maxHeartbeats 4000000 in
theorem membersOf_any (w : World) (a : Option Addr) (cap : Nat) (ms : List M4) (hn : ms.length ≤ 8) (hs : KMk.RdS w a ms) :
    Calls Tryz.prog 69 #[.slice a ms.length cap] w fun e w' => e = .returned (.slice (some ⟨w.heap.size, 0, none⟩) ms.length ms.length) ∧ MemAt w w' w.heap.size ms.length ms ∧ w.heap.size < w'.heap.size ∧ Below w.heap.size w w' := by
  have hmk := make_Mem ms.length (by omega)
  go_enter Tryz.func69, Tryz.ntmps69
  go_wp2
  go_loopw [11] (fun v wr => ∃ j : Nat, j ≤ ms.length ∧ v = .int .i64 j ∧ Below w.heap.size w wr ∧ w.heap.size < wr.heap.size ∧ Room wr w.heap.size ms.length ∧ MemAt w wr w.heap.size j ms) (fun v _ => ms.length - (intOf v).toNat)
  case atStart => exact ⟨0, Nat.zero_le _, rfl, (Below.refl _ _).alloc (Nat.le_refl _) _, by simp, room_made _ _ _ _, fun t ht => by omega⟩
  case round =>
    obtain ⟨j, hj, rfl, hbl, hsz, hrm, hma⟩ := hrel
    by_cases hlt : j < ms.length
    · rcases hs with hs | ⟨b, off, rfl, hb, h1⟩
      · rw [hs] at hlt; simp at hlt
      obtain ⟨⟨m0, m1, m2, m3, m4, m5⟩, hat, hrd⟩ := h1 j _ (atM_of hlt)
      have e0 : wr.cell? ⟨b, off + j * 4, none⟩ = some (.bool (atM ms j).alive) := (hbl.cell (p := ⟨b, off + j * 4, none⟩) hb).trans (hat 0 _ rfl)
      have e1 : wr.cell? ⟨b, off + j * 4 + 1, none⟩ = some (.slice m0 (atM ms j).copies.length m1) := (hbl.cell (p := ⟨b, off + j * 4 + 1, none⟩) hb).trans (hat 1 _ rfl)
      have e2 : wr.cell? ⟨b, off + j * 4 + 2, none⟩ = some (.slice m2 (atM ms j).log.length m3) := (hbl.cell (p := ⟨b, off + j * 4 + 2, none⟩) hb).trans (hat 2 _ rfl)
      have e3 : wr.cell? ⟨b, off + j * 4 + 3, none⟩ = some (.slice m4 (atM ms j).cleared.length m5) := (hbl.cell (p := ⟨b, off + j * 4 + 3, none⟩) hb).trans (hat 3 _ rfl)
      have jn : (j : Int) < (ms.length : Int) := by omega
      have KH : Hid (Below w.heap.size w wr ∧ w.heap.size < wr.heap.size ∧ Room wr w.heap.size ms.length ∧ MemAt w wr w.heap.size j ms ∧ SlK w w.heap.size m0 (atM ms j).copies.length (atM ms j).copies) := ⟨hbl, hsz, hrm, hma, hrd.k⟩
      obtain ⟨V, hV⟩ : ∃ Y, Y = wr.alloc (.cells #[.bool (atM ms j).alive, .slice m0 (atM ms j).copies.length m1, .slice m2 (atM ms j).log.length m3, .slice m4 (atM ms j).cleared.length m5] 63) := ⟨_, rfl⟩
      have bV : Hid (Below wr.heap.size wr V) := by unfold Hid; rw [hV]; exact (Below.refl _ _).alloc (Nat.le_refl _) _
      have hc := memberOf_any V m0 m1 m2 m3 m4 m5 (atM ms j)
      clear hat hrd h1 hbl hsz hrm hma hmk
      go_wp2_with fail
      rw [← hV]
      clear hV e0 e1 e2 e3
      refine hc.mono ?_
      clear hc
      rintro e w1 ⟨rfl, b1⟩
      have KB : Hid (Below wr.heap.size wr w1) := bstep bV.out b1
      obtain ⟨z, hz, hf⟩ : ∃ v, w1.cell? ⟨w.heap.size, j, none⟩ = some v ∧ w1.frozen? ⟨w.heap.size, j, none⟩ = false := (KH.out.2.2.1.below KB.out KH.out.2.1) j hlt
      have Z := hidOf hz
      obtain ⟨T0, u0, hm0⟩ := memV_eq (atM ms j) m0 m1
      have HM := hidOf hm0
      rw [hm0]
      clear b1 hm0
      go_wp2
      have hma := (KH.out.2.2.2.1.below KB.out KH.out.2.1).set Z.out (c := m1) KH.out.2.2.2.2
      rw [HM.out] at hma
      exact ⟨⟨j + 1, by omega, by simp, ((KH.out.1.trans (KB.out.mono KH.out.1.size)).setCell (p := ⟨w.heap.size, j, none⟩) (Nat.le_refl _) _), by simp [World.setCell]; exact Nat.lt_of_lt_of_le KH.out.2.1 KB.out.size, (KH.out.2.2.1.below KB.out KH.out.2.1).set _, hma⟩, by simp [intOf]; omega⟩
    · obtain rfl : j = ms.length := by omega
      have hd : decide ((ms.length : Int) < (ms.length : Int)) = false := by simp
      have KH : Hid (Below w.heap.size w wr ∧ w.heap.size < wr.heap.size ∧ MemAt w wr w.heap.size ms.length ms) := ⟨hbl, hsz, hma⟩
      clear hbl hsz hrm hma hmk hs
      go_wp2
      go_ret
      exact ⟨rfl, KH.out.2.2, KH.out.2.1, KH.out.1⟩
set_option maxRecDepth 100000 in
set_option maxHeartbeats 4000000 in
theorem placed_any (w0 w : World) (a : Option Addr) (cap q : Nat) (zss : List (List Int)) (ms : List M4) (hl : ∀ m ∈ ms, ML m) (hB : machsB ms = true) (hP : placesB zss = true) (hpl : zss.length ≤ maxLen) (hps : ∀ zs ∈ zss, zs.length ≤ maxLen)
    (h0 : Below w0.heap.size w0 w) (hq : q < w.heap.size) (hm : MemAt w0 w q ms.length ms) (hs : SlP w w.heap.size a zss.length zss) :
    Calls Tryz.prog 68 #[.slice a zss.length cap, .slice (some ⟨q, 0, none⟩) ms.length ms.length] w fun e w' => e = .returned (.bool (placedB zss ms)) ∧ Below w.heap.size w w' := by
  have H : Hid ((∀ m ∈ ms, ML m) ∧ machsB ms = true ∧ (∀ zs ∈ zss, zs.length ≤ maxLen) ∧ MemAt w0 w q ms.length ms ∧ SlP w w.heap.size a zss.length zss ∧ Below w0.heap.size w0 w) := ⟨hl, hB, hps, hm, hs, h0⟩
  have HZ : Hid (∀ r j, r < zss.length → j < (atP zss r).length → 0 ≤ atN (atP zss r) j ∧ atN (atP zss r) j ≤ 7) := fun r j hr hj => places_z hP hr hj
  have HD : Hid (placedB zss ms = (List.range zss.length).all fun r => placB ms r (atP zss r)) := rfl
  unfold maxLen at hpl
  clear hl hB hP hps hm hs h0
  go_enter Tryz.func68, Tryz.ntmps68
  go_wp2
  go_loopw [11] (fun v wr => ∃ r : Nat, r ≤ zss.length ∧ v = .int .i64 r ∧ Below w.heap.size w wr ∧ (List.range r).all (fun r => placB ms r (atP zss r)) = true) (fun v _ => zss.length - (intOf v).toNat)
  case atStart => exact ⟨0, Nat.zero_le _, rfl, Below.refl _ _, rfl⟩
  case round =>
  obtain ⟨r, hr, rfl, hbl, hall⟩ := hrel
  have KC : Hid (Below w.heap.size w wr ∧ (List.range r).all (fun r => placB ms r (atP zss r)) = true) := ⟨hbl, hall⟩
  clear hbl hall
  by_cases hlr : r < zss.length
  case neg =>
    obtain rfl : r = zss.length := by omega
    have hd : decide ((zss.length : Int) < (zss.length : Int)) = false := by simp
    go_wp2
    go_ret
    exact ⟨by rw [HD.out, KC.out.2]; rfl, KC.out.1⟩
  obtain ⟨_, hsp⟩ := H.out.2.2.2.2.1
  rcases hsp with hsp | ⟨b, off, rfl, hb, hpp⟩
  · omega
  obtain ⟨a', cap', hc, hsl, hcp⟩ := hpp r _ (atP_of hlr)
  have c := (KC.out.1.cell (p := ⟨b, off + r, none⟩) hb).trans hc
  have HSL : Hid (SlN w w.heap.size a' (atP zss r).length (atP zss r)) := hsl
  have jr : (r : Int) < (zss.length : Int) := by omega
  have lz := H.out.2.2.1 _ (List.mem_of_getElem? (atP_of hlr))
  unfold maxLen at lz
  have HF : Hid (placB ms r (atP zss r) = false → placedB zss ms = false) := fun hh => by rw [HD.out]; exact all_off (f := fun r => placB ms r (atP zss r)) hlr hh
  have HZr : Hid (∀ j, j < (atP zss r).length → 0 ≤ atN (atP zss r) j ∧ atN (atP zss r) j ≤ 7) := fun j hj => HZ.out r j hlr hj
  have HPL : Hid (placB ms r (atP zss r) = (List.range (atP zss r).length).all fun j => servB ms r (atN (atP zss r) j)) := rfl
  have HON : Hid (placB ms r (atP zss r) = true → (List.range (r + 1)).all (fun r => placB ms r (atP zss r)) = true) := fun hh => all_on (f := fun r => placB ms r (atP zss r)) KC.out.2 hh
  clear hpp hc hsl
  generalize hzs : atP zss r = zs at *
  obtain ⟨V, hV⟩ : ∃ Y, Y = wr.alloc (.cells #[.slice a' zs.length cap'] 65) := ⟨_, rfl⟩
  have KV : Hid (Below w.heap.size w V) := bstep KC.out.1 (by rw [hV]; exact (Below.refl _ _).alloc (Nat.le_refl _) _)
  go_wp2
  rw [← hV]
  clear c jr hzs hV
  generalize wr = wC at *
  generalize V = wD at *
  go_loopw [19] (fun v wr => ∃ j : Nat, j ≤ zs.length ∧ v = .int .i64 j ∧ Below w.heap.size w wr ∧ (List.range j).all (fun j => servB ms r (atN zs j)) = true) (fun v _ => zs.length - (intOf v).toNat)
  case atStart => exact ⟨0, Nat.zero_le _, rfl, KV.out, rfl⟩
  case round =>
  obtain ⟨j, hj, rfl, hbl, hall⟩ := hrel
  have KD : Hid (Below w.heap.size w wr ∧ (List.range j).all (fun j => servB ms r (atN zs j)) = true) := ⟨hbl, hall⟩
  clear hbl hall
  by_cases hlj : j < zs.length
  case neg =>
    obtain rfl : j = zs.length := by omega
    have hd : decide ((zs.length : Int) < (zs.length : Int)) = false := by simp
    have hh := HON.out (by rw [HPL.out]; exact KD.out.2)
    go_wp2
    exact ⟨⟨r + 1, by omega, by simp, KD.out.1, hh⟩, by simp [intOf]; omega⟩
  obtain ⟨_, hsn⟩ := HSL.out
  rcases hsn with hsn | ⟨b', off', rfl, hb', h2⟩
  · omega
  have hz := HZr.out j hlj
  obtain ⟨i, hi⟩ : ∃ i : Nat, atN zs j = (i : Int) := ⟨(atN zs j).toNat, by omega⟩
  have hck := h2 j _ (atN_of hlj)
  rw [hi] at hck
  have xz := (KD.out.1.cell (p := ⟨b', off' + j, none⟩) hb').trans hck
  have jz : (j : Int) < (zs.length : Int) := by omega
  have HB : Hid (servB ms r (atN zs j) = (decide ((i : Int) < (ms.length : Int)) && (!(atM ms i).alive || hasC (atM ms i) (r : Int)))) := by unfold Hid servB; rw [hi]; rfl
  have HFF : Hid (servB ms r (atN zs j) = false → placedB zss ms = false) := fun hh => HF.out (by rw [HPL.out]; exact all_off (f := fun j => servB ms r (atN zs j)) hlj hh)
  clear hck h2 hz hi
  by_cases him : i < ms.length
  case neg =>
    have dz : decide ((ms.length : Int) ≤ (i : Int)) = true := by simp <;> omega
    have dz2 : decide (ms.length ≤ i) = true := by simp <;> omega
    have hb0 : Hid (placedB zss ms = false) := HFF.out (by rw [HB.out]; simp [him])
    go_wp2
    go_ret
    exact ⟨by rw [hb0.out]; rfl, KD.out.1⟩
  have dz : decide ((ms.length : Int) ≤ (i : Int)) = false := by simp <;> omega
  have dz2 : decide (ms.length ≤ i) = false := by simp <;> omega
  have im : (i : Int) < (ms.length : Int) := by omega
  obtain ⟨a2, c2, hmc, hmk⟩ := (H.out.2.2.2.1.below KD.out.1 hq) i him
  have hsv := serves_any wr a2 c2 (atM ms i) (r : Int) (H.out.1 _ (List.mem_of_getElem? (atM_of him))) (by have := H.out.2.1; exact List.all_eq_true.1 this i (List.mem_range.2 him)) (hmk.later (bstep H.out.2.2.2.2.2 KD.out.1))
  obtain ⟨T0, u0, hm0⟩ := memV_eq (atM ms i) a2 c2
  rw [hm0] at hmc hsv
  clear hmk hm0
  cases hh : (!(atM ms i).alive || hasC (atM ms i) (r : Int)) with
  | false =>
    rw [hh] at hsv
    have hb0 : Hid (placedB zss ms = false) := HFF.out (by rw [HB.out, hh]; simp)
    clear hh
    go_wp2_with fail
    refine hsv.mono ?_
    clear hsv
    rintro e w1 ⟨rfl, b1⟩
    have KB : Hid (Below w.heap.size w w1) := bstep KD.out.1 b1
    clear b1
    go_wp2
    go_ret
    exact ⟨by rw [hb0.out]; rfl, KB.out⟩
  | true =>
    rw [hh] at hsv
    have hon : Hid ((List.range (j + 1)).all (fun j => servB ms r (atN zs j)) = true) := all_on (f := fun j => servB ms r (atN zs j)) KD.out.2 (by rw [HB.out, hh]; simp [him])
    clear hh
    go_wp2_with fail
    refine hsv.mono ?_
    clear hsv
    rintro e w1 ⟨rfl, b1⟩
    have KB : Hid (Below w.heap.size w w1) := bstep KD.out.1 b1
    clear b1
    go_wp2
    exact ⟨⟨j + 1, by omega, by simp, KB.out, hon.out⟩, by simp [intOf]; omega⟩
end Go.Proofs.YtphpcgmnljhimaaGreat
namespace Go.Proofs.YtphpcgmnljhimaaGreat
open Go.RowKit
theorem implMachine (w : World) (x : Int) : Calls Tryz.prog 102 #[.int .i64 x] w fun e w' => e = .returned (.bool (inB 0 7 x)) ∧ w' = w := by
  by_cases h0 : 0 ≤ x
  · by_cases h8 : x < 8
    · rw [inB_yes (by omega) (by omega)]
      go_enter Tryz.func102, Tryz.ntmps102
      go_wp2
      go_ret
      exact ⟨rfl, rfl⟩
    · have hd : decide (x < 8) = false := by simp; omega
      have hb : inB 0 7 x = false := by cases h : inB 0 7 x with | false => rfl | true => rw [inB_iff] at h; omega
      rw [hb]
      go_enter Tryz.func102, Tryz.ntmps102
      go_wp2
      go_ret
      exact ⟨rfl, rfl⟩
  · have hd : decide (0 ≤ x) = false := by simp; omega
    have hb : inB 0 7 x = false := by cases h : inB 0 7 x with | false => rfl | true => rw [inB_iff] at h; omega
    rw [hb]
    go_enter Tryz.func102, Tryz.ntmps102
    go_wp2
    go_ret
    exact ⟨rfl, rfl⟩
set_option maxHeartbeats 1000000 in
theorem index_any (w : World) (a : Option Addr) (n cap : Nat) (z : Int) (zs : List Int) (hn : n ≤ maxLen) (hs : SlN w w.heap.size a n zs) :
    Calls Tryz.prog 198 #[.slice a n cap, .int .i64 z] w fun e w' => (∃ i : Int, e = .returned (.int .i64 i) ∧ decide (0 ≤ i) = hasB zs z) ∧ w' = w := by
  unfold maxLen at hn
  obtain ⟨hx, hs⟩ := hs
  go_enter Tryz.func198, Tryz.ntmps198
  go_wp2
  go_loop [8] (fun v => ∃ k : Nat, k ≤ n ∧ v = .int .i64 k ∧ ∀ i, i < k → atN zs i ≠ z) (fun v => n - (intOf v).toNat)
  case atStart => exact ⟨0, Nat.zero_le _, rfl, fun i h => absurd h (by omega)⟩
  case round =>
    obtain ⟨k, hk, rfl, hall⟩ := hrel
    have K : Hid ((∀ i, i < k → atN zs i ≠ z) ∧ zs.length = n) := ⟨hall, hx⟩
    by_cases hlt : k < n
    · rcases hs with hs | ⟨b, off, rfl, hb, h1⟩
      · omega
      · have c := h1 k _ (atN_of (by omega))
        clear h1 hall hx
        by_cases he : atN zs k = z
        · have q : (z == atN zs k) = true := by simp [he]
          have HE : Hid (atN zs k = z) := he
          clear he
          go_wp2
          go_ret
          exact ⟨⟨_, rfl, by rw [has_yes (by rw [K.out.2]; exact hlt) HE.out]; simp⟩, rfl⟩
        · have q : (z == atN zs k) = false := by simp; exact fun h => he h.symm
          have HE : Hid (atN zs k ≠ z) := he
          clear he
          go_wp2
          refine ⟨⟨k + 1, by omega, by simp, fun i hi => ?_⟩, by simp [intOf]; omega⟩
          by_cases e : i = k
          · rw [e]; exact HE.out
          · exact K.out.1 i (by omega)
    · have : k = n := by omega
      subst this
      have hd : decide ((k : Int) < (k : Int)) = false := by simp
      clear hall hx hs
      go_wp2
      go_ret
      exact ⟨⟨_, rfl, by rw [has_no (by rw [K.out.2]; exact K.out.1)]; rfl⟩, rfl⟩
theorem contains_any (w : World) (a : Option Addr) (n cap : Nat) (z : Int) (zs : List Int) (hn : n ≤ maxLen) (hs : SlN w w.heap.size a n zs) :
    Calls Tryz.prog 168 #[.slice a n cap, .int .i64 z] w fun e w' => e = .returned (.bool (hasB zs z)) ∧ w' = w := by
  have hi := index_any w a n cap z zs hn hs
  clear hs
  go_enter Tryz.func168, Tryz.ntmps168
  go_wp2_with fail
  refine hi.mono ?_
  clear hi
  rintro e w1 ⟨⟨i, rfl, hb⟩, rfl⟩
  go_wp2
  go_ret
  exact ⟨rfl, rfl⟩
set_option maxHeartbeats 4000000 in
theorem placeOk_any (w : World) (a : Option Addr) (cap : Nat) (zs : List Int) (hs : SlN w w.heap.size a zs.length zs) (hcp : zs.length ≤ cap) :
    Calls Tryz.prog 120 #[.agg #[.slice a zs.length cap]] w fun e w' => e = .returned (.bool (placeB zs)) ∧ Below w.heap.size w w' := by
  have b0 : Below w.heap.size w (w.alloc (.cells #[.slice a zs.length cap] 65)) := (Below.refl _ _).alloc (Nat.le_refl _) _
  by_cases h3 : zs.length < 1 ∨ 3 < zs.length
  · have hpf : placeB zs = false := by
      rcases h3 with h | h
      · simp [placeB, show ¬ 1 ≤ zs.length by omega]
      · simp [placeB, show ¬ zs.length ≤ 3 by omega]
    rw [hpf]
    rcases h3 with h | h
    · have d3 : decide ((zs.length : Int) < 1) = true := by simp; omega
      go_enter Tryz.func120, Tryz.ntmps120
      go_wp2
      go_ret
      exact ⟨rfl, b0⟩
    · have d3 : decide ((zs.length : Int) < 1) = false := by simp; omega
      have d4 : decide ((3 : Int) < (zs.length : Int)) = true := by simp; omega
      go_enter Tryz.func120, Tryz.ntmps120
      go_wp2
      go_ret
      exact ⟨rfl, b0⟩
  · have d3 : decide ((zs.length : Int) < 1) = false := by simp; omega
    have d4 : decide ((3 : Int) < (zs.length : Int)) = false := by simp; omega
    have HG : Hid (placeB zs = (List.range zs.length).all (goodAt zs)) := by unfold Hid; simp [placeB, show 1 ≤ zs.length by omega, show zs.length ≤ 3 by omega]
    have KS : Hid (SlN w w.heap.size a zs.length zs) := hs
    have KB : Hid (Below w.heap.size w (w.alloc (.cells #[.slice a zs.length cap] 65))) := b0
    clear hs b0
    go_enter Tryz.func120, Tryz.ntmps120
    go_wp2
    go_loopw [18] (fun v18 wr => ∃ k : Nat, k ≤ zs.length ∧ v18 = .int .i64 k ∧ Below (w.heap.size + 1) (w.alloc (.cells #[.slice a zs.length cap] 65)) wr ∧ (List.range k).all (goodAt zs) = true) (fun v18 _ => zs.length - (intOf v18).toNat)
    case atStart => exact ⟨0, Nat.zero_le _, rfl, Below.refl _ _, rfl⟩
    case round =>
      obtain ⟨k, hk, rfl, hbq, hgk⟩ := hrel
      have hbw : Below w.heap.size w wr := KB.out.trans (hbq.mono (by omega))
      by_cases hkl : k < zs.length
      · obtain ⟨_, hsn⟩ := KS.out
        rcases hsn with hsn | ⟨b', off', rfl, hb', h2⟩
        · omega
        · have cp : wr.cell? ⟨w.heap.size, 0, none⟩ = some (.slice (some ⟨b', off', none⟩) zs.length cap) := (hbq.cell (p := ⟨w.heap.size, 0, none⟩) (by simp)).trans (by go_simp)
          have ck := (hbw.cell (p := ⟨b', off' + k, none⟩) hb').trans (h2 k _ (atN_of hkl))
          have hst : SlN wr wr.heap.size (some ⟨b', off', none⟩) k (zs.take k) := ⟨by rw [List.length_take]; omega, .inr ⟨b', off', rfl, Nat.lt_of_lt_of_le hb' hbw.size, fun i z e => by
            rw [List.getElem?_take] at e
            split at e
            · exact (h2.below hbw hb') i z e
            · cases e⟩⟩
          have KQ : Hid (Below (w.heap.size + 1) (w.alloc (.cells #[.slice (some ⟨b', off', none⟩) zs.length cap] 65)) wr ∧ (List.range k).all (goodAt zs) = true ∧ Below w.heap.size w wr) := ⟨hbq, hgk, hbw⟩
          have hkm : k ≤ maxLen := by unfold maxLen; omega
          have cH : Calls Tryz.prog 168 #[.slice (some ⟨b', off', none⟩) k cap, .int .i64 (atN zs k)] wr fun e w'' => e = .returned (.bool (hasB (zs.take k) (atN zs k))) ∧ w'' = wr := contains_any wr _ k cap (atN zs k) (zs.take k) hkm hst
          have cM := implMachine wr (atN zs k)
          have HK : Hid (goodAt zs k = (inB 0 7 (atN zs k) && !hasB (zs.take k) (atN zs k))) := rfl
          have hkc : k ≤ cap := by omega
          clear h2 hbq hgk hst hbw
          generalize atN zs k = z at *
          cases g1 : inB 0 7 z with
          | false =>
            rw [g1] at cM
            have hgf : goodAt zs k = false := by rw [HK.out, g1]; rfl
            go_wp2_with fail
            refine cM.mono ?_
            clear cM cH
            rintro e wr ⟨rfl, rfl⟩
            go_wp2
            go_ret
            exact ⟨by rw [HG.out, all_off hkl hgf]; rfl, KQ.out.2.2⟩
          | true =>
            rw [g1] at cM
            cases g2 : hasB (zs.take k) z with
            | true =>
              rw [g2] at cH
              have hgf : goodAt zs k = false := by rw [HK.out, g1, g2]; rfl
              go_wp2_with fail
              refine cM.mono ?_
              clear cM
              rintro e wr ⟨rfl, rfl⟩
              go_wp2_with fail
              refine cH.mono ?_
              clear cH
              rintro e wr ⟨rfl, rfl⟩
              go_wp2
              go_ret
              exact ⟨by rw [HG.out, all_off hkl hgf]; rfl, KQ.out.2.2⟩
            | false =>
              rw [g2] at cH
              have hgt : goodAt zs k = true := by rw [HK.out, g1, g2]; rfl
              go_wp2_with fail
              refine cM.mono ?_
              clear cM
              rintro e wr ⟨rfl, rfl⟩
              go_wp2_with fail
              refine cH.mono ?_
              clear cH
              rintro e wr ⟨rfl, rfl⟩
              go_wp2
              exact ⟨⟨k + 1, by omega, by simp, KQ.out.1, all_on KQ.out.2.1 hgt⟩, by simp [intOf]; omega⟩
      · have : k = zs.length := by omega
        subst this
        have hd : decide ((zs.length : Int) < (zs.length : Int)) = false := by simp
        go_wp2
        go_ret
        exact ⟨by rw [HG.out, hgk]; rfl, hbw⟩
theorem wrong_any (w : World) (a : Option Addr) (cap : Nat) (zs : List Int) (hs : SlN w w.heap.size a zs.length zs) (hcp : zs.length ≤ cap) :
    Calls Tryz.prog 119 #[.agg #[.slice a zs.length cap]] w fun e w' => e = .returned (.bool (!placeB zs)) ∧ Below w.heap.size w w' := by
  have b0 : Below w.heap.size w (w.alloc (.cells #[.slice a zs.length cap] 65)) := (Below.refl _ _).alloc (Nat.le_refl _) _
  have hc := placeOk_any (w.alloc (.cells #[.slice a zs.length cap] 65)) a cap zs (hs.later b0) hcp
  have B0 : Hid (Below w.heap.size w (w.alloc (.cells #[.slice a zs.length cap] 65))) := b0
  clear hs b0
  generalize placeB zs = V at *
  generalize zs.length = n at *
  go_enter Tryz.func119, Tryz.ntmps119
  go_wp2_with fail
  refine hc.mono ?_
  clear hc
  rintro e w1 ⟨rfl, b1⟩
  go_wp2
  go_ret
  exact ⟨rfl, B0.out.trans (b1.mono (by simp))⟩
set_option maxHeartbeats 2000000 in
theorem indexFunc_any (w : World) (a : Option Addr) (n cap : Nat) (zss : List (List Int)) (hn : n ≤ maxLen) (hs : SlP w w.heap.size a n zss) :
    Calls Tryz.prog 169 #[.slice a n cap, .func (.func 119) #[] #[]] w fun e w' => (∃ i : Int, e = .returned (.int .i64 i) ∧ decide (0 ≤ i) = !((List.range n).all fun i => placeB (atP zss i))) ∧ Below w.heap.size w w' := by
  unfold maxLen at hn
  obtain ⟨hx, hs⟩ := hs
  go_enter Tryz.func169, Tryz.ntmps169
  go_wp2
  go_loopw [8] (fun v wr => ∃ j : Nat, j ≤ n ∧ v = .int .i64 j ∧ Below w.heap.size w wr ∧ (List.range j).all (fun i => placeB (atP zss i)) = true) (fun v _ => n - (intOf v).toNat)
  case atStart => exact ⟨0, Nat.zero_le _, rfl, Below.refl _ _, rfl⟩
  case round =>
    obtain ⟨j, hj, rfl, hbl, hall⟩ := hrel
    by_cases hlt : j < n
    · rcases hs with hs | ⟨b, off, rfl, hb, h1⟩
      · omega
      · obtain ⟨a', cap', hc, hsl, hcp⟩ := h1 j _ (atP_of (by omega))
        have c := (hbl.cell (p := ⟨b, off + j, none⟩) hb).trans hc
        have KA : Hid ((List.range j).all (fun i => placeB (atP zss i)) = true ∧ Below w.heap.size w wr) := ⟨hall, hbl⟩
        have hw := wrong_any wr a' cap' (atP zss j) ((hsl.below hbl).mono hbl.size) hcp
        have HF : Hid (placeB (atP zss j) = false → ((List.range n).all fun i => placeB (atP zss i)) = false) := fun h => all_off hlt h
        have HT : Hid (placeB (atP zss j) = true → ((List.range (j + 1)).all fun i => placeB (atP zss i)) = true) := fun h => all_on hall h
        clear h1 hc hall hsl hbl hcp
        generalize (atP zss j).length = m at *
        cases hp : placeB (atP zss j) with
        | false =>
          rw [hp] at hw
          go_wp2_with fail
          refine hw.mono ?_
          clear hw
          rintro e w1 ⟨rfl, b1⟩
          go_wp2
          go_ret
          exact ⟨⟨_, rfl, by rw [HF.out hp]; simp⟩, KA.out.2.trans (b1.mono KA.out.2.size)⟩
        | true =>
          rw [hp] at hw
          go_wp2_with fail
          refine hw.mono ?_
          clear hw
          rintro e w1 ⟨rfl, b1⟩
          go_wp2
          exact ⟨⟨j + 1, by omega, by simp, KA.out.2.trans (b1.mono KA.out.2.size), HT.out hp⟩, by simp [intOf]; omega⟩
    · have : j = n := by omega
      subst this
      have hd : decide ((j : Int) < (j : Int)) = false := by simp
      clear hs
      go_wp2
      go_ret
      exact ⟨⟨_, rfl, by rw [hall]; rfl⟩, hbl⟩
theorem containsFunc_any (w : World) (a : Option Addr) (n cap : Nat) (zss : List (List Int)) (hn : n ≤ maxLen) (hs : SlP w w.heap.size a n zss) :
    Calls Tryz.prog 121 #[.slice a n cap, .func (.func 119) #[] #[]] w fun e w' => e = .returned (.bool (!((List.range n).all fun i => placeB (atP zss i)))) ∧ Below w.heap.size w w' := by
  have hi := indexFunc_any w a n cap zss hn hs
  clear hs
  generalize (!((List.range n).all fun i => placeB (atP zss i))) = V at *
  go_enter Tryz.func121, Tryz.ntmps121
  go_wp2_with fail
  refine hi.mono ?_
  clear hi
  rintro e w1 ⟨⟨i, rfl, hb⟩, b1⟩
  go_wp2
  go_ret
  exact ⟨rfl, b1⟩
set_option maxHeartbeats 1000000 in
theorem implPlacesOk_any (w : World) (a : Option Addr) (n cap : Nat) (zss : List (List Int)) (hn : n ≤ maxLen) (hs : SlP w w.heap.size a n zss) :
    Calls Tryz.prog 67 #[.slice a n cap] w fun e w' => e = .returned (.bool (placesB zss)) ∧ Below w.heap.size w w' := by
  have hx := hs.1
  have hc := containsFunc_any w a n cap zss hn hs
  unfold maxLen at hn
  by_cases h1 : 1 ≤ n
  · by_cases h6 : n ≤ 6
    · have d1 : (1 : Int) ≤ (n : Int) := by omega
      have d6 : (n : Int) ≤ 6 := by omega
      have hV : placesB zss = ((List.range n).all fun i => placeB (atP zss i)) := by simp [placesB, hx, h1, h6]
      rw [hV]
      generalize ((List.range n).all fun i => placeB (atP zss i)) = V at *
      clear hs hV
      go_enter Tryz.func67, Tryz.ntmps67
      go_wp2_with fail
      refine hc.mono ?_
      clear hc
      rintro e w1 ⟨rfl, b1⟩
      go_wp2
      go_ret
      exact ⟨by simp, b1⟩
    · have d1 : (1 : Int) ≤ (n : Int) := by omega
      have d6 : decide ((n : Int) ≤ 6) = false := by simp; omega
      have hV : placesB zss = false := by simp [placesB, hx, h6]
      rw [hV]
      clear hs hV hc
      go_enter Tryz.func67, Tryz.ntmps67
      go_wp2
      go_ret
      exact ⟨rfl, Below.refl _ _⟩
  · obtain rfl : n = 0 := by omega
    have hV : placesB zss = false := by simp [placesB, hx]
    rw [hV]
    clear hs hV hc
    go_enter Tryz.func67, Tryz.ntmps67
    go_wp2
    go_ret
    exact ⟨rfl, Below.refl _ _⟩
end Go.Proofs.YtphpcgmnljhimaaGreat
namespace Go.Proofs.YtphpcgmnljhimaaGreat
open Go.RowKit
open Go.Sort (grow)
set_option maxHeartbeats 1000000 in
theorem isConfig_any (w : World) (x : Int) : Calls Tryz.prog 64 #[.int .i64 x] w fun e w' => e = .returned (.bool (inB 1 1000000 x)) ∧ w' = w := by
  have hc := tx.implId w x
  go_enter Tryz.func64, Tryz.ntmps64
  go_wp2_with fail
  refine hc.mono ?_
  clear hc
  rintro e w1 ⟨rfl, rfl⟩
  go_wp2
  go_ret
  exact ⟨rfl, rfl⟩
theorem clusterB_eq (k : C6) : clusterB k = (inB 1 1000000 k.config && (inB 0 1000000 k.clock && ((decide (1 ≤ k.machines.length) && decide (k.machines.length ≤ 8) && machsB k.machines) && (placesB k.places && (placedB k.places k.machines && (decide (k.txs.length ≤ 60) && txsB k)))))) := by
  unfold clusterB
  ac_rfl
set_option maxRecDepth 100000 in
set_option maxHeartbeats 4000000 in
theorem implClusterOk_any (w : World) (a1 : Option Addr) (c1 : Nat) (a2 : Option Addr) (c2 : Nat) (a3 : Option Addr) (c3 : Nat) (k : C6) (hl : KCl.L k) (h : KCl.Rd w a1 c1 a2 c2 a3 c3 k) : Calls Tryz.prog 37 #[.agg #[.int .i64 k.config, .int .i64 k.clock, .slice a1 k.places.length c1, .slice a2 k.machines.length c2, .slice a3 k.txs.length c3, .bool k.lost]] w fun e w' => e = .returned (.bool (clusterB k)) ∧ Below w.heap.size w w' := by
  obtain ⟨U, hU⟩ : ∃ Y, Y = w.alloc (.cells #[.int .i64 k.config, .int .i64 k.clock, .slice a1 k.places.length c1, .slice a2 k.machines.length c2, .slice a3 k.txs.length c3, .bool k.lost] 33) := ⟨_, rfl⟩
  have b0 : Below w.heap.size w U := by rw [hU]; exact (Below.refl _ _).alloc (Nat.le_refl _) _
  have FA : Hid (Bx U w.heap.size [.int .i64 k.config, .int .i64 k.clock, .slice a1 k.places.length c1, .slice a2 k.machines.length c2, .slice a3 k.txs.length c3, .bool k.lost]) := by unfold Hid; rw [hU]; exact Bx.made w [.int .i64 k.config, .int .i64 k.clock, .slice a1 k.places.length c1, .slice a2 k.machines.length c2, .slice a3 k.txs.length c3, .bool k.lost] _
  have HR : Hid (KCl.Rd U a1 c1 a2 c2 a3 c3 k ∧ KCl.L k ∧ Below w.heap.size w U) := ⟨h.later b0, hl, b0⟩
  have HC : Hid (clusterB k = (inB 1 1000000 k.config && (inB 0 1000000 k.clock && ((decide (1 ≤ k.machines.length) && decide (k.machines.length ≤ 8) && machsB k.machines) && (placesB k.places && (placedB k.places k.machines && (decide (k.txs.length ≤ 60) && txsB k))))))) := clusterB_eq k
  have hc := isConfig_any U k.config
  clear b0 h hl
  go_enter Tryz.func37, Tryz.ntmps37
  go_wp2_with fail
  rw [← hU]
  clear hU
  refine hc.mono ?_
  clear hc
  rintro e w1 ⟨rfl, rfl⟩
  generalize w1 = U at *
  cases g1 : inB 1 1000000 k.config with
  | false =>
    have hb : Hid (clusterB k = false) := by unfold Hid; rw [HC.out, g1]; rfl
    go_wp2
    go_ret
    exact ⟨by rw [hb.out]; rfl, HR.out.2.2⟩
  | true =>
  have p1 := FA.out.1 1 _ rfl
  have hc := tx.implStamp U k.clock
  go_wp2_with fail
  refine hc.mono ?_
  clear hc p1
  rintro e w1 ⟨rfl, rfl⟩
  generalize w1 = U at *
  cases g2 : inB 0 1000000 k.clock with
  | false =>
    have hb : Hid (clusterB k = false) := by unfold Hid; rw [HC.out, g2]; simp
    go_wp2
    go_ret
    exact ⟨by rw [hb.out]; rfl, HR.out.2.2⟩
  | true =>
  have p3 := FA.out.1 3 _ rfl
  have hc := machinesOk_any U a2 c2 k.machines HR.out.2.1.m HR.out.2.1.ms HR.out.1.m
  go_wp2_with fail
  refine hc.mono ?_
  clear hc p3
  rintro e w1 ⟨rfl, b1⟩
  have B1 := hidOf b1
  clear b1
  cases g3 : (decide (1 ≤ k.machines.length) && decide (k.machines.length ≤ 8) && machsB k.machines) with
  | false =>
    have hb : Hid (clusterB k = false) := by unfold Hid; rw [HC.out, g3]; simp
    go_wp2
    go_ret
    exact ⟨by rw [hb.out]; rfl, bstep HR.out.2.2 B1.out⟩
  | true =>
  have p2 := (FA.out.later B1.out).1 2 _ rfl
  have hc := implPlacesOk_any w1 a1 k.places.length c1 k.places HR.out.2.1.p (HR.out.1.p.later B1.out)
  go_wp2_with fail
  refine hc.mono ?_
  clear hc p2
  rintro e w2 ⟨rfl, b2⟩
  have B2 : Hid (Below U.heap.size U w2) := bstep B1.out b2
  clear b2 B1
  generalize w1 = wA at *
  cases g4 : placesB k.places with
  | false =>
    have hb : Hid (clusterB k = false) := by unfold Hid; rw [HC.out, g4]; simp
    go_wp2
    go_ret
    exact ⟨by rw [hb.out]; rfl, bstep HR.out.2.2 B2.out⟩
  | true =>
  have HC2 : Hid (clusterB k = (placedB k.places k.machines && (decide (k.txs.length ≤ 60) && txsB k))) := by unfold Hid; rw [HC.out, g1, g2, g3, g4]; rfl
  have HG : Hid (k.machines.length ≤ 8 ∧ machsB k.machines = true ∧ placesB k.places = true) := by
    simp only [Bool.and_eq_true, decide_eq_true_eq] at g3
    exact ⟨g3.1.2, g3.2, g4⟩
  clear g1 g2 g3 g4 HC
  have SF : Hid (∀ X, Below U.heap.size U X → (fun X : World => Bx X w.heap.size [.int .i64 k.config, .int .i64 k.clock, .slice a1 k.places.length c1, .slice a2 k.machines.length c2, .slice a3 k.txs.length c3, .bool k.lost]) X) := fun X hX => FA.out.later hX
  go_wp2_with fail
  have bd : Below U.heap.size U w2.drew := B2.out.drew
  have hS := SF.out _ bd
  refine wp_region_z (fun z => z == 10) (fun X : World => Bx X w.heap.size [.int .i64 k.config, .int .i64 k.clock, .slice a1 k.places.length c1, .slice a2 k.machines.length c2, .slice a3 k.txs.length c3, .bool k.lost]) (by kernel_rfl) ?_
  generalize w2.drew = Wd at *
  refine wpZ_takeP (i := 0) (v := ?_) rfl (by kernel_rfl) (fun _ _ _ h => h) (Or.inl ⟨by rfl, ?_⟩) hS ?_
  rotate_left
  · (intro X _; go_simp; first | done | with_reducible rfl)
  simp only [Act.put]
  refine wpZ_take (i := 1) (v := ?_) rfl (by kernel_rfl) (fun _ _ _ h => h) (Or.inl ⟨by rfl, ?_⟩) hS ?_
  rotate_left
  · (intro X hSw; have c0 := hSw.1 0 _ rfl; have c1 := hSw.1 1 _ rfl; have c2 := hSw.1 2 _ rfl; have c3 := hSw.1 3 _ rfl; have c4 := hSw.1 4 _ rfl; have c5 := hSw.1 5 _ rfl; go_simp; first | done | with_reducible rfl)
  simp only [Act.put]
  refine wpZ_takeP (i := 2) (v := ?_) rfl (by kernel_rfl) (fun _ _ _ h => h) (Or.inl ⟨by rfl, ?_⟩) hS ?_
  rotate_left
  · (intro X _; go_simp; first | done | with_reducible rfl)
  simp only [Act.put]
  refine wpZ_take (i := 3) (v := ?_) rfl (by kernel_rfl) (fun _ _ _ h => h) (Or.inl ⟨by rfl, ?_⟩) hS ?_
  rotate_left
  · (intro X hSw; have c0 := hSw.1 0 _ rfl; have c1 := hSw.1 1 _ rfl; have c2 := hSw.1 2 _ rfl; have c3 := hSw.1 3 _ rfl; have c4 := hSw.1 4 _ rfl; have c5 := hSw.1 5 _ rfl; go_simp; first | done | with_reducible rfl)
  simp only [Act.put]
  refine wpZ_ready (rs := [4]) (by kernel_rfl) (by simp) ?_
  refine AllZ.cons rfl (fun K hK => ?_) AllZ.nil
  go_simp
  refine (membersOf_any Wd a2 c2 k.machines HG.out.1 (HR.out.1.m.later bd)).mono ?_
  rintro e X1 ⟨rfl, hma, hsz, b1⟩
  have bX := bstep bd b1
  refine hK.out _ _ (fun _ => SF.out _ bX) ?_
  clear hK K
  have hS := SF.out _ bX
  refine wpZ_ready (rs := [5]) (by kernel_rfl) (by simp) ?_
  refine AllZ.cons rfl (fun K hK => ?_) AllZ.nil
  go_simp
  refine (placed_any Wd X1 a1 c1 Wd.heap.size k.places k.machines HR.out.2.1.ms HG.out.2.1 HG.out.2.2 HR.out.2.1.p HR.out.2.1.ps b1 hsz hma (HR.out.1.p.later bX)).mono ?_
  rintro e X2 ⟨rfl, b2⟩
  have bY := bstep bX b2
  refine hK.out _ _ (fun _ => SF.out _ bY) ?_
  clear hK K
  have hS := SF.out _ bY
  cases g5 : placedB k.places k.machines with
  | false =>
    have hb : Hid (clusterB k = false) := by unfold Hid; rw [HC2.out, g5]; rfl
    refine wpZ_takeP (i := 6) (v := ?_) rfl (by kernel_rfl) (fun _ _ _ h => h) (Or.inl ⟨by rfl, ?_⟩) hS ?_
    rotate_left
    · (intro X _; go_simp; first | done | with_reducible rfl)
    simp only [Act.put]
    refine wpZ_takeP (i := 7) (v := undef) rfl (by kernel_rfl) (fun _ _ _ h => h) (Or.inr ⟨by rfl, rfl⟩) hS ?_
    simp only [Act.put]
    refine wpZ_takeP (i := 8) (v := undef) rfl (by kernel_rfl) (fun _ _ _ h => h) (Or.inr ⟨by rfl, rfl⟩) hS ?_
    simp only [Act.put]
    refine wpZ_takeP (i := 9) (v := ?_) rfl (by kernel_rfl) (fun _ _ _ h => h) (Or.inl ⟨by rfl, ?_⟩) hS ?_
    rotate_left
    · (intro X _; go_simp; first | done | with_reducible rfl)
    simp only [Act.put]
    refine wpZ_ready (rs := [10]) (by kernel_rfl) (by simp) ?_
    refine AllZ.cons rfl (fun K hK => ?_) AllZ.nil
    go_simp
    refine hK.out _ _ (fun h => absurd (show false = true from h.symm.trans (by kernel_rfl)) (by decide)) ?_
    clear hK K
    refine wpZ_done (by kernel_rfl) ?_ _
    go_wp2
    go_ret
    exact ⟨by rw [hb.out]; rfl, bstep HR.out.2.2 bY⟩
  | true =>
    have hb : Hid (clusterB k = (decide (k.txs.length ≤ 60) && txsB k)) := by unfold Hid; rw [HC2.out, g5]; rfl
    refine wpZ_takeP (i := 6) (v := ?_) rfl (by kernel_rfl) (fun _ _ _ h => h) (Or.inl ⟨by rfl, ?_⟩) hS ?_
    rotate_left
    · (intro X _; go_simp; first | done | with_reducible rfl)
    simp only [Act.put]
    refine wpZ_take (i := 7) (v := ?_) rfl (by kernel_rfl) (fun _ _ _ h => h) (Or.inl ⟨by rfl, ?_⟩) hS ?_
    rotate_left
    · (intro X hSw; have c0 := hSw.1 0 _ rfl; have c1 := hSw.1 1 _ rfl; have c2 := hSw.1 2 _ rfl; have c3 := hSw.1 3 _ rfl; have c4 := hSw.1 4 _ rfl; have c5 := hSw.1 5 _ rfl; go_simp; first | done | with_reducible rfl)
    simp only [Act.put]
    refine wpZ_ready (rs := [8]) (by kernel_rfl) (by simp) ?_
    refine AllZ.cons rfl (fun K hK => ?_) AllZ.nil
    go_simp
    refine (txsFit_any X2 a1 c1 a2 c2 a3 c3 k HR.out.2.1 (HR.out.1.later bY)).mono ?_
    rintro e X3 ⟨rfl, b3⟩
    have bZ := bstep bY b3
    refine hK.out _ _ (fun _ => SF.out _ bZ) ?_
    clear hK K
    have hS := SF.out _ bZ
    refine wpZ_takeP (i := 9) (v := ?_) rfl (by kernel_rfl) (fun _ _ _ h => h) (Or.inl ⟨by rfl, ?_⟩) hS ?_
    rotate_left
    · (intro X _; go_simp; first | done | with_reducible rfl)
    simp only [Act.put]
    refine wpZ_ready (rs := [10]) (by kernel_rfl) (by simp) ?_
    refine AllZ.cons rfl (fun K hK => ?_) AllZ.nil
    go_simp
    refine hK.out _ _ (fun h => absurd (show false = true from h.symm.trans (by kernel_rfl)) (by decide)) ?_
    clear hK K
    refine wpZ_done (by kernel_rfl) ?_ _
    go_wp2
    go_ret
    exact ⟨by rw [hb.out]; rfl, bstep HR.out.2.2 bZ⟩
def Fst (W1 wx : World) (s6 s7 : Value) (xs : List C2) : Prop :=
  ∃ q : Nat, s6 = .pointer (some ⟨q, 0, none⟩) ∧ (∃ ok : Bool, s7 = .bool ok) ∧ W1.heap.size ≤ q ∧ Bx wx q ((tk6 xs).flatMap C2.cells) ∧ Below W1.heap.size W1 wx
theorem SlC.later' {w w' : World} {a : Option Addr} {n : Nat} {xs : List C2} (h : SlC w w.heap.size a n xs) (hb : Below w.heap.size w w') : SlC w' w'.heap.size a n xs := h.later hb
set_option maxRecDepth 100000 in
set_option maxHeartbeats 16000000 in
theorem placesSettled_any (w : World) (a1 : Option Addr) (c1 : Nat) (a2 : Option Addr) (c2 : Nat) (a3 : Option Addr) (c3 : Nat) (k : C6) (hk : clusterB k = true) (hl : KCl.L k) (h : KCl.Rd w a1 c1 a2 c2 a3 c3 k) :
    Calls Tryz.prog 39 #[.agg #[.int .i64 k.config, .int .i64 k.clock, .slice a1 k.places.length c1, .slice a2 k.machines.length c2, .slice a3 k.txs.length c3, .bool k.lost]] w fun e w' => e = .returned (.bool ((List.range k.places.length).all (setR k))) ∧ Below w.heap.size w w' := by
  obtain ⟨U, hU⟩ : ∃ Y, Y = w.alloc (.cells #[.int .i64 k.config, .int .i64 k.clock, .slice a1 k.places.length c1, .slice a2 k.machines.length c2, .slice a3 k.txs.length c3, .bool k.lost] 33) := ⟨_, rfl⟩
  have BU : Hid (Below w.heap.size w U) := by unfold Hid; rw [hU]; exact (Below.refl _ _).alloc (Nat.le_refl _) _
  have FA : Hid (Bx U w.heap.size [.int .i64 k.config, .int .i64 k.clock, .slice a1 k.places.length c1, .slice a2 k.machines.length c2, .slice a3 k.txs.length c3, .bool k.lost]) := by unfold Hid; rw [hU]; exact Bx.made w [.int .i64 k.config, .int .i64 k.clock, .slice a1 k.places.length c1, .slice a2 k.machines.length c2, .slice a3 k.txs.length c3, .bool k.lost] _
  have HR : Hid (KCl.Rd U a1 c1 a2 c2 a3 c3 k ∧ KCl.L k) := ⟨h.later BU.out, hl⟩
  have HK := hidOf hk
  have HSZ : Hid (k.machines.length ≤ 8 ∧ k.places.length ≤ 6 ∧ 0 < k.machines.length) := ⟨(CSm.of hk).m, (CSm.of hk).p, by
    simp only [clusterB, Bool.and_eq_true, decide_eq_true_eq] at hk
    omega⟩
  have m8 := HSZ.out.1
  have m6 := HSZ.out.2.1
  rcases HR.out.1.m with hs | ⟨mb, mo, rfl, hmb, hmrd⟩
  · have := HSZ.out.2.2; rw [hs] at this; simp at this
  have HMR := hidOf hmrd
  have HMX := hidOf hmb
  have q2 := FA.out.1 2 _ rfl
  rw [hU] at q2
  clear h hl hk hmrd hmb
  go_enter Tryz.func39, Tryz.ntmps39
  go_wp2
  go_step3
  go_wp2
  go_step3
  go_wp2
  rw [← hU]
  clear hU q2
  go_loopw [3, 16] (fun s v wr => s = .bool true ∧ ∃ r : Nat, r ≤ k.places.length ∧ v = .int .i64 r ∧ Below U.heap.size U wr ∧ ∀ i, i < r → setR k i = true) (fun _ v _ => k.places.length - (intOf v).toNat)
  case atStart => exact ⟨rfl, 0, Nat.zero_le _, rfl, Below.refl _ _, fun i hi => absurd hi (by omega)⟩
  case round =>
    obtain ⟨rfl, r, hr, rfl, hbl, hall⟩ := hrel
    have KD : Hid (Below U.heap.size U wr ∧ ∀ i, i < r → setR k i = true) := ⟨hbl, hall⟩
    clear hbl hall
    by_cases hrl : r < k.places.length
    · obtain ⟨_, hsp⟩ := HR.out.1.p
      rcases hsp with hsp | ⟨pb, po, rfl, hpb, hpl⟩
      · omega
      obtain ⟨a', cap', hc, hsl, hcp⟩ := hpl r _ (atP_of hrl)
      have hlen := (CSm.of HK.out).ps _ (List.mem_of_getElem? (atP_of hrl))
      obtain ⟨_, hsn⟩ := hsl
      rcases hsn with hsn | ⟨b, off, rfl, hb, hns⟩
      · omega
      have e1 : wr.cell? ⟨pb, po + r, none⟩ = some (.slice (some ⟨b, off, none⟩) (atP k.places r).length cap') := (KD.out.1.cell (p := ⟨pb, po + r, none⟩) hpb).trans hc
      have HNS : Hid (NumsAt U b off (atP k.places r) ∧ b < U.heap.size) := ⟨hns, hb⟩
      have HLE : Hid (0 < (atP k.places r).length ∧ (atP k.places r).length ≤ 3) := hlen
      have jr : (r : Int) < (k.places.length : Int) := by omega
      obtain ⟨W1, hW1⟩ : ∃ Y, Y = wr.alloc (.cells #[.slice (some ⟨b, off, none⟩) (atP k.places r).length cap'] 65) := ⟨_, rfl⟩
      have bW1 : Below wr.heap.size wr W1 := by rw [hW1]; exact (Below.refl _ _).alloc (Nat.le_refl _) _
      have XP : Hid (Bx W1 wr.heap.size [.slice (some ⟨b, off, none⟩) (atP k.places r).length cap']) := by unfold Hid; rw [hW1]; exact Bx.made wr [.slice (some ⟨b, off, none⟩) (atP k.places r).length cap'] _
      have KW1 : Hid (Below U.heap.size U W1) := bstep KD.out.1 bW1
      have hz := clu_z HK.out hrl (j := 0) HLE.out.1
      obtain ⟨i, hi⟩ : ∃ i : Nat, atN (atP k.places r) 0 = (i : Int) := ⟨_, (Int.toNat_of_nonneg hz.1).symm⟩
      have him : i < k.machines.length := by omega
      obtain ⟨⟨m0, m1, m2, m3, m4, m5⟩, hmel, hmr⟩ := HMR.out i _ (atM_of him)
      have g0 : U.cell? ⟨mb, mo + i * 4, none⟩ = some (.bool (atM k.machines i).alive) := hmel 0 _ rfl
      have g1 : U.cell? ⟨mb, mo + i * 4 + 1, none⟩ = some (.slice m0 (atM k.machines i).copies.length m1) := hmel 1 _ rfl
      have g2 : U.cell? ⟨mb, mo + i * 4 + 2, none⟩ = some (.slice m2 (atM k.machines i).log.length m3) := hmel 2 _ rfl
      have g3 : U.cell? ⟨mb, mo + i * 4 + 3, none⟩ = some (.slice m4 (atM k.machines i).cleared.length m5) := hmel 3 _ rfl
      have HMA : Hid (ML (atM k.machines i) ∧ SlM U ⟨m0, m1, m2, m3, m4, m5⟩ (atM k.machines i)) := ⟨HR.out.2.ms _ (List.mem_of_getElem? (atM_of him)), hmr⟩
      have hck : U.cell? ⟨b, off, none⟩ = some (.int .i64 (i : Int)) := by have := HNS.out.1 0 _ (atN_of HLE.out.1); rw [hi, Nat.add_zero] at this; exact this
      have im : (i : Int) < (k.machines.length : Int) := by omega
      have zl : (0 : Int) < ((atP k.places r).length : Int) := by have := HLE.out.1; omega
      have z0n : 0 < (atP k.places r).length := HLE.out.1
      have HCJ : Hid (ansL (atM k.machines i) (r : Int) = celJ k r 0) := by unfold Hid celJ; rw [hi]; rfl
      have hmz : machB (atM k.machines i) = true := by
        have hk' := HK.out
        simp only [clusterB, Bool.and_eq_true] at hk'
        exact List.all_eq_true.1 hk'.1.1.2 i (List.mem_range.2 him)
      have HLM : Hid ((celJ k r 0).length ≤ maxLen) := by have := ansL_le hmz (r : Int); unfold Hid maxLen; rw [← HCJ.out]; omega
      obtain ⟨u0, u1, u2, u3, u4, u5, hu6⟩ := six_of (tk6_len (celJ k r 0))
      have HU6 : Hid (arr6 (tk6 (celJ k r 0)) = #[.int .i64 u0.head, .int .i64 u0.value, .int .i64 u1.head, .int .i64 u1.value, .int .i64 u2.head, .int .i64 u2.value, .int .i64 u3.head, .int .i64 u3.value, .int .i64 u4.head, .int .i64 u4.value, .int .i64 u5.head, .int .i64 u5.value]) := by unfold Hid; rw [hu6]; rfl
      have HUX : Hid (tk6 (celJ k r 0) = [u0, u1, u2, u3, u4, u5]) := hu6
      have q2 := (FA.out.later KD.out.1).1 2 _ rfl
      clear hc hpl hpb hcp hns hb hlen hmel hmr bW1 hi hz hmz him
      generalize hzz : (atP k.places r).length = nz at *
      have HZZ := hidOf hzz
      clear hzz
      go_upto_region 5 with fail
      rw [← hW1]
      clear hW1 e1 q2
      go_cut [6, 7] from 21 to 34 (fun s6 s7 wx => Fst W1 wx s6 s7 (celJ k r 0))
      case first =>
        have HCO : Hid (∀ X, Below W1.heap.size W1 X → Calls Tryz.prog 73 #[.agg #[.bool (atM k.machines i).alive, .slice m0 (atM k.machines i).copies.length m1, .slice m2 (atM k.machines i).log.length m3, .slice m4 (atM k.machines i).cleared.length m5], .int .i64 (r : Int)] X fun e w' => ∃ (a : Option Addr) (cp : Nat), e = .returned (.slice a (celJ k r 0).length cp) ∧ OwnCl w' X.heap.size a (celJ k r 0) ∧ Below X.heap.size X w') := fun X hX => by
          have := cellsOf_any X m0 m1 m2 m3 m4 m5 (atM k.machines i) (r : Int) HMA.out.1 (HMA.out.2.later (bstep KW1.out hX))
          unfold CofAns at this
          rw [HCJ.out] at this
          exact this
        have bXD : Below W1.heap.size W1 W1.drew := (Below.refl _ _).drew
        have hS : (fun X : World => Below W1.heap.size W1 X) W1.drew := bXD
        refine wp_region_z (fun z => z == 15) (fun X : World => Below W1.heap.size W1 X) (by kernel_rfl) ?_
        generalize W1.drew = XD at *
        refine wpZ_take (i := 0) (v := ?_) rfl (by kernel_rfl) (fun _ _ _ h => h) (Or.inl ⟨by rfl, ?_⟩) hS ?_
        rotate_left
        · (intro X hSw; go_simp; first | done | with_reducible rfl | rfl | (rw [if_pos (by omega)]))
        simp only [Act.put]
        refine wpZ_take (i := 1) (v := ?_) rfl (by kernel_rfl) (fun _ _ _ h => h) (Or.inl ⟨by rfl, ?_⟩) hS ?_
        rotate_left
        · (intro X hSw; have q := (FA.out.later (bstep KW1.out hSw)).1 3 _ rfl; go_simp; first | done | with_reducible rfl | rfl | (rw [if_pos (by omega)]))
        simp only [Act.put]
        refine wpZ_take (i := 2) (v := ?_) rfl (by kernel_rfl) (fun _ _ _ h => h) (Or.inl ⟨by rfl, ?_⟩) hS ?_
        rotate_left
        · (intro X hSw; go_simp; first | done | with_reducible rfl | rfl | (rw [if_pos (by omega)]))
        simp only [Act.put]
        refine wpZ_take (i := 3) (v := ?_) rfl (by kernel_rfl) (fun _ _ _ h => h) (Or.inl ⟨by rfl, ?_⟩) hS ?_
        rotate_left
        · (intro X hSw; have q := (XP.out.later hSw).1 0 _ rfl; go_simp; first | done | with_reducible rfl | rfl | (rw [if_pos (by omega)]))
        simp only [Act.put]
        refine wpZ_take (i := 4) (v := ?_) rfl (by kernel_rfl) (fun _ _ _ h => h) (Or.inl ⟨by rfl, ?_⟩) hS ?_
        rotate_left
        · (intro X hSw; go_simp; first | done | with_reducible rfl | rfl | (rw [if_pos (by omega)]))
        simp only [Act.put]
        refine wpZ_take (i := 5) (v := ?_) rfl (by kernel_rfl) (fun _ _ _ h => h) (Or.inl ⟨by rfl, ?_⟩) hS ?_
        rotate_left
        · (intro X hSw; have q := ((bstep KW1.out hSw).cell (p := ⟨b, off, none⟩) HNS.out.2).trans hck; go_simp; first | done | with_reducible rfl | rfl | (rw [if_pos (by omega)]))
        simp only [Act.put]
        refine wpZ_take (i := 6) (v := ?_) rfl (by kernel_rfl) (fun _ _ _ h => h) (Or.inl ⟨by rfl, ?_⟩) hS ?_
        rotate_left
        · (intro X hSw; go_simp; first | done | with_reducible rfl | rfl | (rw [if_pos (by omega)]))
        simp only [Act.put]
        refine wpZ_take (i := 7) (v := ?_) rfl (by kernel_rfl) (fun _ _ _ h => h) (Or.inl ⟨by rfl, ?_⟩) hS ?_
        rotate_left
        · (intro X hSw; have q0 := ((bstep KW1.out hSw).cell (p := ⟨mb, mo + i * 4, none⟩) HMX.out).trans g0; have q1 := ((bstep KW1.out hSw).cell (p := ⟨mb, mo + i * 4 + 1, none⟩) HMX.out).trans g1; have q2 := ((bstep KW1.out hSw).cell (p := ⟨mb, mo + i * 4 + 2, none⟩) HMX.out).trans g2; have q3 := ((bstep KW1.out hSw).cell (p := ⟨mb, mo + i * 4 + 3, none⟩) HMX.out).trans g3; go_simp; first | done | with_reducible rfl | rfl | (rw [if_pos (by omega)]))
        simp only [Act.put]
        refine wpZ_take (i := 8) (v := ?_) rfl (by kernel_rfl) (fun _ _ _ h => h) (Or.inl ⟨by rfl, ?_⟩) hS ?_
        rotate_left
        · (intro X hSw; go_simp; first | done | with_reducible rfl | rfl | (rw [if_pos (by omega)]))
        simp only [Act.put]
        refine wpZ_ready (rs := [9, 14]) (by kernel_rfl) (by simp) ?_
        refine AllZ.cons rfl (fun K hK => ?_) (AllZ.cons rfl (fun K hK => ?_) AllZ.nil)
        · go_simp
          refine (HCO.out XD bXD).mono ?_
          rintro e C0 ⟨ca, cq, rfl, ho, bC0'⟩
          have bC0 : Below W1.heap.size W1 C0 := bstep bXD bC0'
          have ho := ho.sl
          refine hK.out _ _ (fun _ => bC0) ?_
          clear hK K
          have hS : (fun X : World => Below W1.heap.size W1 X) C0 := bC0
          refine wpZ_ready (rs := [10, 14]) (by kernel_rfl) (by simp) ?_
          refine AllZ.cons rfl (fun K hK => ?_) (AllZ.cons rfl (fun K hK => ?_) AllZ.nil)
          · go_simp
            refine (takeCells_any C0 ca (celJ k r 0).length cq (celJ k r 0) HLM.out ho).mono ?_
            rintro e C1 ⟨rfl, bC1'⟩
            rw [HU6.out]
            have bC1 : Below W1.heap.size W1 C1 := bstep bC0 bC1'
            refine hK.out _ _ (fun _ => bC1) ?_
            clear hK K
            have hS : (fun X : World => Below W1.heap.size W1 X) C1 := bC1
            refine wpZ_takeP (i := 11) (v := ?_) rfl (by kernel_rfl) (fun _ _ _ h => h) (Or.inl ⟨by rfl, ?_⟩) hS ?_
            rotate_left
            · (intro X _; go_simp; first | done | with_reducible rfl | rfl)
            simp only [Act.put]
            refine wpZ_takeP (i := 12) (v := ?_) rfl (by kernel_rfl) (fun _ _ _ h => h) (Or.inl ⟨by rfl, ?_⟩) hS ?_
            rotate_left
            · (intro X _; go_simp; first | done | with_reducible rfl | rfl)
            simp only [Act.put]
            refine wpZ_takeP (i := 13) (v := ?_) rfl (by kernel_rfl) (fun _ _ _ h => h) (Or.inl ⟨by rfl, ?_⟩) hS ?_
            rotate_left
            · (intro X _; go_simp; first | done | with_reducible rfl | rfl)
            simp only [Act.put]
            refine wpZ_ready (rs := [14]) (by kernel_rfl) (by simp) ?_
            refine AllZ.cons rfl (fun K hK => ?_) AllZ.nil
            go_simp
            obtain ⟨A2, hA2⟩ : ∃ X, X = C1.alloc (.cells #[.int .i64 0, .int .i64 0, .int .i64 0, .int .i64 0, .int .i64 0, .int .i64 0, .int .i64 0, .int .i64 0, .int .i64 0, .int .i64 0, .int .i64 0, .int .i64 0] 119) := ⟨_, rfl⟩
            rw [← hA2]
            have bA2' : Below C1.heap.size C1 A2 := by rw [hA2]; exact (Below.refl _ _).alloc (Nat.le_refl _) _
            have bA2 : Below W1.heap.size W1 A2 := bstep bC1 bA2'
            have zA2 : Bx A2 C1.heap.size [.int .i64 0, .int .i64 0, .int .i64 0, .int .i64 0, .int .i64 0, .int .i64 0, .int .i64 0, .int .i64 0, .int .i64 0, .int .i64 0, .int .i64 0, .int .i64 0] := by rw [hA2]; exact Bx.made C1 [.int .i64 0, .int .i64 0, .int .i64 0, .int .i64 0, .int .i64 0, .int .i64 0, .int .i64 0, .int .i64 0, .int .i64 0, .int .i64 0, .int .i64 0, .int .i64 0] _
            have lA2 : W1.heap.size ≤ C1.heap.size := bC1.size
            refine hK.out _ _ (fun _ => bA2) ?_
            clear hK K
            have hS : (fun X : World => Below W1.heap.size W1 X) A2 := bA2
            clear hA2
            have y0 := zA2.1 0 _ rfl
            have f0 := zA2.2.1 0
            have y1 := zA2.1 1 _ rfl
            have f1 := zA2.2.1 1
            have y2 := zA2.1 2 _ rfl
            have f2 := zA2.2.1 2
            have y3 := zA2.1 3 _ rfl
            have f3 := zA2.2.1 3
            have y4 := zA2.1 4 _ rfl
            have f4 := zA2.2.1 4
            have y5 := zA2.1 5 _ rfl
            have f5 := zA2.2.1 5
            have y6 := zA2.1 6 _ rfl
            have f6 := zA2.2.1 6
            have y7 := zA2.1 7 _ rfl
            have f7 := zA2.2.1 7
            have y8 := zA2.1 8 _ rfl
            have f8 := zA2.2.1 8
            have y9 := zA2.1 9 _ rfl
            have f9 := zA2.2.1 9
            have y10 := zA2.1 10 _ rfl
            have f10 := zA2.2.1 10
            have y11 := zA2.1 11 _ rfl
            have f11 := zA2.2.1 11
            have KE : Hid (Fst W1 (putB A2 C1.heap.size 0 [.int .i64 u0.head, .int .i64 u0.value, .int .i64 u1.head, .int .i64 u1.value, .int .i64 u2.head, .int .i64 u2.value, .int .i64 u3.head, .int .i64 u3.value, .int .i64 u4.head, .int .i64 u4.value, .int .i64 u5.head, .int .i64 u5.value]) (.pointer (some ⟨C1.heap.size, 0, none⟩)) (.bool (cellsB (celJ k r 0))) (celJ k r 0)) := ⟨C1.heap.size, rfl, ⟨_, rfl⟩, lA2, by rw [hu6]; exact zA2.put [.int .i64 u0.head, .int .i64 u0.value, .int .i64 u1.head, .int .i64 u1.value, .int .i64 u2.head, .int .i64 u2.value, .int .i64 u3.head, .int .i64 u3.value, .int .i64 u4.head, .int .i64 u4.value, .int .i64 u5.head, .int .i64 u5.value] rfl, putB_below lA2 _ _ _ bA2⟩
            refine wpZ_ready (rs := [15]) (by kernel_rfl) (by simp) ?_
            refine AllZ.cons rfl (fun K hK => ?_) AllZ.nil
            go_simp
            refine hK.out _ _ (fun h => absurd (show false = true from h.symm.trans (by kernel_rfl)) (by decide)) ?_
            clear hK K
            refine wpZ_ready (rs := [16]) (by kernel_rfl) (by simp) ?_
            refine AllZ.cons rfl (fun K hK => ?_) AllZ.nil
            go_simp
            refine hK.out _ _ (fun h => absurd (show false = true from h.symm.trans (by kernel_rfl)) (by decide)) ?_
            clear hK K
            refine wpZ_done (by kernel_rfl) ?_ _
            go_wp2_with fail
            go_meet
            exact KE.out
          · go_simp
            obtain ⟨A1, hA1⟩ : ∃ X, X = C0.alloc (.cells #[.int .i64 0, .int .i64 0, .int .i64 0, .int .i64 0, .int .i64 0, .int .i64 0, .int .i64 0, .int .i64 0, .int .i64 0, .int .i64 0, .int .i64 0, .int .i64 0] 119) := ⟨_, rfl⟩
            rw [← hA1]
            have bA1' : Below C0.heap.size C0 A1 := by rw [hA1]; exact (Below.refl _ _).alloc (Nat.le_refl _) _
            have bA1 : Below W1.heap.size W1 A1 := bstep bC0 bA1'
            have zA1 : Bx A1 C0.heap.size [.int .i64 0, .int .i64 0, .int .i64 0, .int .i64 0, .int .i64 0, .int .i64 0, .int .i64 0, .int .i64 0, .int .i64 0, .int .i64 0, .int .i64 0, .int .i64 0] := by rw [hA1]; exact Bx.made C0 [.int .i64 0, .int .i64 0, .int .i64 0, .int .i64 0, .int .i64 0, .int .i64 0, .int .i64 0, .int .i64 0, .int .i64 0, .int .i64 0, .int .i64 0, .int .i64 0] _
            have lA1 : W1.heap.size ≤ C0.heap.size := bC0.size
            refine hK.out _ _ (fun _ => bA1) ?_
            clear hK K
            have hS : (fun X : World => Below W1.heap.size W1 X) A1 := bA1
            clear hA1
            have ho := ho.later' bA1'
            refine wpZ_ready (rs := [10]) (by kernel_rfl) (by simp) ?_
            refine AllZ.cons rfl (fun K hK => ?_) AllZ.nil
            go_simp
            refine (takeCells_any A1 ca (celJ k r 0).length cq (celJ k r 0) HLM.out ho).mono ?_
            rintro e C2 ⟨rfl, bC2'⟩
            rw [HU6.out]
            have bC2 : Below W1.heap.size W1 C2 := bstep bA1 bC2'
            have yC2 := zA1.later bC2'
            refine hK.out _ _ (fun _ => bC2) ?_
            clear hK K
            have hS : (fun X : World => Below W1.heap.size W1 X) C2 := bC2
            refine wpZ_takeP (i := 11) (v := ?_) rfl (by kernel_rfl) (fun _ _ _ h => h) (Or.inl ⟨by rfl, ?_⟩) hS ?_
            rotate_left
            · (intro X _; go_simp; first | done | with_reducible rfl | rfl)
            simp only [Act.put]
            refine wpZ_takeP (i := 12) (v := ?_) rfl (by kernel_rfl) (fun _ _ _ h => h) (Or.inl ⟨by rfl, ?_⟩) hS ?_
            rotate_left
            · (intro X _; go_simp; first | done | with_reducible rfl | rfl)
            simp only [Act.put]
            refine wpZ_takeP (i := 13) (v := ?_) rfl (by kernel_rfl) (fun _ _ _ h => h) (Or.inl ⟨by rfl, ?_⟩) hS ?_
            rotate_left
            · (intro X _; go_simp; first | done | with_reducible rfl | rfl)
            simp only [Act.put]
            have y0 := yC2.1 0 _ rfl
            have f0 := yC2.2.1 0
            have y1 := yC2.1 1 _ rfl
            have f1 := yC2.2.1 1
            have y2 := yC2.1 2 _ rfl
            have f2 := yC2.2.1 2
            have y3 := yC2.1 3 _ rfl
            have f3 := yC2.2.1 3
            have y4 := yC2.1 4 _ rfl
            have f4 := yC2.2.1 4
            have y5 := yC2.1 5 _ rfl
            have f5 := yC2.2.1 5
            have y6 := yC2.1 6 _ rfl
            have f6 := yC2.2.1 6
            have y7 := yC2.1 7 _ rfl
            have f7 := yC2.2.1 7
            have y8 := yC2.1 8 _ rfl
            have f8 := yC2.2.1 8
            have y9 := yC2.1 9 _ rfl
            have f9 := yC2.2.1 9
            have y10 := yC2.1 10 _ rfl
            have f10 := yC2.2.1 10
            have y11 := yC2.1 11 _ rfl
            have f11 := yC2.2.1 11
            have KE : Hid (Fst W1 (putB C2 C0.heap.size 0 [.int .i64 u0.head, .int .i64 u0.value, .int .i64 u1.head, .int .i64 u1.value, .int .i64 u2.head, .int .i64 u2.value, .int .i64 u3.head, .int .i64 u3.value, .int .i64 u4.head, .int .i64 u4.value, .int .i64 u5.head, .int .i64 u5.value]) (.pointer (some ⟨C0.heap.size, 0, none⟩)) (.bool (cellsB (celJ k r 0))) (celJ k r 0)) := ⟨C0.heap.size, rfl, ⟨_, rfl⟩, lA1, by rw [hu6]; exact yC2.put [.int .i64 u0.head, .int .i64 u0.value, .int .i64 u1.head, .int .i64 u1.value, .int .i64 u2.head, .int .i64 u2.value, .int .i64 u3.head, .int .i64 u3.value, .int .i64 u4.head, .int .i64 u4.value, .int .i64 u5.head, .int .i64 u5.value] rfl, putB_below lA1 _ _ _ bC2⟩
            refine wpZ_ready (rs := [15]) (by kernel_rfl) (by simp) ?_
            refine AllZ.cons rfl (fun K hK => ?_) AllZ.nil
            go_simp
            refine hK.out _ _ (fun h => absurd (show false = true from h.symm.trans (by kernel_rfl)) (by decide)) ?_
            clear hK K
            refine wpZ_ready (rs := [16]) (by kernel_rfl) (by simp) ?_
            refine AllZ.cons rfl (fun K hK => ?_) AllZ.nil
            go_simp
            refine hK.out _ _ (fun h => absurd (show false = true from h.symm.trans (by kernel_rfl)) (by decide)) ?_
            clear hK K
            refine wpZ_done (by kernel_rfl) ?_ _
            go_wp2_with fail
            go_meet
            exact KE.out
        · go_simp
          obtain ⟨A0, hA0⟩ : ∃ X, X = XD.alloc (.cells #[.int .i64 0, .int .i64 0, .int .i64 0, .int .i64 0, .int .i64 0, .int .i64 0, .int .i64 0, .int .i64 0, .int .i64 0, .int .i64 0, .int .i64 0, .int .i64 0] 119) := ⟨_, rfl⟩
          rw [← hA0]
          have bA0' : Below XD.heap.size XD A0 := by rw [hA0]; exact (Below.refl _ _).alloc (Nat.le_refl _) _
          have bA0 : Below W1.heap.size W1 A0 := bstep bXD bA0'
          have zA0 : Bx A0 XD.heap.size [.int .i64 0, .int .i64 0, .int .i64 0, .int .i64 0, .int .i64 0, .int .i64 0, .int .i64 0, .int .i64 0, .int .i64 0, .int .i64 0, .int .i64 0, .int .i64 0] := by rw [hA0]; exact Bx.made XD [.int .i64 0, .int .i64 0, .int .i64 0, .int .i64 0, .int .i64 0, .int .i64 0, .int .i64 0, .int .i64 0, .int .i64 0, .int .i64 0, .int .i64 0, .int .i64 0] _
          have lA0 : W1.heap.size ≤ XD.heap.size := bXD.size
          refine hK.out _ _ (fun _ => bA0) ?_
          clear hK K
          have hS : (fun X : World => Below W1.heap.size W1 X) A0 := bA0
          clear hA0
          refine wpZ_ready (rs := [9]) (by kernel_rfl) (by simp) ?_
          refine AllZ.cons rfl (fun K hK => ?_) AllZ.nil
          go_simp
          refine (HCO.out A0 bA0).mono ?_
          rintro e C1 ⟨ca, cq, rfl, ho, bC1'⟩
          have bC1 : Below W1.heap.size W1 C1 := bstep bA0 bC1'
          have ho := ho.sl
          have yC1 := zA0.later bC1'
          refine hK.out _ _ (fun _ => bC1) ?_
          clear hK K
          have hS : (fun X : World => Below W1.heap.size W1 X) C1 := bC1
          refine wpZ_ready (rs := [10]) (by kernel_rfl) (by simp) ?_
          refine AllZ.cons rfl (fun K hK => ?_) AllZ.nil
          go_simp
          refine (takeCells_any C1 ca (celJ k r 0).length cq (celJ k r 0) HLM.out ho).mono ?_
          rintro e C2 ⟨rfl, bC2'⟩
          rw [HU6.out]
          have bC2 : Below W1.heap.size W1 C2 := bstep bC1 bC2'
          have yC2 := yC1.later bC2'
          refine hK.out _ _ (fun _ => bC2) ?_
          clear hK K
          have hS : (fun X : World => Below W1.heap.size W1 X) C2 := bC2
          refine wpZ_takeP (i := 11) (v := ?_) rfl (by kernel_rfl) (fun _ _ _ h => h) (Or.inl ⟨by rfl, ?_⟩) hS ?_
          rotate_left
          · (intro X _; go_simp; first | done | with_reducible rfl | rfl)
          simp only [Act.put]
          refine wpZ_takeP (i := 12) (v := ?_) rfl (by kernel_rfl) (fun _ _ _ h => h) (Or.inl ⟨by rfl, ?_⟩) hS ?_
          rotate_left
          · (intro X _; go_simp; first | done | with_reducible rfl | rfl)
          simp only [Act.put]
          refine wpZ_takeP (i := 13) (v := ?_) rfl (by kernel_rfl) (fun _ _ _ h => h) (Or.inl ⟨by rfl, ?_⟩) hS ?_
          rotate_left
          · (intro X _; go_simp; first | done | with_reducible rfl | rfl)
          simp only [Act.put]
          have y0 := yC2.1 0 _ rfl
          have f0 := yC2.2.1 0
          have y1 := yC2.1 1 _ rfl
          have f1 := yC2.2.1 1
          have y2 := yC2.1 2 _ rfl
          have f2 := yC2.2.1 2
          have y3 := yC2.1 3 _ rfl
          have f3 := yC2.2.1 3
          have y4 := yC2.1 4 _ rfl
          have f4 := yC2.2.1 4
          have y5 := yC2.1 5 _ rfl
          have f5 := yC2.2.1 5
          have y6 := yC2.1 6 _ rfl
          have f6 := yC2.2.1 6
          have y7 := yC2.1 7 _ rfl
          have f7 := yC2.2.1 7
          have y8 := yC2.1 8 _ rfl
          have f8 := yC2.2.1 8
          have y9 := yC2.1 9 _ rfl
          have f9 := yC2.2.1 9
          have y10 := yC2.1 10 _ rfl
          have f10 := yC2.2.1 10
          have y11 := yC2.1 11 _ rfl
          have f11 := yC2.2.1 11
          have KE : Hid (Fst W1 (putB C2 XD.heap.size 0 [.int .i64 u0.head, .int .i64 u0.value, .int .i64 u1.head, .int .i64 u1.value, .int .i64 u2.head, .int .i64 u2.value, .int .i64 u3.head, .int .i64 u3.value, .int .i64 u4.head, .int .i64 u4.value, .int .i64 u5.head, .int .i64 u5.value]) (.pointer (some ⟨XD.heap.size, 0, none⟩)) (.bool (cellsB (celJ k r 0))) (celJ k r 0)) := ⟨XD.heap.size, rfl, ⟨_, rfl⟩, lA0, by rw [hu6]; exact yC2.put [.int .i64 u0.head, .int .i64 u0.value, .int .i64 u1.head, .int .i64 u1.value, .int .i64 u2.head, .int .i64 u2.value, .int .i64 u3.head, .int .i64 u3.value, .int .i64 u4.head, .int .i64 u4.value, .int .i64 u5.head, .int .i64 u5.value] rfl, putB_below lA0 _ _ _ bC2⟩
          refine wpZ_ready (rs := [15]) (by kernel_rfl) (by simp) ?_
          refine AllZ.cons rfl (fun K hK => ?_) AllZ.nil
          go_simp
          refine hK.out _ _ (fun h => absurd (show false = true from h.symm.trans (by kernel_rfl)) (by decide)) ?_
          clear hK K
          refine wpZ_ready (rs := [16]) (by kernel_rfl) (by simp) ?_
          refine AllZ.cons rfl (fun K hK => ?_) AllZ.nil
          go_simp
          refine hK.out _ _ (fun h => absurd (show false = true from h.symm.trans (by kernel_rfl)) (by decide)) ?_
          clear hK K
          refine wpZ_done (by kernel_rfl) ?_ _
          go_wp2_with fail
          go_meet
          exact KE.out
      case rest =>
        obtain ⟨qf, rfl, ⟨ok, rfl⟩, hqf, hbx, hbc⟩ := hcut
        have XF : Hid (Bx wc qf [.int .i64 u0.head, .int .i64 u0.value, .int .i64 u1.head, .int .i64 u1.value, .int .i64 u2.head, .int .i64 u2.value, .int .i64 u3.head, .int .i64 u3.value, .int .i64 u4.head, .int .i64 u4.value, .int .i64 u5.head, .int .i64 u5.value]) := by unfold Hid; rw [HUX.out] at hbx; exact hbx
        have KC : Hid (Below W1.heap.size W1 wc) := hbc
        have KUC : Hid (Below U.heap.size U wc) := bstep KW1.out hbc
        have xp := (XP.out.later hbc).1 0 _ rfl
        clear hbx hbc hqf g0 g1 g2 g3 hck HMA HCJ HLM im zl z0n
        generalize wr = WO at *
        go_wp2
        clear xp
        go_loopw [3, 38] (fun s v wr => s = .bool true ∧ ∃ q : Nat, q ≤ nz ∧ v = .int .i64 q ∧ Below wc.heap.size wc wr ∧ ∀ i, i < q → okI k r i = true) (fun _ v _ => nz - (intOf v).toNat)
        case atStart => exact ⟨rfl, 0, Nat.zero_le _, rfl, Below.refl _ _, fun i hi => absurd hi (by omega)⟩
        case round =>
          obtain ⟨rfl, q, hq, rfl, hbl, hall⟩ := hrel
          have KQ : Hid (Below wc.heap.size wc wr ∧ ∀ i, i < q → okI k r i = true) := ⟨hbl, hall⟩
          have KUQ : Hid (Below U.heap.size U wr) := bstep KUC.out hbl
          clear hbl hall
          have hnz := HLE.out.2
          by_cases hql : q < nz
          · have hqz : q < (atP k.places r).length := by rw [HZZ.out]; exact hql
            have hz := clu_z HK.out hrl (j := q) hqz
            obtain ⟨i, hi⟩ : ∃ i : Nat, atN (atP k.places r) q = (i : Int) := ⟨_, (Int.toNat_of_nonneg hz.1).symm⟩
            have him : i < k.machines.length := by omega
            obtain ⟨⟨m0, m1, m2, m3, m4, m5⟩, hmel, hmr⟩ := HMR.out i _ (atM_of him)
            have G0 : Hid (U.cell? ⟨mb, mo + i * 4, none⟩ = some (.bool (atM k.machines i).alive)) := hmel 0 _ rfl
            have g0 : wr.cell? ⟨mb, mo + i * 4, none⟩ = some (.bool (atM k.machines i).alive) := (KUQ.out.cell (p := ⟨mb, mo + i * 4, none⟩) HMX.out).trans G0.out
            have g1 : wr.cell? ⟨mb, mo + i * 4 + 1, none⟩ = some (.slice m0 (atM k.machines i).copies.length m1) := (KUQ.out.cell (p := ⟨mb, mo + i * 4 + 1, none⟩) HMX.out).trans (hmel 1 _ rfl)
            have g2 : wr.cell? ⟨mb, mo + i * 4 + 2, none⟩ = some (.slice m2 (atM k.machines i).log.length m3) := (KUQ.out.cell (p := ⟨mb, mo + i * 4 + 2, none⟩) HMX.out).trans (hmel 2 _ rfl)
            have g3 : wr.cell? ⟨mb, mo + i * 4 + 3, none⟩ = some (.slice m4 (atM k.machines i).cleared.length m5) := (KUQ.out.cell (p := ⟨mb, mo + i * 4 + 3, none⟩) HMX.out).trans (hmel 3 _ rfl)
            have hCO := cellsOf_any wr m0 m1 m2 m3 m4 m5 (atM k.machines i) (r : Int) (HR.out.2.ms _ (List.mem_of_getElem? (atM_of him))) (SlM.later hmr KUQ.out)
            have hck : wr.cell? ⟨b, off + q, none⟩ = some (.int .i64 (i : Int)) := by have := HNS.out.1 q _ (atN_of hqz); rw [hi] at this; exact (KUQ.out.cell (p := ⟨b, off + q, none⟩) HNS.out.2).trans this
            have im : (i : Int) < (k.machines.length : Int) := by omega
            have jq : (q : Int) < (nz : Int) := by omega
            have hcj : ansL (atM k.machines i) (r : Int) = celJ k r q := by unfold celJ; rw [hi]; rfl
            have HAL : Hid ((atM k.machines (atN (atP k.places r) q).toNat).alive = (atM k.machines i).alive) := by unfold Hid; rw [hi]; rfl
            have hmz : machB (atM k.machines i) = true := by
              have hk' := HK.out
              simp only [clusterB, Bool.and_eq_true] at hk'
              exact List.all_eq_true.1 hk'.1.1.2 i (List.mem_range.2 him)
            have HLM : Hid ((celJ k r q).length ≤ maxLen) := by have := ansL_le hmz (r : Int); unfold Hid maxLen; rw [← hcj]; omega
            have HQZ := hidOf hqz
            unfold CofAns at hCO
            rw [hcj] at hCO
            obtain ⟨v0, v1, v2, v3, v4, v5, hv6⟩ := six_of (tk6_len (celJ k r q))
            have HV6 : Hid (arr6 (tk6 (celJ k r q)) = #[.int .i64 v0.head, .int .i64 v0.value, .int .i64 v1.head, .int .i64 v1.value, .int .i64 v2.head, .int .i64 v2.value, .int .i64 v3.head, .int .i64 v3.value, .int .i64 v4.head, .int .i64 v4.value, .int .i64 v5.head, .int .i64 v5.value]) := by unfold Hid; rw [hv6]; rfl
            have hEq : ∀ w : World, (Op.equalIn 10000 119 (.agg #[.int .i64 v0.head, .int .i64 v0.value, .int .i64 v1.head, .int .i64 v1.value, .int .i64 v2.head, .int .i64 v2.value, .int .i64 v3.head, .int .i64 v3.value, .int .i64 v4.head, .int .i64 v4.value, .int .i64 v5.head, .int .i64 v5.value]) (.agg #[.int .i64 u0.head, .int .i64 u0.value, .int .i64 u1.head, .int .i64 u1.value, .int .i64 u2.head, .int .i64 u2.value, .int .i64 u3.head, .int .i64 u3.value, .int .i64 u4.head, .int .i64 u4.value, .int .i64 u5.head, .int .i64 u5.value])).run Tryz.prog w = .ok (samB (tk6 (celJ k r q)) (tk6 (celJ k r 0))) w := fun w => by
              have := eqArr_run (tk6 (celJ k r q)) (tk6 (celJ k r 0)) (tk6_len _) (tk6_len _) w
              rw [HV6.out, HU6.out] at this
              exact this
            have HEQ := hidOf hEq
            have p3 := (FA.out.later KUQ.out).1 3 _ rfl
            clear hmel hmr hi hz hcj hmz hqz hEq hv6 him
            go_wp2_with fail
            refine hCO.mono ?_
            clear hCO hck p3 g0 g1 g2 g3
            rintro e X1 ⟨ca, cq, rfl, ho, b1⟩
            have HO : Hid (OwnCl X1 wr.heap.size ca (celJ k r q) ∧ Below wc.heap.size wc X1) := ⟨ho, bstep KQ.out.1 b1⟩
            clear b1 ho
            go_wp2_with fail
            refine (takeCells_any X1 ca (celJ k r q).length cq (celJ k r q) HLM.out HO.out.1.sl).mono ?_
            rintro e X2 ⟨rfl, b2⟩
            rw [HV6.out]
            have B2 : Hid (Below X1.heap.size X1 X2) := b2
            obtain ⟨X3, hX3⟩ : ∃ Y, Y = X2.alloc (.cells #[.int .i64 v0.head, .int .i64 v0.value, .int .i64 v1.head, .int .i64 v1.value, .int .i64 v2.head, .int .i64 v2.value, .int .i64 v3.head, .int .i64 v3.value, .int .i64 v4.head, .int .i64 v4.value, .int .i64 v5.head, .int .i64 v5.value] 119) := ⟨_, rfl⟩
            have b3 : Below X2.heap.size X2 X3 := by rw [hX3]; exact (Below.refl _ _).alloc (Nat.le_refl _) _
            have XV : Hid (Bx X3 X2.heap.size [.int .i64 v0.head, .int .i64 v0.value, .int .i64 v1.head, .int .i64 v1.value, .int .i64 v2.head, .int .i64 v2.value, .int .i64 v3.head, .int .i64 v3.value, .int .i64 v4.head, .int .i64 v4.value, .int .i64 v5.head, .int .i64 v5.value]) := by unfold Hid; rw [hX3]; exact Bx.made X2 [.int .i64 v0.head, .int .i64 v0.value, .int .i64 v1.head, .int .i64 v1.value, .int .i64 v2.head, .int .i64 v2.value, .int .i64 v3.head, .int .i64 v3.value, .int .i64 v4.head, .int .i64 v4.value, .int .i64 v5.head, .int .i64 v5.value] _
            have K3 : Hid (Below wc.heap.size wc X3 ∧ Below X1.heap.size X1 X3) := ⟨bstep (bstep HO.out.2 b2) b3, bstep b2 b3⟩
            clear b2 b3
            go_upto_region 11 with fail
            rw [← hX3]
            clear hX3
            have p3 := (FA.out.later (bstep KUC.out K3.out.1)).1 3 _ rfl
            have g0 : X3.cell? ⟨mb, mo + i * 4, none⟩ = some (.bool (atM k.machines i).alive) := ((bstep KUC.out K3.out.1).cell (p := ⟨mb, mo + i * 4, none⟩) HMX.out).trans G0.out
            generalize X2.heap.size = sv at *
            cases hal : (atM k.machines i).alive with
            | false =>
              have HV : Hid ((List.range k.places.length).all (setR k) = false) := all_not hrl (by
                rw [← okI_setR HK.out hrl (by rw [HZZ.out]; exact HLE.out.1)]
                exact all_not HQZ.out (by unfold okI; rw [HAL.out, hal]; rfl))
              rw [hal] at g0
              clear hal
              go_wp2
              rw [Exit.noGoto_ret]
              go_ret
              exact ⟨by rw [HV.out]; rfl, bstep BU.out (bstep KUC.out K3.out.1)⟩
            | true =>
              rw [hal] at g0
              have HA1 : Hid ((atM k.machines (atN (atP k.places r) q).toNat).alive = true) := HAL.out.trans hal
              clear hal
              have hEq := HEQ.out
              have hGd := eqArr_guard
              have x0 := (XF.out.later K3.out.1).1 0 _ rfl
              have y0 := XV.out.1 0 _ rfl
              have x1 := (XF.out.later K3.out.1).1 1 _ rfl
              have y1 := XV.out.1 1 _ rfl
              have x2 := (XF.out.later K3.out.1).1 2 _ rfl
              have y2 := XV.out.1 2 _ rfl
              have x3 := (XF.out.later K3.out.1).1 3 _ rfl
              have y3 := XV.out.1 3 _ rfl
              have x4 := (XF.out.later K3.out.1).1 4 _ rfl
              have y4 := XV.out.1 4 _ rfl
              have x5 := (XF.out.later K3.out.1).1 5 _ rfl
              have y5 := XV.out.1 5 _ rfl
              have x6 := (XF.out.later K3.out.1).1 6 _ rfl
              have y6 := XV.out.1 6 _ rfl
              have x7 := (XF.out.later K3.out.1).1 7 _ rfl
              have y7 := XV.out.1 7 _ rfl
              have x8 := (XF.out.later K3.out.1).1 8 _ rfl
              have y8 := XV.out.1 8 _ rfl
              have x9 := (XF.out.later K3.out.1).1 9 _ rfl
              have y9 := XV.out.1 9 _ rfl
              have x10 := (XF.out.later K3.out.1).1 10 _ rfl
              have y10 := XV.out.1 10 _ rfl
              have x11 := (XF.out.later K3.out.1).1 11 _ rfl
              have y11 := XV.out.1 11 _ rfl
              cases hsm : samB (tk6 (celJ k r q)) (tk6 (celJ k r 0)) with
              | false =>
                have HV : Hid ((List.range k.places.length).all (setR k) = false) := all_not hrl (by
                  rw [← okI_setR HK.out hrl (by rw [HZZ.out]; exact HLE.out.1)]
                  exact all_not HQZ.out (by unfold okI; rw [hsm]; simp))
                rw [hsm] at hEq
                clear hsm
                go_wp2
                rw [Exit.noGoto_ret]
                go_ret
                exact ⟨by rw [HV.out]; rfl, bstep BU.out (bstep KUC.out K3.out.1)⟩
              | true =>
                have HSM := hidOf hsm
                rw [hsm] at hEq
                have h6 := cel_six (clu_al HK.out hrl HQZ.out HA1.out).2
                obtain ⟨ho, -⟩ := HO.out
                rcases ho with ho | ⟨qc, rfl, hqc, hqs, hca, -⟩
                · rw [ho] at h6; simp at h6
                have hop := isOpen_any X3 qc 0 cq (celJ k r q) h6 (hca.below K3.out.2 hqs) (Nat.lt_of_lt_of_le hqs K3.out.2.size)
                rw [h6]
                clear hsm hca
                go_wp2_with fail
                refine hop.mono ?_
                clear hop hEq p3 g0 x0 y0 x1 y1 x2 y2 x3 y3 x4 y4 x5 y5 x6 y6 x7 y7 x8 y8 x9 y9 x10 y10 x11 y11
                rintro e X4 ⟨rfl, b4⟩
                have K4 : Hid (Below wc.heap.size wc X4) := bstep K3.out.1 b4
                clear b4
                cases hlo : (celJ k r q).any loB with
                | true =>
                  have HV : Hid ((List.range k.places.length).all (setR k) = false) := all_not hrl (by
                    rw [← okI_setR HK.out hrl (by rw [HZZ.out]; exact HLE.out.1)]
                    exact all_not HQZ.out (by unfold okI; rw [hlo]; simp))
                  clear hlo
                  go_wp2
                  rw [Exit.noGoto_ret]
                  go_ret
                  exact ⟨by rw [HV.out]; rfl, bstep BU.out (bstep KUC.out K4.out)⟩
                | false =>
                  have HY : Hid (∀ i, i < q + 1 → okI k r i = true) := fun i hi => by
                    by_cases e : i = q
                    · rw [e]; unfold okI; rw [HA1.out, HSM.out, hlo]; rfl
                    · exact KQ.out.2 i (by omega)
                  clear hlo
                  go_wp2
                  exact ⟨⟨rfl, q + 1, by omega, by simp, K4.out, HY.out⟩, by simp [intOf]; omega⟩
          · obtain rfl : q = nz := by omega
            have hd : decide ((q : Int) < (q : Int)) = false := by simp
            have HSR : Hid (setR k r = true) := by
              unfold Hid
              rw [← okI_setR HK.out hrl (by rw [HZZ.out]; exact HLE.out.1), HZZ.out]
              exact all_lt KQ.out.2
            have HA : Hid (∀ i, i < r + 1 → setR k i = true) := fun i hi => by
              by_cases e : i = r
              · rw [e]; exact HSR.out
              · exact KD.out.2 i (by omega)
            go_wp2
            exact ⟨⟨rfl, r + 1, by omega, by simp, KUQ.out, HA.out⟩, by simp [intOf]; omega⟩
    · obtain rfl : r = k.places.length := by omega
      have hd : decide ((k.places.length : Int) < (k.places.length : Int)) = false := by simp
      have HV : Hid ((List.range k.places.length).all (setR k) = true) := all_lt KD.out.2
      go_wp2
      rw [Exit.noGoto_ret]
      go_ret
      exact ⟨by rw [HV.out]; rfl, bstep BU.out KD.out.1⟩
set_option maxRecDepth 100000 in
set_option maxHeartbeats 4000000 in
theorem implSettled_any (w : World) (a1 : Option Addr) (c1 : Nat) (a2 : Option Addr) (c2 : Nat) (a3 : Option Addr) (c3 : Nat) (k : C6) (hl : KCl.L k) (h : KCl.Rd w a1 c1 a2 c2 a3 c3 k) :
    Calls Tryz.prog 11 #[.agg #[.int .i64 k.config, .int .i64 k.clock, .slice a1 k.places.length c1, .slice a2 k.machines.length c2, .slice a3 k.txs.length c3, .bool k.lost]] w fun e w' => e = .returned (.bool (setB k)) ∧ Below w.heap.size w w' := by
  obtain ⟨U, hU⟩ : ∃ Y, Y = w.alloc (.cells #[.int .i64 k.config, .int .i64 k.clock, .slice a1 k.places.length c1, .slice a2 k.machines.length c2, .slice a3 k.txs.length c3, .bool k.lost] 33) := ⟨_, rfl⟩
  have BU : Hid (Below w.heap.size w U) := by unfold Hid; rw [hU]; exact (Below.refl _ _).alloc (Nat.le_refl _) _
  have FA : Hid (Bx U w.heap.size [.int .i64 k.config, .int .i64 k.clock, .slice a1 k.places.length c1, .slice a2 k.machines.length c2, .slice a3 k.txs.length c3, .bool k.lost]) := by unfold Hid; rw [hU]; exact Bx.made w [.int .i64 k.config, .int .i64 k.clock, .slice a1 k.places.length c1, .slice a2 k.machines.length c2, .slice a3 k.txs.length c3, .bool k.lost] _
  have HR : Hid (KCl.Rd U a1 c1 a2 c2 a3 c3 k ∧ KCl.L k) := ⟨h.later BU.out, hl⟩
  have hc := implClusterOk_any U a1 c1 a2 c2 a3 c3 k hl HR.out.1
  clear h hl
  go_enter Tryz.func11, Tryz.ntmps11
  go_wp2_with fail
  rw [← hU]
  clear hU
  refine hc.mono ?_
  clear hc
  rintro e W1 ⟨rfl, b1⟩
  have B1 : Hid (Below U.heap.size U W1) := b1
  clear b1
  cases hk : clusterB k with
  | false =>
    have HV : Hid (setB k = false) := by unfold Hid setB; rw [hk]; rfl
    clear hk
    go_wp2
    go_ret
    exact ⟨by rw [HV.out]; rfl, bstep BU.out B1.out⟩
  | true =>
  have HK := hidOf hk
  have p5 := (FA.out.later B1.out).1 5 _ rfl
  cases hlo : k.lost with
  | true =>
    have HV : Hid (setB k = false) := by unfold Hid setB; rw [hlo]; simp
    rw [hlo] at p5
    clear hk hlo
    go_wp2
    go_ret
    exact ⟨by rw [HV.out]; rfl, bstep BU.out B1.out⟩
  | false =>
  have HS0 : Hid (setB k = ((List.range k.machines.length).all (fun i => decide ((atM k.machines i).log.length = 0)) && (List.range k.places.length).all (setR k))) := by unfold Hid setB; rw [hk, hlo]; rfl
  have m8 := (CSm.of hk).m
  have hcf := logsAny W1 a2 c2 k.machines (by unfold maxLen; omega) (HR.out.1.later B1.out).m
  have p3 := (FA.out.later B1.out).1 3 _ rfl
  have HLO := hidOf hlo
  rw [hlo] at p5
  clear hk hlo
  go_wp2_with fail
  refine hcf.mono ?_
  clear hcf p3 p5
  rintro e W2 ⟨rfl, b2⟩
  have B2 : Hid (Below U.heap.size U W2) := bstep B1.out b2
  clear b2
  cases hlg : (List.range k.machines.length).all (fun i => decide ((atM k.machines i).log.length = 0)) with
  | false =>
    have HV : Hid (setB k = false) := by unfold Hid; rw [HS0.out, hlg]; rfl
    clear hlg
    go_wp2
    go_ret
    exact ⟨by rw [HV.out]; rfl, bstep BU.out B2.out⟩
  | true =>
  have HS1 : Hid (setB k = (List.range k.places.length).all (setR k)) := by unfold Hid; rw [HS0.out, hlg]; rfl
  have hp := placesSettled_any W2 a1 c1 a2 c2 a3 c3 k HK.out HR.out.2 (HR.out.1.later B2.out)
  have q0 := (FA.out.later B2.out).1 0 _ rfl
  have q1 := (FA.out.later B2.out).1 1 _ rfl
  have q2 := (FA.out.later B2.out).1 2 _ rfl
  have q3 := (FA.out.later B2.out).1 3 _ rfl
  have q4 := (FA.out.later B2.out).1 4 _ rfl
  have q5 := (FA.out.later B2.out).1 5 _ rfl
  clear hlg
  go_wp2_with fail
  refine hp.mono ?_
  clear hp q0 q1 q2 q3 q4 q5
  rintro e W3 ⟨rfl, b3⟩
  have B3 : Hid (Below U.heap.size U W3) := bstep B2.out b3
  clear b3
  rw [← HS1.out]
  go_wp2
  go_ret
  exact ⟨rfl, bstep BU.out B3.out⟩
end Go.Proofs.YtphpcgmnljhimaaGreat