/- CluI6; CluI1: joined. -/
import Derived.Test.YtalmflikdnflfaaGreatRows
import Derived.Test.YtalmflikdnflfaaGreatJ38ExactFind
import Derived.WalkKit
import Derived.WalkSpells
import Derived.WalkLawsBesides
import Derived.Below
import Derived.Lib.QuietBelow
import Derived.BigQuiet
import Derived.Deep.CutRange
import Derived.Test.YtalmflikdnflfaaGreatJ32ExactFind
import Derived.Test.YtalmflikdnflfaaGreatMacOkIJ
/- The members of a cluster, and whether every Place is served. -/
namespace Go.Proofs.YtalmflikdnflfaaGreat
open Go.RowKit
open Go.Sort (grow)
theorem info_Mem : (Tryz.prog.info? 104).map (fun i => (i.zero, i.size, i.bytes)) = some (some (.nilIface), 1, 16) := by kernel_rfl
theorem make_Mem (n : Nat) (hn : n ≤ 1048576) (w : World) : (Instr.makeSlice 80 (.int .i64 (n : Int)) (.int .i64 (n : Int))).run Tryz.prog w = .ok (.slice (some ⟨w.heap.size, 0, none⟩) n n) (w.alloc (.cells (madeCells #[.nilIface] n) 104)) := by
  obtain ⟨i, hi, hzz⟩ := Option.map_eq_some_iff.1 info_Mem
  simp only [Prod.mk.injEq] at hzz
  obtain ⟨hz, hs, hb⟩ := hzz
  have := run_make (P := Tryz.prog) w 80 104 i _ Tryz.underlying80 hi hz .i64 .i64 (n : Int) (n : Int) (by omega) (by omega) (by rw [hb]; omega) (by omega)
  rw [hs] at this
  simpa [Value.cells] using this
/-- The first j of a row of members, of machines that lie in w. -/
def MemAt (w X : World) (b j : Nat) (ms : List M4) : Prop := ∀ t, t < j → ∃ a c, X.cell? ⟨b, t, none⟩ = some (memV (atM ms t) a c) ∧ SlK w w.heap.size a (atM ms t).copies.length (atM ms t).copies
theorem MemAt.below {w X Y : World} {b j B : Nat} {ms : List M4} (h : MemAt w X b j ms) (hb : Below B X Y) (hB : b < B) : MemAt w Y b j ms := fun t ht => by
  obtain ⟨a, c, h1, h2⟩ := h t ht
  exact ⟨a, c, (hb.cell (p := ⟨b, t, none⟩) hB).trans h1, h2⟩
theorem MemAt.set {w X : World} {b j : Nat} {ms : List M4} (h : MemAt w X b j ms) {v : Value} (hv : X.cell? ⟨b, j, none⟩ = some v) {a : Option Addr} {c : Nat} (hs : SlK w w.heap.size a (atM ms j).copies.length (atM ms j).copies) : MemAt w (X.setCell ⟨b, j, none⟩ (memV (atM ms j) a c)) b (j + 1) ms := fun t ht => by
  by_cases e : t = j
  · subst e
    exact ⟨a, c, cell_set_same hv, hs⟩
  · obtain ⟨a', c', h1, h2⟩ := h t (by omega)
    exact ⟨a', c', (cell_set_other e).trans h1, h2⟩
theorem memV_eq (m : M4) (a : Option Addr) (c : Nat) : ∃ T u, memV m a c = .iface T u := by
  cases h : m.alive
  · exact ⟨_, _, by simp only [memV, h]; rfl⟩
  · exact ⟨_, _, by simp only [memV, h]; rfl⟩
set_option maxRecDepth 100000 in
set_option maxHeartbeats 4000000 in
theorem membersOf_any (w : World) (a : Option Addr) (cap : Nat) (ms : List M4) (hn : ms.length ≤ 8) (hs : KMk.RdS w a ms) :
    Calls Tryz.prog 45 #[.slice a ms.length cap] w fun e w' => e = .returned (.slice (some ⟨w.heap.size, 0, none⟩) ms.length ms.length) ∧ MemAt w w' w.heap.size ms.length ms ∧ w.heap.size < w'.heap.size ∧ Below w.heap.size w w' := by
  have hmk := make_Mem ms.length (by omega)
  go_enter Tryz.func45, Tryz.ntmps45
  go_wp2
  go_loopw [11] (fun v wr => ∃ j : Nat, j ≤ ms.length ∧ v = .int .i64 j ∧ Below w.heap.size w wr ∧ w.heap.size < wr.heap.size ∧ Room wr w.heap.size ms.length ∧ MemAt w wr w.heap.size j ms) (fun v _ => ms.length - (intOf v).toNat)
  case atStart => exact ⟨0, Nat.zero_le _, rfl, (Below.refl _ _).alloc (Nat.le_refl _) _, by simp, room_made _ _ _ _, fun t ht => by omega⟩
  case round =>
    obtain ⟨j, hj, rfl, hbl, hsz, hrm, hma⟩ := hrel
    by_cases hlt : j < ms.length
    · rcases hs with hs | ⟨b, off, rfl, hb, h1⟩
      · rw [hs] at hlt; simp at hlt
      obtain ⟨⟨m0, m1, m2, m3, m4, m5⟩, hat, hrd⟩ := h1 j _ (atM_of hlt)
      have e0 : wr.cell? ⟨b, off + j * 4, none⟩ = some (.bool (atM ms j).alive) := (hbl.cell (p := ⟨b, off + j * 4, none⟩) hb).trans (hat 0 _ rfl)
      have e1 : wr.cell? ⟨b, off + j * 4 + 1, none⟩ = some (.slice m0 (atM ms j).copies.length m1) := (hbl.cell (p := ⟨b, off + j * 4 + 1, none⟩) hb).trans (hat 1 _ rfl)
      have e2 : wr.cell? ⟨b, off + j * 4 + 2, none⟩ = some (.slice m2 (atM ms j).log.length m3) := (hbl.cell (p := ⟨b, off + j * 4 + 2, none⟩) hb).trans (hat 2 _ rfl)
      have e3 : wr.cell? ⟨b, off + j * 4 + 3, none⟩ = some (.slice m4 (atM ms j).cleared.length m5) := (hbl.cell (p := ⟨b, off + j * 4 + 3, none⟩) hb).trans (hat 3 _ rfl)
      have jn : (j : Int) < (ms.length : Int) := by omega
      have KH : Hid (Below w.heap.size w wr ∧ w.heap.size < wr.heap.size ∧ Room wr w.heap.size ms.length ∧ MemAt w wr w.heap.size j ms ∧ SlK w w.heap.size m0 (atM ms j).copies.length (atM ms j).copies) := ⟨hbl, hsz, hrm, hma, hrd.k⟩
      obtain ⟨V, hV⟩ : ∃ Y, Y = wr.alloc (.cells #[.bool (atM ms j).alive, .slice m0 (atM ms j).copies.length m1, .slice m2 (atM ms j).log.length m3, .slice m4 (atM ms j).cleared.length m5] 66) := ⟨_, rfl⟩
      have bV : Hid (Below wr.heap.size wr V) := by unfold Hid; rw [hV]; exact (Below.refl _ _).alloc (Nat.le_refl _) _
      have hc := memberOf_any V m0 m1 m2 m3 m4 m5 (atM ms j)
      clear hat hrd h1 hbl hsz hrm hma hmk
      go_wp2_with fail
      rw [← hV]
      clear hV e0 e1 e2 e3
      refine hc.mono ?_
      clear hc
      rintro e w1 ⟨rfl, b1⟩
      have KB : Hid (Below wr.heap.size wr w1) := bstep bV.out b1
      obtain ⟨z, hz, hf⟩ : ∃ v, w1.cell? ⟨w.heap.size, j, none⟩ = some v ∧ w1.frozen? ⟨w.heap.size, j, none⟩ = false := (KH.out.2.2.1.below KB.out KH.out.2.1) j hlt
      have Z := hidOf hz
      obtain ⟨T0, u0, hm0⟩ := memV_eq (atM ms j) m0 m1
      have HM := hidOf hm0
      rw [hm0]
      clear b1 hm0
      go_wp2
      have hma := (KH.out.2.2.2.1.below KB.out KH.out.2.1).set Z.out (c := m1) KH.out.2.2.2.2
      rw [HM.out] at hma
      exact ⟨⟨j + 1, by omega, by simp, ((KH.out.1.trans (KB.out.mono KH.out.1.size)).setCell (p := ⟨w.heap.size, j, none⟩) (Nat.le_refl _) _), by simp [World.setCell]; exact Nat.lt_of_lt_of_le KH.out.2.1 KB.out.size, (KH.out.2.2.1.below KB.out KH.out.2.1).set _, hma⟩, by simp [intOf]; omega⟩
    · obtain rfl : j = ms.length := by omega
      have hd : decide ((ms.length : Int) < (ms.length : Int)) = false := by simp
      have KH : Hid (Below w.heap.size w wr ∧ w.heap.size < wr.heap.size ∧ MemAt w wr w.heap.size ms.length ms) := ⟨hbl, hsz, hma⟩
      clear hbl hsz hrm hma hmk hs
      go_wp2
      go_ret
      exact ⟨rfl, KH.out.2.2, KH.out.2.1, KH.out.1⟩
set_option maxRecDepth 100000 in
set_option maxHeartbeats 4000000 in
theorem placed_any (w0 w : World) (a : Option Addr) (cap q : Nat) (zss : List (List Int)) (ms : List M4) (hl : ∀ m ∈ ms, ML m) (hB : machsB ms = true) (hP : placesB zss = true) (hpl : zss.length ≤ maxLen) (hps : ∀ zs ∈ zss, zs.length ≤ maxLen)
    (h0 : Below w0.heap.size w0 w) (hq : q < w.heap.size) (hm : MemAt w0 w q ms.length ms) (hs : SlP w w.heap.size a zss.length zss) :
    Calls Tryz.prog 44 #[.slice a zss.length cap, .slice (some ⟨q, 0, none⟩) ms.length ms.length] w fun e w' => e = .returned (.bool (placedB zss ms)) ∧ Below w.heap.size w w' := by
  have H : Hid ((∀ m ∈ ms, ML m) ∧ machsB ms = true ∧ (∀ zs ∈ zss, zs.length ≤ maxLen) ∧ MemAt w0 w q ms.length ms ∧ SlP w w.heap.size a zss.length zss ∧ Below w0.heap.size w0 w) := ⟨hl, hB, hps, hm, hs, h0⟩
  have HZ : Hid (∀ r j, r < zss.length → j < (atP zss r).length → 0 ≤ atN (atP zss r) j ∧ atN (atP zss r) j ≤ 7) := fun r j hr hj => places_z hP hr hj
  have HD : Hid (placedB zss ms = (List.range zss.length).all fun r => placB ms r (atP zss r)) := rfl
  unfold maxLen at hpl
  clear hl hB hP hps hm hs h0
  go_enter Tryz.func44, Tryz.ntmps44
  go_wp2
  go_loopw [11] (fun v wr => ∃ r : Nat, r ≤ zss.length ∧ v = .int .i64 r ∧ Below w.heap.size w wr ∧ (List.range r).all (fun r => placB ms r (atP zss r)) = true) (fun v _ => zss.length - (intOf v).toNat)
  case atStart => exact ⟨0, Nat.zero_le _, rfl, Below.refl _ _, rfl⟩
  case round =>
  obtain ⟨r, hr, rfl, hbl, hall⟩ := hrel
  have KC : Hid (Below w.heap.size w wr ∧ (List.range r).all (fun r => placB ms r (atP zss r)) = true) := ⟨hbl, hall⟩
  clear hbl hall
  by_cases hlr : r < zss.length
  case neg =>
    obtain rfl : r = zss.length := by omega
    have hd : decide ((zss.length : Int) < (zss.length : Int)) = false := by simp
    go_wp2
    go_ret
    exact ⟨by rw [HD.out, KC.out.2]; rfl, KC.out.1⟩
  obtain ⟨_, hsp⟩ := H.out.2.2.2.2.1
  rcases hsp with hsp | ⟨b, off, rfl, hb, hpp⟩
  · omega
  obtain ⟨a', cap', hc, hsl, hcp⟩ := hpp r _ (atP_of hlr)
  have c := (KC.out.1.cell (p := ⟨b, off + r, none⟩) hb).trans hc
  have HSL : Hid (SlN w w.heap.size a' (atP zss r).length (atP zss r)) := hsl
  have jr : (r : Int) < (zss.length : Int) := by omega
  have lz := H.out.2.2.1 _ (List.mem_of_getElem? (atP_of hlr))
  unfold maxLen at lz
  have HF : Hid (placB ms r (atP zss r) = false → placedB zss ms = false) := fun hh => by rw [HD.out]; exact all_off (f := fun r => placB ms r (atP zss r)) hlr hh
  have HZr : Hid (∀ j, j < (atP zss r).length → 0 ≤ atN (atP zss r) j ∧ atN (atP zss r) j ≤ 7) := fun j hj => HZ.out r j hlr hj
  have HPL : Hid (placB ms r (atP zss r) = (List.range (atP zss r).length).all fun j => servB ms r (atN (atP zss r) j)) := rfl
  have HON : Hid (placB ms r (atP zss r) = true → (List.range (r + 1)).all (fun r => placB ms r (atP zss r)) = true) := fun hh => all_on (f := fun r => placB ms r (atP zss r)) KC.out.2 hh
  clear hpp hc hsl
  generalize hzs : atP zss r = zs at *
  obtain ⟨V, hV⟩ : ∃ Y, Y = wr.alloc (.cells #[.slice a' zs.length cap'] 68) := ⟨_, rfl⟩
  have KV : Hid (Below w.heap.size w V) := bstep KC.out.1 (by rw [hV]; exact (Below.refl _ _).alloc (Nat.le_refl _) _)
  go_wp2
  rw [← hV]
  clear c jr hzs hV
  generalize wr = wC at *
  generalize V = wD at *
  go_loopw [19] (fun v wr => ∃ j : Nat, j ≤ zs.length ∧ v = .int .i64 j ∧ Below w.heap.size w wr ∧ (List.range j).all (fun j => servB ms r (atN zs j)) = true) (fun v _ => zs.length - (intOf v).toNat)
  case atStart => exact ⟨0, Nat.zero_le _, rfl, KV.out, rfl⟩
  case round =>
  obtain ⟨j, hj, rfl, hbl, hall⟩ := hrel
  have KD : Hid (Below w.heap.size w wr ∧ (List.range j).all (fun j => servB ms r (atN zs j)) = true) := ⟨hbl, hall⟩
  clear hbl hall
  by_cases hlj : j < zs.length
  case neg =>
    obtain rfl : j = zs.length := by omega
    have hd : decide ((zs.length : Int) < (zs.length : Int)) = false := by simp
    have hh := HON.out (by rw [HPL.out]; exact KD.out.2)
    go_wp2
    exact ⟨⟨r + 1, by omega, by simp, KD.out.1, hh⟩, by simp [intOf]; omega⟩
  obtain ⟨_, hsn⟩ := HSL.out
  rcases hsn with hsn | ⟨b', off', rfl, hb', h2⟩
  · omega
  have hz := HZr.out j hlj
  obtain ⟨i, hi⟩ : ∃ i : Nat, atN zs j = (i : Int) := ⟨(atN zs j).toNat, by omega⟩
  have hck := h2 j _ (atN_of hlj)
  rw [hi] at hck
  have xz := (KD.out.1.cell (p := ⟨b', off' + j, none⟩) hb').trans hck
  have jz : (j : Int) < (zs.length : Int) := by omega
  have HB : Hid (servB ms r (atN zs j) = (decide ((i : Int) < (ms.length : Int)) && (!(atM ms i).alive || hasC (atM ms i) (r : Int)))) := by unfold Hid servB; rw [hi]; rfl
  have HFF : Hid (servB ms r (atN zs j) = false → placedB zss ms = false) := fun hh => HF.out (by rw [HPL.out]; exact all_off (f := fun j => servB ms r (atN zs j)) hlj hh)
  clear hck h2 hz hi
  by_cases him : i < ms.length
  case neg =>
    have dz : decide ((ms.length : Int) ≤ (i : Int)) = true := by simp <;> omega
    have dz2 : decide (ms.length ≤ i) = true := by simp <;> omega
    have hb0 : Hid (placedB zss ms = false) := HFF.out (by rw [HB.out]; simp [him])
    go_wp2
    go_ret
    exact ⟨by rw [hb0.out]; rfl, KD.out.1⟩
  have dz : decide ((ms.length : Int) ≤ (i : Int)) = false := by simp <;> omega
  have dz2 : decide (ms.length ≤ i) = false := by simp <;> omega
  have im : (i : Int) < (ms.length : Int) := by omega
  obtain ⟨a2, c2, hmc, hmk⟩ := (H.out.2.2.2.1.below KD.out.1 hq) i him
  have hsv := serves_any wr a2 c2 (atM ms i) (r : Int) (H.out.1 _ (List.mem_of_getElem? (atM_of him))) (by have := H.out.2.1; exact List.all_eq_true.1 this i (List.mem_range.2 him)) (hmk.later (bstep H.out.2.2.2.2.2 KD.out.1))
  obtain ⟨T0, u0, hm0⟩ := memV_eq (atM ms i) a2 c2
  rw [hm0] at hmc hsv
  clear hmk hm0
  cases hh : (!(atM ms i).alive || hasC (atM ms i) (r : Int)) with
  | false =>
    rw [hh] at hsv
    have hb0 : Hid (placedB zss ms = false) := HFF.out (by rw [HB.out, hh]; simp)
    clear hh
    go_wp2_with fail
    refine hsv.mono ?_
    clear hsv
    rintro e w1 ⟨rfl, b1⟩
    have KB : Hid (Below w.heap.size w w1) := bstep KD.out.1 b1
    clear b1
    go_wp2
    go_ret
    exact ⟨by rw [hb0.out]; rfl, KB.out⟩
  | true =>
    rw [hh] at hsv
    have hon : Hid ((List.range (j + 1)).all (fun j => servB ms r (atN zs j)) = true) := all_on (f := fun j => servB ms r (atN zs j)) KD.out.2 (by rw [HB.out, hh]; simp [him])
    clear hh
    go_wp2_with fail
    refine hsv.mono ?_
    clear hsv
    rintro e w1 ⟨rfl, b1⟩
    have KB : Hid (Below w.heap.size w w1) := bstep KD.out.1 b1
    clear b1
    go_wp2
    exact ⟨⟨j + 1, by omega, by simp, KB.out, hon.out⟩, by simp [intOf]; omega⟩
end Go.Proofs.YtalmflikdnflfaaGreat
/- MachineOk of all machines, by the program. -/
namespace Go.Proofs.YtalmflikdnflfaaGreat
open Go.RowKit
open Go.Sort (grow)
/-- What the function answers of each element, wherever it lies. -/
def idxMF (w : World) (xs : List M4)  (f : Nat → Bool) : Prop :=
  ∀ (X : World) (i : Nat) (m0 : Option Addr) (m1 : Nat) (m2 : Option Addr) (m3 : Nat) (m4 : Option Addr) (m5 : Nat), Below w.heap.size w X → i < xs.length → KMk.Rd X ⟨m0, m1, m2, m3, m4, m5⟩ (atM xs i) → Calls Tryz.prog 88 #[.agg #[.bool (atM xs i).alive, .slice m0 (atM xs i).copies.length m1, .slice m2 (atM xs i).log.length m3, .slice m4 (atM xs i).cleared.length m5]] X fun e w' => e = .returned (.bool (f i)) ∧ Below X.heap.size X w'
set_option maxRecDepth 100000 in
set_option maxHeartbeats 2000000 in
theorem idxM (w : World) (a : Option Addr) (cap : Nat) (xs : List M4)  (f : Nat → Bool) (hn : xs.length ≤ maxLen) (hs : KMk.RdS w a xs) (hf : idxMF w xs  f) :
    Calls Tryz.prog 133 #[.slice a xs.length cap, .func (.func 88) #[] #[]] w fun e w' => (∃ i : Int, e = .returned (.int .i64 i) ∧ FirstAt f xs.length i) ∧ Below w.heap.size w w' := by
  unfold maxLen at hn
  have HF := hidOf hf
  clear hf
  go_enter Tryz.func133, Tryz.ntmps133
  go_wp2
  go_loopw [8] (fun v wr => ∃ j : Nat, j ≤ xs.length ∧ v = .int .i64 j ∧ Below w.heap.size w wr ∧ ∀ i, i < j → f i = false) (fun v _ => xs.length - (intOf v).toNat)
  case atStart => exact ⟨0, Nat.zero_le _, rfl, Below.refl _ _, fun i h => absurd h (by omega)⟩
  case round =>
    obtain ⟨j, hj, rfl, hbl, hall⟩ := hrel
    by_cases hlt : j < xs.length
    · rcases hs with hs | ⟨b, off, rfl, hb, h1⟩
      · rw [hs] at hlt; simp at hlt
      obtain ⟨⟨m0, m1, m2, m3, m4, m5⟩, hat, hrd⟩ := h1 j _ (atM_of hlt)
      have e0 : wr.cell? ⟨b, off + j * 4, none⟩ = some (.bool (atM xs j).alive) := (hbl.cell (p := ⟨b, off + j * 4, none⟩) hb).trans (hat 0 _ rfl)
      have e1 : wr.cell? ⟨b, off + j * 4 + 1, none⟩ = some (.slice m0 (atM xs j).copies.length m1) := (hbl.cell (p := ⟨b, off + j * 4 + 1, none⟩) hb).trans (hat 1 _ rfl)
      have e2 : wr.cell? ⟨b, off + j * 4 + 2, none⟩ = some (.slice m2 (atM xs j).log.length m3) := (hbl.cell (p := ⟨b, off + j * 4 + 2, none⟩) hb).trans (hat 2 _ rfl)
      have e3 : wr.cell? ⟨b, off + j * 4 + 3, none⟩ = some (.slice m4 (atM xs j).cleared.length m5) := (hbl.cell (p := ⟨b, off + j * 4 + 3, none⟩) hb).trans (hat 3 _ rfl)
      have hw := HF.out wr j m0 m1 m2 m3 m4 m5 hbl hlt (KMk.later hrd hbl)
      have KA : Hid ((∀ i, i < j → f i = false) ∧ Below w.heap.size w wr) := ⟨hall, hbl⟩
      have jn : (j : Int) < (xs.length : Int) := by omega
      clear h1 hat hrd hall hbl
      cases hp : f j with
      | true =>
        rw [hp] at hw
        go_wp2_with fail
        refine hw.mono ?_
        clear hw
        rintro e w1 ⟨rfl, b1⟩
        go_wp2
        go_ret
        exact ⟨⟨_, rfl, .inr ⟨j, rfl, hlt, hp, KA.out.1⟩⟩, KA.out.2.trans (b1.mono KA.out.2.size)⟩
      | false =>
        rw [hp] at hw
        go_wp2_with fail
        refine hw.mono ?_
        clear hw
        rintro e w1 ⟨rfl, b1⟩
        go_wp2
        exact ⟨⟨j + 1, by omega, by simp, KA.out.2.trans (b1.mono KA.out.2.size), fun i hi => by
          by_cases e : i = j
          · rw [e]; exact hp
          · exact KA.out.1 i (by omega)⟩, by simp [intOf]; omega⟩
    · obtain rfl : j = xs.length := by omega
      have hd : decide ((xs.length : Int) < (xs.length : Int)) = false := by simp
      have KA : Hid ((∀ i, i < xs.length → f i = false) ∧ Below w.heap.size w wr) := ⟨hall, hbl⟩
      clear hall hbl hs
      go_wp2
      go_ret
      exact ⟨⟨_, rfl, .inl ⟨rfl, KA.out.1⟩⟩, KA.out.2⟩
set_option maxHeartbeats 1000000 in
theorem idxM_has (w : World) (a : Option Addr) (cap : Nat) (xs : List M4)  (f : Nat → Bool) (hn : xs.length ≤ maxLen) (hs : KMk.RdS w a xs) (hf : idxMF w xs  f) :
    Calls Tryz.prog 90 #[.slice a xs.length cap, .func (.func 88) #[] #[]] w fun e w' => e = .returned (.bool (!((List.range xs.length).all fun j => !f j))) ∧ Below w.heap.size w w' := by
  have hc := idxM w a cap xs  f hn hs hf
  clear hs hf
  go_enter Tryz.func90, Tryz.ntmps90
  go_wp2_with fail
  refine hc.mono ?_
  clear hc
  rintro e w1 ⟨⟨i, rfl, hi⟩, b1⟩
  have h := first_has hi
  have KB := hidOf b1
  clear b1 hi
  go_wp2
  go_ret
  exact ⟨by rw [← h]; rfl, KB.out⟩
set_option maxHeartbeats 1000000 in
theorem machWrong (X : World) (m0 : Option Addr) (m1 : Nat) (m2 : Option Addr) (m3 : Nat) (m4 : Option Addr) (m5 : Nat) (m : M4) (hl : ML m) (h : SlM X ⟨m0, m1, m2, m3, m4, m5⟩ m) : Calls Tryz.prog 88 #[.agg #[.bool m.alive, .slice m0 m.copies.length m1, .slice m2 m.log.length m3, .slice m4 m.cleared.length m5]] X fun e w' => e = .returned (.bool (!machB m)) ∧ Below X.heap.size X w' := by
  obtain ⟨U, hU⟩ : ∃ Y, Y = X.alloc (.cells #[.bool m.alive, .slice m0 m.copies.length m1, .slice m2 m.log.length m3, .slice m4 m.cleared.length m5] 66) := ⟨_, rfl⟩
  have b0 : Below X.heap.size X U := by rw [hU]; exact (Below.refl _ _).alloc (Nat.le_refl _) _
  have hc := implMachineOk_any U ⟨m0, m1, m2, m3, m4, m5⟩ m hl (h.later b0)
  simp only [MV.val] at hc
  have KB := hidOf b0
  clear b0 hl h
  go_enter Tryz.func88, Tryz.ntmps88
  go_wp2_with fail
  rw [← hU]
  clear hU
  refine hc.mono ?_
  clear hc
  rintro e w1 ⟨rfl, b1⟩
  go_wp2
  go_ret
  exact ⟨rfl, bstep KB.out b1⟩
set_option maxHeartbeats 1000000 in
theorem machinesOk_any (w : World) (a : Option Addr) (cap : Nat) (ms : List M4) (hn : ms.length ≤ maxLen) (hl : ∀ m ∈ ms, ML m) (hs : KMk.RdS w a ms) :
    Calls Tryz.prog 42 #[.slice a ms.length cap] w fun e w' => e = .returned (.bool (decide (1 ≤ ms.length) && decide (ms.length ≤ 8) && machsB ms)) ∧ Below w.heap.size w w' := by
  have hc := idxM_has w a cap ms (fun i => !machB (atM ms i)) hn hs (fun X i m0 m1 m2 m3 m4 m5 hb hi hr => machWrong X m0 m1 m2 m3 m4 m5 (atM ms i) (hl _ (List.mem_of_getElem? (atM_of hi))) hr)
  have he : (!((List.range ms.length).all fun j => !(fun i => !machB (atM ms i)) j)) = !machsB ms := by simp [machsB]
  rw [he] at hc
  clear hs hl he
  unfold maxLen at hn
  by_cases g1 : 1 ≤ ms.length
  case neg =>
    have d1 : decide ((1 : Int) ≤ (ms.length : Int)) = false := by simp <;> omega
    have hb : (decide (1 ≤ ms.length) && decide (ms.length ≤ 8) && machsB ms) = false := by simp [g1]
    rw [hb]
    clear hc g1 hb
    go_enter Tryz.func42, Tryz.ntmps42
    go_wp2
    go_ret
    exact ⟨rfl, Below.refl _ _⟩
  have d1 : decide ((1 : Int) ≤ (ms.length : Int)) = true := by simp <;> omega
  by_cases g2 : ms.length ≤ 8
  case neg =>
    have d2 : decide ((ms.length : Int) ≤ 8) = false := by simp <;> omega
    have hb : (decide (1 ≤ ms.length) && decide (ms.length ≤ 8) && machsB ms) = false := by simp [g2]
    rw [hb]
    clear hc g2 hb g1
    go_enter Tryz.func42, Tryz.ntmps42
    go_wp2
    go_ret
    exact ⟨rfl, Below.refl _ _⟩
  have d2 : decide ((ms.length : Int) ≤ 8) = true := by simp <;> omega
  have hb : (decide (1 ≤ ms.length) && decide (ms.length ≤ 8) && machsB ms) = machsB ms := by simp [g1, g2]
  rw [hb]
  clear g1 g2 hb
  go_enter Tryz.func42, Tryz.ntmps42
  go_wp2_with fail
  refine hc.mono ?_
  clear hc
  rintro e w1 ⟨rfl, b1⟩
  have KB := hidOf b1
  clear b1
  go_wp2
  go_ret
  exact ⟨by simp, KB.out⟩
end Go.Proofs.YtalmflikdnflfaaGreat
