/- PlacesRg; PlacesIp; CelS: joined. -/
import Derived.Test.YtefffikmbjfdfaaGreatRows
import Derived.Test.YtefffikmbjfdfaaGreatJ33ExactCells
import Derived.WalkKit
import Derived.WalkSpells
import Derived.WalkLawsBesides
import Derived.Below
import Derived.Test.YtefffikmbjfdfaaGreatJ45ExactCells
import Derived.Test.YtefffikmbjfdfaaGreatJ46ExactCells
import Derived.Test.YtefffikmbjfdfaaGreatCluSJ
import Derived.Lib.QuietBelow
import Derived.BigQuiet
import Derived.Deep.CutRange
/- Regions of Places: who is primary, who are backups. -/
namespace Go.Proofs.YtefffikmbjfdfaaGreat
open Go.RowKit
def regionB (zss : List (List Int)) (r : Int) : Bool := placesB zss && inB 0 ((zss.length : Int) - 1) r
def primR (zss : List (List Int)) (r : Int) : Int := if regionB zss r = true then atN (atP zss r.toNat) 0 else -1
def backL (zss : List (List Int)) (r : Int) : List Int := if regionB zss r = true then (atP zss r.toNat).drop 1 else []
theorem region_bd {zss : List (List Int)} {r : Int} (h : regionB zss r = true) : ∃ i : Nat, r = (i : Int) ∧ i < zss.length ∧ 1 ≤ (atP zss i).length ∧ (atP zss i).length ≤ 3 := by
  simp only [regionB, Bool.and_eq_true, inB_iff] at h
  obtain ⟨i, rfl⟩ := Int.eq_ofNat_of_zero_le h.2.1
  have hi : i < zss.length := by omega
  have hp := h.1
  simp only [placesB, Bool.and_eq_true] at hp
  have := List.all_eq_true.1 hp.2 i (List.mem_range.2 hi)
  simp only [placeB, Bool.and_eq_true, decide_eq_true_eq] at this
  exact ⟨i, rfl, hi, this.1.1, this.1.2⟩
theorem backL_len (zss : List (List Int)) (r : Int) : (backL zss r).length ≤ 3 := by
  cases h : regionB zss r with
  | false => simp [backL, h]
  | true =>
    obtain ⟨i, rfl, _, _, l2⟩ := region_bd h
    simp [backL, h]; omega
end Go.Proofs.YtefffikmbjfdfaaGreat
/- What the program answers of Places: hasPlace, Primary. -/
namespace Go.Proofs.YtefffikmbjfdfaaGreat
open Go.RowKit
set_option maxHeartbeats 1000000 in
theorem hasPlace_any (w : World) (a : Option Addr) (n cap : Nat) (r : Int) (zss : List (List Int)) (hn : n ≤ maxLen) (hs : SlP w w.heap.size a n zss) :
    Calls Tryz.prog 67 #[.slice a n cap, .int .i64 r] w fun e w' => e = .returned (.bool (regionB zss r)) ∧ Below w.heap.size w w' := by
  have hx := hs.1
  have hc := implPlacesOk_any w a n cap zss hn hs
  unfold maxLen at hn
  clear hs
  cases hp : placesB zss with
  | false =>
    rw [hp] at hc
    have hV : regionB zss r = false := by simp [regionB, hp]
    rw [hV]
    go_enter Tryz.func67, Tryz.ntmps67
    go_wp2_with fail
    refine hc.mono ?_
    clear hc
    rintro e w1 ⟨rfl, b1⟩
    go_wp2
    go_ret
    exact ⟨rfl, b1⟩
  | true =>
    rw [hp] at hc
    have hV : regionB zss r = inB 0 ((n : Int) - 1) r := by simp [regionB, hp, hx]
    rw [hV]
    by_cases h0 : 0 ≤ r
    · by_cases h8 : r < (n : Int)
      · rw [inB_yes (by omega) (by omega)]
        go_enter Tryz.func67, Tryz.ntmps67
        go_wp2_with fail
        refine hc.mono ?_
        clear hc
        rintro e w1 ⟨rfl, b1⟩
        go_wp2
        go_ret
        exact ⟨rfl, b1⟩
      · have hd : decide (r < (n : Int)) = false := by simp; omega
        have hb : inB 0 ((n : Int) - 1) r = false := by cases h : inB 0 ((n : Int) - 1) r with | false => rfl | true => rw [inB_iff] at h; omega
        rw [hb]
        go_enter Tryz.func67, Tryz.ntmps67
        go_wp2_with fail
        refine hc.mono ?_
        clear hc
        rintro e w1 ⟨rfl, b1⟩
        go_wp2
        go_ret
        exact ⟨rfl, b1⟩
    · have hd : decide (0 ≤ r) = false := by simp; omega
      have hb : inB 0 ((n : Int) - 1) r = false := by cases h : inB 0 ((n : Int) - 1) r with | false => rfl | true => rw [inB_iff] at h; omega
      rw [hb]
      go_enter Tryz.func67, Tryz.ntmps67
      go_wp2_with fail
      refine hc.mono ?_
      clear hc
      rintro e w1 ⟨rfl, b1⟩
      go_wp2
      go_ret
      exact ⟨rfl, b1⟩
set_option maxHeartbeats 1000000 in
theorem implPrimary_any (w : World) (a : Option Addr) (n cap : Nat) (r : Int) (zss : List (List Int)) (hn : n ≤ maxLen) (hs : SlP w w.heap.size a n zss) :
    Calls Tryz.prog 70 #[.slice a n cap, .int .i64 r] w fun e w' => e = .returned (.int .i64 (primR zss r)) ∧ Below w.heap.size w w' := by
  go_enter Tryz.func70, Tryz.ntmps70
  go_wp2_with fail
  refine (hasPlace_any w a n cap r zss hn hs).mono ?_
  cases hp : regionB zss r with
  | false =>
    rintro e w1 ⟨rfl, b1⟩
    go_wp2
    go_ret
    exact ⟨by simp [primR, hp], b1⟩
  | true =>
    obtain ⟨i, rfl, hi, l1, l2⟩ := region_bd hp
    rintro e w1 ⟨rfl, b1⟩
    obtain ⟨hx, hs⟩ := hs
    unfold maxLen at hn
    rcases hs with hs | ⟨b, off, rfl, hb, h1⟩
    · omega
    · obtain ⟨a', cap', hc, ⟨_, hsn⟩, hcp⟩ := h1 i _ (atP_of hi)
      rcases hsn with hsn | ⟨b', off', rfl, hb', h2⟩
      · omega
      · have c1 := (b1.cell (p := ⟨b, off + i, none⟩) hb).trans hc
        have c2 := (b1.cell (p := ⟨b', off' + 0, none⟩) hb').trans (h2 0 _ (atN_of (by omega)))
        have hin : (i : Int) < (n : Int) := by omega
        have l1' : (0 : Int) < ((atP zss i).length : Int) := by omega
        have HR : Hid (primR zss (i : Int) = atN (atP zss i) 0) := by unfold Hid; simp [primR, hp]
        have B1 : Hid (Below w.heap.size w w1) := b1
        rw [Nat.add_zero] at c2
        clear h1 h2 hc b1 hp
        generalize (atP zss i).length = m at *
        go_wp2
        go_ret
        exact ⟨by rw [HR.out]; rfl, B1.out⟩
end Go.Proofs.YtefffikmbjfdfaaGreat
/- Cells, by the specification. -/
namespace Go.Proofs.YtefffikmbjfdfaaGreat
open Go.RowKit
open Go.Sort (grow)
set_option maxRecDepth 100000 in
set_option maxHeartbeats 4000000 in
theorem l8Primary_any (w : World) (a1 : Option Addr) (c1 : Nat) (a2 : Option Addr) (c2 : Nat) (a3 : Option Addr) (c3 : Nat) (k : C6) (i z : Nat) (hl : KCl.L k) (h : KCl.Rd w a1 c1 a2 c2 a3 c3 k) (hi : i < k.places.length) (hz : atN (atP k.places i) 0 = (z : Int)) (hzl : z < k.machines.length) (hz3 : 0 < (atP k.places i).length) :
    Calls Tryz.prog 65 #[.agg #[.int .i64 k.config, .int .i64 k.clock, .slice a1 k.places.length c1, .slice a2 k.machines.length c2, .slice a3 k.txs.length c3, .bool k.lost], .int .i64 (i : Int)] w fun e w' => e = .returned (if (atM k.machines z).alive then .tuple #[.int .i64 (z : Int), .int .i64 (idxC (atM k.machines z) (i : Int))] else .tuple #[.int .i64 (-1), .int .i64 (-1)]) ∧ Below w.heap.size w w' := by
  have hnp := hl.p
  have hnm := hl.m
  have hns := hl.ps _ (List.mem_of_getElem? (atP_of hi))
  have hML := hl.ms _ (List.mem_of_getElem? (atM_of hzl))
  unfold maxLen at hnp hnm hns
  obtain ⟨U, hU⟩ : ∃ Y, Y = w.alloc (.cells #[.int .i64 k.config, .int .i64 k.clock, .slice a1 k.places.length c1, .slice a2 k.machines.length c2, .slice a3 k.txs.length c3, .bool k.lost] 33) := ⟨_, rfl⟩
  have b0 : Below w.heap.size w U := by rw [hU]; exact (Below.refl _ _).alloc (Nat.le_refl _) _
  have FA : Hid (Bx U w.heap.size [.int .i64 k.config, .int .i64 k.clock, .slice a1 k.places.length c1, .slice a2 k.machines.length c2, .slice a3 k.txs.length c3, .bool k.lost]) := by unfold Hid; rw [hU]; exact Bx.made w [.int .i64 k.config, .int .i64 k.clock, .slice a1 k.places.length c1, .slice a2 k.machines.length c2, .slice a3 k.txs.length c3, .bool k.lost] _
  have HR : Hid (KCl.Rd U a1 c1 a2 c2 a3 c3 k ∧ KCl.L k ∧ Below w.heap.size w U) := ⟨h.later b0, hl, b0⟩
  clear b0 h hl
  have b0 : Below U.heap.size U U := Below.refl _ _
  obtain ⟨_, hsp⟩ := HR.out.1.p
  rcases hsp with hsp | ⟨b, off, rfl, hb, hpp⟩
  · omega
  obtain ⟨a', cap', hc1, hsl, hcp⟩ := hpp i _ (atP_of hi)
  obtain ⟨_, hsn⟩ := hsl
  rcases hsn with hsn | ⟨b', off', rfl, hb', h2⟩
  · omega
  have hz1 := h2 0 _ (atN_of hz3)
  rw [hz] at hz1
  have x0 : U.cell? ⟨b, off + i, none⟩ = some (.slice (some ⟨b', off', none⟩) (atP k.places i).length cap') := (b0.cell (p := ⟨b, off + i, none⟩) hb).trans hc1
  have x1 : U.cell? ⟨b', off', none⟩ = some (.int .i64 (z : Int)) := (b0.cell (p := ⟨b', off', none⟩) hb').trans hz1
  clear hpp hc1 hz1 h2
  rcases HR.out.1.m with hs | ⟨b2, off2, rfl, hb2, h1⟩
  · rw [hs] at hzl; simp at hzl
  obtain ⟨⟨m0, m1, m2, m3, m4, m5⟩, hat, hrd⟩ := h1 z _ (atM_of hzl)
  have e0 : U.cell? ⟨b2, off2 + z * 4, none⟩ = some (.bool (atM k.machines z).alive) := (b0.cell (p := ⟨b2, off2 + z * 4, none⟩) hb2).trans (hat 0 _ rfl)
  have e1 : U.cell? ⟨b2, off2 + z * 4 + 1, none⟩ = some (.slice m0 (atM k.machines z).copies.length m1) := (b0.cell (p := ⟨b2, off2 + z * 4 + 1, none⟩) hb2).trans (hat 1 _ rfl)
  have e2 : U.cell? ⟨b2, off2 + z * 4 + 2, none⟩ = some (.slice m2 (atM k.machines z).log.length m3) := (b0.cell (p := ⟨b2, off2 + z * 4 + 2, none⟩) hb2).trans (hat 2 _ rfl)
  have e3 : U.cell? ⟨b2, off2 + z * 4 + 3, none⟩ = some (.slice m4 (atM k.machines z).cleared.length m5) := (b0.cell (p := ⟨b2, off2 + z * 4 + 3, none⟩) hb2).trans (hat 3 _ rfl)
  have hcl := l6At_v U m0 m1 m2 m3 m4 m5 (atM k.machines z) (i : Int) hML (KMk.later hrd b0)
  have p2 := (FA.out.later b0).1 2 _ rfl
  have p3 := (FA.out.later b0).1 3 _ rfl
  have i1 : (i : Int) < (k.places.length : Int) := by omega
  have i2 : (z : Int) < (k.machines.length : Int) := by omega
  have i3 : (0 : Int) < ((atP k.places i).length : Int) := by omega
  clear h1 hat hrd hML b0 hz
  cases ha : (atM k.machines z).alive with
  | false =>
    rw [ha] at e0
    clear hcl e1 e2 e3
    rw [hU] at p2 p3 x0 x1 e0
    go_enter Tryz.func65, Tryz.ntmps65
    go_wp2
    refine bodyPost_ret (v := .tuple #[.int .i64 (-1), .int .i64 (-1)]) (by simp [results, Tryz.results65, go_sem]) rfl ⟨rfl, ?_⟩
    have := HR.out.2.2
    rw [hU] at this
    exact this
  | true =>
    rw [ha] at e0 hcl
    rw [hU] at p2 p3 x0 x1 e0 e1 e2 e3
    go_enter Tryz.func65, Tryz.ntmps65
    go_wp2_with fail
    rw [← hU]
    clear hU p2 p3 x0 x1 e0 e1 e2 e3
    refine hcl.mono ?_
    clear hcl
    rintro e w1 ⟨rfl, b1⟩
    have KB : Hid (Below w.heap.size w w1) := bstep HR.out.2.2 b1
    clear b1
    go_wp2
    exact bodyPost_ret (v := .tuple #[.int .i64 (z : Int), .int .i64 (idxC (atM k.machines z) (i : Int))]) (by simp [results, Tryz.results65, go_sem]) rfl ⟨rfl, KB.out⟩
set_option maxRecDepth 100000 in
set_option maxHeartbeats 4000000 in
theorem specCells_any (w : World) (a1 : Option Addr) (c1 : Nat) (a2 : Option Addr) (c2 : Nat) (a3 : Option Addr) (c3 : Nat) (k : C6) (y : Int) (hl : KCl.L k) (h : KCl.Rd w a1 c1 a2 c2 a3 c3 k) : Calls Tryz.prog 18 #[.agg #[.int .i64 k.config, .int .i64 k.clock, .slice a1 k.places.length c1, .slice a2 k.machines.length c2, .slice a3 k.txs.length c3, .bool k.lost], .int .i64 y] w (CAns w (celN k y) (celB k y)) := by
  have hnp := hl.p
  unfold maxLen at hnp
  obtain ⟨U, hU⟩ : ∃ Y, Y = w.alloc (.cells #[.int .i64 k.config, .int .i64 k.clock, .slice a1 k.places.length c1, .slice a2 k.machines.length c2, .slice a3 k.txs.length c3, .bool k.lost] 33) := ⟨_, rfl⟩
  have b0 : Below w.heap.size w U := by rw [hU]; exact (Below.refl _ _).alloc (Nat.le_refl _) _
  have FA : Hid (Bx U w.heap.size [.int .i64 k.config, .int .i64 k.clock, .slice a1 k.places.length c1, .slice a2 k.machines.length c2, .slice a3 k.txs.length c3, .bool k.lost]) := by unfold Hid; rw [hU]; exact Bx.made w [.int .i64 k.config, .int .i64 k.clock, .slice a1 k.places.length c1, .slice a2 k.machines.length c2, .slice a3 k.txs.length c3, .bool k.lost] _
  have HR : Hid (KCl.Rd U a1 c1 a2 c2 a3 c3 k ∧ KCl.L k ∧ Below w.heap.size w U) := ⟨h.later b0, hl, b0⟩
  clear b0 h hl
  have hc := specClusterOk_any U a1 c1 a2 c2 a3 c3 k HR.out.2.1 HR.out.1
  go_enter Tryz.func18, Tryz.ntmps18
  go_wp2_with fail
  rw [← hU]
  clear hU
  refine hc.mono ?_
  clear hc
  rintro e w1 ⟨rfl, b1⟩
  have B1 := hidOf b1
  clear b1
  cases hB : clusterB k with
  | false =>
    have HN := hidOf (cel_no (k := k) (y := y) (fun h => by rw [h.1] at hB; cases hB))
    have KW : Hid (∀ o, Below w.heap.size w (w1.alloc o)) := fun o => (bstep HR.out.2.2 B1.out).alloc (bstep HR.out.2.2 B1.out).size o
    go_wp2
    exact bodyPost_ret (v := .tuple #[.slice (some ⟨w1.heap.size, 0, none⟩) 0 0, .bool false]) (by simp [results, Tryz.results18, go_sem]) rfl (CAns.zero HN.out _ _ (KW.out _))
  | true =>
    have p2 := (FA.out.later B1.out).1 2 _ rfl
    have hin := specIn w1 y 0 ((k.places.length : Int) - 1)
    go_wp2_with fail
    refine hin.mono ?_
    clear hin p2
    rintro e w2 ⟨rfl, rfl⟩
    cases hI : inB 0 ((k.places.length : Int) - 1) y with
    | false =>
      have HN := hidOf (cel_no (k := k) (y := y) (fun h => by
        have : inB 0 ((k.places.length : Int) - 1) y = true := inB_iff.2 ⟨h.2.1, by omega⟩
        rw [this] at hI; cases hI))
      have KW : Hid (∀ o, Below w.heap.size w (w2.alloc o)) := fun o => (bstep HR.out.2.2 B1.out).alloc (bstep HR.out.2.2 B1.out).size o
      go_wp2
      exact bodyPost_ret (v := .tuple #[.slice (some ⟨w2.heap.size, 0, none⟩) 0 0, .bool false]) (by simp [results, Tryz.results18, go_sem]) rfl (CAns.zero HN.out _ _ (KW.out _))
    | true =>
      have hy := inB_iff.1 hI
      obtain ⟨i, rfl⟩ : ∃ i : Nat, y = (i : Int) := ⟨y.toNat, by omega⟩
      have hi : i < k.places.length := by omega
      obtain ⟨z, hz, hzl, hz3, hpm, hmB, hhas⟩ := clu_pri hB hi
      have hcl := l8Primary_any w2 a1 c1 a2 c2 a3 c3 k i z HR.out.2.1 (HR.out.1.later B1.out) hi hz hzl hz3
      have p0 := (FA.out.later B1.out).1 0 _ rfl
      have p1 := (FA.out.later B1.out).1 1 _ rfl
      have p2 := (FA.out.later B1.out).1 2 _ rfl
      have p3 := (FA.out.later B1.out).1 3 _ rfl
      have p4 := (FA.out.later B1.out).1 4 _ rfl
      have p5 := (FA.out.later B1.out).1 5 _ rfl
      cases ha : (atM k.machines z).alive with
      | false =>
        rw [ha] at hcl
        simp only [Bool.false_eq_true, if_false] at hcl
        have HN := hidOf (cel_no (k := k) (y := (i : Int)) (fun h => by
          have := h.2.2.2
          rw [Int.toNat_natCast, hpm, ha] at this; cases this))
        clear hhas
        go_wp2_with fail
        refine hcl.mono ?_
        clear hcl p0 p1 p2 p3 p4 p5
        rintro e w3 ⟨rfl, b3⟩
        have KW : Hid (∀ o, Below w.heap.size w (w3.alloc o)) := fun o => (bstep (bstep HR.out.2.2 B1.out) b3).alloc (bstep (bstep HR.out.2.2 B1.out) b3).size o
        clear b3
        go_wp2
        exact bodyPost_ret (v := .tuple #[.slice (some ⟨w3.heap.size, 0, none⟩) 0 0, .bool false]) (by simp [results, Tryz.results18, go_sem]) rfl (CAns.zero HN.out _ _ (KW.out _))
      | true =>
        rw [ha] at hcl
        simp only [if_true] at hcl
        have hhc := hhas ha
        have hlt := idxC_lt (atM k.machines z) (i : Int)
        rw [hhc] at hlt
        obtain ⟨j, hj, hjl⟩ : ∃ j : Nat, idxC (atM k.machines z) (i : Int) = (j : Int) ∧ j < (atM k.machines z).copies.length := by
          rcases idxC_first (atM k.machines z) (i : Int) with ⟨e, _⟩ | ⟨j, e, hj, _, _⟩
          · rw [e] at hlt; simp at hlt
          · exact ⟨j, e, hj⟩
        rw [hj] at hcl
        have HN := hidOf (cel_yes (j := j) hB hi (by rw [hpm]; exact ha) (by rw [hpm]; exact hj))
        rw [hpm] at HN
        clear hlt hhas
        go_wp2_with fail
        refine hcl.mono ?_
        clear hcl p0 p1 p2 p3 p4 p5
        rintro e w3 ⟨rfl, b3⟩
        have B3 : Hid (Below U.heap.size U w3) := bstep B1.out b3
        clear b3
        have p3 := (FA.out.later B3.out).1 3 _ rfl
        rcases HR.out.1.m with hs | ⟨b2, off2, rfl, hb2, h1⟩
        · rw [hs] at hzl; simp at hzl
        obtain ⟨⟨m0, m1, m2, m3, m4, m5⟩, hat, hrd⟩ := h1 z _ (atM_of hzl)
        have e0 : w3.cell? ⟨b2, off2 + z * 4, none⟩ = some (.bool (atM k.machines z).alive) := (B3.out.cell (p := ⟨b2, off2 + z * 4, none⟩) hb2).trans (hat 0 _ rfl)
        have e1 : w3.cell? ⟨b2, off2 + z * 4 + 1, none⟩ = some (.slice m0 (atM k.machines z).copies.length m1) := (B3.out.cell (p := ⟨b2, off2 + z * 4 + 1, none⟩) hb2).trans (hat 1 _ rfl)
        have e2 : w3.cell? ⟨b2, off2 + z * 4 + 2, none⟩ = some (.slice m2 (atM k.machines z).log.length m3) := (B3.out.cell (p := ⟨b2, off2 + z * 4 + 2, none⟩) hb2).trans (hat 2 _ rfl)
        have e3 : w3.cell? ⟨b2, off2 + z * 4 + 3, none⟩ = some (.slice m4 (atM k.machines z).cleared.length m5) := (B3.out.cell (p := ⟨b2, off2 + z * 4 + 3, none⟩) hb2).trans (hat 3 _ rfl)
        obtain ⟨_, hk⟩ := hrd.k
        dsimp only at hk
        rcases hk with hk | ⟨b3, off3, rfl, hb3, hco⟩
        · omega
        have hca := (hco j _ (atK_of hjl)).below B3.out hb3
        obtain ⟨a', cap', cx, hsl, hcp⟩ := hca.c1
        have h6 := mach_six hmB _ (List.mem_of_getElem? (atK_of hjl))
        have ho := l3Copy_any w3 a' cap' (atK (atM k.machines z).copies j).cells (by omega) (by omega) (hsl.mono B3.out.size)
        have i2 : (z : Int) < (k.machines.length : Int) := by omega
        have i3 : (j : Int) < ((atM k.machines z).copies.length : Int) := by omega
        have dz : decide ((z : Int) < 0) = false := by simp
        have HM := HR.out.2.1.m
        have HK := (HR.out.2.1.ms _ (List.mem_of_getElem? (atM_of hzl))).k
        unfold maxLen at HM HK
        clear h1 hat hrd hco hca hsl hcp e0 e2 e3 h6
        go_wp2_with fail
        refine ho.mono ?_
        clear ho p3 e1 cx
        rintro e w4 ⟨q, cp, rfl, h2, h3, h4, h5, h6, b4⟩
        have KF : Hid (w.heap.size ≤ q ∧ q < w4.heap.size ∧ CellsAt w4 q 0 (atK (atM k.machines z).copies j).cells ∧ Room w4 q ((atK (atM k.machines z).copies j).cells.length * 2) ∧ Below w.heap.size w w4) := ⟨Nat.le_trans (bstep HR.out.2.2 B3.out).size h2, h3, h5, h6, bstep (bstep HR.out.2.2 B3.out) b4⟩
        clear h2 h3 h4 h5 h6 b4
        go_wp2
        exact bodyPost_ret (v := .tuple #[.slice (some ⟨q, 0, none⟩) (atK (atM k.machines z).copies j).cells.length cp, .bool true]) (by simp [results, Tryz.results18, go_sem]) rfl (CAns.some HN.out KF.out.1 KF.out.2.1 KF.out.2.2.1 KF.out.2.2.2.1 KF.out.2.2.2.2)
end Go.Proofs.YtefffikmbjfdfaaGreat
