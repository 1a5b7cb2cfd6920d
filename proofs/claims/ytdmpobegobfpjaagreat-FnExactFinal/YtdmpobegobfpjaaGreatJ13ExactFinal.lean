/- PlacesRg; PlacesIp; FnI; OrO; Six; Opens; OpenCells; OpenMac; YOpenTx; OpenCl; KdClT; KdMm; KdTm; NumHeld; PlsMa; PlsQ; KdClM: joined. -/
import Derived.Test.YtdmpobegobfpjaaGreatRows
import Derived.Test.YtdmpobegobfpjaaGreatJ6ExactFinal
import Derived.WalkKit
import Derived.WalkSpells
import Derived.WalkLawsBesides
import Derived.Below
import Derived.Test.YtdmpobegobfpjaaGreatJ9ExactFinal
import Derived.Test.YtdmpobegobfpjaaGreatJ12ExactFinal
import Derived.Test.YtdmpobegobfpjaaGreatJ10ExactFinal
import Derived.Lib.QuietBelow
import Derived.BigQuiet
import Derived.Deep.CutRange
import Derived.Deep.RegionWith
import Derived.LaidEql
import Derived.RowKitTokens
import Derived.Test.YtdmpobegobfpjaaGreatJ7ExactFinal
import Derived.Test.YtdmpobegobfpjaaGreatJ0ExactFinal
import Derived.ProofKit
import Derived.OpenShut
import Derived.Deep.Slices
import Derived.Lib.SmallJoins
import Derived.Test.YtdmpobegobfpjaaGreatJ1ExactFinal
import Derived.Test.YtdmpobegobfpjaaGreatJ5ExactFinal
import Derived.Test.YtdmpobegobfpjaaGreatJ3ExactFinal
import Derived.Test.YtdmpobegobfpjaaGreatJ4ExactFinal
namespace Go.Proofs.YtdmpobegobfpjaaGreat
open Go.RowKit
def regionB (zss : List (List Int)) (r : Int) : Bool := placesB zss && inB 0 ((zss.length : Int) - 1) r
def primR (zss : List (List Int)) (r : Int) : Int := if regionB zss r = true then atN (atP zss r.toNat) 0 else -1
def backL (zss : List (List Int)) (r : Int) : List Int := if regionB zss r = true then (atP zss r.toNat).drop 1 else []
set_option maxHeartbeats 1000000 in
theorem hasPlace_any (w : World) (a : Option Addr) (n cap : Nat) (r : Int) (zss : List (List Int)) (hn : n ≤ maxLen) (hs : SlP w w.heap.size a n zss) :
    Calls Tryz.prog 44 #[.slice a n cap, .int .i64 r] w fun e w' => e = .returned (.bool (regionB zss r)) ∧ Below w.heap.size w w' := by
  have hx := hs.1
  have hc := implPlacesOk_any w a n cap zss hn hs
  unfold maxLen at hn
  clear hs
  cases hp : placesB zss with
  | false =>
    rw [hp] at hc
    have hV : regionB zss r = false := by simp [regionB, hp]
    rw [hV]
    go_enter Tryz.func44, Tryz.ntmps44
    go_wp2_with fail
    refine hc.mono ?_
    clear hc
    rintro e w1 ⟨rfl, b1⟩
    go_wp2
    go_ret
    exact ⟨rfl, b1⟩
  | true =>
    rw [hp] at hc
    have hV : regionB zss r = inB 0 ((n : Int) - 1) r := by simp [regionB, hp, hx]
    rw [hV]
    by_cases h0 : 0 ≤ r
    · by_cases h8 : r < (n : Int)
      · rw [inB_yes (by omega) (by omega)]
        go_enter Tryz.func44, Tryz.ntmps44
        go_wp2_with fail
        refine hc.mono ?_
        clear hc
        rintro e w1 ⟨rfl, b1⟩
        go_wp2
        go_ret
        exact ⟨rfl, b1⟩
      · have hd : decide (r < (n : Int)) = false := by simp; omega
        have hb : inB 0 ((n : Int) - 1) r = false := by cases h : inB 0 ((n : Int) - 1) r with | false => rfl | true => rw [inB_iff] at h; omega
        rw [hb]
        go_enter Tryz.func44, Tryz.ntmps44
        go_wp2_with fail
        refine hc.mono ?_
        clear hc
        rintro e w1 ⟨rfl, b1⟩
        go_wp2
        go_ret
        exact ⟨rfl, b1⟩
    · have hd : decide (0 ≤ r) = false := by simp; omega
      have hb : inB 0 ((n : Int) - 1) r = false := by cases h : inB 0 ((n : Int) - 1) r with | false => rfl | true => rw [inB_iff] at h; omega
      rw [hb]
      go_enter Tryz.func44, Tryz.ntmps44
      go_wp2_with fail
      refine hc.mono ?_
      clear hc
      rintro e w1 ⟨rfl, b1⟩
      go_wp2
      go_ret
      exact ⟨rfl, b1⟩
end Go.Proofs.YtdmpobegobfpjaaGreat
namespace Go.Proofs.YtdmpobegobfpjaaGreat
open Go.RowKit
open Go.Sort (grow)
set_option maxRecDepth 100000 in
set_option maxHeartbeats 4000000 in
theorem implFinal_any (w : World) (a1 : Option Addr) (c1 : Nat) (a2 : Option Addr) (c2 : Nat) (a3 : Option Addr) (c3 : Nat) (k : C6) (y : Int) (hl : KCl.L k) (h : KCl.Rd w a1 c1 a2 c2 a3 c3 k) : Calls Tryz.prog 19 #[.agg #[.int .i64 k.config, .int .i64 k.clock, .slice a1 k.places.length c1, .slice a2 k.machines.length c2, .slice a3 k.txs.length c3, .bool k.lost], .int .i64 y] w (CAns w (finL k y) (finB k y)) := by
  obtain ⟨U, hU⟩ : ∃ Y, Y = w.alloc (.cells #[.int .i64 k.config, .int .i64 k.clock, .slice a1 k.places.length c1, .slice a2 k.machines.length c2, .slice a3 k.txs.length c3, .bool k.lost] 34) := ⟨_, rfl⟩
  have bU : Below w.heap.size w U := by rw [hU]; exact (Below.refl _ _).alloc (Nat.le_refl _) _
  have xU : Bx U w.heap.size [.int .i64 k.config, .int .i64 k.clock, .slice a1 k.places.length c1, .slice a2 k.machines.length c2, .slice a3 k.txs.length c3, .bool k.lost] := by rw [hU]; exact Bx.made w [.int .i64 k.config, .int .i64 k.clock, .slice a1 k.places.length c1, .slice a2 k.machines.length c2, .slice a3 k.txs.length c3, .bool k.lost] _
  have sU : U.heap.size = w.heap.size + 1 := by rw [hU]; simp
  have BU := hidOf bU
  have FA : Hid (Bx U w.heap.size [.int .i64 k.config, .int .i64 k.clock, .slice a1 k.places.length c1, .slice a2 k.machines.length c2, .slice a3 k.txs.length c3, .bool k.lost]) := xU
  have HR : Hid (KCl.Rd U a1 c1 a2 c2 a3 c3 k ∧ KCl.L k) := ⟨h.later bU, hl⟩
  have hc := replayed_any U a1 c1 a2 c2 a3 c3 k hl (h.later bU)
  clear h hl bU xU sU
  go_enter Tryz.func19, Tryz.ntmps19
  go_wp2_with fail
  rw [← hU]
  clear hU
  refine hc.mono ?_
  clear hc
  rintro e W1 ⟨hr, b1⟩
  have B1 : Hid (Below U.heap.size U W1) := b1
  clear b1
  rcases hr with ⟨hs, rfl⟩ | ⟨hs, b, g, rfl, hrep⟩
  · have HN : Hid (finB k y = false) := by unfold Hid finB; rw [hs]; rfl
    clear hs
    go_wp2
    exact bodyPost_ret (v := .tuple #[.slice none 0 0, .bool false]) (by simp [results, Tryz.results19, go_sem]) rfl (fin_zero HN.out _ (bstep BU.out B1.out))
  · have hk : clusterB k = true := by unfold serB at hs; rw [Bool.and_eq_true] at hs; exact hs.1
    have HP : Hid (Rep W1 U.heap.size b k.places.length g (rep0 k).1) := hrep
    have hp6 := (CSm.of hk).p
    have hpB : placesB k.places = true := by simp only [clusterB, Bool.and_eq_true] at hk; exact hk.1.1.1.1.2
    have hh := hasPlace_any W1 a1 k.places.length c1 y k.places HR.out.2.p (HR.out.1.later B1.out).p
    have hrg : regionB k.places y = inB 0 ((k.places.length : Int) - 1) y := by rw [regionB, hpB]; rfl
    rw [hrg] at hh
    have p2 := (FA.out.later B1.out).1 2 _ rfl
    have HS := hidOf hs
    clear hrep hk hpB hrg hs
    go_wp2_with fail
    refine hh.mono ?_
    clear hh p2
    rintro e W2 ⟨rfl, b2⟩
    have B2 : Hid (Below w.heap.size w W2) := bstep BU.out (bstep B1.out b2)
    have P2 : Hid (Rep W2 U.heap.size b k.places.length g (rep0 k).1) := HP.out.later b2
    clear b2
    cases hI : inB 0 ((k.places.length : Int) - 1) y with
    | false =>
      have HN : Hid (finB k y = false) := by unfold Hid finB; rw [hI]; simp
      clear hI
      go_wp2
      exact bodyPost_ret (v := .tuple #[.slice none 0 0, .bool false]) (by simp [results, Tryz.results19, go_sem]) rfl (fin_zero HN.out _ B2.out)
    | true =>
      have hy := inB_iff.1 hI
      obtain ⟨i, rfl⟩ : ∃ i : Nat, y = (i : Int) := ⟨y.toNat, by omega⟩
      have hi : i < k.places.length := by omega
      have hf : finB k (i : Int) = true := by unfold finB; rw [HS.out, hI]; rfl
      obtain ⟨xs, hxs⟩ : ∃ xs, (rep0 k).1[i]? = some xs := ⟨_, List.getElem?_eq_getElem (by rw [rep0_len]; exact hi)⟩
      obtain ⟨e1, e2, e3, -, e5, e6, e7⟩ := P2.out.cs i xs hxs
      have hx6 : xs.length = 6 := by simp only [cellsB, Bool.and_eq_true, decide_eq_true_eq] at e7; exact e7.1
      have HA : Hid (CAns w (finL k (i : Int)) (finB k (i : Int)) (.returned (.tuple #[.slice (some ⟨g i, 0, none⟩) 6 6, .bool true])) W2) := by
        unfold Hid
        have hL : finL k (i : Int) = xs := by rw [finL, if_pos hf, Int.toNat_natCast, hxs]; rfl
        rw [hL, hf]
        refine ⟨some ⟨g i, 0, none⟩, 6, fun q => q = g i, by rw [hx6], ⟨.inr ⟨g i, rfl, rfl, e5, by rw [hx6]; exact e6⟩, ?_⟩, B2.out⟩
        rintro q rfl
        exact ⟨Nat.le_trans BU.out.size e2, e3⟩
      have ix : (i : Int) < (k.places.length : Int) := by omega
      clear hI hy hf hxs e2 e3 e5 e6 e7 hx6
      go_wp2
      exact bodyPost_ret (v := .tuple #[.slice (some ⟨g i, 0, none⟩) 6 6, .bool true]) (by simp [results, Tryz.results19, go_sem]) rfl HA.out
def ordR (k : C6) : List Int := if clusterB k = true then (ordJ k k.txs.length).map fun j => (atT k.txs j).id else []
end Go.Proofs.YtdmpobegobfpjaaGreat
namespace Go.Proofs.YtdmpobegobfpjaaGreat
open Go.RowKit
theorem insA_six {css : List (List C2)} (h : ∀ xs ∈ css, xs.length = 6) (s : S5) : ∀ xs ∈ insA css s, xs.length = 6 := by
  intro xs hx
  unfold insA at hx
  rcases List.mem_or_eq_of_mem_set hx with hx | rfl
  · exact h xs hx
  · rw [insC_len]
    by_cases hl : s.region.toNat < css.length
    · rw [List.getElem?_eq_getElem hl]
      exact h _ (List.getElem_mem hl)
    · rw [List.set_eq_of_length_le (by omega)] at hx
      have := h _ hx
      rwa [insC_len] at this
theorem fold_six : ∀ (ss : List S5) {css : List (List C2)}, (∀ xs ∈ css, xs.length = 6) → ∀ xs ∈ ss.foldl insA css, xs.length = 6
  | [], _, h => h
  | s :: ss, _, h => fold_six ss (insA_six h s)
theorem repl_six (k : C6) : ∀ (js : List Nat) {css : List (List C2)}, (∀ xs ∈ css, xs.length = 6) → ∀ xs ∈ (repl k css js).1, xs.length = 6
  | [], _, h => h
  | j :: js, css, h => by
    rw [repl]
    split
    · exact repl_six k js (fold_six _ h)
    · exact h
theorem finL_six (k : C6) (y : Int) : (finL k y).length ≤ 1048576 := by
  unfold finL
  split
  · cases hq : (rep0 k).1[y.toNat]? with
    | none => simp
    | some xs =>
      have := repl_six k (ordJ k k.txs.length) (css := List.replicate k.places.length zeros) (fun xs hx => by rw [List.eq_of_mem_replicate hx]; rfl) xs (List.mem_of_getElem? hq)
      simp only [Option.getD_some]
      omega
  · simp
end Go.Proofs.YtdmpobegobfpjaaGreat
namespace Go.Proofs.YtdmpobegobfpjaaGreat
open Go.ChangeShapes Go.WideShapes Go.ChangeAt Go.RowKit
def S5.cells (s : S5) : List Value := [.int .i64 s.region, .int .i64 s.slot, .int .i64 s.value, .bool s.used, .int .i64 s.version]
def S5.wf (s : S5) : Prop := (Lit.int .i64 s.region).wf = true ∧ (Lit.int .i64 s.slot).wf = true ∧ (Lit.int .i64 s.value).wf = true ∧ (Lit.int .i64 s.version).wf = true
theorem list5 {α : Type} {cs : List α} (h : cs.length = 5) : ∃ c0 c1 c2 c3 c4, cs = [c0, c1, c2, c3, c4] := by
  match cs, h with
  | [c0, c1, c2, c3, c4], _ => exact ⟨c0, c1, c2, c3, c4, rfl⟩
theorem cells_set : Tryz.prog.cellsOf 200 = 5 := by kernel_rfl
theorem cells_int : Tryz.prog.cellsOf 2 = 1 := by kernel_rfl
theorem cells_bool : Tryz.prog.cellsOf 4 = 1 := by kernel_rfl
theorem open_set {H : Type} {enc : TypeId × Value → H} {w : World} {base : Nat} {spare : Nat → Bool} {held : Bool} {fuel : Nat} {cs : List Value} {x : DataW H × List MemPlace}
    (h : DataW.trod enc Tryz.prog w base spare held fuel 200 cs = some x) : ∃ s : S5, cs = s.cells ∧ s.wf := by
  obtain ⟨xs, n, _, rfl, hl, hlen, hf⟩ := DataW.trod_struct Tryz.underlying200 h
  rw [cells_set] at hl
  obtain ⟨c0, c1, c2, c3, c4, rfl⟩ := list5 hl
  obtain ⟨y0, y1, y2, y3, y4, rfl⟩ := list5 hlen
  have h0 := hf 0 _ rfl
  have h1 := hf 1 _ rfl
  have h2 := hf 2 _ rfl
  have h3 := hf 3 _ rfl
  have h4 := hf 4 _ rfl
  simp [cells_int, cells_bool] at h0 h1 h2 h3 h4
  obtain ⟨z0, e0, _, f0⟩ := DataW.trod_int Tryz.underlying2 h0
  obtain ⟨z1, e1, _, f1⟩ := DataW.trod_int Tryz.underlying2 h1
  obtain ⟨z2, e2, _, f2⟩ := DataW.trod_int Tryz.underlying2 h2
  obtain ⟨z3, e3, _⟩ := DataW.trod_bool Tryz.underlying4 h3
  obtain ⟨z4, e4, _, f4⟩ := DataW.trod_int Tryz.underlying2 h4
  simp at e0 e1 e2 e3 e4
  subst e0 e1 e2 e3 e4
  exact ⟨⟨z0, z1, z2, z3, z4⟩, rfl, f0, f1, f2, f4⟩
end Go.Proofs.YtdmpobegobfpjaaGreat
namespace Go.Proofs.YtdmpobegobfpjaaGreat
open Go.ChangeShapes Go.WideShapes Go.ChangeAt Go.RowKit Go.Deep
theorem list2 {α : Type} {cs : List α} (h : cs.length = 2) : ∃ c0 c1, cs = [c0, c1] := by
  match cs, h with
  | [c0, c1], _ => exact ⟨c0, c1, rfl⟩
theorem cells_cell : Tryz.prog.cellsOf 235 = 2 := by kernel_rfl
theorem cells_num : Tryz.prog.cellsOf 2 = 1 := by kernel_rfl
theorem open_cell {H : Type} {enc : TypeId × Value → H} {w : World} {base : Nat} {spare : Nat → Bool} {held : Bool} {fuel : Nat} {cs : List Value} {x : DataW H × List MemPlace}
    (h : DataW.trod enc Tryz.prog w base spare held fuel 235 cs = some x) : ∃ s : C2, cs = s.cells := by
  obtain ⟨xs, n, _, rfl, hl, hlen, hf⟩ := DataW.trod_struct Tryz.underlying235 h
  rw [cells_cell] at hl
  obtain ⟨c0, c1, rfl⟩ := list2 hl
  obtain ⟨y0, y1, rfl⟩ := list2 hlen
  have h0 := hf 0 _ rfl
  have h1 := hf 1 _ rfl
  simp [cells_num] at h0 h1
  obtain ⟨z0, e0, _, _⟩ := DataW.trod_int Tryz.underlying2 h0
  obtain ⟨z1, e1, _, _⟩ := DataW.trod_int Tryz.underlying2 h1
  simp at e0 e1
  subst e0 e1
  exact ⟨⟨z0, z1⟩, rfl⟩
theorem some_of {α : Type} {p : Nat → α → Prop} (n : Nat) (h : ∀ i, i < n → ∃ x, p i x) : ∃ xs : List α, xs.length = n ∧ ∀ i x, xs[i]? = some x → p i x := by
  induction n with
  | zero => exact ⟨[], rfl, fun i x e => by simp at e⟩
  | succ n ih =>
    obtain ⟨xs, hl, hx⟩ := ih fun i hi => h i (by omega)
    obtain ⟨y, hy⟩ := h n (by omega)
    refine ⟨xs ++ [y], by simp [hl], fun i x e => ?_⟩
    by_cases hi : i < xs.length
    · rw [List.getElem?_append_left hi] at e
      exact hx i x e
    · rw [List.getElem?_append_right (by omega)] at e
      have : i = xs.length := by
        by_cases h2 : i - xs.length = 0
        · omega
        · rw [List.getElem?_eq_none (by simp; omega)] at e; cases e
      subst this
      simp at e
      subst e
      rw [hl]; exact hy
end Go.Proofs.YtdmpobegobfpjaaGreat
namespace Go.Proofs.YtdmpobegobfpjaaGreat.om
open Go.ChangeShapes Go.WideShapes Go.ChangeAt Go.RowKit Go.Deep
theorem cells_i : Tryz.prog.cellsOf 2 = 1 := by kernel_rfl
theorem cells_b : Tryz.prog.cellsOf 4 = 1 := by kernel_rfl
theorem cells_ss : Tryz.prog.cellsOf 95 = 1 := by kernel_rfl
theorem cells_cs : Tryz.prog.cellsOf 188 = 1 := by kernel_rfl
theorem cells_rs : Tryz.prog.cellsOf 90 = 1 := by kernel_rfl
theorem cells_ks : Tryz.prog.cellsOf 89 = 1 := by kernel_rfl
theorem cells_is : Tryz.prog.cellsOf 28 = 1 := by kernel_rfl
theorem cells_r : Tryz.prog.cellsOf 193 = 4 := by kernel_rfl
theorem cells_k : Tryz.prog.cellsOf 190 = 2 := by kernel_rfl
theorem cells_m : Tryz.prog.cellsOf 92 = 4 := by kernel_rfl
theorem list4 {α : Type} {cs : List α} (h : cs.length = 4) : ∃ c0 c1 c2 c3, cs = [c0, c1, c2, c3] := by
  match cs, h with
  | [c0, c1, c2, c3], _ => exact ⟨c0, c1, c2, c3, rfl⟩
theorem open_sets {H : Type} {enc : TypeId × Value → H} {w : World} {spare : Nat → Bool} {held : Bool} {fuel : Nat} {cs : List Value} {x : DataW H × List MemPlace}
    (h : DataW.trod enc Tryz.prog w 0 spare held fuel 95 cs = some x) : ∃ a n cap xs, cs = [.slice a n cap] ∧ n ≤ maxLen ∧ n ≤ cap ∧ Sl w w.heap.size a n xs := by
  rcases open_slice Tryz.underlying95 h with ⟨rfl, _⟩ | ⟨a, len, cap, m, n, D, Pl, rfl, _, hl, hm, hmm, _, hx⟩
  · exact ⟨none, 0, 0, [], rfl, Nat.zero_le _, Nat.le_refl _, ⟨rfl, .inl rfl⟩⟩
  · have hlm : len ≤ m := by rw [hmm]; split <;> omega
    have key : ∀ i, i < len → ∃ s : S5, ∀ k, k < 5 → w.cell? ((a.add (i * 5)).add k) = s.cells[k]? := fun i hi => by
      obtain ⟨cs', h1, h2⟩ := hx i (by omega)
      rw [cells_set] at h1
      obtain ⟨s, rfl, _⟩ := open_set h2
      exact ⟨s, (World.cells?_some h1).2.2⟩
    obtain ⟨xs, hlen, hxs⟩ := some_of len key
    refine ⟨some a, len, cap, xs, rfl, by omega, by omega, ⟨hlen, ?_⟩⟩
    · by_cases h0 : len = 0
      · exact .inl h0
      · right
        obtain ⟨b, off, spot⟩ := a
        obtain ⟨s, hs⟩ := key 0 (by omega)
        have c0 : w.cell? ⟨b, off, spot⟩ = some (.int .i64 s.region) := by simpa [Addr.add, S5.cells] using hs 0 (by omega)
        have hspot : spot = none := by simpa using World.cell?_spot c0
        subst hspot
        refine ⟨b, off, rfl, block_lt_of_cell c0, fun i s e => ?_⟩
        have hk := hxs i s e
        simp only [add_plain] at hk
        exact ⟨by simpa [S5.cells] using hk 0 (by omega), by simpa [S5.cells] using hk 1 (by omega), by simpa [S5.cells] using hk 2 (by omega), by simpa [S5.cells] using hk 3 (by omega), by simpa [S5.cells] using hk 4 (by omega)⟩
theorem open_cells {H : Type} {enc : TypeId × Value → H} {w : World} {spare : Nat → Bool} {held : Bool} {fuel : Nat} {cs : List Value} {x : DataW H × List MemPlace}
    (h : DataW.trod enc Tryz.prog w 0 spare held fuel 188 cs = some x) : ∃ a n cap xs, cs = [.slice a n cap] ∧ n ≤ maxLen ∧ n ≤ cap ∧ SlC w w.heap.size a n xs := by
  rcases open_slice Tryz.underlying188 h with ⟨rfl, _⟩ | ⟨a, len, cap, m, n, D, Pl, rfl, _, hl, hm, hmm, _, hx⟩
  · exact ⟨none, 0, 0, [], rfl, Nat.zero_le _, Nat.le_refl _, ⟨rfl, .inl rfl⟩⟩
  · have hlm : len ≤ m := by rw [hmm]; split <;> omega
    have key : ∀ i, i < len → ∃ s : C2, ∀ k, k < 2 → w.cell? ((a.add (i * 2)).add k) = s.cells[k]? := fun i hi => by
      obtain ⟨cs', h1, h2⟩ := hx i (by omega)
      rw [cells_cell] at h1
      obtain ⟨s, rfl⟩ := open_cell h2
      exact ⟨s, (World.cells?_some h1).2.2⟩
    obtain ⟨xs, hlen, hxs⟩ := some_of len key
    refine ⟨some a, len, cap, xs, rfl, by omega, by omega, ⟨hlen, ?_⟩⟩
    · by_cases h0 : len = 0
      · exact .inl h0
      · right
        obtain ⟨b, off, spot⟩ := a
        obtain ⟨s, hs⟩ := key 0 (by omega)
        have c0 : w.cell? ⟨b, off, spot⟩ = some (.int .i64 s.head) := by simpa [Addr.add, C2.cells] using hs 0 (by omega)
        have hspot : spot = none := by simpa using World.cell?_spot c0
        subst hspot
        refine ⟨b, off, rfl, block_lt_of_cell c0, fun i s e => ?_⟩
        have hk := hxs i s e
        simp only [add_plain] at hk
        exact ⟨by simpa [C2.cells] using hk 0 (by omega), by simpa [C2.cells] using hk 1 (by omega)⟩
theorem open_nums {H : Type} {enc : TypeId × Value → H} {w : World} {spare : Nat → Bool} {held : Bool} {fuel : Nat} {cs : List Value} {x : DataW H × List MemPlace}
    (h : DataW.trod enc Tryz.prog w 0 spare held fuel 28 cs = some x) : ∃ a n cap xs, cs = [.slice a n cap] ∧ n ≤ maxLen ∧ n ≤ cap ∧ SlN w w.heap.size a n xs := by
  rcases open_slice Tryz.underlying28 h with ⟨rfl, _⟩ | ⟨a, len, cap, m, n, D, Pl, rfl, _, hl, hm, hmm, _, hx⟩
  · exact ⟨none, 0, 0, [], rfl, Nat.zero_le _, Nat.le_refl _, ⟨rfl, .inl rfl⟩⟩
  · have hlm : len ≤ m := by rw [hmm]; split <;> omega
    have key : ∀ i, i < len → ∃ s : Int, w.cell? (a.add (i * 1)) = some (.int .i64 s) := fun i hi => by
      obtain ⟨cs', h1, h2⟩ := hx i (by omega)
      rw [cells_i] at h1
      obtain ⟨z, e, _⟩ := DataW.trod_int Tryz.underlying2 h2
      subst e
      have := (World.cells?_some h1).2.2 0 (by omega)
      exact ⟨z, by simpa [Addr.add] using this⟩
    obtain ⟨xs, hlen, hxs⟩ := some_of len key
    refine ⟨some a, len, cap, xs, rfl, by omega, by omega, ⟨hlen, ?_⟩⟩
    · by_cases h0 : len = 0
      · exact .inl h0
      · right
        obtain ⟨b, off, spot⟩ := a
        obtain ⟨s, hs⟩ := key 0 (by omega)
        have c0 : w.cell? ⟨b, off, spot⟩ = some (.int .i64 s) := by simpa [Addr.add] using hs
        have hspot : spot = none := by simpa using World.cell?_spot c0
        subst hspot
        refine ⟨b, off, rfl, block_lt_of_cell c0, fun i s e => ?_⟩
        have hk := hxs i s e
        simp only [add_plain] at hk
        simpa using hk
theorem open_rec {H : Type} {enc : TypeId × Value → H} {w : World} {spare : Nat → Bool} {held : Bool} {fuel : Nat} {cs : List Value} {x : DataW H × List MemPlace}
    (h : DataW.trod enc Tryz.prog w 0 spare held fuel 193 cs = some x) : ∃ (r : R4) (a : Option Addr) (cap : Nat), cs = [.int .i64 r.kind, .int .i64 r.tx, .int .i64 r.region, .slice a r.sets.length cap] ∧ Sl w w.heap.size a r.sets.length r.sets ∧ r.sets.length ≤ cap ∧ r.sets.length ≤ maxLen := by
  obtain ⟨xs, n, _, rfl, hl, hlen, hf⟩ := DataW.trod_struct Tryz.underlying193 h
  rw [cells_r] at hl
  obtain ⟨c0, c1, c2, c3, rfl⟩ := list4 hl
  obtain ⟨y0, y1, y2, y3, rfl⟩ := list4 hlen
  have h0 := hf 0 _ rfl
  have h1 := hf 1 _ rfl
  have h2 := hf 2 _ rfl
  have h3 := hf 3 _ rfl
  simp [cells_i, cells_ss] at h0 h1 h2 h3
  obtain ⟨z0, e0, _, _⟩ := DataW.trod_int Tryz.underlying2 h0
  obtain ⟨z1, e1, _, _⟩ := DataW.trod_int Tryz.underlying2 h1
  obtain ⟨z2, e2, _, _⟩ := DataW.trod_int Tryz.underlying2 h2
  obtain ⟨a, m, cap, ss, e3, hm, hc, hs⟩ := open_sets h3
  simp at e0 e1 e2 e3
  subst e0 e1 e2 e3
  obtain ⟨rfl, hs'⟩ := hs
  exact ⟨⟨z0, z1, z2, ss⟩, a, cap, rfl, ⟨rfl, hs'⟩, hc, hm⟩
theorem open_cop {H : Type} {enc : TypeId × Value → H} {w : World} {spare : Nat → Bool} {held : Bool} {fuel : Nat} {cs : List Value} {x : DataW H × List MemPlace}
    (h : DataW.trod enc Tryz.prog w 0 spare held fuel 190 cs = some x) : ∃ (k : K2) (a : Option Addr) (cap : Nat), cs = [.int .i64 k.region, .slice a k.cells.length cap] ∧ SlC w w.heap.size a k.cells.length k.cells ∧ k.cells.length ≤ cap ∧ k.cells.length ≤ maxLen := by
  obtain ⟨xs, n, _, rfl, hl, hlen, hf⟩ := DataW.trod_struct Tryz.underlying190 h
  rw [cells_k] at hl
  obtain ⟨c0, c1, rfl⟩ := list2 hl
  obtain ⟨y0, y1, rfl⟩ := list2 hlen
  have h0 := hf 0 _ rfl
  have h1 := hf 1 _ rfl
  simp [cells_i, cells_cs] at h0 h1
  obtain ⟨z0, e0, _, _⟩ := DataW.trod_int Tryz.underlying2 h0
  obtain ⟨a, m, cap, ss, e3, hm, hc, hs⟩ := open_cells h1
  simp at e0 e3
  subst e0 e3
  obtain ⟨rfl, hs'⟩ := hs
  exact ⟨⟨z0, ss⟩, a, cap, rfl, ⟨rfl, hs'⟩, hc, hm⟩
theorem open_recs {H : Type} {enc : TypeId × Value → H} {w : World} {spare : Nat → Bool} {held : Bool} {fuel : Nat} {cs : List Value} {x : DataW H × List MemPlace}
    (h : DataW.trod enc Tryz.prog w 0 spare held fuel 90 cs = some x) : ∃ a n cap xs, cs = [.slice a n cap] ∧ n ≤ maxLen ∧ n ≤ cap ∧ SlR w w.heap.size a n xs ∧ ∀ s ∈ xs, s.sets.length ≤ maxLen := by
  rcases open_slice Tryz.underlying90 h with ⟨rfl, _⟩ | ⟨a, len, cap, m, n, D, Pl, rfl, _, hl, hm, hmm, _, hx⟩
  · exact ⟨none, 0, 0, [], rfl, Nat.zero_le _, Nat.le_refl _, ⟨rfl, .inl rfl⟩, fun s hs => by cases hs⟩
  · have hlm : len ≤ m := by rw [hmm]; split <;> omega
    have key : ∀ i, i < len → ∃ s : R4, (∃ a' cap', (∀ k, k < 4 → w.cell? ((a.add (i * 4)).add k) = ([.int .i64 s.kind, .int .i64 s.tx, .int .i64 s.region, .slice a' s.sets.length cap'] : List Value)[k]?) ∧ Sl w w.heap.size a' s.sets.length s.sets ∧ s.sets.length ≤ cap') ∧ s.sets.length ≤ maxLen := fun i hi => by
      obtain ⟨cs', h1, h2⟩ := hx i (by omega)
      rw [cells_r] at h1
      obtain ⟨s, a', cap', rfl, t1, t2, t3⟩ := open_rec h2
      exact ⟨s, ⟨a', cap', (World.cells?_some h1).2.2, t1, t2⟩, t3⟩
    obtain ⟨xs, hlen, hxs⟩ := some_of len key
    refine ⟨some a, len, cap, xs, rfl, by omega, by omega, ⟨hlen, ?_⟩, ?_⟩
    · by_cases h0 : len = 0
      · exact .inl h0
      · right
        obtain ⟨b, off, spot⟩ := a
        obtain ⟨s, hs⟩ := key 0 (by omega)
        obtain ⟨⟨a', cap', hs, _⟩, _⟩ := hs
        have c0 := hs 0 (by omega)
        simp [Addr.add] at c0
        have hspot : spot = none := by simpa using World.cell?_spot c0
        subst hspot
        refine ⟨b, off, rfl, block_lt_of_cell c0, fun i s e => ?_⟩
        have hk := hxs i s e
        simp only [add_plain] at hk
        obtain ⟨⟨a', cap', hk, t1, t2⟩, _⟩ := hk
        exact ⟨by simpa using hk 0 (by omega), by simpa using hk 1 (by omega), by simpa using hk 2 (by omega), a', cap', by simpa using hk 3 (by omega), t1, t2⟩
    · intro s hs
      obtain ⟨i, hi, rfl⟩ := List.getElem_of_mem hs
      exact (hxs i _ (List.getElem?_eq_getElem hi)).2
theorem open_cops {H : Type} {enc : TypeId × Value → H} {w : World} {spare : Nat → Bool} {held : Bool} {fuel : Nat} {cs : List Value} {x : DataW H × List MemPlace}
    (h : DataW.trod enc Tryz.prog w 0 spare held fuel 89 cs = some x) : ∃ a n cap xs, cs = [.slice a n cap] ∧ n ≤ maxLen ∧ n ≤ cap ∧ SlK w w.heap.size a n xs ∧ ∀ s ∈ xs, s.cells.length ≤ maxLen := by
  rcases open_slice Tryz.underlying89 h with ⟨rfl, _⟩ | ⟨a, len, cap, m, n, D, Pl, rfl, _, hl, hm, hmm, _, hx⟩
  · exact ⟨none, 0, 0, [], rfl, Nat.zero_le _, Nat.le_refl _, ⟨rfl, .inl rfl⟩, fun s hs => by cases hs⟩
  · have hlm : len ≤ m := by rw [hmm]; split <;> omega
    have key : ∀ i, i < len → ∃ s : K2, (∃ a' cap', (∀ k, k < 2 → w.cell? ((a.add (i * 2)).add k) = ([.int .i64 s.region, .slice a' s.cells.length cap'] : List Value)[k]?) ∧ SlC w w.heap.size a' s.cells.length s.cells ∧ s.cells.length ≤ cap') ∧ s.cells.length ≤ maxLen := fun i hi => by
      obtain ⟨cs', h1, h2⟩ := hx i (by omega)
      rw [cells_k] at h1
      obtain ⟨s, a', cap', rfl, t1, t2, t3⟩ := open_cop h2
      exact ⟨s, ⟨a', cap', (World.cells?_some h1).2.2, t1, t2⟩, t3⟩
    obtain ⟨xs, hlen, hxs⟩ := some_of len key
    refine ⟨some a, len, cap, xs, rfl, by omega, by omega, ⟨hlen, ?_⟩, ?_⟩
    · by_cases h0 : len = 0
      · exact .inl h0
      · right
        obtain ⟨b, off, spot⟩ := a
        obtain ⟨s, hs⟩ := key 0 (by omega)
        obtain ⟨⟨a', cap', hs, _⟩, _⟩ := hs
        have c0 := hs 0 (by omega)
        simp [Addr.add] at c0
        have hspot : spot = none := by simpa using World.cell?_spot c0
        subst hspot
        refine ⟨b, off, rfl, block_lt_of_cell c0, fun i s e => ?_⟩
        have hk := hxs i s e
        simp only [add_plain] at hk
        obtain ⟨⟨a', cap', hk, t1, t2⟩, _⟩ := hk
        exact ⟨by simpa using hk 0 (by omega), a', cap', by simpa using hk 1 (by omega), t1, t2⟩
    · intro s hs
      obtain ⟨i, hi, rfl⟩ := List.getElem_of_mem hs
      exact (hxs i _ (List.getElem?_eq_getElem hi)).2
theorem open_machine {H : Type} {enc : TypeId × Value → H} {w : World} {spare : Nat → Bool} {held : Bool} {fuel : Nat} {cs : List Value} {x : DataW H × List MemPlace}
    (h : DataW.trod enc Tryz.prog w 0 spare held fuel 92 cs = some x) : ∃ (v : MV) (m : M4), cs = [.bool m.alive, .slice v.ac m.copies.length v.cc, .slice v.al m.log.length v.cl, .slice v.ad m.cleared.length v.cd] ∧ SlM w v m ∧ m.copies.length ≤ maxLen ∧ m.log.length ≤ maxLen ∧ m.cleared.length ≤ maxLen ∧ (∀ r ∈ m.copies, r.cells.length ≤ maxLen) ∧ (∀ r ∈ m.log, r.sets.length ≤ maxLen) ∧ m.copies.length ≤ v.cc ∧ m.log.length ≤ v.cl ∧ m.cleared.length ≤ v.cd := by
  obtain ⟨xs, n, _, rfl, hl, hlen, hf⟩ := DataW.trod_struct Tryz.underlying92 h
  rw [cells_m] at hl
  obtain ⟨c0, c1, c2, c3, rfl⟩ := list4 hl
  obtain ⟨y0, y1, y2, y3, rfl⟩ := list4 hlen
  have h0 := hf 0 _ rfl
  have h1 := hf 1 _ rfl
  have h2 := hf 2 _ rfl
  have h3 := hf 3 _ rfl
  simp [cells_b, cells_ks, cells_rs, cells_is] at h0 h1 h2 h3
  obtain ⟨z0, e0, _⟩ := DataW.trod_bool Tryz.underlying4 h0
  obtain ⟨a1, n1, k1, ks, e1, l1, p1, s1, q1⟩ := open_cops h1
  obtain ⟨a2, n2, k2, rs, e2, l2, p2, s2, q2⟩ := open_recs h2
  obtain ⟨a3, n3, k3, zs, e3, l3, p3, s3⟩ := open_nums h3
  simp at e0 e1 e2 e3
  subst e0 e1 e2 e3
  obtain ⟨rfl, s1'⟩ := s1
  obtain ⟨rfl, s2'⟩ := s2
  obtain ⟨rfl, s3'⟩ := s3
  exact ⟨⟨a1, k1, a2, k2, a3, k3⟩, ⟨z0, ks, rs, zs⟩, rfl, ⟨⟨rfl, s1'⟩, ⟨rfl, s2'⟩, ⟨rfl, s3'⟩⟩, l1, l2, l3, q1, q2, p1, p2, p3⟩
end Go.Proofs.YtdmpobegobfpjaaGreat.om
namespace Go.Proofs.YtdmpobegobfpjaaGreat.tx.ot
open Go.ChangeShapes Go.WideShapes Go.ChangeAt Go.RowKit Go.Deep
theorem cells_i : Tryz.prog.cellsOf 2 = 1 := by kernel_rfl
theorem cells_ss : Tryz.prog.cellsOf 95 = 1 := by kernel_rfl
theorem cells_ns : Tryz.prog.cellsOf 94 = 1 := by kernel_rfl
theorem cells_t : Tryz.prog.cellsOf 97 = 7 := by kernel_rfl
theorem list7 {α : Type} {cs : List α} (h : cs.length = 7) : ∃ c0 c1 c2 c3 c4 c5 c6, cs = [c0, c1, c2, c3, c4, c5, c6] := by
  match cs, h with
  | [c0, c1, c2, c3, c4, c5, c6], _ => exact ⟨c0, c1, c2, c3, c4, c5, c6, rfl⟩
theorem some_of {α : Type} {p : Nat → α → Prop} (n : Nat) (h : ∀ i, i < n → ∃ x, p i x) : ∃ xs : List α, xs.length = n ∧ ∀ i x, xs[i]? = some x → p i x := by
  induction n with
  | zero => exact ⟨[], rfl, fun i x e => by simp at e⟩
  | succ n ih =>
    obtain ⟨xs, hl, hx⟩ := ih fun i hi => h i (by omega)
    obtain ⟨y, hy⟩ := h n (by omega)
    refine ⟨xs ++ [y], by simp [hl], fun i x e => ?_⟩
    by_cases hi : i < xs.length
    · rw [List.getElem?_append_left hi] at e
      exact hx i x e
    · rw [List.getElem?_append_right (by omega)] at e
      have : i = xs.length := by
        by_cases h2 : i - xs.length = 0
        · omega
        · rw [List.getElem?_eq_none (by simp; omega)] at e; cases e
      subst this
      simp at e
      subst e
      rw [hl]; exact hy
theorem list5 {α : Type} {cs : List α} (h : cs.length = 5) : ∃ c0 c1 c2 c3 c4, cs = [c0, c1, c2, c3, c4] := by
  match cs, h with
  | [c0, c1, c2, c3, c4], _ => exact ⟨c0, c1, c2, c3, c4, rfl⟩
theorem cells_set : Tryz.prog.cellsOf 200 = 5 := by kernel_rfl
theorem cells_int : Tryz.prog.cellsOf 2 = 1 := by kernel_rfl
theorem cells_bool : Tryz.prog.cellsOf 4 = 1 := by kernel_rfl
def setCells (s : S5) : List Value := [.int .i64 s.region, .int .i64 s.slot, .int .i64 s.value, .bool s.used, .int .i64 s.version]
def setWf (s : S5) : Prop := (Lit.int .i64 s.region).wf = true ∧ (Lit.int .i64 s.slot).wf = true ∧ (Lit.int .i64 s.value).wf = true ∧ (Lit.int .i64 s.version).wf = true
theorem open_set {H : Type} {enc : TypeId × Value → H} {w : World} {base : Nat} {spare : Nat → Bool} {held : Bool} {fuel : Nat} {cs : List Value} {x : DataW H × List MemPlace}
    (h : DataW.trod enc Tryz.prog w base spare held fuel 200 cs = some x) : ∃ s : S5, cs = (setCells s) ∧ setWf s := by
  obtain ⟨xs, n, _, rfl, hl, hlen, hf⟩ := DataW.trod_struct Tryz.underlying200 h
  rw [cells_set] at hl
  obtain ⟨c0, c1, c2, c3, c4, rfl⟩ := list5 hl
  obtain ⟨y0, y1, y2, y3, y4, rfl⟩ := list5 hlen
  have h0 := hf 0 _ rfl
  have h1 := hf 1 _ rfl
  have h2 := hf 2 _ rfl
  have h3 := hf 3 _ rfl
  have h4 := hf 4 _ rfl
  simp [cells_int, cells_bool] at h0 h1 h2 h3 h4
  obtain ⟨z0, e0, _, f0⟩ := DataW.trod_int Tryz.underlying2 h0
  obtain ⟨z1, e1, _, f1⟩ := DataW.trod_int Tryz.underlying2 h1
  obtain ⟨z2, e2, _, f2⟩ := DataW.trod_int Tryz.underlying2 h2
  obtain ⟨z3, e3, _⟩ := DataW.trod_bool Tryz.underlying4 h3
  obtain ⟨z4, e4, _, f4⟩ := DataW.trod_int Tryz.underlying2 h4
  simp at e0 e1 e2 e3 e4
  subst e0 e1 e2 e3 e4
  exact ⟨⟨z0, z1, z2, z3, z4⟩, rfl, f0, f1, f2, f4⟩
theorem open_sets {H : Type} {enc : TypeId × Value → H} {w : World} {spare : Nat → Bool} {held : Bool} {fuel : Nat} {cs : List Value} {x : DataW H × List MemPlace}
    (h : DataW.trod enc Tryz.prog w 0 spare held fuel 95 cs = some x) : ∃ a n cap xs, cs = [.slice a n cap] ∧ n ≤ maxLen ∧ n ≤ cap ∧ Sl w w.heap.size a n xs := by
  rcases open_slice Tryz.underlying95 h with ⟨rfl, _⟩ | ⟨a, len, cap, m, n, D, Pl, rfl, _, hl, hm, hmm, _, hx⟩
  · exact ⟨none, 0, 0, [], rfl, Nat.zero_le _, Nat.le_refl _, ⟨rfl, .inl rfl⟩⟩
  · have hlm : len ≤ m := by rw [hmm]; split <;> omega
    have key : ∀ i, i < len → ∃ s : S5, ∀ k, k < 5 → w.cell? ((a.add (i * 5)).add k) = (setCells s)[k]? := fun i hi => by
      obtain ⟨cs', h1, h2⟩ := hx i (by omega)
      rw [cells_set] at h1
      obtain ⟨s, rfl, _⟩ := open_set h2
      exact ⟨s, (World.cells?_some h1).2.2⟩
    obtain ⟨xs, hlen, hxs⟩ := some_of len key
    refine ⟨some a, len, cap, xs, rfl, by omega, by omega, ⟨hlen, ?_⟩⟩
    · by_cases h0 : len = 0
      · exact .inl h0
      · right
        obtain ⟨b, off, spot⟩ := a
        obtain ⟨s, hs⟩ := key 0 (by omega)
        have c0 : w.cell? ⟨b, off, spot⟩ = some (.int .i64 s.region) := by simpa [Addr.add, setCells] using hs 0 (by omega)
        have hspot : spot = none := by simpa using World.cell?_spot c0
        subst hspot
        refine ⟨b, off, rfl, block_lt_of_cell c0, fun i s e => ?_⟩
        have hk := hxs i s e
        simp only [add_plain] at hk
        exact ⟨by simpa [setCells] using hk 0 (by omega), by simpa [setCells] using hk 1 (by omega), by simpa [setCells] using hk 2 (by omega), by simpa [setCells] using hk 3 (by omega), by simpa [setCells] using hk 4 (by omega)⟩
theorem cells_note : Tryz.prog.cellsOf 198 = 5 := by kernel_rfl
def noteCells (s : N5) : List Value := [.int .i64 s.region, .int .i64 s.slot, .int .i64 s.version, .int .i64 s.value, .bool s.used]
def noteWf (s : N5) : Prop := (Lit.int .i64 s.region).wf = true ∧ (Lit.int .i64 s.slot).wf = true ∧ (Lit.int .i64 s.version).wf = true ∧ (Lit.int .i64 s.value).wf = true
theorem open_note {H : Type} {enc : TypeId × Value → H} {w : World} {base : Nat} {spare : Nat → Bool} {held : Bool} {fuel : Nat} {cs : List Value} {x : DataW H × List MemPlace}
    (h : DataW.trod enc Tryz.prog w base spare held fuel 198 cs = some x) : ∃ s : N5, cs = (noteCells s) ∧ noteWf s := by
  obtain ⟨xs, n, _, rfl, hl, hlen, hf⟩ := DataW.trod_struct Tryz.underlying198 h
  rw [cells_note] at hl
  obtain ⟨c0, c1, c2, c3, c4, rfl⟩ := list5 hl
  obtain ⟨y0, y1, y2, y3, y4, rfl⟩ := list5 hlen
  have h0 := hf 0 _ rfl
  have h1 := hf 1 _ rfl
  have h2 := hf 2 _ rfl
  have h3 := hf 3 _ rfl
  have h4 := hf 4 _ rfl
  simp [cells_int, cells_bool] at h0 h1 h2 h3 h4
  obtain ⟨z0, e0, _, f0⟩ := DataW.trod_int Tryz.underlying2 h0
  obtain ⟨z1, e1, _, f1⟩ := DataW.trod_int Tryz.underlying2 h1
  obtain ⟨z2, e2, _, f2⟩ := DataW.trod_int Tryz.underlying2 h2
  obtain ⟨z3, e3, _, f4⟩ := DataW.trod_int Tryz.underlying2 h3
  obtain ⟨z4, e4, _⟩ := DataW.trod_bool Tryz.underlying4 h4
  simp at e0 e1 e2 e3 e4
  subst e0 e1 e2 e3 e4
  exact ⟨⟨z0, z1, z2, z3, z4⟩, rfl, f0, f1, f2, f4⟩
theorem open_notes {H : Type} {enc : TypeId × Value → H} {w : World} {spare : Nat → Bool} {held : Bool} {fuel : Nat} {cs : List Value} {x : DataW H × List MemPlace}
    (h : DataW.trod enc Tryz.prog w 0 spare held fuel 94 cs = some x) : ∃ a n cap xs, cs = [.slice a n cap] ∧ n ≤ maxLen ∧ n ≤ cap ∧ SlNo w w.heap.size a n xs := by
  rcases open_slice Tryz.underlying94 h with ⟨rfl, _⟩ | ⟨a, len, cap, m, n, D, Pl, rfl, _, hl, hm, hmm, _, hx⟩
  · exact ⟨none, 0, 0, [], rfl, Nat.zero_le _, Nat.le_refl _, ⟨rfl, .inl rfl⟩⟩
  · have hlm : len ≤ m := by rw [hmm]; split <;> omega
    have key : ∀ i, i < len → ∃ s : N5, ∀ k, k < 5 → w.cell? ((a.add (i * 5)).add k) = (noteCells s)[k]? := fun i hi => by
      obtain ⟨cs', h1, h2⟩ := hx i (by omega)
      rw [cells_note] at h1
      obtain ⟨s, rfl, _⟩ := open_note h2
      exact ⟨s, (World.cells?_some h1).2.2⟩
    obtain ⟨xs, hlen, hxs⟩ := some_of len key
    refine ⟨some a, len, cap, xs, rfl, by omega, by omega, ⟨hlen, ?_⟩⟩
    · by_cases h0 : len = 0
      · exact .inl h0
      · right
        obtain ⟨b, off, spot⟩ := a
        obtain ⟨s, hs⟩ := key 0 (by omega)
        have c0 : w.cell? ⟨b, off, spot⟩ = some (.int .i64 s.region) := by simpa [Addr.add, noteCells] using hs 0 (by omega)
        have hspot : spot = none := by simpa using World.cell?_spot c0
        subst hspot
        refine ⟨b, off, rfl, block_lt_of_cell c0, fun i s e => ?_⟩
        have hk := hxs i s e
        simp only [add_plain] at hk
        exact ⟨by simpa [noteCells] using hk 0 (by omega), by simpa [noteCells] using hk 1 (by omega), by simpa [noteCells] using hk 2 (by omega), by simpa [noteCells] using hk 3 (by omega), by simpa [noteCells] using hk 4 (by omega)⟩
theorem open_tx {H : Type} {enc : TypeId × Value → H} {w : World} {spare : Nat → Bool} {held : Bool} {fuel : Nat} {cs : List Value} {x : DataW H × List MemPlace}
    (h : DataW.trod enc Tryz.prog w 0 spare held fuel 97 cs = some x) : ∃ (v : TV) (t : T7), cs = [.int .i64 t.id, .int .i64 t.home, .int .i64 t.phase, .int .i64 t.count, .slice v.ar t.reads.length v.cr, .slice v.ah t.sets.length v.ch, .int .i64 t.stamp] ∧ (SlT w v t ∧ t.sets.length ≤ v.ch) ∧ TL t := by
  obtain ⟨xs, n, _, rfl, hl, hlen, hf⟩ := DataW.trod_struct Tryz.underlying97 h
  rw [cells_t] at hl
  obtain ⟨c0, c1, c2, c3, c4, c5, c6, rfl⟩ := list7 hl
  obtain ⟨y0, y1, y2, y3, y4, y5, y6, rfl⟩ := list7 hlen
  have h0 := hf 0 _ rfl
  have h1 := hf 1 _ rfl
  have h2 := hf 2 _ rfl
  have h3 := hf 3 _ rfl
  have h4 := hf 4 _ rfl
  have h5 := hf 5 _ rfl
  have h6 := hf 6 _ rfl
  simp [cells_i, cells_ns, cells_ss] at h0 h1 h2 h3 h4 h5 h6
  obtain ⟨z0, e0, _, _⟩ := DataW.trod_int Tryz.underlying2 h0
  obtain ⟨z1, e1, _, _⟩ := DataW.trod_int Tryz.underlying2 h1
  obtain ⟨z2, e2, _, _⟩ := DataW.trod_int Tryz.underlying2 h2
  obtain ⟨z3, e3, _, _⟩ := DataW.trod_int Tryz.underlying2 h3
  obtain ⟨a4, n4, k4, ns, e4, l4, p4, s4⟩ := open_notes h4
  obtain ⟨a5, n5, k5, ss, e5, l5, p5, s5⟩ := open_sets h5
  obtain ⟨z6, e6, _, _⟩ := DataW.trod_int Tryz.underlying2 h6
  simp at e0 e1 e2 e3 e4 e5 e6
  subst e0 e1 e2 e3 e4 e5 e6
  obtain ⟨rfl, s4'⟩ := s4
  obtain ⟨rfl, s5'⟩ := s5
  exact ⟨⟨a4, k4, a5, k5⟩, ⟨z0, z1, z2, z3, ns, ss, z6⟩, rfl, ⟨⟨⟨rfl, s4'⟩, ⟨rfl, s5'⟩⟩, p5⟩, ⟨l4, l5⟩⟩
end Go.Proofs.YtdmpobegobfpjaaGreat.tx.ot
namespace Go.Proofs.YtdmpobegobfpjaaGreat.oc
open Go.ChangeShapes Go.WideShapes Go.ChangeAt Go.RowKit Go.Deep
theorem cells_one : Tryz.prog.cellsOf 2 = 1 := by kernel_rfl
theorem cells_row : Tryz.prog.cellsOf 28 = 1 := by kernel_rfl
theorem cells_place : Tryz.prog.cellsOf 87 = 1 := by kernel_rfl
theorem list1 {α : Type} {cs : List α} (h : cs.length = 1) : ∃ c0, cs = [c0] := by
  match cs, h with
  | [c0], _ => exact ⟨c0, rfl⟩
theorem rows_of {α : Type} {p : Nat → α → Prop} (n : Nat) (h : ∀ i, i < n → ∃ x, p i x) : ∃ xs : List α, xs.length = n ∧ ∀ i x, xs[i]? = some x → p i x := by
  induction n with
  | zero => exact ⟨[], rfl, fun i x e => by simp at e⟩
  | succ n ih =>
    obtain ⟨xs, hl, hx⟩ := ih fun i hi => h i (by omega)
    obtain ⟨y, hy⟩ := h n (by omega)
    refine ⟨xs ++ [y], by simp [hl], fun i x e => ?_⟩
    by_cases hi : i < xs.length
    · rw [List.getElem?_append_left hi] at e
      exact hx i x e
    · rw [List.getElem?_append_right (by omega)] at e
      have : i = xs.length := by
        by_cases h2 : i - xs.length = 0
        · omega
        · rw [List.getElem?_eq_none (by simp; omega)] at e; cases e
      subst this
      simp at e
      subst e
      rw [hl]; exact hy
theorem open_numrow {H : Type} {enc : TypeId × Value → H} {w : World} {spare : Nat → Bool} {held : Bool} {fuel : Nat} {cs : List Value} {x : DataW H × List MemPlace}
    (h : DataW.trod enc Tryz.prog w 0 spare held fuel 28 cs = some x) : ∃ a n cap zs, cs = [.slice a n cap] ∧ n ≤ maxLen ∧ n ≤ cap ∧ SlN w w.heap.size a n zs := by
  rcases open_slice Tryz.underlying28 h with ⟨rfl, _⟩ | ⟨a, len, cap, m, n, D, Pl, rfl, _, hl, hm, hmm, _, hx⟩
  · exact ⟨none, 0, 0, [], rfl, Nat.zero_le _, Nat.le_refl _, ⟨rfl, .inl rfl⟩⟩
  · have hlm : len ≤ m := by rw [hmm]; split <;> omega
    have key : ∀ i, i < len → ∃ z : Int, w.cell? (a.add (i * 1)) = some (.int .i64 z) := fun i hi => by
      obtain ⟨cs', h1, h2⟩ := hx i (by omega)
      rw [cells_one] at h1
      obtain ⟨z, e, _⟩ := DataW.trod_int Tryz.underlying2 h2
      subst e
      have := (World.cells?_some h1).2.2 0 (by omega)
      exact ⟨z, by simpa [Addr.add] using this⟩
    obtain ⟨zs, hlen, hzs⟩ := rows_of len key
    refine ⟨some a, len, cap, zs, rfl, by omega, by omega, ⟨hlen, ?_⟩⟩
    by_cases h0 : len = 0
    · exact .inl h0
    · right
      obtain ⟨b, off, spot⟩ := a
      obtain ⟨z, hz⟩ := key 0 (by omega)
      have c0 : w.cell? ⟨b, off, spot⟩ = some (.int .i64 z) := by simpa [Addr.add] using hz
      have hspot : spot = none := by simpa using World.cell?_spot c0
      subst hspot
      refine ⟨b, off, rfl, block_lt_of_cell c0, fun i z e => ?_⟩
      have hk := hzs i z e
      simpa [add_plain] using hk
def PlaceIs (w : World) (v : Value) (zs : List Int) : Prop := ∃ a cap, v = .slice a zs.length cap ∧ SlN w w.heap.size a zs.length zs ∧ zs.length ≤ cap ∧ zs.length ≤ maxLen
theorem open_place {H : Type} {enc : TypeId × Value → H} {w : World} {spare : Nat → Bool} {held : Bool} {fuel : Nat} {cs : List Value} {x : DataW H × List MemPlace}
    (h : DataW.trod enc Tryz.prog w 0 spare held fuel 87 cs = some x) : ∃ v zs, cs = [v] ∧ PlaceIs w v zs := by
  obtain ⟨xs, n, _, rfl, hl, hlen, hf⟩ := DataW.trod_struct Tryz.underlying87 h
  rw [cells_place] at hl
  obtain ⟨c0, rfl⟩ := list1 hl
  obtain ⟨y0, rfl⟩ := list1 hlen
  have h0 := hf 0 _ rfl
  simp [cells_row] at h0
  obtain ⟨a, m, cap, zs, e, hm, hc, hs⟩ := open_numrow h0
  simp at e
  subst e
  obtain rfl : zs.length = m := hs.1
  exact ⟨_, zs, rfl, a, cap, rfl, hs, hc, hm⟩
theorem open_placerow {H : Type} {enc : TypeId × Value → H} {w : World} {spare : Nat → Bool} {held : Bool} {fuel : Nat} {cs : List Value} {x : DataW H × List MemPlace}
    (h : DataW.trod enc Tryz.prog w 0 spare held fuel 22 cs = some x) : ∃ a n cap zss, cs = [.slice a n cap] ∧ n ≤ maxLen ∧ SlP w w.heap.size a n zss ∧ ∀ zs ∈ zss, zs.length ≤ maxLen := by
  rcases open_slice Tryz.underlying22 h with ⟨rfl, _⟩ | ⟨a, len, cap, m, n, D, Pl, rfl, _, hl, hm, hmm, _, hx⟩
  · exact ⟨none, 0, 0, [], rfl, Nat.zero_le _, ⟨rfl, .inl rfl⟩, fun zs h => by simp at h⟩
  · have hlm : len ≤ m := by rw [hmm]; split <;> omega
    have key : ∀ i, i < len → ∃ zs : List Int, ∃ v, w.cell? (a.add (i * 1)) = some v ∧ PlaceIs w v zs := fun i hi => by
      obtain ⟨cs', h1, h2⟩ := hx i (by omega)
      rw [cells_place] at h1
      obtain ⟨v, zs, rfl, hp⟩ := open_place h2
      have := (World.cells?_some h1).2.2 0 (by omega)
      exact ⟨zs, v, by simpa [Addr.add] using this, hp⟩
    obtain ⟨zss, hlen, hzs⟩ := rows_of len key
    refine ⟨some a, len, cap, zss, rfl, by omega, ⟨hlen, ?_⟩, fun zs hz => ?_⟩
    · by_cases h0 : len = 0
      · exact .inl h0
      · right
        obtain ⟨b, off, spot⟩ := a
        obtain ⟨zs, v, hz, _⟩ := key 0 (by omega)
        have c0 : w.cell? ⟨b, off, spot⟩ = some v := by simpa [Addr.add] using hz
        have hspot : spot = none := by simpa using World.cell?_spot c0
        subst hspot
        refine ⟨b, off, rfl, block_lt_of_cell c0, fun i zs e => ?_⟩
        obtain ⟨v, hk, a', cap', rfl, hs, hc, _⟩ := hzs i zs e
        exact ⟨a', cap', by simpa [add_plain] using hk, hs, hc⟩
    · obtain ⟨i, hi, rfl⟩ := List.getElem_of_mem hz
      obtain ⟨v, _, _, _, _, _, _, hm⟩ := hzs i _ (List.getElem?_eq_getElem hi)
      exact hm
theorem cells_machs : Tryz.prog.cellsOf 92 = 4 := by kernel_rfl
theorem open_machs {H : Type} {enc : TypeId × Value → H} {w : World} {spare : Nat → Bool} {held : Bool} {fuel : Nat} {cs : List Value} {x : DataW H × List MemPlace}
    (h : DataW.trod enc Tryz.prog w 0 spare held fuel 23 cs = some x) : ∃ (a : Option Addr) (cap : Nat) (xs : List M4), cs = [.slice a xs.length cap] ∧ xs.length ≤ maxLen ∧ KMk.RdS w a xs ∧ ∀ d ∈ xs, ML d := by
  rcases open_slice Tryz.underlying23 h with ⟨rfl, _⟩ | ⟨a, len, cap, m, n, DD, Pl, rfl, _, hl, hm, hmm, _, hx⟩
  · exact ⟨none, 0, [], rfl, Nat.zero_le _, .inl rfl, fun s hs => by cases hs⟩
  · have hlm : len ≤ m := by rw [hmm]; split <;> omega
    have key : ∀ i, i < len → ∃ d : M4, ∃ v : MV, (∀ k, k < 4 → w.cell? ((a.add (i * 4)).add k) = (KMk.cells v d)[k]?) ∧ KMk.Rd w v d ∧ ML d := fun i hi => by
      obtain ⟨cs', h1, h2⟩ := hx i (by omega)
      rw [cells_machs] at h1
      obtain ⟨v, d, rfl, t1, l1, l2, l3, k1, k2, _⟩ := om.open_machine h2
      exact ⟨d, v, (World.cells?_some h1).2.2, t1, ⟨l1, k1, l2, k2, l3⟩⟩
    obtain ⟨xs, hlen, hxs⟩ := rows_of len key
    subst hlen
    refine ⟨some a, cap, xs, rfl, by omega, ?_, ?_⟩
    · by_cases h0 : xs = []
      · exact .inl h0
      · right
        obtain ⟨b, off, spot⟩ := a
        obtain ⟨d, v, hs, _⟩ := key 0 (by have := List.length_pos_iff.2 h0; omega)
        have c0 := hs 0 (by omega)
        simp [Addr.add, KMk] at c0
        have hspot : spot = none := by simpa using World.cell?_spot c0
        subst hspot
        refine ⟨b, off, rfl, block_lt_of_cell c0, fun i d e => ?_⟩
        obtain ⟨v, hk, t1, _⟩ := hxs i d e
        simp only [add_plain] at hk
        refine ⟨v, fun j u hu => ?_, t1⟩
        have hj : j < 4 := by have := (List.getElem?_eq_some_iff.1 hu).1; rwa [KMk.len] at this
        have := hk j hj
        rw [hu] at this
        exact this
    · intro d hd
      obtain ⟨i, hi, rfl⟩ := List.getElem_of_mem hd
      obtain ⟨_, _, _, h3⟩ := hxs i _ (List.getElem?_eq_getElem hi)
      exact h3
theorem cells_txs : Tryz.prog.cellsOf 97 = 7 := by kernel_rfl
theorem open_txs {H : Type} {enc : TypeId × Value → H} {w : World} {spare : Nat → Bool} {held : Bool} {fuel : Nat} {cs : List Value} {x : DataW H × List MemPlace}
    (h : DataW.trod enc Tryz.prog w 0 spare held fuel 24 cs = some x) : ∃ (a : Option Addr) (cap : Nat) (xs : List tx.T7), cs = [.slice a xs.length cap] ∧ xs.length ≤ maxLen ∧ KTkC.RdS w a xs ∧ ∀ d ∈ xs, tx.TL d := by
  rcases open_slice Tryz.underlying24 h with ⟨rfl, _⟩ | ⟨a, len, cap, m, n, DD, Pl, rfl, _, hl, hm, hmm, _, hx⟩
  · exact ⟨none, 0, [], rfl, Nat.zero_le _, .inl rfl, fun s hs => by cases hs⟩
  · have hlm : len ≤ m := by rw [hmm]; split <;> omega
    have key : ∀ i, i < len → ∃ d : tx.T7, ∃ v : tx.TV, (∀ k, k < 7 → w.cell? ((a.add (i * 7)).add k) = (KTk.cells v d)[k]?) ∧ KTkC.Rd w v d ∧ tx.TL d := fun i hi => by
      obtain ⟨cs', h1, h2⟩ := hx i (by omega)
      rw [cells_txs] at h1
      obtain ⟨v, d, rfl, t1, l1⟩ := tx.ot.open_tx h2
      exact ⟨d, v, (World.cells?_some h1).2.2, t1, l1⟩
    obtain ⟨xs, hlen, hxs⟩ := rows_of len key
    subst hlen
    refine ⟨some a, cap, xs, rfl, by omega, ?_, ?_⟩
    · by_cases h0 : xs = []
      · exact .inl h0
      · right
        obtain ⟨b, off, spot⟩ := a
        obtain ⟨d, v, hs, _⟩ := key 0 (by have := List.length_pos_iff.2 h0; omega)
        have c0 := hs 0 (by omega)
        simp [Addr.add, KTk] at c0
        have hspot : spot = none := by simpa using World.cell?_spot c0
        subst hspot
        refine ⟨b, off, rfl, block_lt_of_cell c0, fun i d e => ?_⟩
        obtain ⟨v, hk, t1, _⟩ := hxs i d e
        simp only [add_plain] at hk
        refine ⟨v, fun j u hu => ?_, t1⟩
        have hj : j < 7 := by have := (List.getElem?_eq_some_iff.1 hu).1; rwa [KTkC.len] at this
        have := hk j hj
        rw [show (KTk.cells v d)[j]? = some u from hu] at this
        exact this
    · intro d hd
      obtain ⟨i, hi, rfl⟩ := List.getElem_of_mem hd
      obtain ⟨_, _, _, h3⟩ := hxs i _ (List.getElem?_eq_getElem hi)
      exact h3
theorem cells_cl : Tryz.prog.cellsOf 26 = 6 := by kernel_rfl
theorem cells_ip : Tryz.prog.cellsOf 22 = 1 := by kernel_rfl
theorem cells_im : Tryz.prog.cellsOf 23 = 1 := by kernel_rfl
theorem cells_it : Tryz.prog.cellsOf 24 = 1 := by kernel_rfl
theorem cells_ib : Tryz.prog.cellsOf 4 = 1 := by kernel_rfl
theorem list6 {α : Type} {cs : List α} (h : cs.length = 6) : ∃ c0 c1 c2 c3 c4 c5, cs = [c0, c1, c2, c3, c4, c5] := by
  match cs, h with
  | [c0, c1, c2, c3, c4, c5], _ => exact ⟨c0, c1, c2, c3, c4, c5, rfl⟩
theorem open_cluster {H : Type} {enc : TypeId × Value → H} {w : World} {spare : Nat → Bool} {held : Bool} {fuel : Nat} {cs : List Value} {x : DataW H × List MemPlace}
    (h : DataW.trod enc Tryz.prog w 0 spare held fuel 26 cs = some x) : ∃ (a1 : Option Addr) (c1 : Nat) (a2 : Option Addr) (c2 : Nat) (a3 : Option Addr) (c3 : Nat) (k : C6), cs = [.int .i64 k.config, .int .i64 k.clock, .slice a1 k.places.length c1, .slice a2 k.machines.length c2, .slice a3 k.txs.length c3, .bool k.lost] ∧ KCl.Rd w a1 c1 a2 c2 a3 c3 k ∧ KCl.L k := by
  obtain ⟨xs, n, _, rfl, hl, hlen, hf⟩ := DataW.trod_struct Tryz.underlying26 h
  rw [cells_cl] at hl
  obtain ⟨c0, c1, c2, c3, c4, c5, rfl⟩ := list6 hl
  obtain ⟨y0, y1, y2, y3, y4, y5, rfl⟩ := list6 hlen
  have h0 := hf 0 _ rfl
  have h1 := hf 1 _ rfl
  have h2 := hf 2 _ rfl
  have h3 := hf 3 _ rfl
  have h4 := hf 4 _ rfl
  have h5 := hf 5 _ rfl
  simp [cells_one, cells_ip, cells_im, cells_it, cells_ib] at h0 h1 h2 h3 h4 h5
  obtain ⟨z0, e0, _, _⟩ := DataW.trod_int Tryz.underlying2 h0
  obtain ⟨z1, e1, _, _⟩ := DataW.trod_int Tryz.underlying2 h1
  obtain ⟨a1, n1, k1, zss, e2, l1, s1, q1⟩ := open_placerow h2
  obtain ⟨a2, k2, ms, e3, l2, s2, q2⟩ := open_machs h3
  obtain ⟨a3, k3, ts, e4, l3, s3, q3⟩ := open_txs h4
  obtain ⟨z5, e5, _⟩ := DataW.trod_bool Tryz.underlying4 h5
  simp at e0 e1 e2 e3 e4 e5
  subst e0 e1 e2 e3 e4 e5
  obtain rfl : zss.length = n1 := s1.1
  exact ⟨a1, k1, a2, k2, a3, k3, ⟨z0, z1, zss, ms, ts, z5⟩, rfl, ⟨s1, s2, capS s3, s3⟩, ⟨l1, q1, l2, q2, l3, q3⟩⟩
end Go.Proofs.YtdmpobegobfpjaaGreat.oc
namespace Go.Proofs.YtdmpobegobfpjaaGreat
open Go.RowKit
theorem KP.Ow.low {w : World} {B B' : Nat} {a : Option Addr} {zss : List (List Int)} {P : Nat → Prop} (h : KP.Ow w B a zss P) (hb : B' ≤ B) : KP.Ow w B' a zss P := by
  obtain ⟨⟨g, h1, h2, h3⟩, h4⟩ := h
  exact ⟨⟨g, h1.lower hb, h2, h3⟩, fun q hq => ⟨Nat.le_trans hb (h4 q hq).1, (h4 q hq).2⟩⟩
set_option maxRecDepth 100000 in
set_option maxHeartbeats 4000000 in
theorem KCl.to (X : World) (a1 : Option Addr) (c1 : Nat) (a2 : Option Addr) (c2 : Nat) (a3 : Option Addr) (c3 : Nat) (k : C6) (ht : KCl.S k) (h : KCl.Rd X a1 c1 a2 c2 a3 c3 k) : Calls Tryz.prog 9 #[.agg #[.int .i64 k.config, .int .i64 k.clock, .slice a1 k.places.length c1, .slice a2 k.machines.length c2, .slice a3 k.txs.length c3, .bool k.lost]] X fun e w' =>
    ∃ (a1 : Option Addr) (c1 : Nat) (a2 : Option Addr) (c2 : Nat) (a3 : Option Addr) (c3 : Nat) (P : Nat → Prop), e = .returned (.agg #[.int .i64 k.config, .int .i64 k.clock, .slice a1 k.places.length c1, .slice a2 k.machines.length c2, .slice a3 k.txs.length c3, .bool k.lost]) ∧ KCl.Ow w' X.heap.size a1 c1 a2 c2 a3 c3 k P ∧ Below X.heap.size X w' := by
  obtain ⟨U0, hU0⟩ : ∃ Y, Y = X.alloc (.cells #[.int .i64 k.config, .int .i64 k.clock, .slice a1 k.places.length c1, .slice a2 k.machines.length c2, .slice a3 k.txs.length c3, .bool k.lost] 26) := ⟨_, rfl⟩
  have b0 : Below X.heap.size X U0 := by rw [hU0]; exact (Below.refl _ _).alloc (Nat.le_refl _) _
  have x0 : Bx U0 X.heap.size [.int .i64 k.config, .int .i64 k.clock, .slice a1 k.places.length c1, .slice a2 k.machines.length c2, .slice a3 k.txs.length c3, .bool k.lost] := by rw [hU0]; exact Bx.made X [.int .i64 k.config, .int .i64 k.clock, .slice a1 k.places.length c1, .slice a2 k.machines.length c2, .slice a3 k.txs.length c3, .bool k.lost] _
  have z0 : U0.heap.size = X.heap.size + 1 := by rw [hU0]; simp
  obtain ⟨U1, hU1⟩ : ∃ Y, Y = U0.alloc (.cells #[.int .i64 0, .int .i64 0, .slice none 0 0, .slice none 0 0, .slice none 0 0, .bool false] 34) := ⟨_, rfl⟩
  have b1 : Below U0.heap.size U0 U1 := by rw [hU1]; exact (Below.refl _ _).alloc (Nat.le_refl _) _
  have x1 : Bx U1 U0.heap.size [.int .i64 0, .int .i64 0, .slice none 0 0, .slice none 0 0, .slice none 0 0, .bool false] := by rw [hU1]; exact Bx.made U0 [.int .i64 0, .int .i64 0, .slice none 0 0, .slice none 0 0, .slice none 0 0, .bool false] _
  have z1 : U1.heap.size = X.heap.size + 2 := by rw [hU1]; simp [z0]
  obtain ⟨V0, hV0⟩ : ∃ Y, Y = U1.alloc (.cells #[.int .i64 k.config, .int .i64 k.clock, .slice none 0 0, .slice none 0 0, .slice none 0 0, .bool false] 34) := ⟨_, rfl⟩
  have b2 : Below U1.heap.size U1 V0 := by rw [hV0]; exact (Below.refl _ _).alloc (Nat.le_refl _) _
  have x2 : Bx V0 U1.heap.size [.int .i64 k.config, .int .i64 k.clock, .slice none 0 0, .slice none 0 0, .slice none 0 0, .bool false] := by rw [hV0]; exact Bx.made U1 [.int .i64 k.config, .int .i64 k.clock, .slice none 0 0, .slice none 0 0, .slice none 0 0, .bool false] _
  have zU : V0.heap.size = X.heap.size + 3 := by rw [hV0]; simp [z1]
  rw [z0] at x1
  rw [z1] at x2
  have bU : Below X.heap.size X V0 := bstep (bstep b0 b1) b2
  have FA : Hid (Bx V0 X.heap.size [.int .i64 k.config, .int .i64 k.clock, .slice a1 k.places.length c1, .slice a2 k.machines.length c2, .slice a3 k.txs.length c3, .bool k.lost]) := (x0.later b1).later b2
  have FZ : Hid (Bx V0 (X.heap.size + 1) [.int .i64 0, .int .i64 0, .slice none 0 0, .slice none 0 0, .slice none 0 0, .bool false]) := x1.later b2
  have Y0 : Hid (Bx V0 (X.heap.size + 2) [.int .i64 k.config, .int .i64 k.clock, .slice none 0 0, .slice none 0 0, .slice none 0 0, .bool false]) := x2
  have E0 : Hid (Below (X.heap.size + 2) V0 V0 ∧ Below X.heap.size X V0 ∧ V0.heap.size ≤ V0.heap.size) := ⟨Below.refl _ _, bU, Nat.le_refl _⟩
  have HZ : Hid (V0.heap.size = X.heap.size + 3) := zU
  have HR : Hid (KCl.Rd X a1 c1 a2 c2 a3 c3 k ∧ KCl.S k) := ⟨h, ht⟩
  rw [hU1, hU0] at hV0
  clear b0 x0 z0 b1 x1 z1 b2 x2 zU bU hU0 hU1 h ht
  have q := KP.to V0 a1 c1 k.places HR.out.2.p HR.out.2.ps (HR.out.1.later E0.out.2.1).p
  have A0 := (FA.out.under E0.out.1 (by omega)).1 0 _ rfl
  have A1 := (FA.out.under E0.out.1 (by omega)).1 1 _ rfl
  have A2 := (FA.out.under E0.out.1 (by omega)).1 2 _ rfl
  rw [hV0] at A0 A1 A2
  go_enter Tryz.func9, Tryz.ntmps9
  go_wp2_with fail
  rw [← hV0]
  clear hV0 A0 A1 A2
  refine q.mono ?_
  clear q
  rintro e w1 ⟨P1, rfl, o1, b⟩
  obtain ⟨V1, hV1⟩ : ∃ Y, Y = w1.setCell ⟨X.heap.size + 2, 2, none⟩ (.slice (some ⟨V0.heap.size, 0, none⟩) k.places.length k.places.length) := ⟨_, rfl⟩
  have sV : V1.heap.size = w1.heap.size := by rw [hV1]; simp [World.setCell]
  have kV : ∀ q, q ≠ X.heap.size + 2 → V1.heap[q]? = w1.heap[q]? := fun q hq => by rw [hV1]; exact Below.heap_setCell _ _ _ _ hq
  have lV : X.heap.size + 3 ≤ V0.heap.size := by have := E0.out.2.2; have := HZ.out; omega
  have u := (Y0.out.later b).1 2 _ rfl
  have uf := (Y0.out.later b).2.1 2
  have E1 : Hid (Below (X.heap.size + 2) V0 V1 ∧ Below X.heap.size X V1 ∧ V0.heap.size ≤ V1.heap.size) := by
    refine ⟨?_, ?_, by have := b.size; have := E0.out.2.2; omega⟩
    · rw [hV1]; exact (E0.out.1.trans (b.mono (by omega))).setCell (p := ⟨X.heap.size + 2, 2, none⟩) (Nat.le_refl _) _
    · rw [hV1]; exact (E0.out.2.1.trans (b.mono (by omega))).setCell (p := ⟨X.heap.size + 2, 2, none⟩) (by show X.heap.size ≤ X.heap.size + 2; omega) _
  have Y1 : Hid (Bx V1 (X.heap.size + 2) [.int .i64 k.config, .int .i64 k.clock, .slice (some ⟨V0.heap.size, 0, none⟩) k.places.length k.places.length, .slice none 0 0, .slice none 0 0, .bool false]) := by rw [hV1]; exact (Y0.out.later b).set (i := 2) (by simp) _
  have O1' : Hid (KP.Ow V1 V0.heap.size (some ⟨V0.heap.size, 0, none⟩) k.places P1) := o1.keep (Nat.le_of_eq sV.symm) (fun q hq => kV q (by have := (o1.of hq).1; have := HZ.out; have := E0.out.2.2; omega))
  have O1 := O1'
  clear O1'
  have Zb1 : Hid (V0.heap.size ≤ w1.heap.size ∧ w1.heap.size = V1.heap.size ∧ (∀ q, P1 q → V0.heap.size ≤ q ∧ q < w1.heap.size)) := ⟨b.size, sV.symm, fun q hq => o1.of hq⟩
  clear o1 b sV kV lV
  have q := KMS.to V1 a2 c2 k.machines HR.out.2.m HR.out.2.ms (HR.out.1.later E1.out.2.1).m
  have A3 := (FA.out.under E1.out.1 (by omega)).1 3 _ rfl
  rw [hV1] at A3
  go_wp2_with fail
  rw [← hV1]
  clear hV1 A3 u uf
  refine q.mono ?_
  clear q
  rintro e w2 ⟨P2, rfl, o2, b⟩
  obtain ⟨V2, hV2⟩ : ∃ Y, Y = w2.setCell ⟨X.heap.size + 2, 3, none⟩ (.slice (some ⟨V1.heap.size, 0, none⟩) k.machines.length k.machines.length) := ⟨_, rfl⟩
  have sV : V2.heap.size = w2.heap.size := by rw [hV2]; simp [World.setCell]
  have kV : ∀ q, q ≠ X.heap.size + 2 → V2.heap[q]? = w2.heap[q]? := fun q hq => by rw [hV2]; exact Below.heap_setCell _ _ _ _ hq
  have lV : X.heap.size + 3 ≤ V1.heap.size := by have := E1.out.2.2; have := HZ.out; omega
  have u := (Y1.out.later b).1 3 _ rfl
  have uf := (Y1.out.later b).2.1 3
  have E2 : Hid (Below (X.heap.size + 2) V0 V2 ∧ Below X.heap.size X V2 ∧ V0.heap.size ≤ V2.heap.size) := by
    refine ⟨?_, ?_, by have := b.size; have := E1.out.2.2; omega⟩
    · rw [hV2]; exact (E1.out.1.trans (b.mono (by omega))).setCell (p := ⟨X.heap.size + 2, 3, none⟩) (Nat.le_refl _) _
    · rw [hV2]; exact (E1.out.2.1.trans (b.mono (by omega))).setCell (p := ⟨X.heap.size + 2, 3, none⟩) (by show X.heap.size ≤ X.heap.size + 2; omega) _
  have Y2 : Hid (Bx V2 (X.heap.size + 2) [.int .i64 k.config, .int .i64 k.clock, .slice (some ⟨V0.heap.size, 0, none⟩) k.places.length k.places.length, .slice (some ⟨V1.heap.size, 0, none⟩) k.machines.length k.machines.length, .slice none 0 0, .bool false]) := by rw [hV2]; exact (Y1.out.later b).set (i := 3) (by simp) _
  have O1' : Hid (KP.Ow V2 V0.heap.size (some ⟨V0.heap.size, 0, none⟩) k.places P1) := (O1.out.later b).keep (Nat.le_of_eq sV.symm) (fun q hq => kV q (by have := ((O1.out.later b).of hq).1; have := HZ.out; have := E0.out.2.2; omega))
  have O2' : Hid (KMk.OwS V2 V1.heap.size (some ⟨V1.heap.size, 0, none⟩) k.machines P2) := o2.keep (Nat.le_of_eq sV.symm) (fun q hq => kV q (by have := (o2.of hq).1; have := HZ.out; have := E1.out.2.2; omega))
  have O1 := O1'
  clear O1'
  have O2 := O2'
  clear O2'
  have Zb2 : Hid (V1.heap.size ≤ w2.heap.size ∧ w2.heap.size = V2.heap.size ∧ (∀ q, P2 q → V1.heap.size ≤ q ∧ q < w2.heap.size)) := ⟨b.size, sV.symm, fun q hq => o2.of hq⟩
  clear o2 b sV kV lV
  have q := KTS.to V2 a3 c3 k.txs HR.out.2.t HR.out.2.ts (HR.out.1.later E2.out.2.1).t
  have A4 := (FA.out.under E2.out.1 (by omega)).1 4 _ rfl
  rw [hV2] at A4
  go_wp2_with fail
  rw [← hV2]
  clear hV2 A4 u uf
  refine q.mono ?_
  clear q
  rintro e w3 ⟨P3, rfl, o3, b⟩
  obtain ⟨V3, hV3⟩ : ∃ Y, Y = w3.setCell ⟨X.heap.size + 2, 4, none⟩ (.slice (some ⟨V2.heap.size, 0, none⟩) k.txs.length k.txs.length) := ⟨_, rfl⟩
  have sV : V3.heap.size = w3.heap.size := by rw [hV3]; simp [World.setCell]
  have kV : ∀ q, q ≠ X.heap.size + 2 → V3.heap[q]? = w3.heap[q]? := fun q hq => by rw [hV3]; exact Below.heap_setCell _ _ _ _ hq
  have lV : X.heap.size + 3 ≤ V2.heap.size := by have := E2.out.2.2; have := HZ.out; omega
  have u := (Y2.out.later b).1 4 _ rfl
  have uf := (Y2.out.later b).2.1 4
  have E3 : Hid (Below (X.heap.size + 2) V0 V3 ∧ Below X.heap.size X V3 ∧ V0.heap.size ≤ V3.heap.size) := by
    refine ⟨?_, ?_, by have := b.size; have := E2.out.2.2; omega⟩
    · rw [hV3]; exact (E2.out.1.trans (b.mono (by omega))).setCell (p := ⟨X.heap.size + 2, 4, none⟩) (Nat.le_refl _) _
    · rw [hV3]; exact (E2.out.2.1.trans (b.mono (by omega))).setCell (p := ⟨X.heap.size + 2, 4, none⟩) (by show X.heap.size ≤ X.heap.size + 2; omega) _
  have Y3 : Hid (Bx V3 (X.heap.size + 2) [.int .i64 k.config, .int .i64 k.clock, .slice (some ⟨V0.heap.size, 0, none⟩) k.places.length k.places.length, .slice (some ⟨V1.heap.size, 0, none⟩) k.machines.length k.machines.length, .slice (some ⟨V2.heap.size, 0, none⟩) k.txs.length k.txs.length, .bool false]) := by rw [hV3]; exact (Y2.out.later b).set (i := 4) (by simp) _
  have O1' : Hid (KP.Ow V3 V0.heap.size (some ⟨V0.heap.size, 0, none⟩) k.places P1) := (O1.out.later b).keep (Nat.le_of_eq sV.symm) (fun q hq => kV q (by have := ((O1.out.later b).of hq).1; have := HZ.out; have := E0.out.2.2; omega))
  have O2' : Hid (KMk.OwS V3 V1.heap.size (some ⟨V1.heap.size, 0, none⟩) k.machines P2) := (O2.out.later b).keep (Nat.le_of_eq sV.symm) (fun q hq => kV q (by have := ((O2.out.later b).of hq).1; have := HZ.out; have := E1.out.2.2; omega))
  have O3' : Hid (KTk.OwS V3 V2.heap.size (some ⟨V2.heap.size, 0, none⟩) k.txs P3) := o3.keep (Nat.le_of_eq sV.symm) (fun q hq => kV q (by have := (o3.of hq).1; have := HZ.out; have := E2.out.2.2; omega))
  have O1 := O1'
  clear O1'
  have O2 := O2'
  clear O2'
  have O3 := O3'
  clear O3'
  have Zb3 : Hid (V2.heap.size ≤ w3.heap.size ∧ w3.heap.size = V3.heap.size ∧ (∀ q, P3 q → V2.heap.size ≤ q ∧ q < w3.heap.size)) := ⟨b.size, sV.symm, fun q hq => o3.of hq⟩
  clear o3 b sV kV lV
  have A5 := (FA.out.under E3.out.1 (by omega)).1 5 _ rfl
  rw [hV3] at A5
  obtain ⟨V4, hV4⟩ : ∃ Y, Y = V3.setCell ⟨X.heap.size + 2, 5, none⟩ (.bool k.lost) := ⟨_, rfl⟩
  have Y4 : Hid (Bx V4 (X.heap.size + 2) [.int .i64 k.config, .int .i64 k.clock, .slice (some ⟨V0.heap.size, 0, none⟩) k.places.length k.places.length, .slice (some ⟨V1.heap.size, 0, none⟩) k.machines.length k.machines.length, .slice (some ⟨V2.heap.size, 0, none⟩) k.txs.length k.txs.length, .bool k.lost]) := by rw [hV4]; exact Y3.out.set (i := 5) (by simp) _
  have v5 := Y3.out.1 5 _ rfl
  have v5f := Y3.out.2.1 5
  rw [hV3] at v5 v5f hV4
  have ZZ : Hid (Bx V4 (X.heap.size + 1) [.int .i64 0, .int .i64 0, .slice none 0 0, .slice none 0 0, .slice none 0 0, .bool false]) := by rw [hV4, ← hV3]; exact (FZ.out.under E3.out.1 (by omega)).far (by omega) _
  have s4 : V4.heap.size = V3.heap.size := by rw [hV4, ← hV3]; simp [World.setCell]
  have k4 : ∀ q, q ≠ X.heap.size + 2 → V4.heap[q]? = V3.heap[q]? := fun q hq => by rw [hV4, ← hV3]; exact Below.heap_setCell _ _ _ _ hq
  have B4 : Hid (Below X.heap.size X V4) := by rw [hV4, ← hV3]; exact E3.out.2.1.setCell (p := ⟨X.heap.size + 2, 5, none⟩) (by show X.heap.size ≤ X.heap.size + 2; omega) _
  have KK : Hid (V4.heap.size = V3.heap.size ∧ (∀ q, q ≠ X.heap.size + 2 → V4.heap[q]? = V3.heap[q]?)) := ⟨s4, k4⟩
  clear s4 k4
  go_upto_region 8 with fail
  rw [← hV4]
  clear hV4 hV3 A5 v5 v5f u uf
  have y0 := Y4.out.1 0 _ rfl
  have z0 := ZZ.out.1 0 _ rfl
  have zf0 := ZZ.out.2.1 0
  have y1 := Y4.out.1 1 _ rfl
  have z1 := ZZ.out.1 1 _ rfl
  have zf1 := ZZ.out.2.1 1
  have y2 := Y4.out.1 2 _ rfl
  have z2 := ZZ.out.1 2 _ rfl
  have zf2 := ZZ.out.2.1 2
  have y3 := Y4.out.1 3 _ rfl
  have z3 := ZZ.out.1 3 _ rfl
  have zf3 := ZZ.out.2.1 3
  have y4 := Y4.out.1 4 _ rfl
  have z4 := ZZ.out.1 4 _ rfl
  have zf4 := ZZ.out.2.1 4
  have y5 := Y4.out.1 5 _ rfl
  have z5 := ZZ.out.1 5 _ rfl
  have zf5 := ZZ.out.2.1 5
  have BP := ZZ.out.put [.int .i64 k.config, .int .i64 k.clock, .slice (some ⟨V0.heap.size, 0, none⟩) k.places.length k.places.length, .slice (some ⟨V1.heap.size, 0, none⟩) k.machines.length k.machines.length, .slice (some ⟨V2.heap.size, 0, none⟩) k.txs.length k.txs.length, .bool k.lost] rfl
  have r0 := BP.1 0 _ rfl
  have r1 := BP.1 1 _ rfl
  have r2 := BP.1 2 _ rfl
  have r3 := BP.1 3 _ rfl
  have r4 := BP.1 4 _ rfl
  have r5 := BP.1 5 _ rfl
  simp only [putB, Nat.zero_add] at r0 r1 r2 r3 r4 r5
  have KR := tx.hidOf (And.intro r0 (And.intro r1 (And.intro r2 (And.intro r3 (And.intro r4 r5)))))
  clear BP r0 r1 r2 r3 r4 r5
  go_wp2
  obtain ⟨r0, r1, r2, r3, r4, r5⟩ := KR.out
  refine bodyPost_ret (v := .agg #[.int .i64 k.config, .int .i64 k.clock, .slice (some ⟨V0.heap.size, 0, none⟩) k.places.length k.places.length, .slice (some ⟨V1.heap.size, 0, none⟩) k.machines.length k.machines.length, .slice (some ⟨V2.heap.size, 0, none⟩) k.txs.length k.txs.length, .bool k.lost]) (by simp [results, Tryz.results9, go_sem, r0, r1, r2, r3, r4, r5]) rfl ?_
  obtain ⟨s4, k4⟩ := KK.out
  obtain ⟨n1, n2, n3⟩ := Zb1.out
  obtain ⟨m1, m2, m3⟩ := Zb2.out
  obtain ⟨l1, l2, l3⟩ := Zb3.out
  have hz := HZ.out
  have hw : ∀ q, q ≠ X.heap.size + 1 → q ≠ X.heap.size + 2 → (putB V4 (X.heap.size + 1) 0 [.int .i64 k.config, .int .i64 k.clock, .slice (some ⟨V0.heap.size, 0, none⟩) k.places.length k.places.length, .slice (some ⟨V1.heap.size, 0, none⟩) k.machines.length k.machines.length, .slice (some ⟨V2.heap.size, 0, none⟩) k.txs.length k.txs.length, .bool k.lost]).heap[q]? = V3.heap[q]? := fun q h1 h2 => (putB_block h1 _ _ _).trans (k4 q h2)
  have hws : V3.heap.size ≤ (putB V4 (X.heap.size + 1) 0 [.int .i64 k.config, .int .i64 k.clock, .slice (some ⟨V0.heap.size, 0, none⟩) k.places.length k.places.length, .slice (some ⟨V1.heap.size, 0, none⟩) k.machines.length k.machines.length, .slice (some ⟨V2.heap.size, 0, none⟩) k.txs.length k.txs.length, .bool k.lost]).heap.size := by rw [putB_size]; omega
  refine ⟨_, _, _, _, _, _, fun q => P1 q ∨ P2 q ∨ P3 q, rfl, ⟨⟨P1, P2, P3, ?_, ?_, ?_, fun q h => .inl h, fun q h => .inr (.inl h), fun q h => .inr (.inr h), fun q h h' => ?_, fun q h h' => ?_, fun q h h' => ?_⟩, fun q hq => ?_⟩, putB_below (by omega) [.int .i64 k.config, .int .i64 k.clock, .slice (some ⟨V0.heap.size, 0, none⟩) k.places.length k.places.length, .slice (some ⟨V1.heap.size, 0, none⟩) k.machines.length k.machines.length, .slice (some ⟨V2.heap.size, 0, none⟩) k.txs.length k.txs.length, .bool k.lost] _ _ B4.out⟩
  · exact (O1.out.keep (w' := putB V4 (X.heap.size + 1) 0 [.int .i64 k.config, .int .i64 k.clock, .slice (some ⟨V0.heap.size, 0, none⟩) k.places.length k.places.length, .slice (some ⟨V1.heap.size, 0, none⟩) k.machines.length k.machines.length, .slice (some ⟨V2.heap.size, 0, none⟩) k.txs.length k.txs.length, .bool k.lost]) hws (fun q hq => by have := n3 q hq; exact hw q (by omega) (by omega))).low (by omega)
  · exact (O2.out.keep (Y := putB V4 (X.heap.size + 1) 0 [.int .i64 k.config, .int .i64 k.clock, .slice (some ⟨V0.heap.size, 0, none⟩) k.places.length k.places.length, .slice (some ⟨V1.heap.size, 0, none⟩) k.machines.length k.machines.length, .slice (some ⟨V2.heap.size, 0, none⟩) k.txs.length k.txs.length, .bool k.lost]) hws (fun q hq => by have := m3 q hq; exact hw q (by omega) (by omega))).low (by omega)
  · exact (O3.out.keep (Y := putB V4 (X.heap.size + 1) 0 [.int .i64 k.config, .int .i64 k.clock, .slice (some ⟨V0.heap.size, 0, none⟩) k.places.length k.places.length, .slice (some ⟨V1.heap.size, 0, none⟩) k.machines.length k.machines.length, .slice (some ⟨V2.heap.size, 0, none⟩) k.txs.length k.txs.length, .bool k.lost]) hws (fun q hq => by have := l3 q hq; exact hw q (by omega) (by omega))).low (by omega)
  · have := n3 q h; have := m3 q h'; omega
  · have := n3 q h; have := l3 q h'; omega
  · have := m3 q h; have := l3 q h'; omega
  · show X.heap.size ≤ q ∧ q < (putB V4 (X.heap.size + 1) 0 [.int .i64 k.config, .int .i64 k.clock, .slice (some ⟨V0.heap.size, 0, none⟩) k.places.length k.places.length, .slice (some ⟨V1.heap.size, 0, none⟩) k.machines.length k.machines.length, .slice (some ⟨V2.heap.size, 0, none⟩) k.txs.length k.txs.length, .bool k.lost]).heap.size
    rw [putB_size]
    rcases hq with hq | hq | hq
    · have := n3 q hq; omega
    · have := m3 q hq; omega
    · have := l3 q hq; omega
set_option maxRecDepth 100000 in
set_option maxHeartbeats 4000000 in
theorem KCl.eq (X : World) (a1 : Option Addr) (c1 : Nat) (a2 : Option Addr) (c2 : Nat) (a3 : Option Addr) (c3 : Nat) (a1' : Option Addr) (c1' : Nat) (a2' : Option Addr) (c2' : Nat) (a3' : Option Addr) (c3' : Nat) (k : C6) (ht : KCl.S k) (h1 : KCl.Rd X a1 c1 a2 c2 a3 c3 k) (h2 : KCl.Rd X a1' c1' a2' c2' a3' c3' k) : Calls Tryz.prog 12 #[.agg #[.int .i64 k.config, .int .i64 k.clock, .slice a1 k.places.length c1, .slice a2 k.machines.length c2, .slice a3 k.txs.length c3, .bool k.lost], .agg #[.int .i64 k.config, .int .i64 k.clock, .slice a1' k.places.length c1', .slice a2' k.machines.length c2', .slice a3' k.txs.length c3', .bool k.lost]] X fun e w' => e = .returned (.bool true) ∧ Below X.heap.size X w' := by
  obtain ⟨U0, hU0⟩ : ∃ Y, Y = X.alloc (.cells #[.int .i64 k.config, .int .i64 k.clock, .slice a1 k.places.length c1, .slice a2 k.machines.length c2, .slice a3 k.txs.length c3, .bool k.lost] 34) := ⟨_, rfl⟩
  have b0 : Below X.heap.size X U0 := by rw [hU0]; exact (Below.refl _ _).alloc (Nat.le_refl _) _
  have x0 : Bx U0 X.heap.size [.int .i64 k.config, .int .i64 k.clock, .slice a1 k.places.length c1, .slice a2 k.machines.length c2, .slice a3 k.txs.length c3, .bool k.lost] := by rw [hU0]; exact Bx.made X [.int .i64 k.config, .int .i64 k.clock, .slice a1 k.places.length c1, .slice a2 k.machines.length c2, .slice a3 k.txs.length c3, .bool k.lost] _
  have z0 : U0.heap.size = X.heap.size + 1 := by rw [hU0]; simp
  obtain ⟨U, hU⟩ : ∃ Y, Y = U0.alloc (.cells #[.int .i64 k.config, .int .i64 k.clock, .slice a1' k.places.length c1', .slice a2' k.machines.length c2', .slice a3' k.txs.length c3', .bool k.lost] 34) := ⟨_, rfl⟩
  have b1 : Below U0.heap.size U0 U := by rw [hU]; exact (Below.refl _ _).alloc (Nat.le_refl _) _
  have x1 : Bx U U0.heap.size [.int .i64 k.config, .int .i64 k.clock, .slice a1' k.places.length c1', .slice a2' k.machines.length c2', .slice a3' k.txs.length c3', .bool k.lost] := by rw [hU]; exact Bx.made U0 [.int .i64 k.config, .int .i64 k.clock, .slice a1' k.places.length c1', .slice a2' k.machines.length c2', .slice a3' k.txs.length c3', .bool k.lost] _
  rw [z0] at x1
  have bU : Below X.heap.size X U := bstep b0 b1
  have FA : Hid (Bx U X.heap.size [.int .i64 k.config, .int .i64 k.clock, .slice a1 k.places.length c1, .slice a2 k.machines.length c2, .slice a3 k.txs.length c3, .bool k.lost]) := x0.later b1
  have FB : Hid (Bx U (X.heap.size + 1) [.int .i64 k.config, .int .i64 k.clock, .slice a1' k.places.length c1', .slice a2' k.machines.length c2', .slice a3' k.txs.length c3', .bool k.lost]) := x1
  have HR : Hid (KCl.Rd U a1 c1 a2 c2 a3 c3 k ∧ KCl.Rd U a1' c1' a2' c2' a3' c3' k ∧ KCl.S k ∧ Below X.heap.size X U) := ⟨h1.later bU, h2.later bU, ht, bU⟩
  rw [hU0] at hU
  clear b0 x0 z0 b1 x1 bU hU0 h1 h2 ht
  have d0 : (k.config != k.config) = false := by simp
  have d1 : (k.clock != k.clock) = false := by simp
  have d5 : (k.lost != k.lost) = false := by simp
  have p0 := FA.out.1 0 _ rfl
  have p1 := FA.out.1 1 _ rfl
  have p2 := FA.out.1 2 _ rfl
  have r0 := FB.out.1 0 _ rfl
  have r1 := FB.out.1 1 _ rfl
  have r2 := FB.out.1 2 _ rfl
  rw [hU] at p0 p1 p2 r0 r1 r2
  go_enter Tryz.func12, Tryz.ntmps12
  go_wp2_with fail
  rw [← hU]
  clear hU p0 p1 p2 r0 r1 r2
  refine (eqPlaceS_any U a1 a1' k.places.length c1 c1' k.places (by have := HR.out.2.2.1.p; unfold maxLen; omega) (fun z hz => by have := HR.out.2.2.1.ps z hz; unfold maxLen; omega) HR.out.1.p HR.out.2.1.p).mono ?_
  rintro e w1 ⟨rfl, b1⟩
  have B1 := tx.hidOf b1
  clear b1
  have p3 := (FA.out.later B1.out).1 3 _ rfl
  have r3 := (FB.out.later B1.out).1 3 _ rfl
  go_wp2_with fail
  refine (KMS.eq w1 a2 a2' c2 c2' k.machines HR.out.2.2.1.m HR.out.2.2.1.ms (HR.out.1.later B1.out).m (HR.out.2.1.later B1.out).m).mono ?_
  rintro e w2 ⟨rfl, b2⟩
  have B2 : Hid (Below U.heap.size U w2) := bstep B1.out b2
  clear b2 p3 r3
  have p4 := (FA.out.later B2.out).1 4 _ rfl
  have r4 := (FB.out.later B2.out).1 4 _ rfl
  go_wp2_with fail
  refine (KTS.eq w2 a3 a3' c3 c3' k.txs HR.out.2.2.1.t HR.out.2.2.1.ts (HR.out.1.later B2.out).t (HR.out.2.1.later B2.out).t).mono ?_
  rintro e w3 ⟨rfl, b3⟩
  have B3 : Hid (Below U.heap.size U w3) := bstep B2.out b3
  clear b3 p4 r4
  have p5 := (FA.out.later B3.out).1 5 _ rfl
  have r5 := (FB.out.later B3.out).1 5 _ rfl
  go_wp2
  go_ret
  exact ⟨rfl, bstep HR.out.2.2.2 B3.out⟩
end Go.Proofs.YtdmpobegobfpjaaGreat
namespace Go.Proofs.YtdmpobegobfpjaaGreat
open Go.RowKit
open Go.Sort (grow)
structure Kd.Rest {D V : Type} (K : Kd D V) (X : World) (B b n : Nat) (ys : List D) (g : Nat → Nat → Prop) (j : Nat) : Prop where
  rm : Room X b (n * K.n)
  at_ : ∀ i d, j ≤ i → ys[i]? = some d → ∃ v, At X b (i * K.n) (K.cells v d) ∧ K.Ow X B v d (g i)
  ne : ∀ i q, i < ys.length → g i q → q ≠ b
  ap : ∀ i j q, i < ys.length → j < ys.length → i ≠ j → g i q → ¬ g j q
theorem Kd.Part.rest {D V : Type} {K : Kd D V} {X : World} {B b n : Nat} {ys : List D} {g : Nat → Nat → Prop} (h : K.Part X B b n ys g) : K.Rest X B b n ys g 0 := ⟨h.rm, fun i d _ hi => h.at_ i d hi, h.ne, h.ap⟩
theorem Kd.Rest.up {D V : Type} {K : Kd D V} {X : World} {B b n : Nat} {ys : List D} {g : Nat → Nat → Prop} {j : Nat} (h : K.Rest X B b n ys g j) : K.Rest X B b n ys g (j + 1) := ⟨h.rm, fun i d hj hi => h.at_ i d (by omega) hi, h.ne, h.ap⟩
theorem Kd.Rest.set {D V : Type} {K : Kd D V} {X : World} {B b n : Nat} {ys : List D} {g : Nat → Nat → Prop} {j o : Nat} (h : K.Rest X B b n ys g (j + 1)) (ho : o < (j + 1) * K.n) (u : Value) : K.Rest (X.setCell ⟨b, o, none⟩ u) B b n ys g (j + 1) := by
  refine ⟨h.rm.set _, fun i d hj hi => ?_, h.ne, h.ap⟩
  obtain ⟨v, h1, h2⟩ := h.at_ i d hj hi
  have hm := Nat.mul_le_mul_right K.n hj
  exact ⟨v, fun q u' e => (cell_set_other (by omega)).trans (h1 q u' e), K.keep h2 (by simp [World.setCell]) (fun q hq => Below.heap_setCell _ _ _ _ (h.ne i q (List.getElem?_eq_some_iff.1 hi).1 hq))⟩
theorem Kd.Rest.kept {D V : Type} {K : Kd D V} {X Y : World} {B b n : Nat} {ys : List D} {g : Nat → Nat → Prop} {j : Nat} {Q : Nat → Prop} (h : K.Rest X B b n ys g (j + 1)) (hk : KeptP Q X Y) (hb : b < X.heap.size) (hj : j < ys.length) (hQ : ∀ q, Q q → g j q) : K.Rest Y B b n ys g (j + 1) := by
  have hbb : Y.heap[b]? = X.heap[b]? := hk.block b hb (fun e => h.ne j b hj (hQ b e) rfl)
  refine ⟨room_blk h.rm hbb, fun i d hji hi => ?_, h.ne, h.ap⟩
  obtain ⟨v, h1, h2⟩ := h.at_ i d hji hi
  have hl := (List.getElem?_eq_some_iff.1 hi).1
  exact ⟨v, h1.of_block hbb, K.keep h2 hk.size (fun q hq => hk.block q (K.of h2 hq).2 (fun e => h.ap i j q hl hj (by omega) hq (hQ q e)))⟩
def cM (m : M4) : Nat := 1 + (offG cK m.copies m.copies.length + offG cR m.log m.log.length + m.cleared.length)
structure MRow (w X : World) (B b : Nat) (ms : List M4) (g : Nat → Nat → Prop) (P : Nat → Prop) (j : Nat) (a2 : Option Addr) (c2 : Nat) (a3 : Option Addr) (c3 : Nat) (PR PD : Nat → Prop) : Prop where
  r : OwnL 4 hdR lnR AtR X PR a2 (atM ms j).log
  n : OwnN X PD a3 (atM ms j).cleared
  e2 : X.cell? ⟨b, j * 4 + 2, none⟩ = some (.slice a2 (atM ms j).log.length c2)
  e3 : X.cell? ⟨b, j * 4 + 3, none⟩ = some (.slice a3 (atM ms j).cleared.length c3)
  rest : KMk.Rest X B b ms.length ms g (j + 1)
  kp : KeptP P w X
  lt : b < X.heap.size
set_option maxRecDepth 100000 in
set_option maxHeartbeats 4000000 in
theorem markMs (w : World) (B b cap : Nat) (ms : List M4) (g : Nat → Nat → Prop) (P : Nat → Prop) (k : Int) (hk : 0 ≤ k) (hk' : k + (offG cM ms ms.length : Int) ≤ 100000000) (hn : ms.length ≤ 1048576) (ht : ∀ m ∈ ms, MT m) (hb : b < w.heap.size) (hPb : P b) (hPg : ∀ i q, i < ms.length → g i q → P q) (h : KMk.Part w B b ms.length ms g) :
    Calls Tryz.prog 39 #[.slice (some ⟨b, 0, none⟩) ms.length cap, .int .i64 k] w fun e w' => e = .returned (.int .i64 (k + (offG cM ms ms.length : Int))) ∧ KeptP P w w' := by
  have H : Hid ((∀ m ∈ ms, MT m) ∧ b < w.heap.size ∧ P b ∧ (∀ i q, i < ms.length → g i q → P q) ∧ KMk.Part w B b ms.length ms g) := ⟨ht, hb, hPb, hPg, h⟩
  clear ht hb hPb hPg h
  go_enter Tryz.func39, Tryz.ntmps39
  go_wp2
  go_loopw [1, 5] (fun v1 v5 wr => ∃ j : Nat, j ≤ ms.length ∧ v5 = .int .i64 j ∧ v1 = .int .i64 (k + (offG cM ms j : Int)) ∧ KeptP P w wr ∧ KMk.Rest wr B b ms.length ms g j) (fun _ v5 _ => ms.length - (intOf v5).toNat)
  case atStart => exact ⟨0, Nat.zero_le _, rfl, by rw [offG_zero]; simp, KeptP.refl _ _, H.out.2.2.2.2.rest⟩
  case round =>
    obtain ⟨j, hj, rfl, rfl, hkp, hrs⟩ := hrel
    have hb2 := offG_le cM ms j
    by_cases hlt : j < ms.length
    · have hd := atM_of hlt
      obtain ⟨⟨m0, m1, m2, m3, m4, m5⟩, hat, how⟩ := hrs.at_ j _ (Nat.le_refl _) hd
      obtain ⟨PK, PR, PD, om, hsub, hbd⟩ := how
      obtain ⟨z0, d0, f0⟩ : ∃ v, wr.cell? ⟨b, j * 4, none⟩ = some v ∧ wr.frozen? ⟨b, j * 4, none⟩ = false := hrs.rm (j * 4) (show _ < ms.length * 4 by omega)
      have e1 : wr.cell? ⟨b, j * 4 + 1, none⟩ = some (.slice m0 (atM ms j).copies.length m1) := hat 1 _ rfl
      have e2 : wr.cell? ⟨b, j * 4 + 2, none⟩ = some (.slice m2 (atM ms j).log.length m3) := hat 2 _ rfl
      have e3 : wr.cell? ⟨b, j * 4 + 3, none⟩ = some (.slice m4 (atM ms j).cleared.length m5) := hat 3 _ rfl
      have hT := H.out.1 _ (List.mem_of_getElem? hd)
      have hoff : offG cM ms (j + 1) = offG cM ms j + cM (atM ms j) := offG_succ cM hd
      have hle := offG_le cM ms (j + 1)
      have HO : Hid (offG cM ms (j + 1) = offG cM ms j + (1 + (offG cK (atM ms j).copies (atM ms j).copies.length + offG cR (atM ms j).log (atM ms j).log.length + (atM ms j).cleared.length)) ∧ k + (offG cM ms (j + 1) : Int) ≤ 100000000) := ⟨hoff, by omega⟩
      have hnb : ∀ q, g j q → q ≠ b := fun q hq => hrs.ne j q hlt hq
      have bl : b < wr.heap.size := Nat.lt_of_lt_of_le H.out.2.1 hkp.size
      have S1 : Hid (∀ u : Value, OwnL 2 hdK lnK AtK (wr.setCell ⟨b, j * 4, none⟩ u) PK m0 (atM ms j).copies ∧ MRow w (wr.setCell ⟨b, j * 4, none⟩ u) B b ms g P j m2 m3 m4 m5 PR PD) := fun u => by
        have hsz : wr.heap.size ≤ (wr.setCell ⟨b, j * 4, none⟩ u).heap.size := by simp [World.setCell]
        exact ⟨om.k.keep AtK.of_block hsz (fun q _ hp => Below.heap_setCell _ _ _ _ (hnb q (hsub q (.inl hp)))), om.r.keep AtR.of_block hsz (fun q _ hp => Below.heap_setCell _ _ _ _ (hnb q (hsub q (.inr (.inl hp))))), om.n.keep hsz (fun q _ hp => Below.heap_setCell _ _ _ _ (hnb q (hsub q (.inr (.inr hp))))),
          (cell_set_other (by omega)).trans e2, (cell_set_other (by omega)).trans e3, hrs.up.set (show j * 4 < (j + 1) * 4 by omega) u, hkp.trans (KeptP.of_set wr u H.out.2.2.1), Nat.lt_of_lt_of_le bl hsz⟩
      have HG : Hid ((∀ q, PK q → g j q) ∧ (∀ q, PR q → g j q) ∧ (∀ q, PD q → g j q) ∧ (∀ q, PK q → ¬ PR q) ∧ (∀ q, PK q → ¬ PD q) ∧ (∀ q, PR q → ¬ PD q) ∧ (∀ q, g j q → q ≠ b) ∧ (∀ q, g j q → P q)) := ⟨fun q hq => hsub q (.inl hq), fun q hq => hsub q (.inr (.inl hq)), fun q hq => hsub q (.inr (.inr hq)), om.kr, om.kd, om.rd, hnb, fun q hq => H.out.2.2.2.1 j q hlt hq⟩
      have S2 : Hid (∀ u w1, KeptP PK (wr.setCell ⟨b, j * 4, none⟩ u) w1 → MRow w w1 B b ms g P j m2 m3 m4 m5 PR PD) := fun u w1 k1 => by
        have R0 := (S1.out u).2
        have hbk := k1.block b R0.lt (fun e => HG.out.2.2.2.2.2.2.1 b (HG.out.1 b e) rfl)
        exact ⟨R0.r.keep AtR.of_block k1.size (fun q hq hp => k1.block q hq (fun e => HG.out.2.2.2.1 q e hp)), R0.n.keep k1.size (fun q hq hp => k1.block q hq (fun e => HG.out.2.2.2.2.1 q e hp)), (World.cell?_of_block (a := ⟨b, j * 4 + 2, none⟩) hbk).trans R0.e2, (World.cell?_of_block (a := ⟨b, j * 4 + 3, none⟩) hbk).trans R0.e3, R0.rest.kept k1 R0.lt hlt HG.out.1, R0.kp.trans (k1.mono (fun q hq => HG.out.2.2.2.2.2.2.2 q (HG.out.1 q hq))), Nat.lt_of_lt_of_le R0.lt k1.size⟩
      have HT : Hid (MT (atM ms j)) := hT
      have jn : (j : Int) < (ms.length : Int) := by omega
      have g0 : 0 ≤ k + (offG cM ms j : Int) := by omega
      have g1 : k + (offG cM ms j : Int) ≤ 100000000 := by omega
      clear hkp hrs hat om hsub hbd hd hoff hle hnb hT bl e2 e3 hb2
      generalize hK : k + (offG cM ms j : Int) = kj at *
      go_wp2_with fail
      refine (markK _ PK m0 m1 (atM ms j).copies (kj + 1) (by omega) (by omega) HT.out.tk HT.out.k HT.out.ks (S1.out _).1).mono ?_
      rintro e w1 ⟨rfl, k1, -⟩
      have R1 : Hid (MRow w w1 B b ms g P j m2 m3 m4 m5 PR PD) := S2.out _ _ k1
      clear k1 S1 S2 d0 f0 e1
      have e2 := R1.out.e2
      have tk := HT.out.tk
      have tr := HT.out.tr
      have tn := HT.out.n
      go_wp2_with fail
      refine (markR w1 PR m2 m3 (atM ms j).log _ (by omega) (by omega) HT.out.tr HT.out.r HT.out.rs R1.out.r).mono ?_
      rintro e w2 ⟨rfl, k2, -⟩
      have R2 : Hid (OwnN w2 PD m4 (atM ms j).cleared ∧ w2.cell? ⟨b, j * 4 + 3, none⟩ = some (.slice m4 (atM ms j).cleared.length m5) ∧ KMk.Rest w2 B b ms.length ms g (j + 1) ∧ KeptP P w w2 ∧ b < w2.heap.size) := by
        have R0 := R1.out
        have hbk := k2.block b R0.lt (fun e => HG.out.2.2.2.2.2.2.1 b (HG.out.2.1 b e) rfl)
        exact ⟨R0.n.keep k2.size (fun q hq hp => k2.block q hq (fun e => HG.out.2.2.2.2.2.1 q e hp)), (World.cell?_of_block (a := ⟨b, j * 4 + 3, none⟩) hbk).trans R0.e3, R0.rest.kept k2 R0.lt hlt HG.out.2.1, R0.kp.trans (k2.mono (fun q hq => HG.out.2.2.2.2.2.2.2 q (HG.out.2.1 q hq))), Nat.lt_of_lt_of_le R0.lt k2.size⟩
      clear k2 R1 e2
      have e3 := R2.out.2.1
      go_wp2_with fail
      refine (markN w2 PD m4 m5 (atM ms j).cleared _ (by omega) (by omega) HT.out.n R2.out.1).mono ?_
      rintro e w3 ⟨rfl, k3, -⟩
      have R3 : Hid (KMk.Rest w3 B b ms.length ms g (j + 1) ∧ KeptP P w w3) := ⟨R2.out.2.2.1.kept k3 R2.out.2.2.2.2 hlt HG.out.2.2.1, R2.out.2.2.2.1.trans (k3.mono (fun q hq => HG.out.2.2.2.2.2.2.2 q (HG.out.2.2.1 q hq)))⟩
      clear k3 R2 e3
      go_wp2
      exact ⟨⟨j + 1, by omega, by simp, by have := HO.out.1; rw [this]; congr 1; omega, R3.out.2, R3.out.1⟩, by simp [intOf]; omega⟩
    · obtain rfl : j = ms.length := by omega
      have hd : decide ((ms.length : Int) < (ms.length : Int)) = false := by simp
      have KH : Hid (KeptP P w wr) := hkp
      clear hkp hrs
      go_wp2
      go_ret
      exact ⟨rfl, KH.out⟩
theorem kp_of {P : Nat → Prop} {a b : World} (h : tx.KeptP P a b) : KeptP P a b := ⟨h.os, h.tape, h.output, h.size, h.block⟩
def cT (t : tx.T7) : Nat := 5 + (5 * t.reads.length + 5 * t.sets.length)
structure TRow (w X : World) (B b : Nat) (ts : List tx.T7) (g : Nat → Nat → Prop) (P : Nat → Prop) (j : Nat) (a2 : Option Addr) (c2 : Nat) (PS : Nat → Prop) : Prop where
  s : tx.OwnSe X PS a2 (atT ts j).sets
  e5 : X.cell? ⟨b, j * 7 + 5, none⟩ = some (.slice a2 (atT ts j).sets.length c2)
  rest : KTk.Rest X B b ts.length ts g (j + 1)
  kp : KeptP P w X
  lt : b < X.heap.size
set_option maxRecDepth 100000 in
set_option maxHeartbeats 4000000 in
theorem markTs (w : World) (B b cap : Nat) (ts : List tx.T7) (g : Nat → Nat → Prop) (P : Nat → Prop) (k : Int) (hk : 0 ≤ k) (hk' : k + (offG cT ts ts.length : Int) ≤ 100000000) (hn : ts.length ≤ 1048576) (ht : ∀ t ∈ ts, KT.S t) (hb : b < w.heap.size) (hPb : P b) (hPg : ∀ i q, i < ts.length → g i q → P q) (h : KTk.Part w B b ts.length ts g) :
    Calls Tryz.prog 40 #[.slice (some ⟨b, 0, none⟩) ts.length cap, .int .i64 k] w fun e w' => e = .returned (.int .i64 (k + (offG cT ts ts.length : Int))) ∧ KeptP P w w' := by
  have H : Hid ((∀ t ∈ ts, KT.S t) ∧ b < w.heap.size ∧ P b ∧ (∀ i q, i < ts.length → g i q → P q) ∧ KTk.Part w B b ts.length ts g) := ⟨ht, hb, hPb, hPg, h⟩
  clear ht hb hPb hPg h
  go_enter Tryz.func40, Tryz.ntmps40
  go_wp2
  go_loopw [1, 5] (fun v1 v5 wr => ∃ j : Nat, j ≤ ts.length ∧ v5 = .int .i64 j ∧ v1 = .int .i64 (k + (offG cT ts j : Int)) ∧ KeptP P w wr ∧ KTk.Rest wr B b ts.length ts g j) (fun _ v5 _ => ts.length - (intOf v5).toNat)
  case atStart => exact ⟨0, Nat.zero_le _, rfl, by rw [offG_zero]; simp, KeptP.refl _ _, H.out.2.2.2.2.rest⟩
  case round =>
    obtain ⟨j, hj, rfl, rfl, hkp, hrs⟩ := hrel
    have hb2 := offG_le cT ts j
    by_cases hlt : j < ts.length
    · have hd := atT_of hlt
      obtain ⟨⟨t0, t1, t2, t3⟩, hat, how⟩ := hrs.at_ j _ (Nat.le_refl _) hd
      obtain ⟨PR, PS, om, hsub, hbd⟩ := how
      obtain ⟨z0, d0, f0⟩ : ∃ v, wr.cell? ⟨b, j * 7, none⟩ = some v ∧ wr.frozen? ⟨b, j * 7, none⟩ = false := hrs.rm (j * 7 + 0) (show _ < ts.length * 7 by omega)
      obtain ⟨z1, d1, f1⟩ : ∃ v, wr.cell? ⟨b, j * 7 + 1, none⟩ = some v ∧ wr.frozen? ⟨b, j * 7 + 1, none⟩ = false := hrs.rm (j * 7 + 1) (show _ < ts.length * 7 by omega)
      obtain ⟨z2, d2, f2⟩ : ∃ v, wr.cell? ⟨b, j * 7 + 2, none⟩ = some v ∧ wr.frozen? ⟨b, j * 7 + 2, none⟩ = false := hrs.rm (j * 7 + 2) (show _ < ts.length * 7 by omega)
      obtain ⟨z3, d3, f3⟩ : ∃ v, wr.cell? ⟨b, j * 7 + 3, none⟩ = some v ∧ wr.frozen? ⟨b, j * 7 + 3, none⟩ = false := hrs.rm (j * 7 + 3) (show _ < ts.length * 7 by omega)
      have e4 : wr.cell? ⟨b, j * 7 + 4, none⟩ = some (.slice t0 (atT ts j).reads.length t1) := hat 4 _ rfl
      have e5 : wr.cell? ⟨b, j * 7 + 5, none⟩ = some (.slice t2 (atT ts j).sets.length t3) := hat 5 _ rfl
      have hT := H.out.1 _ (List.mem_of_getElem? hd)
      have hoff : offG cT ts (j + 1) = offG cT ts j + cT (atT ts j) := offG_succ cT hd
      have hle := offG_le cT ts (j + 1)
      have HO : Hid (offG cT ts (j + 1) = offG cT ts j + (5 + (5 * (atT ts j).reads.length + 5 * (atT ts j).sets.length)) ∧ k + (offG cT ts (j + 1) : Int) ≤ 100000000) := ⟨hoff, by omega⟩
      have hnb : ∀ q, g j q → q ≠ b := fun q hq => hrs.ne j q hlt hq
      have bl : b < wr.heap.size := Nat.lt_of_lt_of_le H.out.2.1 hkp.size
      have S1 : Hid (∀ u0 u1 u2 u3 : Value, tx.OwnNo ((((wr.setCell ⟨b, j * 7, none⟩ u0).setCell ⟨b, j * 7 + 1, none⟩ u1).setCell ⟨b, j * 7 + 2, none⟩ u2).setCell ⟨b, j * 7 + 3, none⟩ u3) PR t0 (atT ts j).reads ∧ TRow w ((((wr.setCell ⟨b, j * 7, none⟩ u0).setCell ⟨b, j * 7 + 1, none⟩ u1).setCell ⟨b, j * 7 + 2, none⟩ u2).setCell ⟨b, j * 7 + 3, none⟩ u3) B b ts g P j t2 t3 PS) := fun u0 u1 u2 u3 => by
        have ob : OnlyBlock b wr ((((wr.setCell ⟨b, j * 7, none⟩ u0).setCell ⟨b, j * 7 + 1, none⟩ u1).setCell ⟨b, j * 7 + 2, none⟩ u2).setCell ⟨b, j * 7 + 3, none⟩ u3) := ((((OnlyBlock.refl b wr).setCell _ _).setCell _ _).setCell _ _).setCell _ _
        exact ⟨om.r.keep (Nat.le_of_eq ob.size.symm) (fun q _ hp => ob.block q (hnb q (hsub q (.inl hp)))), om.s.keep (Nat.le_of_eq ob.size.symm) (fun q _ hp => ob.block q (hnb q (hsub q (.inr hp)))),
          (cell_set_other (by omega)).trans ((cell_set_other (by omega)).trans ((cell_set_other (by omega)).trans ((cell_set_other (by omega)).trans e5))), (((hrs.up.set (show j * 7 < (j + 1) * 7 by omega) u0).set (show j * 7 + 1 < (j + 1) * 7 by omega) u1).set (show j * 7 + 2 < (j + 1) * 7 by omega) u2).set (show j * 7 + 3 < (j + 1) * 7 by omega) u3, hkp.trans (KeptP.of_only ob H.out.2.2.1), by rw [ob.size]; exact bl⟩
      have HG : Hid ((∀ q, PR q → g j q) ∧ (∀ q, PS q → g j q) ∧ (∀ q, PR q → ¬ PS q) ∧ (∀ q, g j q → q ≠ b) ∧ (∀ q, g j q → P q)) := ⟨fun q hq => hsub q (.inl hq), fun q hq => hsub q (.inr hq), om.rs, hnb, fun q hq => H.out.2.2.2.1 j q hlt hq⟩
      have S2 : Hid (∀ u0 u1 u2 u3 w1, KeptP PR ((((wr.setCell ⟨b, j * 7, none⟩ u0).setCell ⟨b, j * 7 + 1, none⟩ u1).setCell ⟨b, j * 7 + 2, none⟩ u2).setCell ⟨b, j * 7 + 3, none⟩ u3) w1 → TRow w w1 B b ts g P j t2 t3 PS) := fun u0 u1 u2 u3 w1 k1 => by
        have R0 := (S1.out u0 u1 u2 u3).2
        have hbk := k1.block b R0.lt (fun e => HG.out.2.2.2.1 b (HG.out.1 b e) rfl)
        exact ⟨R0.s.keep k1.size (fun q hq hp => k1.block q hq (fun e => HG.out.2.2.1 q e hp)), (World.cell?_of_block (a := ⟨b, j * 7 + 5, none⟩) hbk).trans R0.e5, R0.rest.kept k1 R0.lt hlt HG.out.1, R0.kp.trans (k1.mono (fun q hq => HG.out.2.2.2.2 q (HG.out.1 q hq))), Nat.lt_of_lt_of_le R0.lt k1.size⟩
      have HT : Hid (KT.S (atT ts j)) := hT
      have jn : (j : Int) < (ts.length : Int) := by omega
      have g0 : 0 ≤ k + (offG cT ts j : Int) := by omega
      have g1 : k + (offG cT ts j : Int) ≤ 100000000 := by omega
      clear hkp hrs hat om hsub hbd hd hoff hle hnb hT bl e5 hb2
      generalize hK : k + (offG cT ts j : Int) = kj at *
      have tr := HT.out.1
      have ts' := HT.out.2
      go_wp2_with fail
      refine (tx.markNo _ PR t0 t1 (atT ts j).reads _ (by omega) (by omega) HT.out.1 (S1.out _ _ _ _).1).mono ?_
      rintro e w1 ⟨rfl, k1, -⟩
      have k1 := kp_of k1
      have R1 : Hid (TRow w w1 B b ts g P j t2 t3 PS) := S2.out _ _ _ _ _ k1
      clear k1 S1 S2 d0 f0 d1 f1 d2 f2 d3 f3 e4
      have e5 := R1.out.e5
      go_wp2_with fail
      refine (tx.markSe w1 PS t2 t3 (atT ts j).sets _ (by omega) (by omega) HT.out.2 R1.out.s).mono ?_
      rintro e w2 ⟨rfl, k2, -⟩
      have k2 := kp_of k2
      have R2 : Hid (KTk.Rest w2 B b ts.length ts g (j + 1) ∧ KeptP P w w2 ∧ b < w2.heap.size) := by
        have R0 := R1.out
        exact ⟨R0.rest.kept k2 R0.lt hlt HG.out.2.1, R0.kp.trans (k2.mono (fun q hq => HG.out.2.2.2.2 q (HG.out.2.1 q hq))), Nat.lt_of_lt_of_le R0.lt k2.size⟩
      clear k2 R1 e5
      obtain ⟨z6, d6, f6⟩ : ∃ v, w2.cell? ⟨b, j * 7 + 6, none⟩ = some v ∧ w2.frozen? ⟨b, j * 7 + 6, none⟩ = false := R2.out.1.rm (j * 7 + 6) (show _ < ts.length * 7 by omega)
      go_wp2
      exact ⟨⟨j + 1, by omega, by simp, by have := HO.out.1; rw [this]; congr 1; omega, R2.out.2.1.trans (KeptP.of_set w2 _ H.out.2.2.1), R2.out.1.set (show j * 7 + 6 < (j + 1) * 7 by omega) _⟩, by simp [intOf]; omega⟩
    · obtain rfl : j = ts.length := by omega
      have hd : decide ((ts.length : Int) < (ts.length : Int)) = false := by simp
      have KH : Hid (KeptP P w wr) := hkp
      clear hkp hrs
      go_wp2
      go_ret
      exact ⟨rfl, KH.out⟩
end Go.Proofs.YtdmpobegobfpjaaGreat
namespace Go.Proofs.YtdmpobegobfpjaaGreat
open Go.RowKit
def markAt (zss : List (List Int)) (k : Int) (i : Nat) : List Int := marks (atP zss i).length (k + lens (zss.take i))
def markPs (zss : List (List Int)) (k : Int) : List (List Int) := (List.range zss.length).map (markAt zss k)
theorem markPs_len (zss : List (List Int)) (k : Int) : (markPs zss k).length = zss.length := by simp [markPs]
theorem markPs_at {zss : List (List Int)} {k : Int} {i : Nat} {zs : List Int} (h : (markPs zss k)[i]? = some zs) : i < zss.length ∧ zs = markAt zss k i := by
  have hi : i < zss.length := by have := (List.getElem?_eq_some_iff.1 h).1; rw [markPs_len] at this; exact this
  refine ⟨hi, ?_⟩
  simp [markPs, hi] at h
  exact h.symm
theorem markAt_len (zss : List (List Int)) (k : Int) (i : Nat) : (markAt zss k i).length = (atP zss i).length := by rw [markAt, marks_len]
structure Kept (g : Nat → Nat) (n : Nat) (w w' : World) : Prop where
  os : w'.os = w.os
  tape : w'.tape = w.tape
  output : w'.output = w.output
  size : w'.heap.size = w.heap.size
  block : ∀ q, (∀ i, i < n → q ≠ g i) → w'.heap[q]? = w.heap[q]?
theorem Kept.refl (g : Nat → Nat) (n : Nat) (w : World) : Kept g n w w := ⟨rfl, rfl, rfl, rfl, fun _ _ => rfl⟩
theorem Kept.only {g : Nat → Nat} {n i : Nat} {a w w' : World} (h : Kept g n a w) (hi : i < n) (ho : OnlyBlock (g i) w w') : Kept g n a w' :=
  ⟨ho.os.trans h.os, ho.tape.trans h.tape, ho.output.trans h.output, ho.size.trans h.size, fun q hq => (ho.block q (hq i hi)).trans (h.block q hq)⟩
theorem Kept.below {g : Nat → Nat} {n B : Nat} {w w' : World} (h : Kept g n w w') (hg : ∀ i, i < n → B ≤ g i) : Below B w w' :=
  ⟨h.os, h.tape, h.output, Nat.le_of_eq h.size.symm, fun k hk => h.block k (fun i hi e => by have := hg i hi; omega)⟩
set_option maxHeartbeats 2000000 in
theorem markPlaceS_own (w : World) (base b n cap : Nat) (zss : List (List Int)) (g : Nat → Nat) (k : Int) (hn : n ≤ 1048576) (hl : lens zss ≤ 1048576) (hk : 0 ≤ k) (hk' : k ≤ 100000000) (h : OwnP w base b n zss g) :
    Calls Tryz.prog 38 #[.slice (some ⟨b, 0, none⟩) n cap, .int .i64 k] w fun e w' => e = .returned (.int .i64 (k + lens zss)) ∧ Kept g n w w' ∧ OwnP w' base b n (markPs zss k) g := by
  have hlen := h.len
  have HO : Hid (OwnP w base b n zss g) := h
  clear h
  go_enter Tryz.func38, Tryz.ntmps38
  go_wp2
  go_loopw [1, 5] (fun v1 v5 wr => ∃ j : Nat, j ≤ n ∧ v5 = .int .i64 j ∧ v1 = .int .i64 (k + lens (zss.take j)) ∧ Kept g n w wr ∧ (∀ i, i < j → NumsAt wr (g i) 0 (markAt zss k i)) ∧ (∀ i, i < n → Room wr (g i) (atP zss i).length)) (fun _ v5 _ => n - (intOf v5).toNat)
  case atStart => exact ⟨0, Nat.zero_le _, rfl, by simp [lens], Kept.refl _ _ _, fun i hi => by omega, fun i hi => HO.out.room i _ (atP_of (by omega))⟩
  case round =>
    obtain ⟨j, hj, rfl, rfl, hkp, hnu, hro⟩ := hrel
    have hle := lens_take_le zss j
    by_cases hlt : j < n
    · obtain ⟨cp, hc, _⟩ := HO.out.cell j _ (atP_of (by omega))
      have c := (World.cell?_of_block (a := ⟨b, j, none⟩) (hkp.block b (fun i hi e => HO.out.ne i hi e.symm))).trans hc
      have hst := lens_take_succ (zss := zss) (j := j) (by omega)
      have hle' := lens_take_le zss (j + 1)
      have hcl := markInt64S_own wr (g j) (atP zss j).length cp (k + lens (zss.take j)) (by omega) (by omega) (by omega) (hro j hlt)
      have K : Hid (Kept g n w wr ∧ (∀ i, i < j → NumsAt wr (g i) 0 (markAt zss k i)) ∧ (∀ i, i < n → Room wr (g i) (atP zss i).length)) := ⟨hkp, hnu, hro⟩
      clear hkp hnu hro hc
      go_wp2_with fail
      refine hcl.mono ?_
      clear hcl
      rintro e w1 ⟨rfl, ho, hn1, hr1⟩
      have K1 : Hid (OnlyBlock (g j) wr w1 ∧ NumsAt w1 (g j) 0 (markAt zss k j) ∧ Room w1 (g j) (atP zss j).length) := ⟨ho, hn1, hr1⟩
      clear ho hn1 hr1
      go_wp2
      obtain ⟨hkp, hnu, hro⟩ := K.out
      obtain ⟨ho, hn1, hr1⟩ := K1.out
      refine ⟨⟨j + 1, by omega, by simp, by rw [hst]; simp; omega, hkp.only hlt ho, fun i hi => ?_, fun i hi => ?_⟩, by simp [intOf]; omega⟩
      · by_cases e : i = j
        · subst e; exact hn1
        · exact (hnu i (by omega)).of_block (ho.block _ (fun e' => e (HO.out.inj i j (by omega) hlt e')))
      · by_cases e : i = j
        · subst e; exact hr1
        · exact (hro i hi).of_block (ho.block _ (fun e' => e (HO.out.inj i j hi hlt e')))
    · have : j = n := by omega
      subst this
      have hd : decide ((j : Int) < (j : Int)) = false := by simp
      rw [show zss.take j = zss from List.take_of_length_le (by omega)]
      have K : Hid (Kept g j w wr ∧ (∀ i, i < j → NumsAt wr (g i) 0 (markAt zss k i)) ∧ (∀ i, i < j → Room wr (g i) (atP zss i).length)) := ⟨hkp, hnu, hro⟩
      clear hkp hnu hro hle
      go_wp2
      go_ret
      obtain ⟨hkp, hnu, hro⟩ := K.out
      refine ⟨rfl, hkp, ⟨by rw [markPs_len]; exact hlen, fun i zs e => ?_, HO.out.low, fun i hi => by rw [hkp.size]; exact HO.out.lt i hi, HO.out.ne, fun i zs e => ?_, fun i zs e => ?_, HO.out.inj⟩⟩
      · obtain ⟨hi, rfl⟩ := markPs_at e
        obtain ⟨cp, hc, hcp⟩ := HO.out.cell i _ (atP_of hi)
        exact ⟨cp, by rw [markAt_len]; exact (World.cell?_of_block (a := ⟨b, i, none⟩) (hkp.block b (fun i hi e => HO.out.ne i hi e.symm))).trans hc, by rw [markAt_len]; exact hcp⟩
      · obtain ⟨hi, rfl⟩ := markPs_at e
        exact hnu i (by omega)
      · obtain ⟨hi, rfl⟩ := markPs_at e
        rw [markAt_len]; exact hro i (by omega)
theorem markPlaceS_nil (w : World) (cap : Nat) (k : Int) : Calls Tryz.prog 38 #[.slice none 0 cap, .int .i64 k] w fun e w' => e = .returned (.int .i64 k) ∧ w' = w := by
  go_enter Tryz.func38, Tryz.ntmps38
  go_wp2
  go_loop [1, 5] (fun v1 v5 => v5 = .int .i64 0 ∧ v1 = .int .i64 k) (fun _ _ => 0)
  case atStart => exact ⟨rfl, rfl⟩
  case round =>
    obtain ⟨rfl, rfl⟩ := hrel
    go_wp2
    go_ret
    exact ⟨rfl, rfl⟩
theorem markPlaceS_q (w : World) (base : Nat) (a : Option Addr) (n cap : Nat) (zss : List (List Int)) (g : Nat → Nat) (k : Int) (hn : n ≤ 1048576) (hl : lens zss ≤ 1048576) (hk : 0 ≤ k) (hk' : k ≤ 100000000) (h : OwnQ w base a n zss g) :
    Calls Tryz.prog 38 #[.slice a n cap, .int .i64 k] w fun e w' => e = .returned (.int .i64 (k + lens zss)) ∧ Kept g n w w' ∧ OwnQ w' base a n (markPs zss k) g := by
  rcases h with ⟨rfl, rfl, rfl⟩ | ⟨b, rfl, hb1, hb2, ho⟩
  · refine (markPlaceS_nil w cap k).mono ?_
    rintro e w' ⟨rfl, rfl⟩
    exact ⟨by simp [lens], Kept.refl _ _ _, .inl ⟨rfl, rfl, rfl⟩⟩
  · refine (markPlaceS_own w base b n cap zss g k hn hl hk hk' ho).mono ?_
    rintro e w' ⟨rfl, kp, o⟩
    exact ⟨rfl, kp, .inr ⟨b, rfl, hb1, by rw [kp.size]; exact hb2, o⟩⟩
end Go.Proofs.YtdmpobegobfpjaaGreat
namespace Go.Proofs.YtdmpobegobfpjaaGreat
open Go.RowKit
open Go.Sort (grow)
set_option maxHeartbeats 1000000 in
theorem markMS_nil (w : World) (a : Option Addr) (cap : Nat) (k : Int) : Calls Tryz.prog 39 #[.slice a 0 cap, .int .i64 k] w fun e w' => e = .returned (.int .i64 k) ∧ w' = w := by
  go_enter Tryz.func39, Tryz.ntmps39
  go_wp2
  go_loop [1, 5] (fun v1 v5 => v1 = .int .i64 k ∧ v5 = .int .i64 0) (fun _ _ => 0)
  case atStart => exact ⟨rfl, rfl⟩
  case round =>
    obtain ⟨rfl, rfl⟩ := hrel
    go_wp2
    go_ret
    exact ⟨rfl, rfl⟩
theorem markMS_own (w : World) (B : Nat) (a : Option Addr) (cap : Nat) (xs : List M4) (P : Nat → Prop) (k : Int) (hk : 0 ≤ k) (hk' : k + (offG cM xs xs.length : Int) ≤ 100000000) (hn : xs.length ≤ 1048576) (ht : ∀ m ∈ xs, MT m) (h : KMk.OwS w B a xs P) :
    Calls Tryz.prog 39 #[.slice a xs.length cap, .int .i64 k] w fun e w' => e = .returned (.int .i64 (k + (offG cM xs xs.length : Int))) ∧ KeptP P w w' := by
  obtain ⟨h, hP⟩ := h
  rcases h with rfl | ⟨b, g, rfl, hp, hpt, hg⟩
  · refine (markMS_nil w a cap k).mono ?_
    rintro e w' ⟨rfl, rfl⟩
    exact ⟨by simp [offG], KeptP.refl _ _⟩
  · exact markMs w B b cap xs g P k hk hk' hn ht (hP b hp).2 hp hg hpt
set_option maxHeartbeats 1000000 in
theorem markTS_nil (w : World) (a : Option Addr) (cap : Nat) (k : Int) : Calls Tryz.prog 40 #[.slice a 0 cap, .int .i64 k] w fun e w' => e = .returned (.int .i64 k) ∧ w' = w := by
  go_enter Tryz.func40, Tryz.ntmps40
  go_wp2
  go_loop [1, 5] (fun v1 v5 => v1 = .int .i64 k ∧ v5 = .int .i64 0) (fun _ _ => 0)
  case atStart => exact ⟨rfl, rfl⟩
  case round =>
    obtain ⟨rfl, rfl⟩ := hrel
    go_wp2
    go_ret
    exact ⟨rfl, rfl⟩
theorem markTS_own (w : World) (B : Nat) (a : Option Addr) (cap : Nat) (xs : List tx.T7) (P : Nat → Prop) (k : Int) (hk : 0 ≤ k) (hk' : k + (offG cT xs xs.length : Int) ≤ 100000000) (hn : xs.length ≤ 1048576) (ht : ∀ m ∈ xs, KT.S m) (h : KTk.OwS w B a xs P) :
    Calls Tryz.prog 40 #[.slice a xs.length cap, .int .i64 k] w fun e w' => e = .returned (.int .i64 (k + (offG cT xs xs.length : Int))) ∧ KeptP P w w' := by
  obtain ⟨h, hP⟩ := h
  rcases h with rfl | ⟨b, g, rfl, hp, hpt, hg⟩
  · refine (markTS_nil w a cap k).mono ?_
    rintro e w' ⟨rfl, rfl⟩
    exact ⟨by simp [offG], KeptP.refl _ _⟩
  · exact markTs w B b cap xs g P k hk hk' hn ht (hP b hp).2 hp hg hpt
theorem offG_cap {α : Type} (c l : α → Nat) (a : Nat) (h : ∀ r, c r ≤ a + 5 * l r) (rs : List α) : offG c rs rs.length ≤ a * rs.length + 5 * (rs.map l).sum := by
  unfold offG
  rw [List.take_of_length_le (by simp)]
  induction rs with
  | nil => simp
  | cons r rs ih =>
    have := h r
    simp only [List.map_cons, List.sum_cons, List.length_cons, Nat.mul_add, Nat.mul_one]
    omega
def cC (k : C6) : Nat := lens k.places + offG cM k.machines k.machines.length + offG cT k.txs k.txs.length
theorem cC_le (k : C6) : cC k ≤ 5 * szC k := by
  have h1 := offG_cap cM (fun d => szM d) 1 (fun m => by
    show cM m ≤ 1 + 5 * szM m
    have e1 := off_sum cK (fun k => k.cells.length) 1 2 (fun r => rfl) m.copies
    have e2 := off_sum cR (fun k => k.sets.length) 3 5 (fun r => rfl) m.log
    unfold cM szM lensK lensR
    omega) k.machines
  have h2 := offG_cap cT (fun d => tx.szT d) 5 (fun t => by show cT t ≤ 5 + 5 * tx.szT t; unfold cT tx.szT; omega) k.txs
  unfold cC szC KMS.szs KTS.szs
  omega
def endC (k : C6) (x : Int) : Int := x + (cC k : Int)
set_option maxHeartbeats 4000000 in
theorem KCl.mark (X : World) (B : Nat) (a1 : Option Addr) (c1 : Nat) (a2 : Option Addr) (c2 : Nat) (a3 : Option Addr) (c3 : Nat) (k : C6) (P : Nat → Prop) (x : Int) (hx : 0 ≤ x) (hx' : x ≤ 1000) (hz : szC k ≤ 1048576) (ht : KCl.S k) (h : KCl.Ow X B a1 c1 a2 c2 a3 c3 k P) :
    Calls Tryz.prog 13 #[.agg #[.int .i64 k.config, .int .i64 k.clock, .slice a1 k.places.length c1, .slice a2 k.machines.length c2, .slice a3 k.txs.length c3, .bool k.lost], .int .i64 x] X fun r w' => r = .returned (.int .i64 (endC k x)) ∧ KeptP P X w' := by
  obtain ⟨⟨P1, P2, P3, ⟨⟨g, oq, ob, og⟩, oB⟩, om, ot, s1, s2, s3, d12, d13, d23⟩, hP⟩ := h
  have hcc := cC_le k
  have hC : endC k x = x + (lens k.places : Int) + (offG cM k.machines k.machines.length : Int) + (offG cT k.txs k.txs.length : Int) := by unfold endC cC; push_cast; omega
  have hs1 : lens k.places ≤ 1048576 := by unfold szC at hz; omega
  obtain ⟨W, hW⟩ : ∃ Y, Y = X.alloc (.cells #[.int .i64 k.config, .int .i64 k.clock, .slice a1 k.places.length c1, .slice a2 k.machines.length c2, .slice a3 k.txs.length c3, .bool k.lost] 34) := ⟨_, rfl⟩
  have bW : Below X.heap.size X W := by rw [hW]; exact (Below.refl _ _).alloc (Nat.le_refl _) _
  have FA : Hid (Bx W X.heap.size [.int .i64 k.config, .int .i64 k.clock, .slice a1 k.places.length c1, .slice a2 k.machines.length c2, .slice a3 k.txs.length c3, .bool k.lost]) := by unfold Hid; rw [hW]; exact Bx.made X [.int .i64 k.config, .int .i64 k.clock, .slice a1 k.places.length c1, .slice a2 k.machines.length c2, .slice a3 k.txs.length c3, .bool k.lost] _
  have hc := markPlaceS_q W B a1 k.places.length c1 k.places g x ht.p hs1 hx (by omega) (oq.later bW)
  have H : Hid (KMk.OwS W B a2 k.machines P2 ∧ KTk.OwS W B a3 k.txs P3 ∧ (∀ q, P1 q → P q) ∧ (∀ q, P2 q → P q) ∧ (∀ q, P3 q → P q) ∧ (∀ q, P1 q → ¬ P2 q) ∧ (∀ q, P1 q → ¬ P3 q) ∧ (∀ q, P2 q → ¬ P3 q) ∧ (∀ q, P q → q < X.heap.size) ∧ (∀ i, i < k.places.length → P1 (g i)) ∧ Below X.heap.size X W ∧ KCl.S k) := ⟨om.later bW, ot.later bW, s1, s2, s3, d12, d13, d23, fun q hq => (hP q hq).2, og, bW, ht⟩
  have HE := hidOf hC
  have HL : Hid (x + (lens k.places : Int) + (offG cM k.machines k.machines.length : Int) + (offG cT k.txs k.txs.length : Int) ≤ 100000000) := by unfold Hid; rw [← hC]; unfold endC; omega
  clear oq ob og oB om ot s1 s2 s3 d12 d13 d23 hP hcc hC hz ht bW hs1
  go_enter Tryz.func13, Tryz.ntmps13
  go_wp2_with fail
  rw [← hW]
  clear hW
  refine hc.mono ?_
  clear hc
  rintro e w1 ⟨rfl, kp, -⟩
  obtain ⟨om, ot, s1, s2, s3, d12, d13, d23, hP, og, bW, ht⟩ := H.out
  have k1 : KeptP P1 W w1 := ⟨kp.os, kp.tape, kp.output, Nat.le_of_eq kp.size.symm, fun q _ hn => kp.block q (fun i hi e => hn (e ▸ og i hi))⟩
  have F1 : Hid (Bx w1 X.heap.size [.int .i64 k.config, .int .i64 k.clock, .slice a1 k.places.length c1, .slice a2 k.machines.length c2, .slice a3 k.txs.length c3, .bool k.lost]) := FA.out.of_block (k1.block _ FA.out.2.2 (fun e => by have := hP _ (s1 _ e); omega)) k1.size
  have M1 : Hid (KMk.OwS w1 B a2 k.machines P2 ∧ KTk.OwS w1 B a3 k.txs P3 ∧ KeptP P X w1) := ⟨om.keep k1.size (fun q hq => k1.block q (om.of hq).2 (fun e => d12 q e hq)), ot.keep k1.size (fun q hq => k1.block q (ot.of hq).2 (fun e => d13 q e hq)), (KeptP.of_below bW).trans (k1.mono s1)⟩
  clear om ot s1 s2 s3 d12 d13 d23 hP og bW k1 kp ht
  have p3 := F1.out.1 3 _ rfl
  have l1 := HL.out
  generalize hy : x + (lens k.places : Int) = y at *
  have hy0 : 0 ≤ y := by omega
  go_wp2_with fail
  refine (markMS_own w1 B a2 c2 k.machines P2 y hy0 (by omega) H.out.2.2.2.2.2.2.2.2.2.2.2.m H.out.2.2.2.2.2.2.2.2.2.2.2.ms M1.out.1).mono ?_
  rintro e w2 ⟨rfl, k2⟩
  obtain ⟨om, ot, s1, s2, s3, d12, d13, d23, hP, og, bW, ht⟩ := H.out
  have F2 : Hid (Bx w2 X.heap.size [.int .i64 k.config, .int .i64 k.clock, .slice a1 k.places.length c1, .slice a2 k.machines.length c2, .slice a3 k.txs.length c3, .bool k.lost]) := F1.out.of_block (k2.block _ F1.out.2.2 (fun e => by have := hP _ (s2 _ e); omega)) k2.size
  have M2 : Hid (KTk.OwS w2 B a3 k.txs P3 ∧ KeptP P X w2) := ⟨M1.out.2.1.keep k2.size (fun q hq => k2.block q (M1.out.2.1.of hq).2 (fun e => d23 q e hq)), M1.out.2.2.trans (k2.mono s2)⟩
  clear om ot s1 s2 s3 d12 d13 d23 hP og bW k2 ht p3
  have p4 := F2.out.1 4 _ rfl
  generalize hz : y + (offG cM k.machines k.machines.length : Int) = z at *
  have hz0 : 0 ≤ z := by omega
  go_wp2_with fail
  refine (markTS_own w2 B a3 c3 k.txs P3 z hz0 (by omega) H.out.2.2.2.2.2.2.2.2.2.2.2.t H.out.2.2.2.2.2.2.2.2.2.2.2.ts M2.out.1).mono ?_
  rintro e w3 ⟨rfl, k3⟩
  have M3 : Hid (KeptP P X w3) := M2.out.2.trans (k3.mono H.out.2.2.2.2.1)
  clear k3 p4
  go_wp2
  go_ret
  exact ⟨by rw [HE.out]; rfl, M3.out⟩
end Go.Proofs.YtdmpobegobfpjaaGreat