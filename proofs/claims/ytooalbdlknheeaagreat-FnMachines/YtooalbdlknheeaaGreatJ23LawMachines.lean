/- StrI; StrG; Cmp; BinN: joined. -/
import Derived.Test.YtooalbdlknheeaaGreatRows
import Derived.Test.YtooalbdlknheeaaGreatDelRJ
import Derived.WalkKit
import Derived.WalkSpells
import Derived.WalkLawsBesides
import Derived.Below
import Derived.Lib.QuietBelow
import Derived.BigQuiet
import Derived.Deep.CutRange
import Derived.Test.YtooalbdlknheeaaGreatJ9LawMachines
import Derived.Test.YtooalbdlknheeaaGreatMacOkIJ
/- Records struck out, by the program. -/
namespace Go.Proofs.YtooalbdlknheeaaGreat
open Go.RowKit
open Go.Sort (grow)
set_option maxHeartbeats 1000000 in
theorem delete_nil (w : World) (a : Option Addr) (cap g1 g2 : Nat) :
    Calls Tryz.prog 146 #[.slice a 0 cap, .func (.func 145) #[] #[.pointer (some ⟨g1, 0, none⟩), .pointer (some ⟨g2, 0, none⟩)]] w fun e w' => e = .returned (.slice a 0 cap) ∧ Below w.heap.size w w' := by
  have hc := idxStr w a 0 cap [] g1 g2 (fun _ => false) (by unfold maxLen; omega) ⟨rfl, .inl rfl⟩ (fun X i a' c' hX hi hsl => absurd hi (by omega))
  go_enter Tryz.func146, Tryz.ntmps146
  go_wp2_with fail
  refine hc.mono ?_
  clear hc
  rintro e w1 ⟨⟨i0, rfl, hi0⟩, b1⟩
  have B1 := hidOf b1
  clear b1
  rcases hi0 with ⟨rfl, _⟩ | ⟨k, rfl, hk, _⟩
  · go_wp2
    go_ret
    exact ⟨rfl, B1.out⟩
  · omega
set_option maxRecDepth 100000 in
set_option maxHeartbeats 2000000 in
theorem strike_nil (w : World) (s : Nat) (a : Option Addr) (cap : Nat) (t g : Int) (hs : w.cell? ⟨s, 0, none⟩ = some (.slice a 0 cap)) (hf : w.frozen? ⟨s, 0, none⟩ = false) (hsl : s < w.heap.size) :
    Calls Tryz.prog 74 #[.pointer (some ⟨s, 0, none⟩), .int .i64 t, .int .i64 g] w fun e w' => e = .returned (.tuple #[]) ∧ ∃ W, Below w.heap.size w W ∧ w' = W.setCell ⟨s, 0, none⟩ (.slice a 0 cap) := by
  obtain ⟨U, hU⟩ : ∃ X, X = (w.alloc (.cells #[.int .i64 t] 2)).alloc (.cells #[.int .i64 g] 2) := ⟨_, rfl⟩
  have b0 : Below w.heap.size w U := by rw [hU]; exact ((Below.refl _ _).alloc (Nat.le_refl _) _).alloc (by simp) _
  have c0 := (b0.cell (p := ⟨s, 0, none⟩) hsl).trans hs
  have hc := delete_nil U a cap w.heap.size (w.heap.size + 1)
  have H : Hid (Below w.heap.size w U ∧ w.cell? ⟨s, 0, none⟩ = some (.slice a 0 cap) ∧ w.frozen? ⟨s, 0, none⟩ = false) := ⟨b0, hs, hf⟩
  clear b0 hs hf
  rw [hU] at c0
  go_enter Tryz.func74, Tryz.ntmps74
  go_wp2_with fail
  rw [← hU]
  clear hU c0
  refine hc.mono ?_
  clear hc
  rintro e w1 ⟨rfl, b1⟩
  have B1 : Hid (Below w.heap.size w w1) := bstep H.out.1 b1
  clear b1
  have c1 := (B1.out.cell (p := ⟨s, 0, none⟩) hsl).trans H.out.2.1
  have f1 := (B1.out.frozen (p := ⟨s, 0, none⟩) hsl).trans H.out.2.2
  go_wp2
  exact bodyPost_end (v := .tuple #[]) (by simp [results, Tryz.results74, go_sem]) rfl ⟨rfl, w1, B1.out, rfl⟩
set_option maxRecDepth 100000 in
set_option maxHeartbeats 2000000 in
theorem strike_any (w : World) (s b n cap m : Nat) (rs : List R4) (ads : Nat → Option Addr) (ps : Nat → Nat) (t g : Int) (hs : w.cell? ⟨s, 0, none⟩ = some (.slice (some ⟨b, 0, none⟩) n cap)) (hf : w.frozen? ⟨s, 0, none⟩ = false) (hsl : s < w.heap.size) (hsb : s ≠ b) (hn : n ≤ 1000) (hlen : rs.length = n) (hcap : n ≤ cap) (hb : b < w.heap.size) (hB : Blk w b 41 m) (hm : n * 4 ≤ m)
    (hrow : ∀ i, i < n → At w b (i * 4) (rc (atR rs i) (ads i) (ps i))) (hsr : SlR w w.heap.size (some ⟨b, 0, none⟩) n rs) :
    Calls Tryz.prog 74 #[.pointer (some ⟨s, 0, none⟩), .int .i64 t, .int .i64 g] w fun e w' => e = .returned (.tuple #[]) ∧ ∃ W, Turned b w W ∧ Blk W b 41 m ∧ (∀ x i, (keepI (fun i => ofB t g (atR rs i)) n)[x]? = some i → At W b (x * 4) (rc (atR rs i) (ads i) (ps i))) ∧ w' = W.setCell ⟨s, 0, none⟩ (.slice (some ⟨b, 0, none⟩) (keepI (fun i => ofB t g (atR rs i)) n).length cap) := by
  obtain ⟨U, hU⟩ : ∃ X, X = (w.alloc (.cells #[.int .i64 t] 2)).alloc (.cells #[.int .i64 g] 2) := ⟨_, rfl⟩
  have b0 : Below w.heap.size w U := by rw [hU]; exact ((Below.refl _ _).alloc (Nat.le_refl _) _).alloc (by simp) _
  have z0 : U.heap.size = w.heap.size + 2 := by rw [hU]; simp
  have p1 : U.cell? ⟨w.heap.size, 0, none⟩ = some (.int .i64 t) := by rw [hU]; go_simp
  have p2 : U.cell? ⟨w.heap.size + 1, 0, none⟩ = some (.int .i64 g) := by rw [hU]; go_simp
  have c0 := (b0.cell (p := ⟨s, 0, none⟩) hsl).trans hs
  have ob := b0.block b hb
  have hc := delete_any U b n cap m rs ads ps t g w.heap.size (w.heap.size + 1) hn hlen hcap (by omega) (hB.keep ob) hm (fun i hi => (hrow i hi).of_block ob) (hsr.later b0) p1 p2 (by omega) (by omega) (by omega) (by omega)
  have H : Hid (Below w.heap.size w U ∧ w.cell? ⟨s, 0, none⟩ = some (.slice (some ⟨b, 0, none⟩) n cap) ∧ w.frozen? ⟨s, 0, none⟩ = false ∧ U.heap.size = w.heap.size + 2) := ⟨b0, hs, hf, z0⟩
  clear b0 hs hf z0 p1 p2 ob hB hrow hsr hlen hm
  rw [hU] at c0
  obtain ⟨K, hK⟩ : ∃ K, K = keepI (fun i => ofB t g (atR rs i)) n := ⟨_, rfl⟩
  rw [← hK] at hc ⊢
  clear hK
  go_enter Tryz.func74, Tryz.ntmps74
  go_wp2_with fail
  rw [← hU]
  clear hU c0
  refine hc.mono ?_
  clear hc
  rintro e w1 ⟨rfl, ht, hb1, hat⟩
  have HT : Hid (Turned b w w1 ∧ Blk w1 b 41 m ∧ (∀ x i, K[x]? = some i → At w1 b (x * 4) (rc (atR rs i) (ads i) (ps i)))) := ⟨((Turned.refl b w).of_below H.out.1).trans ht, hb1, hat⟩
  clear ht hb1 hat
  have c1 := (HT.out.1.cell (p := ⟨s, 0, none⟩) hsl hsb).trans H.out.2.1
  have f1 := (HT.out.1.frozen (p := ⟨s, 0, none⟩) hsl hsb).trans H.out.2.2.1
  go_wp2
  exact bodyPost_end (v := .tuple #[]) (by simp [results, Tryz.results74, go_sem]) rfl ⟨rfl, w1, HT.out.1, HT.out.2.1, HT.out.2.2, rfl⟩
end Go.Proofs.YtooalbdlknheeaaGreat
/- The row of records when some are struck out. -/
namespace Go.Proofs.YtooalbdlknheeaaGreat
open Go.RowKit
open Go.Sort (grow)
theorem owns_of_cells {X : World} {base g n cap sz : Nat} {T : TypeId} {xs : List Value} (hB : Blk X g T (cap * sz)) (hx : ∀ j u, xs[j]? = some u → X.cell? ⟨g, j, none⟩ = some u) (hl : xs.length = n * sz) (hn : n ≤ cap) (hc : cap ≤ maxLen) (hb : base ≤ g) : X.ownsRow base T sz (.slice (some ⟨g, 0, none⟩) n cap) n xs := by
  obtain ⟨cur, h1, h2⟩ := hB
  have hm := Nat.mul_le_mul_right sz hn
  refine ⟨hl, .inr ⟨g, cap, cur, rfl, hb, h1, hn, hc, h2, ?_⟩⟩
  apply List.ext_getElem?
  intro j
  by_cases hj : j < n * sz
  · have hu := List.getElem?_eq_getElem (l := xs) (i := j) (by omega)
    have hc := hx j _ hu
    simp only [World.cell?, h1] at hc
    rw [hu, List.getElem?_take, if_pos hj]
    simpa using hc
  · rw [List.getElem?_eq_none (by simp; omega), List.getElem?_eq_none (by omega)]
theorem cells_of_owns {X : World} {base g n cap sz : Nat} {T : TypeId} {xs : List Value} (h : X.ownsRow base T sz (.slice (some ⟨g, 0, none⟩) n cap) n xs) : Blk X g T (cap * sz) ∧ (∀ j u, xs[j]? = some u → X.cell? ⟨g, j, none⟩ = some u) ∧ n ≤ cap ∧ cap ≤ maxLen ∧ base ≤ g ∧ g < X.heap.size := by
  obtain ⟨hl, h⟩ := h
  rcases h with ⟨h, _⟩ | ⟨g', cap', cur, he, h1, h2, h3, h4, h5, h6⟩
  · cases h
  · injection he with he1 _ he3
    injection he1 with he1
    injection he1 with he1
    subst he1 he3
    refine ⟨⟨cur, h2, h5⟩, fun j u hu => ?_, h3, h4, h1, (Array.getElem?_eq_some_iff.1 h2).1⟩
    rw [← h6, List.getElem?_take] at hu
    split at hu
    · simp only [World.cell?, h2]
      simpa using hu
    · cases hu
theorem sum_fours {β : Type} : ∀ l : List β, (l.map fun _ => 4).sum = l.length * 4
  | [] => rfl
  | _ :: l => by simp only [List.map_cons, List.sum_cons, List.length_cons, sum_fours l]; omega
theorem flatG_len (rs : List R4) (g caps : Nat → Nat) : (flatG hdR lnR rs g caps).length = rs.length * 4 := by
  have h := sum_fours rs.zipIdx
  simp only [List.length_zipIdx] at h
  rw [← h]
  simp [flatG, List.length_flatMap, cellsG, hdR]
theorem cellsG_rc (r : R4) (q cap : Nat) : cellsG hdR lnR r q cap = rc r (some ⟨q, 0, none⟩) cap := rfl
/-- The row of records, as DeleteFunc wants it. -/
theorem GrowG.rows {w : World} {base b n cap : Nat} {rs : List R4} {g : Nat → Nat} (h : GrowG 41 4 hdR lnR AtR w base (.slice (some ⟨b, 0, none⟩) n cap) rs g) (hl : rs.length = n) : ∃ caps : Nat → Nat, Blk w b 41 (cap * 4) ∧ (∀ i, i < n → At w b (i * 4) (rc (atR rs i) (some ⟨g i, 0, none⟩) (caps i))) ∧ (∀ i, i < n → lnR (atR rs i) ≤ caps i) ∧ n ≤ cap ∧ cap ≤ maxLen ∧ base ≤ b ∧ b < w.heap.size := by
  obtain ⟨caps, ho, hc⟩ := h.row
  rw [hl] at ho
  obtain ⟨h1, h2, h3, h4, h5, h6⟩ := cells_of_owns ho
  refine ⟨caps, h1, fun i hi => ?_, fun i hi => hc i _ (atR_of (by omega)), h3, h4, h5, h6⟩
  intro t u hu
  have ht : t < 4 := by have := (List.getElem?_eq_some_iff.1 hu).1; simpa [rc] using this
  exact h2 _ u (by rw [flatG_at (sz := 4) (fun r => rfl) (atR_of (by omega)) ht, cellsG_rc]; exact hu)
/-- What is left of the row when records are struck out. -/
theorem GrowG.struck {w W : World} {base b n cap : Nat} {rs : List R4} {g : Nat → Nat} {caps : Nat → Nat} {K : List Nat} (h : GrowG 41 4 hdR lnR AtR w base (.slice (some ⟨b, 0, none⟩) n cap) rs g) (hl : rs.length = n) (hcp : ∀ i, i < n → lnR (atR rs i) ≤ caps i) (hcap : cap ≤ maxLen) (hbb : base ≤ b) (hKn : ∀ (x i : Nat), K[x]? = some i → i < n) (hKd : K.Nodup) (hKl : K.length ≤ cap) (ht : Turned b w W) (hB : Blk W b 41 (cap * 4)) (hat : ∀ (x i : Nat), K[x]? = some i → At W b (x * 4) (rc (atR rs i) (some ⟨g i, 0, none⟩) (caps i))) :
    GrowG 41 4 hdR lnR AtR W base (.slice (some ⟨b, 0, none⟩) K.length cap) (K.map (atR rs)) (fun x => g (K[x]?.getD 0)) := by
  have hkx : ∀ x r, (K.map (atR rs))[x]? = some r → ∃ i, K[x]? = some i ∧ r = atR rs i := fun x r e => by
    rw [List.getElem?_map] at e
    obtain ⟨i, hi, rfl⟩ := Option.map_eq_some_iff.1 e
    exact ⟨i, hi, rfl⟩
  have hkl : ∀ x, x < (K.map (atR rs)).length → ∃ i, K[x]? = some i ∧ i < n := fun x hx => by
    have h1 := List.getElem?_eq_getElem (l := K) (i := x) (by simpa using hx)
    exact ⟨_, h1, hKn x _ h1⟩
  have hne : ∀ i, i < n → g i ≠ b := fun i hi e => h.ne i (by omega) (by rw [e]; rfl)
  refine ⟨⟨fun x => caps (K[x]?.getD 0), ?_, fun x r e => ?_⟩, fun x hx => ?_, fun x hx => ?_, fun x hx => ?_, fun x r e => ?_, fun x y hx hy e => ?_⟩
  · rw [List.length_map]
    refine owns_of_cells hB (fun j u hu => ?_) (by rw [flatG_len, List.length_map]) hKl hcap hbb
    have hj : j / 4 * 4 + j % 4 = j := by omega
    have hjl : j / 4 < K.length := by
      have := (List.getElem?_eq_some_iff.1 hu).1
      rw [flatG_len, List.length_map] at this
      omega
    have hK := List.getElem?_eq_getElem hjl
    have hm : (K.map (atR rs))[j / 4]? = some (atR rs K[j / 4]) := by rw [List.getElem?_map, hK]; rfl
    rw [← hj, flatG_at (sz := 4) (fun r => rfl) hm (Nat.mod_lt _ (by decide)), cellsG_rc, hK] at hu
    have := hat _ _ hK (j % 4) u hu
    rwa [hj] at this
  · obtain ⟨i, hi, rfl⟩ := hkx x r e
    simp only [hi, Option.getD_some]
    exact hcp i (hKn x i hi)
  · obtain ⟨i, hi, hin⟩ := hkl x hx
    simp only [hi, Option.getD_some]
    exact h.low i (by omega)
  · obtain ⟨i, hi, hin⟩ := hkl x hx
    simp only [hi, Option.getD_some]
    exact Nat.lt_of_lt_of_le (h.lt i (by omega)) ht.size
  · obtain ⟨i, hi, hin⟩ := hkl x hx
    simp only [hi, Option.getD_some]
    exact fun e => hne i hin (by injection e with e; exact e.symm)
  · obtain ⟨i, hi, rfl⟩ := hkx x r e
    simp only [hi, Option.getD_some]
    have hin := hKn x i hi
    exact AtR.of_block _ _ _ _ (ht.block _ (h.lt i (by omega)) (hne i hin)) (h.sub i _ (atR_of (by omega)))
  · obtain ⟨i, hi, hin⟩ := hkl x hx
    obtain ⟨j, hj, hjn⟩ := hkl y hy
    simp only [hi, hj, Option.getD_some] at e
    have hij := h.inj i j (by omega) (by omega) e
    subst hij
    have h1 := List.getElem?_eq_some_iff.1 hi
    have h2 := List.getElem?_eq_some_iff.1 hj
    obtain ⟨a1, b1⟩ := h1
    obtain ⟨a2, b2⟩ := h2
    have hp := List.pairwise_iff_getElem.1 hKd
    rcases Nat.lt_trichotomy x y with hxy | hxy | hxy
    · exact absurd (b1.trans b2.symm) (hp x y a1 a2 hxy)
    · exact hxy
    · exact absurd (b2.trans b1.symm) (hp y x a2 a1 hxy)
theorem keepI_nodup (f : Nat → Bool) (n : Nat) : (keepI f n).Nodup := List.Pairwise.sublist List.filter_sublist List.nodup_range
theorem keepI_list (rs : List R4) (d : R4 → Bool) : (keepI (fun i => d (atR rs i)) rs.length).map (atR rs) = rs.filter (fun r => !d r) := by
  have : rs = (List.range rs.length).map (atR rs) := by
    apply List.ext_getElem?
    intro i
    by_cases h : i < rs.length
    · rw [atR_of h, List.getElem?_map, List.getElem?_range h]; rfl
    · rw [List.getElem?_eq_none (by omega), List.getElem?_eq_none (by simp; omega)]
  conv => rhs; rw [this]
  rw [List.filter_map]
  rfl
end Go.Proofs.YtooalbdlknheeaaGreat
/- cmp.Compare of int64. -/
namespace Go.Proofs.YtooalbdlknheeaaGreat
open Go.RowKit
theorem nan_any (w : World) (x : Int) : Calls Tryz.prog 163 #[.int .i64 x] w fun e w' => e = .returned (.bool false) ∧ w' = w := by
  have h : (x != x) = false := by simp
  go_enter Tryz.func163, Tryz.ntmps163
  go_wp2
  go_ret
  exact ⟨rfl, rfl⟩
def cmpI (x y : Int) : Int := if x < y then -1 else if y < x then 1 else 0
theorem compare_any (w : World) (x y : Int) : Calls Tryz.prog 122 #[.int .i64 x, .int .i64 y] w fun e w' => e = .returned (.int .i64 (cmpI x y)) ∧ w' = w := by
  by_cases h1 : x < y
  · have e : cmpI x y = -1 := if_pos h1
    rw [e]
    go_enter Tryz.func122, Tryz.ntmps122
    go_wp2_with (go_at_call 163; refine (nan_any _ _).mono ?_; rintro e w' ⟨rfl, rfl⟩)
    go_ret
    exact ⟨rfl, rfl⟩
  · have d1 : decide (x < y) = false := by simp; omega
    by_cases h2 : y < x
    · have e : cmpI x y = 1 := by rw [cmpI, if_neg h1, if_pos h2]
      have d2 : decide (y < x) = true := by simp [h2]
      rw [e]
      clear h1
      go_enter Tryz.func122, Tryz.ntmps122
      go_wp2_with (go_at_call 163; refine (nan_any _ _).mono ?_; rintro e w' ⟨rfl, rfl⟩)
      go_ret
      exact ⟨rfl, rfl⟩
    · have e : cmpI x y = 0 := by rw [cmpI, if_neg h1, if_neg h2]
      have d2 : decide (y < x) = false := by simp; omega
      rw [e]
      clear h1 h2
      go_enter Tryz.func122, Tryz.ntmps122
      go_wp2_with (go_at_call 163; refine (nan_any _ _).mono ?_; rintro e w' ⟨rfl, rfl⟩)
      go_ret
      exact ⟨rfl, rfl⟩
end Go.Proofs.YtooalbdlknheeaaGreat
/- slices.BinarySearch of int64; whether a number is in a row. -/
namespace Go.Proofs.YtooalbdlknheeaaGreat
open Go.RowKit
open Go.Sort (grow)
theorem nanS_any (w : World) (x : Int) : Calls Tryz.prog 172 #[.int .i64 x] w fun e w' => e = .returned (.bool false) ∧ w' = w := by
  have h : (x != x) = false := by simp
  go_enter Tryz.func172, Tryz.ntmps172
  go_wp2
  go_ret
  exact ⟨rfl, rfl⟩
set_option maxHeartbeats 1000000 in
theorem less_any (w : World) (x y : Int) : Calls Tryz.prog 171 #[.int .i64 x, .int .i64 y] w fun e w' => e = .returned (.bool (decide (x < y))) ∧ w' = w := by
  go_enter Tryz.func171, Tryz.ntmps171
  go_wp2_with (go_at_call 163; refine (nan_any _ _).mono ?_; rintro e w' ⟨rfl, rfl⟩)
  go_ret
  exact ⟨rfl, rfl⟩
/-- Numbers that rise. -/
def UpN (zs : List Int) : Prop := ∀ i j, i < j → j < zs.length → atN zs i < atN zs j
theorem UpN.of_all {zs : List Int} (h : (List.range zs.length).all (upN zs) = true) : UpN zs := by
  intro i j hij hj
  induction j with
  | zero => omega
  | succ j ih =>
    have h2 := List.all_eq_true.1 h (j + 1) (List.mem_range.2 hj)
    simp [upN] at h2
    by_cases e : i = j
    · rw [e]; exact h2
    · have := ih (by omega) (by omega); omega
/-- Where y is, or would have to be put. -/
structure PosN (zs : List Int) (y : Int) (i : Nat) : Prop where
  le : i ≤ zs.length
  lo : ∀ t, t < i → atN zs t < y
  hi : ∀ t, i ≤ t → t < zs.length → y ≤ atN zs t
def foundN (zs : List Int) (y : Int) (i : Nat) : Bool := decide (i < zs.length) && decide (atN zs i = y)
set_option maxRecDepth 100000 in
set_option maxHeartbeats 4000000 in
theorem bsearchN_any (w : World) (a : Option Addr) (n cap : Nat) (zs : List Int) (y : Int) (hn : n ≤ 1000) (hu : UpN zs) (hs : SlN w w.heap.size a n zs) :
    Calls Tryz.prog 143 #[.slice a n cap, .int .i64 y] w fun e w' => ∃ i : Nat, e = .returned (.tuple #[.int .i64 i, .bool (foundN zs y i)]) ∧ PosN zs y i ∧ w' = w := by
  obtain ⟨hx, hs⟩ := hs
  have HU : Hid (UpN zs ∧ zs.length = n) := ⟨hu, hx⟩
  clear hu hx
  go_enter Tryz.func143, Tryz.ntmps143
  go_wp2
  go_loop [7, 8] (fun v7 v8 => ∃ i j : Nat, i ≤ j ∧ j ≤ n ∧ v7 = .int .i64 i ∧ v8 = .int .i64 j ∧ (∀ t, t < i → atN zs t < y) ∧ (∀ t, j ≤ t → t < n → y ≤ atN zs t)) (fun v7 v8 => (intOf v8).toNat - (intOf v7).toNat)
  case atStart => exact ⟨0, n, Nat.zero_le _, Nat.le_refl _, rfl, rfl, fun t h => by omega, fun t h1 h2 => by omega⟩
  case round =>
    obtain ⟨i, j, hij, hjn, rfl, rfl, hlo, hhi⟩ := hrel
    by_cases hlt : i < j
    · rcases hs with hs | ⟨b, off, rfl, hb, h1⟩
      · omega
      have hd : (i + j) / 2 < n := by omega
      have k0 := h1 ((i + j) / 2) _ (atN_of (by rw [HU.out.2]; exact hd))
      have K : Hid ((∀ t, t < i → atN zs t < y) ∧ (∀ t, j ≤ t → t < n → y ≤ atN zs t)) := ⟨hlo, hhi⟩
      clear h1 hlo hhi
      have HI : Hid (∀ t, t ≤ (i + j) / 2 → atN zs t ≤ atN zs ((i + j) / 2)) := fun t ht => by
        by_cases e : t = (i + j) / 2
        · rw [e]; exact Int.le_refl _
        · exact Int.le_of_lt (HU.out.1 t _ (by omega) (by rw [HU.out.2]; exact hd))
      have HJ : Hid (∀ t, (i + j) / 2 ≤ t → t < n → atN zs ((i + j) / 2) ≤ atN zs t) := fun t ht htn => by
        by_cases e : t = (i + j) / 2
        · rw [e]; exact Int.le_refl _
        · exact Int.le_of_lt (HU.out.1 _ t (by omega) (by rw [HU.out.2]; exact htn))
      have hc := less_any w (atN zs ((i + j) / 2)) y
      generalize atN zs ((i + j) / 2) = x at *
      by_cases hq : x < y
      · have dq : decide (x < y) = true := by simp [hq]
        rw [dq] at hc
        have HQ := hidOf hq
        clear hq dq
        go_wp2_with fail
        refine hc.mono ?_
        clear hc
        rintro e w1 ⟨rfl, rfl⟩
        go_wp2
        exact ⟨⟨(i + j) / 2 + 1, j, by omega, hjn, by simp, rfl, fun t ht => by have := HI.out t (by omega); have := HQ.out; omega, K.out.2⟩, by simp [intOf]; omega⟩
      · have dq : decide (x < y) = false := by simp; omega
        rw [dq] at hc
        have HQ := hidOf hq
        clear hq dq
        go_wp2_with fail
        refine hc.mono ?_
        clear hc
        rintro e w1 ⟨rfl, rfl⟩
        go_wp2
        exact ⟨⟨i, (i + j) / 2, by omega, by omega, rfl, by simp, K.out.1, fun t ht htn => by have := HJ.out t ht htn; have := HQ.out; omega⟩, by simp [intOf]; omega⟩
    · obtain rfl : i = j := by omega
      have hd : decide ((i : Int) < (i : Int)) = false := by simp
      have HP : Hid (PosN zs y i) := ⟨by rw [HU.out.2]; exact hjn, hlo, fun t h1 h2 => hhi t h1 (by rw [← HU.out.2]; exact h2)⟩
      clear hlo hhi
      by_cases hin : i < n
      · rcases hs with hs | ⟨b, off, rfl, hb, h1⟩
        · omega
        have k0 := h1 i _ (atN_of (by rw [HU.out.2]; exact hin))
        have jn : (i : Int) < (n : Int) := by omega
        have HF : Hid (foundN zs y i = decide (atN zs i = y)) := by unfold Hid; simp [foundN, HU.out.2, hin]
        clear h1
        generalize atN zs i = x at *
        by_cases he : x = y
        · have hf : Hid (foundN zs y i = true) := by unfold Hid; rw [HF.out]; simp [he]
          subst he
          have q : (x == x) = true := by simp
          go_wp2_with (go_at_call 172; refine (nanS_any _ _).mono ?_; rintro e w' ⟨rfl, rfl⟩)
          exact bodyPost_ret (v := .tuple #[.int .i64 i, .bool true]) (by simp [results, Tryz.results143, go_sem]) rfl ⟨i, by rw [hf.out], HP.out, rfl⟩
        · have hf : Hid (foundN zs y i = false) := by unfold Hid; rw [HF.out]; simp [he]
          have q : (x == y) = false := by simp [he]
          clear he
          go_wp2_with (go_at_call 172; refine (nanS_any _ _).mono ?_; rintro e w' ⟨rfl, rfl⟩)
          exact bodyPost_ret (v := .tuple #[.int .i64 i, .bool false]) (by simp [results, Tryz.results143, go_sem]) rfl ⟨i, by rw [hf.out], HP.out, rfl⟩
      · have hdn : decide ((i : Int) < (n : Int)) = false := by simp; omega
        have HF : Hid (foundN zs y i = false) := by unfold Hid; simp [foundN, HU.out.2, hin]
        clear hs
        go_wp2
        exact bodyPost_ret (v := .tuple #[.int .i64 i, .bool false]) (by simp [results, Tryz.results143, go_sem]) rfl ⟨i, by rw [HF.out], HP.out, rfl⟩
/-- Whether n is in the row. -/
def hasN (zs : List Int) (y : Int) : Bool := zs.any fun z => decide (z = y)
theorem hasN_off {zs : List Int} {y : Int} (h : ∀ t, t < zs.length → atN zs t ≠ y) : hasN zs y = false := by
  unfold hasN
  rw [List.any_eq_false]
  intro z hz
  obtain ⟨i, hi, rfl⟩ := List.getElem_of_mem hz
  have := h i hi
  simpa [atN, List.getElem?_eq_getElem hi] using this
theorem hasN_on {zs : List Int} {y : Int} {t : Nat} (ht : t < zs.length) (h : atN zs t = y) : hasN zs y = true := by
  unfold hasN
  rw [List.any_eq_true]
  exact ⟨zs[t], List.getElem_mem ht, by simpa [atN, List.getElem?_eq_getElem ht] using h⟩
theorem hasN_found {zs : List Int} {y : Int} {i : Nat} (hu : UpN zs) (hp : PosN zs y i) : foundN zs y i = hasN zs y := by
  by_cases hf : i < zs.length ∧ atN zs i = y
  · rw [hasN_on hf.1 hf.2]; simp [foundN, hf.1, hf.2]
  · rw [hasN_off (fun t ht e => ?_)]
    · simp only [foundN, Bool.and_eq_false_iff, decide_eq_false_iff_not]
      by_cases h1 : i < zs.length
      · exact .inr (fun h2 => hf ⟨h1, h2⟩)
      · exact .inl h1
    · by_cases h1 : t < i
      · have := hp.lo t h1; omega
      · by_cases h2 : t = i
        · subst h2; exact hf ⟨ht, e⟩
        · have h3 := hp.hi i (Nat.le_refl _) (by omega)
          have h4 := hu i t (by omega) ht
          omega
set_option maxHeartbeats 1000000 in
theorem l3Has_any (w : World) (a : Option Addr) (n cap : Nat) (zs : List Int) (y : Int) (hn : n ≤ maxLen) (hs : SlN w w.heap.size a n zs) :
    Calls Tryz.prog 79 #[.slice a n cap, .int .i64 y] w fun e w' => e = .returned (.bool (hasN zs y)) ∧ w' = w := by
  unfold maxLen at hn
  obtain ⟨hx, hs⟩ := hs
  have HX : Hid (zs.length = n) := hx
  clear hx
  go_enter Tryz.func79, Tryz.ntmps79
  go_wp2
  go_loop [5] (fun v => ∃ j : Nat, j ≤ n ∧ v = .int .i64 j ∧ ∀ t, t < j → atN zs t ≠ y) (fun v => n - (intOf v).toNat)
  case atStart => exact ⟨0, Nat.zero_le _, rfl, fun t h => absurd h (by omega)⟩
  case round =>
    obtain ⟨j, hj, rfl, hlo⟩ := hrel
    have HL := hidOf hlo
    clear hlo
    by_cases hlt : j < n
    · rcases hs with hs | ⟨b, off, rfl, hb, h1⟩
      · omega
      have k0 := h1 j _ (atN_of (by rw [HX.out]; exact hlt))
      have jn : (j : Int) < (n : Int) := by omega
      clear h1
      by_cases he : atN zs j = y
      · have q : (atN zs j == y) = true := by simp [he]
        have HE := hidOf he
        clear he
        go_wp2
        go_ret
        exact ⟨by rw [hasN_on (by rw [HX.out]; exact hlt) HE.out]; rfl, rfl⟩
      · have q : (atN zs j == y) = false := by simp [he]
        have HE := hidOf he
        clear he
        go_wp2
        exact ⟨⟨j + 1, by omega, by simp, fun t ht => by
          by_cases e : t = j
          · rw [e]; exact HE.out
          · exact HL.out t (by omega)⟩, by simp [intOf]; omega⟩
    · obtain rfl : j = n := by omega
      have hd : decide ((j : Int) < (j : Int)) = false := by simp
      go_wp2
      go_ret
      exact ⟨by rw [hasN_off (fun t ht => HL.out t (by rw [← HX.out]; exact ht))]; rfl, rfl⟩
end Go.Proofs.YtooalbdlknheeaaGreat
