/- InsA; StrI; StrG: joined. -/
import Derived.Test.YtbkcmbbeknljiaaGreatRows
import Derived.Test.YtbkcmbbeknljiaaGreatInsNJ
import Derived.WalkKit
import Derived.WalkSpells
import Derived.WalkLawsBesides
import Derived.Below
import Derived.Lib.QuietBelow
import Derived.BigQuiet
import Derived.Deep.CutRange
import Derived.Test.YtbkcmbbeknljiaaGreatDelRJ
import Derived.Test.YtbkcmbbeknljiaaGreatJ12ExactReplace
/- A number put into an own row of numbers. -/
namespace Go.Proofs.YtbkcmbbeknljiaaGreat
open Go.RowKit
open Go.Sort (grow)
/-- y put in at place i. -/
def insZ (zs : List Int) (i : Nat) (y : Int) : List Int := zs.take i ++ y :: zs.drop i
theorem insZ_len {zs : List Int} {i : Nat} {y : Int} (hi : i ≤ zs.length) : (insZ zs i y).length = zs.length + 1 := by simp [insZ]; omega
theorem insZ_at {zs : List Int} {i j : Nat} {y : Int} {u : Value} (hi : i ≤ zs.length) (h : ((insZ zs i y).map (Value.int .i64))[j]? = some u) : (j < i ∧ ∃ z, zs[j]? = some z ∧ u = .int .i64 z) ∨ (j = i ∧ u = .int .i64 y) ∨ (i < j ∧ ∃ z, zs[j - 1]? = some z ∧ u = .int .i64 z) := by
  rw [List.getElem?_map] at h
  obtain ⟨z, hz, rfl⟩ := Option.map_eq_some_iff.1 h
  have htl : (zs.take i).length = i := by simp; omega
  by_cases h1 : j < i
  · rw [insZ, List.getElem?_append_left (by omega), List.getElem?_take, if_pos h1] at hz
    exact .inl ⟨h1, z, hz, rfl⟩
  · rw [insZ, List.getElem?_append_right (by omega), htl] at hz
    by_cases h2 : j = i
    · subst h2
      simp at hz
      exact .inr (.inl ⟨rfl, by rw [hz]⟩)
    · obtain ⟨d, hd⟩ : ∃ d, j - i = d + 1 := ⟨j - i - 1, by omega⟩
      rw [hd, List.getElem?_cons_succ, List.getElem?_drop] at hz
      exact .inr (.inr ⟨by omega, z, by rw [show j - 1 = i + d by omega]; exact hz, rfl⟩)
theorem owns_of_blk {X : World} {base g n cap : Nat} {T : TypeId} {xs : List Value} (hB : Blk X g T cap) (hx : ∀ j u, xs[j]? = some u → X.cell? ⟨g, j, none⟩ = some u) (hl : xs.length = n) (hn : n ≤ cap) (hc : cap ≤ maxLen) (hb : base ≤ g) : X.ownsRow base T 1 (.slice (some ⟨g, 0, none⟩) n cap) n xs := by
  obtain ⟨cur, h1, h2⟩ := hB
  refine ⟨by omega, .inr ⟨g, cap, cur, rfl, hb, h1, hn, hc, by omega, ?_⟩⟩
  apply List.ext_getElem?
  intro j
  by_cases hj : j < n
  · have hu := List.getElem?_eq_getElem (l := xs) (i := j) (by omega)
    have hc := hx j _ hu
    simp only [World.cell?, h1] at hc
    rw [hu, List.getElem?_take, if_pos (by omega)]
    simpa using hc
  · rw [List.getElem?_eq_none (by simp; omega), List.getElem?_eq_none (by omega)]
theorem blk_of_owns {X : World} {base g n cap : Nat} {T : TypeId} {xs : List Value} (h : X.ownsRow base T 1 (.slice (some ⟨g, 0, none⟩) n cap) n xs) : Blk X g T cap ∧ (∀ j u, xs[j]? = some u → X.cell? ⟨g, j, none⟩ = some u) ∧ n ≤ cap ∧ cap ≤ maxLen ∧ base ≤ g ∧ g < X.heap.size := by
  obtain ⟨hl, h⟩ := h
  rcases h with ⟨h, _⟩ | ⟨g', cap', cur, he, h1, h2, h3, h4, h5, h6⟩
  · cases h
  · injection he with he1 _ he3
    injection he1 with he1
    injection he1 with he1
    subst he1 he3
    refine ⟨⟨cur, h2, by omega⟩, fun j u hu => ?_, h3, h4, h1, ?_⟩
    · rw [← h6, List.getElem?_take] at hu
      split at hu
      · simp only [World.cell?, h2]
        simpa using hu
      · cases hu
    · exact (Array.getElem?_eq_some_iff.1 h2).1
end Go.Proofs.YtbkcmbbeknljiaaGreat
/- Records struck out, by the program. -/
namespace Go.Proofs.YtbkcmbbeknljiaaGreat
open Go.RowKit
open Go.Sort (grow)
set_option maxHeartbeats 1000000 in
theorem delete_nil (w : World) (a : Option Addr) (cap g1 g2 : Nat) :
    Calls Tryz.prog 138 #[.slice a 0 cap, .func (.func 137) #[] #[.pointer (some ⟨g1, 0, none⟩), .pointer (some ⟨g2, 0, none⟩)]] w fun e w' => e = .returned (.slice a 0 cap) ∧ Below w.heap.size w w' := by
  have hc := idxStr w a 0 cap [] g1 g2 (fun _ => false) (by unfold maxLen; omega) ⟨rfl, .inl rfl⟩ (fun X i a' c' hX hi hsl => absurd hi (by omega))
  go_enter Tryz.func138, Tryz.ntmps138
  go_wp2_with fail
  refine hc.mono ?_
  clear hc
  rintro e w1 ⟨⟨i0, rfl, hi0⟩, b1⟩
  have B1 := hidOf b1
  clear b1
  rcases hi0 with ⟨rfl, _⟩ | ⟨k, rfl, hk, _⟩
  · go_wp2
    go_ret
    exact ⟨rfl, B1.out⟩
  · omega
set_option maxRecDepth 100000 in
set_option maxHeartbeats 2000000 in
theorem strike_nil (w : World) (s : Nat) (a : Option Addr) (cap : Nat) (t g : Int) (hs : w.cell? ⟨s, 0, none⟩ = some (.slice a 0 cap)) (hf : w.frozen? ⟨s, 0, none⟩ = false) (hsl : s < w.heap.size) :
    Calls Tryz.prog 68 #[.pointer (some ⟨s, 0, none⟩), .int .i64 t, .int .i64 g] w fun e w' => e = .returned (.tuple #[]) ∧ ∃ W, Below w.heap.size w W ∧ w' = W.setCell ⟨s, 0, none⟩ (.slice a 0 cap) := by
  obtain ⟨U, hU⟩ : ∃ X, X = (w.alloc (.cells #[.int .i64 t] 2)).alloc (.cells #[.int .i64 g] 2) := ⟨_, rfl⟩
  have b0 : Below w.heap.size w U := by rw [hU]; exact ((Below.refl _ _).alloc (Nat.le_refl _) _).alloc (by simp) _
  have c0 := (b0.cell (p := ⟨s, 0, none⟩) hsl).trans hs
  have hc := delete_nil U a cap w.heap.size (w.heap.size + 1)
  have H : Hid (Below w.heap.size w U ∧ w.cell? ⟨s, 0, none⟩ = some (.slice a 0 cap) ∧ w.frozen? ⟨s, 0, none⟩ = false) := ⟨b0, hs, hf⟩
  clear b0 hs hf
  rw [hU] at c0
  go_enter Tryz.func68, Tryz.ntmps68
  go_wp2_with fail
  rw [← hU]
  clear hU c0
  refine hc.mono ?_
  clear hc
  rintro e w1 ⟨rfl, b1⟩
  have B1 : Hid (Below w.heap.size w w1) := bstep H.out.1 b1
  clear b1
  have c1 := (B1.out.cell (p := ⟨s, 0, none⟩) hsl).trans H.out.2.1
  have f1 := (B1.out.frozen (p := ⟨s, 0, none⟩) hsl).trans H.out.2.2
  go_wp2
  exact bodyPost_end (v := .tuple #[]) (by simp [results, Tryz.results68, go_sem]) rfl ⟨rfl, w1, B1.out, rfl⟩
set_option maxRecDepth 100000 in
set_option maxHeartbeats 2000000 in
theorem strike_any (w : World) (s b n cap m : Nat) (rs : List R4) (ads : Nat → Option Addr) (ps : Nat → Nat) (t g : Int) (hs : w.cell? ⟨s, 0, none⟩ = some (.slice (some ⟨b, 0, none⟩) n cap)) (hf : w.frozen? ⟨s, 0, none⟩ = false) (hsl : s < w.heap.size) (hsb : s ≠ b) (hn : n ≤ 1000) (hlen : rs.length = n) (hcap : n ≤ cap) (hb : b < w.heap.size) (hB : Blk w b 41 m) (hm : n * 4 ≤ m)
    (hrow : ∀ i, i < n → At w b (i * 4) (rc (atR rs i) (ads i) (ps i))) (hsr : SlR w w.heap.size (some ⟨b, 0, none⟩) n rs) :
    Calls Tryz.prog 68 #[.pointer (some ⟨s, 0, none⟩), .int .i64 t, .int .i64 g] w fun e w' => e = .returned (.tuple #[]) ∧ ∃ W, Turned b w W ∧ Blk W b 41 m ∧ (∀ x i, (keepI (fun i => ofB t g (atR rs i)) n)[x]? = some i → At W b (x * 4) (rc (atR rs i) (ads i) (ps i))) ∧ w' = W.setCell ⟨s, 0, none⟩ (.slice (some ⟨b, 0, none⟩) (keepI (fun i => ofB t g (atR rs i)) n).length cap) := by
  obtain ⟨U, hU⟩ : ∃ X, X = (w.alloc (.cells #[.int .i64 t] 2)).alloc (.cells #[.int .i64 g] 2) := ⟨_, rfl⟩
  have b0 : Below w.heap.size w U := by rw [hU]; exact ((Below.refl _ _).alloc (Nat.le_refl _) _).alloc (by simp) _
  have z0 : U.heap.size = w.heap.size + 2 := by rw [hU]; simp
  have p1 : U.cell? ⟨w.heap.size, 0, none⟩ = some (.int .i64 t) := by rw [hU]; go_simp
  have p2 : U.cell? ⟨w.heap.size + 1, 0, none⟩ = some (.int .i64 g) := by rw [hU]; go_simp
  have c0 := (b0.cell (p := ⟨s, 0, none⟩) hsl).trans hs
  have ob := b0.block b hb
  have hc := delete_any U b n cap m rs ads ps t g w.heap.size (w.heap.size + 1) hn hlen hcap (by omega) (hB.keep ob) hm (fun i hi => (hrow i hi).of_block ob) (hsr.later b0) p1 p2 (by omega) (by omega) (by omega) (by omega)
  have H : Hid (Below w.heap.size w U ∧ w.cell? ⟨s, 0, none⟩ = some (.slice (some ⟨b, 0, none⟩) n cap) ∧ w.frozen? ⟨s, 0, none⟩ = false ∧ U.heap.size = w.heap.size + 2) := ⟨b0, hs, hf, z0⟩
  clear b0 hs hf z0 p1 p2 ob hB hrow hsr hlen hm
  rw [hU] at c0
  obtain ⟨K, hK⟩ : ∃ K, K = keepI (fun i => ofB t g (atR rs i)) n := ⟨_, rfl⟩
  rw [← hK] at hc ⊢
  clear hK
  go_enter Tryz.func68, Tryz.ntmps68
  go_wp2_with fail
  rw [← hU]
  clear hU c0
  refine hc.mono ?_
  clear hc
  rintro e w1 ⟨rfl, ht, hb1, hat⟩
  have HT : Hid (Turned b w w1 ∧ Blk w1 b 41 m ∧ (∀ x i, K[x]? = some i → At w1 b (x * 4) (rc (atR rs i) (ads i) (ps i)))) := ⟨((Turned.refl b w).of_below H.out.1).trans ht, hb1, hat⟩
  clear ht hb1 hat
  have c1 := (HT.out.1.cell (p := ⟨s, 0, none⟩) hsl hsb).trans H.out.2.1
  have f1 := (HT.out.1.frozen (p := ⟨s, 0, none⟩) hsl hsb).trans H.out.2.2.1
  go_wp2
  exact bodyPost_end (v := .tuple #[]) (by simp [results, Tryz.results68, go_sem]) rfl ⟨rfl, w1, HT.out.1, HT.out.2.1, HT.out.2.2, rfl⟩
end Go.Proofs.YtbkcmbbeknljiaaGreat
/- The row of records when some are struck out. -/
namespace Go.Proofs.YtbkcmbbeknljiaaGreat
open Go.RowKit
open Go.Sort (grow)
theorem owns_of_cells {X : World} {base g n cap sz : Nat} {T : TypeId} {xs : List Value} (hB : Blk X g T (cap * sz)) (hx : ∀ j u, xs[j]? = some u → X.cell? ⟨g, j, none⟩ = some u) (hl : xs.length = n * sz) (hn : n ≤ cap) (hc : cap ≤ maxLen) (hb : base ≤ g) : X.ownsRow base T sz (.slice (some ⟨g, 0, none⟩) n cap) n xs := by
  obtain ⟨cur, h1, h2⟩ := hB
  have hm := Nat.mul_le_mul_right sz hn
  refine ⟨hl, .inr ⟨g, cap, cur, rfl, hb, h1, hn, hc, h2, ?_⟩⟩
  apply List.ext_getElem?
  intro j
  by_cases hj : j < n * sz
  · have hu := List.getElem?_eq_getElem (l := xs) (i := j) (by omega)
    have hc := hx j _ hu
    simp only [World.cell?, h1] at hc
    rw [hu, List.getElem?_take, if_pos hj]
    simpa using hc
  · rw [List.getElem?_eq_none (by simp; omega), List.getElem?_eq_none (by omega)]
theorem cells_of_owns {X : World} {base g n cap sz : Nat} {T : TypeId} {xs : List Value} (h : X.ownsRow base T sz (.slice (some ⟨g, 0, none⟩) n cap) n xs) : Blk X g T (cap * sz) ∧ (∀ j u, xs[j]? = some u → X.cell? ⟨g, j, none⟩ = some u) ∧ n ≤ cap ∧ cap ≤ maxLen ∧ base ≤ g ∧ g < X.heap.size := by
  obtain ⟨hl, h⟩ := h
  rcases h with ⟨h, _⟩ | ⟨g', cap', cur, he, h1, h2, h3, h4, h5, h6⟩
  · cases h
  · injection he with he1 _ he3
    injection he1 with he1
    injection he1 with he1
    subst he1 he3
    refine ⟨⟨cur, h2, h5⟩, fun j u hu => ?_, h3, h4, h1, (Array.getElem?_eq_some_iff.1 h2).1⟩
    rw [← h6, List.getElem?_take] at hu
    split at hu
    · simp only [World.cell?, h2]
      simpa using hu
    · cases hu
theorem sum_fours {β : Type} : ∀ l : List β, (l.map fun _ => 4).sum = l.length * 4
  | [] => rfl
  | _ :: l => by simp only [List.map_cons, List.sum_cons, List.length_cons, sum_fours l]; omega
theorem flatG_len (rs : List R4) (g caps : Nat → Nat) : (flatG hdR lnR rs g caps).length = rs.length * 4 := by
  have h := sum_fours rs.zipIdx
  simp only [List.length_zipIdx] at h
  rw [← h]
  simp [flatG, List.length_flatMap, cellsG, hdR]
theorem cellsG_rc (r : R4) (q cap : Nat) : cellsG hdR lnR r q cap = rc r (some ⟨q, 0, none⟩) cap := rfl
/-- The row of records, as DeleteFunc wants it. -/
theorem GrowG.rows {w : World} {base b n cap : Nat} {rs : List R4} {g : Nat → Nat} (h : GrowG 41 4 hdR lnR AtR w base (.slice (some ⟨b, 0, none⟩) n cap) rs g) (hl : rs.length = n) : ∃ caps : Nat → Nat, Blk w b 41 (cap * 4) ∧ (∀ i, i < n → At w b (i * 4) (rc (atR rs i) (some ⟨g i, 0, none⟩) (caps i))) ∧ (∀ i, i < n → lnR (atR rs i) ≤ caps i) ∧ n ≤ cap ∧ cap ≤ maxLen ∧ base ≤ b ∧ b < w.heap.size := by
  obtain ⟨caps, ho, hc⟩ := h.row
  rw [hl] at ho
  obtain ⟨h1, h2, h3, h4, h5, h6⟩ := cells_of_owns ho
  refine ⟨caps, h1, fun i hi => ?_, fun i hi => hc i _ (atR_of (by omega)), h3, h4, h5, h6⟩
  intro t u hu
  have ht : t < 4 := by have := (List.getElem?_eq_some_iff.1 hu).1; simpa [rc] using this
  exact h2 _ u (by rw [flatG_at (sz := 4) (fun r => rfl) (atR_of (by omega)) ht, cellsG_rc]; exact hu)
/-- What is left of the row when records are struck out. -/
theorem GrowG.struck {w W : World} {base b n cap : Nat} {rs : List R4} {g : Nat → Nat} {caps : Nat → Nat} {K : List Nat} (h : GrowG 41 4 hdR lnR AtR w base (.slice (some ⟨b, 0, none⟩) n cap) rs g) (hl : rs.length = n) (hcp : ∀ i, i < n → lnR (atR rs i) ≤ caps i) (hcap : cap ≤ maxLen) (hbb : base ≤ b) (hKn : ∀ (x i : Nat), K[x]? = some i → i < n) (hKd : K.Nodup) (hKl : K.length ≤ cap) (ht : Turned b w W) (hB : Blk W b 41 (cap * 4)) (hat : ∀ (x i : Nat), K[x]? = some i → At W b (x * 4) (rc (atR rs i) (some ⟨g i, 0, none⟩) (caps i))) :
    GrowG 41 4 hdR lnR AtR W base (.slice (some ⟨b, 0, none⟩) K.length cap) (K.map (atR rs)) (fun x => g (K[x]?.getD 0)) := by
  have hkx : ∀ x r, (K.map (atR rs))[x]? = some r → ∃ i, K[x]? = some i ∧ r = atR rs i := fun x r e => by
    rw [List.getElem?_map] at e
    obtain ⟨i, hi, rfl⟩ := Option.map_eq_some_iff.1 e
    exact ⟨i, hi, rfl⟩
  have hkl : ∀ x, x < (K.map (atR rs)).length → ∃ i, K[x]? = some i ∧ i < n := fun x hx => by
    have h1 := List.getElem?_eq_getElem (l := K) (i := x) (by simpa using hx)
    exact ⟨_, h1, hKn x _ h1⟩
  have hne : ∀ i, i < n → g i ≠ b := fun i hi e => h.ne i (by omega) (by rw [e]; rfl)
  refine ⟨⟨fun x => caps (K[x]?.getD 0), ?_, fun x r e => ?_⟩, fun x hx => ?_, fun x hx => ?_, fun x hx => ?_, fun x r e => ?_, fun x y hx hy e => ?_⟩
  · rw [List.length_map]
    refine owns_of_cells hB (fun j u hu => ?_) (by rw [flatG_len, List.length_map]) hKl hcap hbb
    have hj : j / 4 * 4 + j % 4 = j := by omega
    have hjl : j / 4 < K.length := by
      have := (List.getElem?_eq_some_iff.1 hu).1
      rw [flatG_len, List.length_map] at this
      omega
    have hK := List.getElem?_eq_getElem hjl
    have hm : (K.map (atR rs))[j / 4]? = some (atR rs K[j / 4]) := by rw [List.getElem?_map, hK]; rfl
    rw [← hj, flatG_at (sz := 4) (fun r => rfl) hm (Nat.mod_lt _ (by decide)), cellsG_rc, hK] at hu
    have := hat _ _ hK (j % 4) u hu
    rwa [hj] at this
  · obtain ⟨i, hi, rfl⟩ := hkx x r e
    simp only [hi, Option.getD_some]
    exact hcp i (hKn x i hi)
  · obtain ⟨i, hi, hin⟩ := hkl x hx
    simp only [hi, Option.getD_some]
    exact h.low i (by omega)
  · obtain ⟨i, hi, hin⟩ := hkl x hx
    simp only [hi, Option.getD_some]
    exact Nat.lt_of_lt_of_le (h.lt i (by omega)) ht.size
  · obtain ⟨i, hi, hin⟩ := hkl x hx
    simp only [hi, Option.getD_some]
    exact fun e => hne i hin (by injection e with e; exact e.symm)
  · obtain ⟨i, hi, rfl⟩ := hkx x r e
    simp only [hi, Option.getD_some]
    have hin := hKn x i hi
    exact AtR.of_block _ _ _ _ (ht.block _ (h.lt i (by omega)) (hne i hin)) (h.sub i _ (atR_of (by omega)))
  · obtain ⟨i, hi, hin⟩ := hkl x hx
    obtain ⟨j, hj, hjn⟩ := hkl y hy
    simp only [hi, hj, Option.getD_some] at e
    have hij := h.inj i j (by omega) (by omega) e
    subst hij
    have h1 := List.getElem?_eq_some_iff.1 hi
    have h2 := List.getElem?_eq_some_iff.1 hj
    obtain ⟨a1, b1⟩ := h1
    obtain ⟨a2, b2⟩ := h2
    have hp := List.pairwise_iff_getElem.1 hKd
    rcases Nat.lt_trichotomy x y with hxy | hxy | hxy
    · exact absurd (b1.trans b2.symm) (hp x y a1 a2 hxy)
    · exact hxy
    · exact absurd (b2.trans b1.symm) (hp y x a2 a1 hxy)
theorem keepI_nodup (f : Nat → Bool) (n : Nat) : (keepI f n).Nodup := List.Pairwise.sublist List.filter_sublist List.nodup_range
theorem keepI_list (rs : List R4) (d : R4 → Bool) : (keepI (fun i => d (atR rs i)) rs.length).map (atR rs) = rs.filter (fun r => !d r) := by
  have : rs = (List.range rs.length).map (atR rs) := by
    apply List.ext_getElem?
    intro i
    by_cases h : i < rs.length
    · rw [atR_of h, List.getElem?_map, List.getElem?_range h]; rfl
    · rw [List.getElem?_eq_none (by omega), List.getElem?_eq_none (by simp; omega)]
  conv => rhs; rw [this]
  rw [List.filter_map]
  rfl
end Go.Proofs.YtbkcmbbeknljiaaGreat
