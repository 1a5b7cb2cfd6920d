/- Take; LogI; LogS; VoD; VoV; YTxR: joined. -/
import Derived.Test.YteiofebmgilclaaGreatRows
import Derived.Test.YteiofebmgilclaaGreatJ6ExactVote
import Derived.Test.YteiofebmgilclaaGreatJ5ExactVote
import Derived.WalkKit
import Derived.WalkSpells
import Derived.WalkLawsBesides
import Derived.Below
import Derived.Lib.QuietBelow
import Derived.BigQuiet
import Derived.Deep.CutRange
import Derived.LaidEql
import Derived.RowKitTokens
import Derived.Deep.Upon
import Derived.Deep.RegionWith
namespace Go.Proofs.YteiofebmgilclaaGreat
open Go.RowKit
structure B2 (s : Nat) (alive : Bool) (v1 v2 v3 : Value) (X : World) : Prop where
  a0 : X.cell? ⟨s, 0, none⟩ = some (.bool alive)
  a1 : X.cell? ⟨s, 1, none⟩ = some v1
  a2 : X.cell? ⟨s, 2, none⟩ = some v2
  a3 : X.cell? ⟨s, 3, none⟩ = some v3
  z : X.heap[s + 1]? = some (.cells #[.slice none 0 0, .bool false, .slice none 0 0, .slice none 0 0] 200 (0, 0))
  lt : s + 1 < X.heap.size
theorem B2.later {s : Nat} {alive : Bool} {v1 v2 v3 : Value} {X Y : World} (h : B2 s alive v1 v2 v3 X) (hb : Below X.heap.size X Y) : B2 s alive v1 v2 v3 Y := by
  have l := h.lt
  have l' : s < X.heap.size := by omega
  exact ⟨(hb.cell (p := ⟨s, 0, none⟩) l').trans h.a0, (hb.cell (p := ⟨s, 1, none⟩) l').trans h.a1, (hb.cell (p := ⟨s, 2, none⟩) l').trans h.a2, (hb.cell (p := ⟨s, 3, none⟩) l').trans h.a3, (hb.block _ l).trans h.z, Nat.lt_of_lt_of_le l hb.size⟩
def noM : Value := .agg #[.slice none 0 0, .bool false, .slice none 0 0, .slice none 0 0]
def MV.own (u : MV) (m : M4) : Value := .agg #[.slice u.al m.log.length u.cl, .bool m.alive, .slice u.ac m.copies.length u.cc, .slice u.ad m.cleared.length u.cd]
set_option maxHeartbeats 2000000 in
theorem take_any (w : World) (v : MV) (m : M4) (hl : ML m) (hs : SlM w v m) :
    Calls Tryz.prog 159 #[v.val m] w fun e w' => (machB m = false → e = .returned (.tuple #[noM, .bool false])) ∧ (machB m = true → ∃ (u : MV) (p : Nat) (gk gr : Nat → Nat), e = .returned (.tuple #[u.own m, .bool true]) ∧ MR (w.heap.size + 2) p w' (.slice u.ac m.copies.length u.cc) (.slice u.al m.log.length u.cl) (.slice u.ad m.cleared.length u.cd) m.copies m.log m.cleared gk gr) ∧ Below w.heap.size w w' := by
  obtain ⟨ac, cc, al, cl, ad, cd⟩ := v
  simp only [MV.val, noM, MV.own]
  obtain ⟨W, hW⟩ : ∃ W, W = (w.alloc (.cells #[.bool m.alive, .slice ac m.copies.length cc, .slice al m.log.length cl, .slice ad m.cleared.length cd] 85)).alloc (.cells #[.slice none 0 0, .bool false, .slice none 0 0, .slice none 0 0] 200) := ⟨_, rfl⟩
  have b0 : Below w.heap.size w W := by subst hW; exact ((Below.refl _ _).alloc (Nat.le_refl _) _).alloc (by simp) _
  have s0 : W.heap.size = w.heap.size + 2 := by subst hW; simp
  have x0 : B2 w.heap.size m.alive (.slice ac m.copies.length cc) (.slice al m.log.length cl) (.slice ad m.cleared.length cd) W := by
    subst hW
    refine ⟨by go_simp, by go_simp, by go_simp, by go_simp, ?_, by simp⟩
    have := heap_alloc_new (w.alloc (.cells #[.bool m.alive, .slice ac m.copies.length cc, .slice al m.log.length cl, .slice ad m.cleared.length cd] 85)) (.cells #[.slice none 0 0, .bool false, .slice none 0 0, .slice none 0 0] 200)
    rw [show (w.alloc (.cells #[.bool m.alive, .slice ac m.copies.length cc, .slice al m.log.length cl, .slice ad m.cleared.length cd] 85)).heap.size = w.heap.size + 1 by simp] at this
    exact this
  have hm := implMachineOk_any W ⟨ac, cc, al, cl, ad, cd⟩ m hl (hs.later b0)
  simp only [MV.val] at hm
  have H : Hid (Below w.heap.size w W ∧ W.heap.size = w.heap.size + 2 ∧ B2 w.heap.size m.alive (.slice ac m.copies.length cc) (.slice al m.log.length cl) (.slice ad m.cleared.length cd) W ∧ SlM w ⟨ac, cc, al, cl, ad, cd⟩ m) := ⟨b0, s0, x0, hs⟩
  clear b0 s0 x0 hs hl
  subst hW
  cases hB : machB m with
  | false =>
    rw [hB] at hm
    go_enter Tryz.func159, Tryz.ntmps159
    go_wp2_with fail
    refine hm.mono ?_
    clear hm
    rintro e w1 ⟨rfl, b1⟩
    have x1 := H.out.2.2.1.later b1
    obtain ⟨z0, z1, z2, z3, zf⟩ := zeroBox x1.z
    have f0 := zf 0
    have f1 := zf 1
    have f2 := zf 2
    have f3 := zf 3
    have K : Hid (Below w.heap.size w w1) := H.out.1.trans (b1.mono H.out.1.size)
    clear b1 x1 zf
    go_wp2
    refine bodyPost_ret (v := .tuple #[.agg #[.slice none 0 0, .bool false, .slice none 0 0, .slice none 0 0], .bool false]) (by simp [results, Tryz.results159, go_sem, z0, z1, z2, z3]) rfl ⟨fun _ => rfl, fun h => (by cases h), ?_⟩
    exact (((K.out.setCell (p := ⟨_, _, none⟩) (by simp) _).setCell (p := ⟨_, _, none⟩) (by simp) _).setCell (p := ⟨_, _, none⟩) (by simp) _).setCell (p := ⟨_, _, none⟩) (by simp) _
  | true =>
    rw [hB] at hm
    have hMS := hidOf (MSm.of_mach hB)
    go_enter Tryz.func159, Tryz.ntmps159
    go_wp2_with fail
    refine hm.mono ?_
    clear hm
    rintro e w1 ⟨rfl, b1⟩
    have x1 := H.out.2.2.1.later b1
    have a0 := x1.a0
    have a1 := x1.a1
    have a2 := x1.a2
    have a3 := x1.a3
    have K : Hid (Below w.heap.size w w1 ∧ w.heap.size + 2 ≤ w1.heap.size ∧ B2 w.heap.size m.alive (.slice ac m.copies.length cc) (.slice al m.log.length cl) (.slice ad m.cleared.length cd) w1) := ⟨H.out.1.trans (b1.mono H.out.1.size), by have := b1.size; have := H.out.2.1; omega, x1⟩
    have ho := ownMachine_any w1 ⟨ac, cc, al, cl, ad, cd⟩ m hMS.out (H.out.2.2.2.later K.out.1)
    simp only [MV.val] at ho
    clear b1 x1
    go_wp2_with fail
    refine ho.mono ?_
    clear ho
    rintro e w2 ⟨⟨uc, uk, ul, uj, ud, ui⟩, p, gk, gr, rfl, mr, b2⟩
    have x2 := K.out.2.2.later b2
    obtain ⟨z0, z1, z2, z3, zf⟩ := zeroBox x2.z
    have f0 := zf 0
    have f1 := zf 1
    have f2 := zf 2
    have f3 := zf 3
    have K2 : Hid (Below w.heap.size w w2 ∧ MR (w.heap.size + 2) p w2 (.slice uc m.copies.length uk) (.slice ul m.log.length uj) (.slice ud m.cleared.length ui) m.copies m.log m.cleared gk gr) := ⟨K.out.1.trans (b2.mono K.out.1.size), mr.mono (by have := K.out.2.1; omega)⟩
    clear b2 x2 zf mr
    go_wp2
    refine bodyPost_ret (v := .tuple #[.agg #[.slice ul m.log.length uj, .bool m.alive, .slice uc m.copies.length uk, .slice ud m.cleared.length ui], .bool true]) (by simp [results, Tryz.results159, go_sem, z0, z1, z2, z3]) rfl ⟨fun h => (by cases h), fun _ => ⟨⟨uc, uk, ul, uj, ud, ui⟩, p, gk, gr, rfl, ?_⟩, ?_⟩
    · refine K2.out.2.keep (by simp [World.setCell]) (fun x _ hx _ => ?_)
      exact (Below.heap_setCell _ _ _ _ (by show x ≠ w.heap.size + 1; omega)).trans ((Below.heap_setCell _ _ _ _ (by show x ≠ w.heap.size + 1; omega)).trans ((Below.heap_setCell _ _ _ _ (by show x ≠ w.heap.size + 1; omega)).trans (Below.heap_setCell _ _ _ _ (by show x ≠ w.heap.size + 1; omega))))
    · exact (((K2.out.1.setCell (p := ⟨_, _, none⟩) (by simp) _).setCell (p := ⟨_, _, none⟩) (by simp) _).setCell (p := ⟨_, _, none⟩) (by simp) _).setCell (p := ⟨_, _, none⟩) (by simp) _
def ofB (t g : Int) (r : R4) : Bool := (r.tx == t) && (r.region == g)
def lgB (t g k : Int) (r : R4) : Bool := ofB t g r && (r.kind == k)
def ansR (m : M4) (t g k : Int) : Option R4 := if machB m = true then m.log.find? (lgB t g k) else none
def ansV (m : M4) (t g k : Int) : R4 := (ansR m t g k).getD ⟨0, 0, 0, []⟩
def ansH (m : M4) (t g k : Int) : Bool := (ansR m t g k).isSome
def OwnSt (w : World) (base : Nat) (a : Option Addr) (xs : List S5) : Prop := xs = [] ∨ ∃ q, a = some ⟨q, 0, none⟩ ∧ base ≤ q ∧ q < w.heap.size ∧ SetsAt w q 0 xs ∧ Room w q (xs.length * 5)
theorem OwnSt.sl {w : World} {base : Nat} {a : Option Addr} {xs : List S5} (h : OwnSt w base a xs) : Sl w w.heap.size a xs.length xs := by
  rcases h with rfl | ⟨q, rfl, h1, h2, h3, _⟩
  · exact ⟨rfl, .inl rfl⟩
  · exact ⟨rfl, .inr ⟨q, 0, rfl, h2, h3⟩⟩
def LogAns (w : World) (m : M4) (t g k : Int) (e : Ending) (w' : World) : Prop :=
  ∃ (a : Option Addr) (cp : Nat), e = .returned (.tuple #[(ansV m t g k).val a cp, .bool (ansH m t g k)]) ∧ OwnSt w' w.heap.size a (ansV m t g k).sets ∧ Below w.heap.size w w'
theorem findR_at {rs : List R4} {f : R4 → Bool} {k : Nat} (hk : k < rs.length) (h : f (atR rs k) = true) (hlo : ∀ j, j < k → f (atR rs j) = false) : rs.find? f = some (atR rs k) := by
  induction rs generalizing k with
  | nil => simp at hk
  | cons c rs ih =>
    cases k with
    | zero =>
      have h0 : f c = true := h
      rw [List.find?_cons_of_pos h0]; rfl
    | succ k =>
      have h0 : f c = false := hlo 0 (by omega)
      rw [List.find?_cons_of_neg (by simp [h0])]
      exact ih (k := k) (by simpa using hk) h (fun j hj => hlo (j + 1) (by omega))
theorem findR_none {rs : List R4} {f : R4 → Bool} (h : ∀ j, j < rs.length → f (atR rs j) = false) : rs.find? f = none := by
  rw [List.find?_eq_none]
  intro c hc
  obtain ⟨i, hi, rfl⟩ := List.getElem_of_mem hc
  have := h i hi
  rw [atR, List.getElem?_eq_getElem hi] at this
  simpa using this
theorem ansR_first {m : M4} {t g k : Int} {i : Nat} (hB : machB m = true) (hi : i < m.log.length) (h : lgB t g k (atR m.log i) = true) (hlo : ∀ j, j < i → lgB t g k (atR m.log j) = false) : ansR m t g k = some (atR m.log i) := by
  rw [ansR, if_pos hB, findR_at hi h hlo]
theorem ansR_none {m : M4} {t g k : Int} (h : ∀ j, j < m.log.length → lgB t g k (atR m.log j) = false) : ansR m t g k = none := by
  unfold ansR
  rw [findR_none h]; simp
theorem ansR_bad {m : M4} (t g k : Int) (hB : machB m = false) : ansR m t g k = none := by simp [ansR, hB]
theorem LogAns.no {w w' : World} {m : M4} {t g k : Int} (h : ansR m t g k = none) (hb : Below w.heap.size w w') : LogAns w m t g k (.returned (.tuple #[.agg #[.int .i64 0, .int .i64 0, .int .i64 0, .slice none 0 0], .bool false])) w' :=
  ⟨Option.none, 0, by simp [ansV, ansH, h, R4.val], .inl (by simp [ansV, h]), hb⟩
set_option maxHeartbeats 1000000 in
theorem ofRegion_any (w : World) (r : R4) (a : Option Addr) (cap : Nat) (t g : Int) : Calls Tryz.prog 182 #[r.val a cap, .int .i64 t, .int .i64 g] w fun e w' => e = .returned (.bool (ofB t g r)) ∧ Below w.heap.size w w' := by
  simp only [R4.val, ofB]
  have b0 : Below w.heap.size w (w.alloc (.cells #[.int .i64 r.kind, .int .i64 r.tx, .int .i64 r.region, .slice a r.sets.length cap] 130)) := (Below.refl _ _).alloc (Nat.le_refl _) _
  generalize r.sets.length = n at *
  cases h1 : (r.tx == t) with
  | false =>
    go_enter Tryz.func182, Tryz.ntmps182
    go_wp2
    go_ret
    exact ⟨rfl, b0⟩
  | true =>
    go_enter Tryz.func182, Tryz.ntmps182
    go_wp2
    go_ret
    exact ⟨rfl, b0⟩
set_option maxHeartbeats 1000000 in
theorem first1_any (w : World) (r : R4) (a : Option Addr) (cap : Nat) (t g k : Int) (g1 g2 g3 : Nat) (h1 : w.cell? ⟨g1, 0, none⟩ = some (.int .i64 t)) (h2 : w.cell? ⟨g2, 0, none⟩ = some (.int .i64 g)) (h3 : w.cell? ⟨g3, 0, none⟩ = some (.int .i64 k)) (l1 : g1 < w.heap.size) (l2 : g2 < w.heap.size) (l3 : g3 < w.heap.size) :
    Calls Tryz.prog 181 #[r.val a cap, .pointer (some ⟨g1, 0, none⟩), .pointer (some ⟨g2, 0, none⟩), .pointer (some ⟨g3, 0, none⟩)] w fun e w' => e = .returned (.bool (lgB t g k r)) ∧ Below w.heap.size w w' := by
  obtain ⟨W, hW⟩ : ∃ W, W = w.alloc (.cells #[.int .i64 r.kind, .int .i64 r.tx, .int .i64 r.region, .slice a r.sets.length cap] 130) := ⟨_, rfl⟩
  have b0 : Below w.heap.size w W := by subst hW; exact (Below.refl _ _).alloc (Nat.le_refl _) _
  have d1 := (b0.cell (p := ⟨g1, 0, none⟩) l1).trans h1
  have d2 := (b0.cell (p := ⟨g2, 0, none⟩) l2).trans h2
  have d3 := (b0.cell (p := ⟨g3, 0, none⟩) l3).trans h3
  have s0 : w.heap.size < W.heap.size := by subst hW; simp
  have c0 : W.cell? ⟨w.heap.size, 0, none⟩ = some (.int .i64 r.kind) := by subst hW; go_simp
  have hc := ofRegion_any W r a cap t g
  have H : Hid (Below w.heap.size w W ∧ lgB t g k r = (ofB t g r && (r.kind == k)) ∧ g3 < W.heap.size ∧ w.heap.size < W.heap.size) := ⟨b0, rfl, Nat.lt_of_lt_of_le l3 b0.size, s0⟩
  simp only [R4.val] at hc ⊢
  clear h1 h2 h3 b0 s0 l1 l2 l3
  generalize lgB t g k r = V at *
  cases hO : ofB t g r with
  | false =>
    rw [hO] at hc
    subst hW
    go_enter Tryz.func181, Tryz.ntmps181
    go_wp2_with fail
    refine hc.mono ?_
    clear hc
    rintro e w1 ⟨rfl, b1⟩
    go_wp2
    go_ret
    exact ⟨by rw [H.out.2.1, hO]; rfl, H.out.1.trans (b1.mono H.out.1.size)⟩
  | true =>
    rw [hO] at hc
    subst hW
    go_enter Tryz.func181, Tryz.ntmps181
    go_wp2_with fail
    generalize w.alloc (.cells #[.int .i64 r.kind, .int .i64 r.tx, .int .i64 r.region, .slice a r.sets.length cap] 130) = W at *
    refine hc.mono ?_
    clear hc
    rintro e w1 ⟨rfl, b1⟩
    have x0 := (b1.cell (p := ⟨w.heap.size, 0, none⟩) H.out.2.2.2).trans c0
    have x3 := (b1.cell (p := ⟨g3, 0, none⟩) H.out.2.2.1).trans d3
    have BE := hidOf (H.out.1.trans (b1.mono H.out.1.size))
    clear b1 c0 d1 d2 d3
    go_wp2
    go_ret
    exact ⟨by rw [H.out.2.1, hO]; rfl, BE.out⟩
def idxFirstF (w : World) (n : Nat) (rs : List R4) (g1 : Nat) (g2 : Nat) (g3 : Nat) (f : Nat → Bool) : Prop :=
  ∀ (X : World) (i : Nat) (a' : Option Addr) (cap' : Nat), Below w.heap.size w X → i < n → Sl X X.heap.size a' (atR rs i).sets.length (atR rs i).sets → Calls Tryz.prog 181 #[(atR rs i).val a' cap', .pointer (some ⟨g1, 0, none⟩), .pointer (some ⟨g2, 0, none⟩), .pointer (some ⟨g3, 0, none⟩)] X fun e w' => e = .returned (.bool (f i)) ∧ Below X.heap.size X w'
set_option maxHeartbeats 2000000 in
theorem idxFirst (w : World) (a : Option Addr) (n cap : Nat) (rs : List R4) (g1 : Nat) (g2 : Nat) (g3 : Nat) (f : Nat → Bool) (hn : n ≤ maxLen) (hs : SlR w w.heap.size a n rs) (hf : idxFirstF w n rs g1 g2 g3 f) :
    Calls Tryz.prog 183 #[.slice a n cap, .func (.func 181) #[] #[.pointer (some ⟨g1, 0, none⟩), .pointer (some ⟨g2, 0, none⟩), .pointer (some ⟨g3, 0, none⟩)]] w fun e w' => (∃ i : Int, e = .returned (.int .i64 i) ∧ FirstAt f n i) ∧ Below w.heap.size w w' := by
  unfold maxLen at hn
  obtain ⟨hx, hs⟩ := hs
  have HF := hidOf hf
  clear hf
  go_enter Tryz.func183, Tryz.ntmps183
  go_wp2
  go_loopw [8] (fun v wr => ∃ j : Nat, j ≤ n ∧ v = .int .i64 j ∧ Below w.heap.size w wr ∧ ∀ i, i < j → f i = false) (fun v _ => n - (intOf v).toNat)
  case atStart => exact ⟨0, Nat.zero_le _, rfl, Below.refl _ _, fun i h => absurd h (by omega)⟩
  case round =>
    obtain ⟨j, hj, rfl, hbl, hall⟩ := hrel
    by_cases hlt : j < n
    · rcases hs with hs | ⟨b, off, rfl, hb, h1⟩
      · omega
      · have hr := (h1 j _ (atR_of (by omega))).below hbl hb
        have c0 := hr.c0
        have c1 := hr.c1
        have c2 := hr.c2
        obtain ⟨a', cap', c3, hsl, hcp⟩ := hr.c3
        have KA : Hid ((∀ i, i < j → f i = false) ∧ Below w.heap.size w wr) := ⟨hall, hbl⟩
        have hw := HF.out wr j a' cap' hbl hlt (hsl.mono hbl.size)
        simp only [R4.val] at hw
        clear h1 hr hall hsl hbl hcp
        generalize (atR rs j).sets.length = ln at *
        cases hp : f j with
        | true =>
          rw [hp] at hw
          go_wp2_with fail
          refine hw.mono ?_
          clear hw
          rintro e w1 ⟨rfl, b1⟩
          go_wp2
          go_ret
          exact ⟨⟨_, rfl, .inr ⟨j, rfl, hlt, hp, KA.out.1⟩⟩, KA.out.2.trans (b1.mono KA.out.2.size)⟩
        | false =>
          rw [hp] at hw
          go_wp2_with fail
          refine hw.mono ?_
          clear hw
          rintro e w1 ⟨rfl, b1⟩
          go_wp2
          exact ⟨⟨j + 1, by omega, by simp, KA.out.2.trans (b1.mono KA.out.2.size), fun i hi => by
            by_cases e : i = j
            · rw [e]; exact hp
            · exact KA.out.1 i (by omega)⟩, by simp [intOf]; omega⟩
    · have : j = n := by omega
      subst this
      have hd : decide ((j : Int) < (j : Int)) = false := by simp
      have KA : Hid (∀ i, i < j → f i = false) := hall
      clear hs hall
      go_wp2
      go_ret
      exact ⟨⟨_, rfl, .inl ⟨rfl, KA.out⟩⟩, hbl⟩
def FirstAns (base : Nat) (rs : List R4) (t g k : Int) (gr : Nat → Nat) (e : Ending) (w' : World) : Prop :=
  (e = .returned (.tuple #[.agg #[.int .i64 0, .int .i64 0, .int .i64 0, .slice none 0 0], .bool false]) ∧ ∀ j, j < rs.length → lgB t g k (atR rs j) = false) ∨
  ∃ (i cp : Nat), e = .returned (.tuple #[(atR rs i).val (some ⟨gr i, 0, none⟩) cp, .bool true]) ∧ i < rs.length ∧ lgB t g k (atR rs i) = true ∧ (∀ j, j < i → lgB t g k (atR rs j) = false) ∧ AtR w' (gr i) (atR rs i) ∧ base ≤ gr i ∧ gr i < w'.heap.size
structure B4 (s : Nat) (t g k : Int) (X : World) : Prop where
  t0 : X.cell? ⟨s, 0, none⟩ = some (.int .i64 t)
  g0 : X.cell? ⟨s + 1, 0, none⟩ = some (.int .i64 g)
  k0 : X.cell? ⟨s + 1 + 1, 0, none⟩ = some (.int .i64 k)
  e0 : X.cell? ⟨s + 1 + 1 + 1, 0, none⟩ = some (.int .i64 0)
  e1 : X.cell? ⟨s + 1 + 1 + 1, 1, none⟩ = some (.int .i64 0)
  e2 : X.cell? ⟨s + 1 + 1 + 1, 2, none⟩ = some (.int .i64 0)
  e3 : X.cell? ⟨s + 1 + 1 + 1, 3, none⟩ = some (.slice none 0 0)
  fe : ∀ j, X.frozen? ⟨s + 1 + 1 + 1, j, none⟩ = false
  lt : s + 3 < X.heap.size
theorem B4.later {s : Nat} {t g k : Int} {X Y : World} (h : B4 s t g k X) (hb : Below X.heap.size X Y) : B4 s t g k Y := by
  have l := h.lt
  have c : ∀ {b j : Nat} {u : Value}, b < X.heap.size → X.cell? ⟨b, j, none⟩ = some u → Y.cell? ⟨b, j, none⟩ = some u := fun {b j u} e h => (hb.cell (p := ⟨b, j, none⟩) e).trans h
  exact ⟨c (by omega) h.t0, c (by omega) h.g0, c (by omega) h.k0, c (by omega) h.e0, c (by omega) h.e1, c (by omega) h.e2, c (by omega) h.e3, fun j => (hb.frozen (p := ⟨s + 1 + 1 + 1, j, none⟩) (by show s + 1 + 1 + 1 < X.heap.size; omega)).trans (h.fe j), Nat.lt_of_lt_of_le l hb.size⟩
set_option maxHeartbeats 4000000 in
theorem first_any (w : World) (p base : Nat) (a : Option Addr) (cap : Nat) (rs : List R4) (t g k : Int) (gr : Nat → Nat) (hn : rs.length ≤ 1000) (hG : GrowG 130 4 hdR lnR AtR w base (.slice a rs.length cap) rs gr) (hc : w.cell? ⟨p, 0, none⟩ = some (.slice a rs.length cap)) (hp : p < w.heap.size) :
    Calls Tryz.prog 160 #[.pointer (some ⟨p, 0, none⟩), .int .i64 t, .int .i64 g, .int .i64 k] w fun e w' => FirstAns base rs t g k gr e w' ∧ Below w.heap.size w w' := by
  obtain ⟨W, hW⟩ : ∃ W, W = (((w.alloc (.cells #[.int .i64 t] 2)).alloc (.cells #[.int .i64 g] 2)).alloc (.cells #[.int .i64 k] 2)).alloc (.cells #[.int .i64 0, .int .i64 0, .int .i64 0, .slice none 0 0] 130) := ⟨_, rfl⟩
  have b0 : Below w.heap.size w W := by subst hW; exact ((((Below.refl _ _).alloc (Nat.le_refl _) _).alloc (by simp) _).alloc (by simp; omega) _).alloc (by simp; omega) _
  have s0 : W.heap.size = w.heap.size + 4 := by subst hW; simp
  have x0 : B4 w.heap.size t g k W := by
    subst hW
    refine ⟨?_, ?_, ?_, ?_, ?_, ?_, ?_, ?_, ?_⟩
    all_goals first | (intro j; go_simp; done) | (go_simp; done) | (simp; done)
  have GW := hG.later AtR.of_block b0
  have cW := (b0.cell (p := ⟨p, 0, none⟩) hp).trans hc
  have slR : SlR W W.heap.size a rs.length rs := by
    by_cases e : rs = []
    · exact ⟨rfl, .inl (by rw [e]; rfl)⟩
    · obtain ⟨b, cp, ev, h1, h2, _, _, og⟩ := GrowG.own (hd := hdR) (sz := 4) (fun _ => rfl) GW e
      have ea : a = some ⟨b, 0, none⟩ := by injection ev
      rw [ea]; exact ownR_sl og h2
  have hi := idxFirst W a rs.length cap rs w.heap.size (w.heap.size + 1) (w.heap.size + 1 + 1) (fun j => lgB t g k (atR rs j)) (by unfold maxLen; omega) slR (fun X i a' cap' bX hi' _ => by
    have x := x0.later bX
    have := x.lt
    exact first1_any X (atR rs i) a' cap' t g k _ _ _ x.t0 x.g0 x.k0 (by omega) (by omega) (by omega))
  have HLT := hidOf hG.lt
  have H : Hid (Below w.heap.size w W ∧ W.heap.size = w.heap.size + 4 ∧ B4 w.heap.size t g k W ∧ GrowG 130 4 hdR lnR AtR W base (.slice a rs.length cap) rs gr ∧ p < W.heap.size) := ⟨b0, s0, x0, GW, by omega⟩
  clear hG hc b0 s0 x0 GW slR hp
  subst hW
  go_enter Tryz.func160, Tryz.ntmps160
  go_wp2_with fail
  generalize (((w.alloc (.cells #[.int .i64 t] 2)).alloc (.cells #[.int .i64 g] 2)).alloc (.cells #[.int .i64 k] 2)).alloc (.cells #[.int .i64 0, .int .i64 0, .int .i64 0, .slice none 0 0] 130) = W at *
  refine hi.mono ?_
  clear hi
  rintro e w1 ⟨⟨i, rfl, hf⟩, b1⟩
  have x1 := H.out.2.2.1.later b1
  have c1 := (b1.cell (p := ⟨p, 0, none⟩) H.out.2.2.2.2).trans cW
  obtain ⟨_, _, _, e0, e1, e2, e3, fe, lt1⟩ := x1
  have f0 := fe 0
  have f1 := fe 1
  have f2 := fe 2
  have f3 := fe 3
  have K : Hid (Below w.heap.size w w1 ∧ GrowG 130 4 hdR lnR AtR w1 base (.slice a rs.length cap) rs gr) := ⟨H.out.1.trans (b1.mono H.out.1.size), H.out.2.2.2.1.later AtR.of_block b1⟩
  clear b1 cW fe
  rcases hf with ⟨rfl, hno⟩ | ⟨i, rfl, hin, hyes, hlo⟩
  · have HN := hidOf hno
    clear hno
    go_wp2
    refine bodyPost_ret (v := .tuple #[.agg #[.int .i64 0, .int .i64 0, .int .i64 0, .slice none 0 0], .bool false]) (by simp [results, Tryz.results160, go_sem, e0, e1, e2, e3]) rfl ⟨.inl ⟨rfl, HN.out⟩, ?_⟩
    exact (((K.out.1.setCell (p := ⟨_, _, none⟩) (by simp; omega) _).setCell (p := ⟨_, _, none⟩) (by simp; omega) _).setCell (p := ⟨_, _, none⟩) (by simp; omega) _).setCell (p := ⟨_, _, none⟩) (by simp; omega) _
  · have hne : rs ≠ [] := fun e => by rw [e] at hin; simp at hin
    obtain ⟨b, cp0, ev, hb1, hb2, _, _, og⟩ := GrowG.own (hd := hdR) (sz := 4) (fun _ => rfl) K.out.2 hne
    have ea : a = some ⟨b, 0, none⟩ := by injection ev
    subst ea
    have hri := atR_of hin
    obtain ⟨cp, t3, tc⟩ := og.tail i _ hri
    have t0 := og.head i _ hri 0 (atR rs i).kind rfl
    have t1 := og.head i _ hri 1 (atR rs i).tx rfl
    have t2 := og.head i _ hri 2 (atR rs i).region rfl
    simp only [lnR, Nat.reduceSub, Nat.add_zero] at t3 t0
    have hi2 : (i : Int) < (rs.length : Int) := by omega
    have hi0 : decide ((i : Int) < 0) = false := by simp
    have KA : Hid (lgB t g k (atR rs i) = true ∧ (∀ j, j < i → lgB t g k (atR rs j) = false) ∧ AtR w1 (gr i) (atR rs i) ∧ base ≤ gr i ∧ gr i < w1.heap.size ∧ gr i < w.heap.size) := ⟨hyes, hlo, og.sub i _ hri, og.low i hin, og.lt i hin, HLT.out i hin⟩
    clear og ev hb1 hb2 tc hri hyes hlo
    go_wp2
    obtain ⟨k1, k2, k3, k4, k5, k6⟩ := KA.out
    refine bodyPost_ret (v := .tuple #[.agg #[.int .i64 (atR rs i).kind, .int .i64 (atR rs i).tx, .int .i64 (atR rs i).region, .slice (some ⟨gr i, 0, none⟩) (atR rs i).sets.length cp], .bool true]) (by simp [results, Tryz.results160, go_sem, e0, e1, e2, e3]) rfl ⟨.inr ⟨i, cp, rfl, hin, k1, k2, ?_, k4, by simpa [World.setCell] using k5⟩, ?_⟩
    · exact (((k3.far (by simp; omega) _).far (by simp; omega) _).far (by simp; omega) _).far (by simp; omega) _
    · exact (((K.out.1.setCell (p := ⟨_, _, none⟩) (by simp; omega) _).setCell (p := ⟨_, _, none⟩) (by simp; omega) _).setCell (p := ⟨_, _, none⟩) (by simp; omega) _).setCell (p := ⟨_, _, none⟩) (by simp; omega) _
set_option maxHeartbeats 4000000 in
theorem implLogged_any (w : World) (v : MV) (m : M4) (t g k : Int) (hl : ML m) (hs : SlM w v m) : Calls Tryz.prog 110 #[v.val m, .int .i64 t, .int .i64 g, .int .i64 k] w (LogAns w m t g k) := by
  obtain ⟨ac, cc, al, cl, ad, cd⟩ := v
  simp only [MV.val]
  obtain ⟨W, hW⟩ : ∃ W, W = (w.alloc (.cells #[.bool m.alive, .slice ac m.copies.length cc, .slice al m.log.length cl, .slice ad m.cleared.length cd] 85)).alloc (.cells #[.int .i64 0, .int .i64 0, .int .i64 0, .slice none 0 0] 130) := ⟨_, rfl⟩
  have b0 : Below w.heap.size w W := by subst hW; exact ((Below.refl _ _).alloc (Nat.le_refl _) _).alloc (by simp) _
  have s0 : W.heap.size = w.heap.size + 2 := by subst hW; simp
  have c0 : ∀ X, Below W.heap.size W X → X.cell? ⟨w.heap.size + 1, 0, none⟩ = some (.int .i64 0) ∧ X.cell? ⟨w.heap.size + 1, 1, none⟩ = some (.int .i64 0) ∧ X.cell? ⟨w.heap.size + 1, 2, none⟩ = some (.int .i64 0) ∧ X.cell? ⟨w.heap.size + 1, 3, none⟩ = some (.slice none 0 0) ∧ ∀ j, X.frozen? ⟨w.heap.size + 1, j, none⟩ = false := fun X hX => by
    have l : w.heap.size + 1 < W.heap.size := by omega
    refine ⟨(hX.cell (p := ⟨w.heap.size + 1, 0, none⟩) l).trans ?_, (hX.cell (p := ⟨w.heap.size + 1, 1, none⟩) l).trans ?_, (hX.cell (p := ⟨w.heap.size + 1, 2, none⟩) l).trans ?_, (hX.cell (p := ⟨w.heap.size + 1, 3, none⟩) l).trans ?_, fun j => (hX.frozen (p := ⟨w.heap.size + 1, j, none⟩) l).trans ?_⟩
    all_goals (subst hW; go_simp)
  have ht := take_any W ⟨ac, cc, al, cl, ad, cd⟩ m hl (hs.later b0)
  simp only [MV.val] at ht
  have H : Hid (Below w.heap.size w W ∧ W.heap.size = w.heap.size + 2 ∧ ML m) := ⟨b0, s0, hl⟩
  have HC := hidOf c0
  clear hl hs b0 s0 c0
  subst hW
  go_enter Tryz.func110, Tryz.ntmps110
  go_wp2_with fail
  generalize (w.alloc (.cells #[.bool m.alive, .slice ac m.copies.length cc, .slice al m.log.length cl, .slice ad m.cleared.length cd] 85)).alloc (.cells #[.int .i64 0, .int .i64 0, .int .i64 0, .slice none 0 0] 130) = W at *
  refine ht.mono ?_
  clear ht
  rintro e w1 ⟨t1, t2, b1⟩
  cases hB : machB m with
  | false =>
    obtain rfl := t1 hB
    clear t1 t2
    simp only [noM]
    have bA : Below w1.heap.size w1 (w1.alloc (.cells #[.slice none 0 0, .bool false, .slice none 0 0, .slice none 0 0] 200)) := (Below.refl _ _).alloc (Nat.le_refl _) _
    obtain ⟨e0, e1, e2, e3, fe⟩ := HC.out _ (b1.trans (bA.mono b1.size))
    have f0 := fe 0
    have f1 := fe 1
    have f2 := fe 2
    have f3 := fe 3
    have K : Hid (Below w.heap.size w (w1.alloc (.cells #[.slice none 0 0, .bool false, .slice none 0 0, .slice none 0 0] 200))) := H.out.1.trans ((b1.trans (bA.mono b1.size)).mono H.out.1.size)
    clear b1 bA fe
    go_wp2
    refine bodyPost_ret (v := .tuple #[.agg #[.int .i64 0, .int .i64 0, .int .i64 0, .slice none 0 0], .bool false]) (by simp [results, Tryz.results110, go_sem, e0, e1, e2, e3]) rfl (LogAns.no (ansR_bad t g k hB) ?_)
    exact (((K.out.setCell (p := ⟨_, _, none⟩) (by simp) _).setCell (p := ⟨_, _, none⟩) (by simp) _).setCell (p := ⟨_, _, none⟩) (by simp) _).setCell (p := ⟨_, _, none⟩) (by simp) _
  | true =>
    obtain ⟨⟨uc, uk, ul, uj, ud, ui⟩, p, gk, gr, rfl, mr⟩ := t2 hB
    clear t1 t2
    simp only [MV.own]
    have bA : Below w1.heap.size w1 (w1.alloc (.cells #[.slice ul m.log.length uj, .bool m.alive, .slice uc m.copies.length uk, .slice ud m.cleared.length ui] 200)) := (Below.refl _ _).alloc (Nat.le_refl _) _
    have mrA := mr.later bA
    have cA : (w1.alloc (.cells #[.slice ul m.log.length uj, .bool m.alive, .slice uc m.copies.length uk, .slice ud m.cleared.length ui] 200)).cell? ⟨w1.heap.size, 0, none⟩ = some (.slice ul m.log.length uj) := by go_simp
    have bWA := b1.trans (bA.mono b1.size)
    have hf := first_any (w1.alloc (.cells #[.slice ul m.log.length uj, .bool m.alive, .slice uc m.copies.length uk, .slice ud m.cleared.length ui] 200)) w1.heap.size (W.heap.size + 2) ul uj m.log t g k gr (by have := (MSm.of_mach hB).r; omega) mrA.gR cA (by simp)
    have K : Hid (Below W.heap.size W (w1.alloc (.cells #[.slice ul m.log.length uj, .bool m.alive, .slice uc m.copies.length uk, .slice ud m.cleared.length ui] 200)) ∧ Below w.heap.size w (w1.alloc (.cells #[.slice ul m.log.length uj, .bool m.alive, .slice uc m.copies.length uk, .slice ud m.cleared.length ui] 200))) := ⟨bWA, H.out.1.trans (bWA.mono H.out.1.size)⟩
    clear mr mrA bA b1 bWA
    go_wp2_with fail
    generalize (w1.alloc (.cells #[.slice ul m.log.length uj, .bool m.alive, .slice uc m.copies.length uk, .slice ud m.cleared.length ui] 200)) = W2 at *
    refine hf.mono ?_
    clear hf
    rintro e w3 ⟨hfa, b3⟩
    obtain ⟨e0, e1, e2, e3, fe⟩ := HC.out w3 (K.out.1.trans (b3.mono K.out.1.size))
    have f0 := fe 0
    have f1 := fe 1
    have f2 := fe 2
    have f3 := fe 3
    have K3 : Hid (Below w.heap.size w w3) := K.out.2.trans (b3.mono K.out.2.size)
    clear b3 fe cA
    rcases hfa with ⟨rfl, hno⟩ | ⟨i, cp, rfl, hin, hyes, hlo, hat, hlow, hlt⟩
    · have HN : Hid (ansR m t g k = Option.none) := ansR_none hno
      clear hno
      go_wp2
      refine bodyPost_ret (v := .tuple #[.agg #[.int .i64 0, .int .i64 0, .int .i64 0, .slice none 0 0], .bool false]) (by simp [results, Tryz.results110, go_sem, e0, e1, e2, e3]) rfl (LogAns.no HN.out ?_)
      exact (((K3.out.setCell (p := ⟨_, _, none⟩) (by simp) _).setCell (p := ⟨_, _, none⟩) (by simp) _).setCell (p := ⟨_, _, none⟩) (by simp) _).setCell (p := ⟨_, _, none⟩) (by simp) _
    · have HN : Hid (ansR m t g k = some (atR m.log i)) := ansR_first hB hin hyes hlo
      have KA : Hid (AtR w3 (gr i) (atR m.log i) ∧ w.heap.size + 2 ≤ gr i ∧ gr i < w3.heap.size) := ⟨hat, by have := H.out.2.1; omega, hlt⟩
      clear hyes hlo hat hlow hlt
      simp only [R4.val]
      go_wp2
      refine bodyPost_ret (v := .tuple #[.agg #[.int .i64 (atR m.log i).kind, .int .i64 (atR m.log i).tx, .int .i64 (atR m.log i).region, .slice (some ⟨gr i, 0, none⟩) (atR m.log i).sets.length cp], .bool true]) (by simp [results, Tryz.results110, go_sem, e0, e1, e2, e3]) rfl ⟨some ⟨gr i, 0, none⟩, cp, by simp [ansV, ansH, HN.out, R4.val], .inr ⟨gr i, rfl, by have := KA.out.2.1; omega, by simpa [World.setCell] using KA.out.2.2, ?_, ?_⟩, ?_⟩
      · have := (((KA.out.1.far (p := ⟨w.heap.size + 1, 0, none⟩) (by have := KA.out.2.1; simp; omega) (.int .i64 (atR m.log i).kind)).far (p := ⟨w.heap.size + 1, 1, none⟩) (by have := KA.out.2.1; simp; omega) (.int .i64 (atR m.log i).tx)).far (p := ⟨w.heap.size + 1, 2, none⟩) (by have := KA.out.2.1; simp; omega) (.int .i64 (atR m.log i).region)).far (p := ⟨w.heap.size + 1, 3, none⟩) (by have := KA.out.2.1; simp; omega) (.slice (some ⟨gr i, 0, none⟩) (atR m.log i).sets.length cp)
        simpa [ansV, HN.out] using this.1
      · have := (((KA.out.1.far (p := ⟨w.heap.size + 1, 0, none⟩) (by have := KA.out.2.1; simp; omega) (.int .i64 (atR m.log i).kind)).far (p := ⟨w.heap.size + 1, 1, none⟩) (by have := KA.out.2.1; simp; omega) (.int .i64 (atR m.log i).tx)).far (p := ⟨w.heap.size + 1, 2, none⟩) (by have := KA.out.2.1; simp; omega) (.int .i64 (atR m.log i).region)).far (p := ⟨w.heap.size + 1, 3, none⟩) (by have := KA.out.2.1; simp; omega) (.slice (some ⟨gr i, 0, none⟩) (atR m.log i).sets.length cp)
        simpa [ansV, HN.out] using this.2
      · exact (((K3.out.setCell (p := ⟨_, _, none⟩) (by simp) _).setCell (p := ⟨_, _, none⟩) (by simp) _).setCell (p := ⟨_, _, none⟩) (by simp) _).setCell (p := ⟨_, _, none⟩) (by simp) _
set_option maxHeartbeats 4000000 in
theorem l6Logged_any (w : World) (v : MV) (m : M4) (t g k : Int) (hl : ML m) (hs : SlM w v m) :
    Calls Tryz.prog 46 #[v.val m, .int .i64 t, .int .i64 g, .int .i64 k] w fun e w' => (∃ i : Int, e = .returned (.int .i64 i) ∧ FirstAt (fun j => lgB t g k (atR m.log j)) m.log.length i) ∧ Below w.heap.size w w' := by
  obtain ⟨ac, cc, al, cl, ad, cd⟩ := v
  simp only [MV.val]
  have hn := hl.r
  unfold maxLen at hn
  have b0 : Below w.heap.size w (w.alloc (.cells #[.bool m.alive, .slice ac m.copies.length cc, .slice al m.log.length cl, .slice ad m.cleared.length cd] 85)) := (Below.refl _ _).alloc (Nat.le_refl _) _
  have c1 : (w.alloc (.cells #[.bool m.alive, .slice ac m.copies.length cc, .slice al m.log.length cl, .slice ad m.cleared.length cd] 85)).cell? ⟨w.heap.size, 2, none⟩ = some (.slice al m.log.length cl) := by go_simp
  have H : Hid (SlM (w.alloc (.cells #[.bool m.alive, .slice ac m.copies.length cc, .slice al m.log.length cl, .slice ad m.cleared.length cd] 85)) ⟨ac, cc, al, cl, ad, cd⟩ m ∧ Below w.heap.size w (w.alloc (.cells #[.bool m.alive, .slice ac m.copies.length cc, .slice al m.log.length cl, .slice ad m.cleared.length cd] 85))) := ⟨hs.later b0, b0⟩
  clear hs b0 hl
  go_enter Tryz.func46, Tryz.ntmps46
  go_wp2
  generalize w.alloc (.cells #[.bool m.alive, .slice ac m.copies.length cc, .slice al m.log.length cl, .slice ad m.cleared.length cd] 85) = W at *
  go_loop [9] (fun v => ∃ j : Nat, j ≤ m.log.length ∧ v = .int .i64 j ∧ ∀ i, i < j → lgB t g k (atR m.log i) = false) (fun v => m.log.length - (intOf v).toNat)
  case atStart => exact ⟨0, Nat.zero_le _, rfl, fun i h => absurd h (by omega)⟩
  case round =>
    obtain ⟨j, hj, rfl, hlo⟩ := hrel
    have HL := hidOf hlo
    clear hlo
    by_cases hlt : j < m.log.length
    · obtain ⟨_, hk⟩ := H.out.1.r
      simp only [] at hk
      rcases hk with hk | ⟨b, off, rfl, hb, h1⟩
      · omega
      have hr := h1 j _ (atR_of hlt)
      have k0 := hr.c0
      have k1 := hr.c1
      have k2 := hr.c2
      have HV : Hid (lgB t g k (atR m.log j) = (((atR m.log j).tx == t) && ((atR m.log j).region == g) && ((atR m.log j).kind == k))) := rfl
      clear h1 hr
      have next : lgB t g k (atR m.log j) = false → ∀ i, i < j + 1 → lgB t g k (atR m.log i) = false := fun h i hi => by
        by_cases e : i = j
        · rw [e]; exact h
        · exact HL.out i (by omega)
      have NX := hidOf next
      clear next
      cases q1 : ((atR m.log j).tx == t) with
      | false =>
        go_wp2
        exact ⟨⟨j + 1, by omega, by simp, NX.out (by rw [HV.out, q1]; rfl)⟩, by simp [intOf]; omega⟩
      | true =>
        cases q2 : ((atR m.log j).region == g) with
        | false =>
          go_wp2
          exact ⟨⟨j + 1, by omega, by simp, NX.out (by rw [HV.out, q1, q2]; rfl)⟩, by simp [intOf]; omega⟩
        | true =>
          cases q3 : ((atR m.log j).kind == k) with
          | false =>
            go_wp2
            exact ⟨⟨j + 1, by omega, by simp, NX.out (by rw [HV.out, q1, q2, q3]; rfl)⟩, by simp [intOf]; omega⟩
          | true =>
            go_wp2
            go_ret
            exact ⟨⟨_, rfl, .inr ⟨j, rfl, hlt, by show lgB t g k (atR m.log j) = true; rw [HV.out, q1, q2, q3]; rfl, HL.out⟩⟩, H.out.2⟩
    · obtain rfl : j = m.log.length := by omega
      have hd : decide ((m.log.length : Int) < (m.log.length : Int)) = false := by simp
      go_wp2
      go_ret
      exact ⟨⟨_, rfl, .inl ⟨rfl, HL.out⟩⟩, H.out.2⟩
theorem OwnSt.keep {w w' : World} {base : Nat} {a : Option Addr} {xs : List S5} (h : OwnSt w base a xs) (hs : w.heap.size ≤ w'.heap.size) (hk : ∀ q, base ≤ q → q < w.heap.size → w'.heap[q]? = w.heap[q]?) : OwnSt w' base a xs := by
  rcases h with h | ⟨q, ha, h1, h2, h3, h4⟩
  · exact .inl h
  · exact .inr ⟨q, ha, h1, Nat.lt_of_lt_of_le h2 hs, h3.of_block (hk q h1 h2), h4.of_block (hk q h1 h2)⟩
theorem OwnSt.later {w w' : World} {base : Nat} {a : Option Addr} {xs : List S5} (h : OwnSt w base a xs) (hb : Below w.heap.size w w') : OwnSt w' base a xs := h.keep hb.size (fun q _ hq => hb.block q hq)
end Go.Proofs.YteiofebmgilclaaGreat
namespace Go.Proofs.YteiofebmgilclaaGreat
open Go.RowKit
open Go.Sort (grow)
def alB (k : C6) (z : Int) : Bool := (atM k.machines z.toNat).alive
def dnB (k : C6) (y g z : Int) : Bool := (atM k.machines z.toNat).log.any (lgB y g 3) || hasB (atM k.machines z.toNat).cleared y
def bkB (k : C6) (y g z : Int) : Bool := (atM k.machines z.toNat).log.any (lgB y g 2)
def lkB (k : C6) (y g z : Int) : Bool := (atM k.machines z.toNat).log.any (lgB y g 1)
def bestV (d b l : Bool) : Int := if d then 4 else if b then 3 else if l then 2 else 1
def voteJ (k : C6) (y g : Int) (zs : List Int) (j : Nat) : Int := bestV ((zs.take j).any fun z => alB k z && dnB k y g z) ((zs.take j).any fun z => alB k z && bkB k y g z) ((zs.take (min j 1)).any fun z => alB k z && lkB k y g z)
theorem bestV_step (D B L a d b l : Bool) (t : Bool) (h : t = true → D = false ∧ B = false ∧ L = false) : bestV (D || (a && d)) (B || (a && b)) (if t = true then a && l else L) = if a = true then (if d = true then max (bestV D B L) 4 else if b = true then max (bestV D B L) 3 else if (t && l) = true then max (bestV D B L) 2 else bestV D B L) else bestV D B L := by
  revert h
  cases D <;> cases B <;> cases L <;> cases a <;> cases d <;> cases b <;> cases l <;> cases t <;> simp [bestV] <;> rfl
theorem voteJ_succ {k : C6} {y g : Int} {zs : List Int} {j : Nat} {z : Int} (hj : zs[j]? = some z) : voteJ k y g zs (j + 1) = if alB k z = true then (if dnB k y g z = true then max (voteJ k y g zs j) 4 else if bkB k y g z = true then max (voteJ k y g zs j) 3 else if (decide (j = 0) && lkB k y g z) = true then max (voteJ k y g zs j) 2 else voteJ k y g zs j) else voteJ k y g zs j := by
  have e1 : ∀ f : Int → Bool, (zs.take (j + 1)).any f = ((zs.take j).any f || f z) := fun f => by rw [List.take_add_one, hj, List.any_append]; simp
  have e2 : ((zs.take (min (j + 1) 1)).any fun z => alB k z && lkB k y g z) = if decide (j = 0) = true then alB k z && lkB k y g z else (zs.take (min j 1)).any fun z => alB k z && lkB k y g z := by
    by_cases h0 : j = 0
    · subst h0
      have := e1 (fun z => alB k z && lkB k y g z)
      simpa using this
    · rw [show min (j + 1) 1 = min j 1 by omega]
      simp [h0]
  unfold voteJ
  rw [e1, e1, e2]
  refine bestV_step _ _ _ _ _ _ _ _ (fun h0 => ?_)
  have h0' : j = 0 := by simpa using h0
  subst h0'
  simp
theorem voteJ_zero (k : C6) (y g : Int) (zs : List Int) : voteJ k y g zs 0 = 1 := by simp [voteJ, bestV]
def downB (k : C6) (zs : List Int) : Bool := zs.any fun z => !alB k z
theorem clu_z {k : C6} (h : clusterB k = true) {r j : Nat} (hr : r < k.places.length) (hj : j < (atP k.places r).length) : 0 ≤ atN (atP k.places r) j ∧ atN (atP k.places r) j < (k.machines.length : Int) := by
  simp only [clusterB, Bool.and_eq_true] at h
  have hp := h.1.1.1.1.2
  have hq := h.1.2
  refine ⟨(places_z hp hr hj).1, ?_⟩
  simp only [placedB] at hq
  have h1 := List.all_eq_true.1 hq r (List.mem_range.2 hr)
  simp only [placB] at h1
  have h2 := List.all_eq_true.1 h1 j (List.mem_range.2 hj)
  simp only [servB, Bool.and_eq_true, decide_eq_true_eq] at h2
  exact h2.1
theorem firstR_any {l : List R4} {p : R4 → Bool} {i : Int} (h : FirstAt (fun j => p (atR l j)) l.length i) : decide (0 ≤ i) = l.any p := by
  rcases h with ⟨rfl, h⟩ | ⟨j, rfl, hj, h1, _⟩
  · have : l.any p = false := by
      rw [List.any_eq_false]
      intro r hr
      obtain ⟨t, ht, rfl⟩ := List.getElem_of_mem hr
      have := h t ht
      simpa [atR, List.getElem?_eq_getElem ht] using this
    rw [this]; rfl
  · have : l.any p = true := by
      rw [List.any_eq_true]
      exact ⟨l[j], List.getElem_mem hj, by simpa [atR, List.getElem?_eq_getElem hj] using h1⟩
    rw [this]; simp
theorem l1Max_val (w : World) (x y : Int) : Calls Tryz.prog 48 #[.int .i64 x, .int .i64 y] w fun e w' => e = .returned (.int .i64 (max x y)) ∧ w' = w := by
  by_cases h : y < x
  · rw [Int.max_eq_left (by omega)]
    go_enter Tryz.func48, Tryz.ntmps48
    go_wp2
    go_ret
    exact ⟨rfl, rfl⟩
  · have hd : decide (y < x) = false := by simp [h]
    rw [Int.max_eq_right (by omega)]
    go_enter Tryz.func48, Tryz.ntmps48
    go_wp2
    go_ret
    exact ⟨rfl, rfl⟩
set_option maxRecDepth 100000 in
set_option maxHeartbeats 4000000 in
theorem l11Vote_any (w : World) (a1 : Option Addr) (c1 : Nat) (a2 : Option Addr) (c2 : Nat) (a3 : Option Addr) (c3 : Nat) (k : C6) (y : Int) (r : Nat) (hk : clusterB k = true) (hr : r < k.places.length) (h : KCl.Rd w a1 c1 a2 c2 a3 c3 k) (hL : KCl.L k) :
    Calls Tryz.prog 18 #[.agg #[.int .i64 k.config, .int .i64 k.clock, .slice a1 k.places.length c1, .slice a2 k.machines.length c2, .slice a3 k.txs.length c3, .bool k.lost], .int .i64 y, .int .i64 (r : Int)] w fun e w' => e = .returned (.int .i64 (voteJ k y (r : Int) (atP k.places r) (atP k.places r).length)) ∧ Below w.heap.size w w' := by
  obtain ⟨U, hU⟩ : ∃ Y, Y = w.alloc (.cells #[.int .i64 k.config, .int .i64 k.clock, .slice a1 k.places.length c1, .slice a2 k.machines.length c2, .slice a3 k.txs.length c3, .bool k.lost] 33) := ⟨_, rfl⟩
  have bU : Below w.heap.size w U := by rw [hU]; exact (Below.refl _ _).alloc (Nat.le_refl _) _
  have xU : Bx U w.heap.size [.int .i64 k.config, .int .i64 k.clock, .slice a1 k.places.length c1, .slice a2 k.machines.length c2, .slice a3 k.txs.length c3, .bool k.lost] := by rw [hU]; exact Bx.made w [.int .i64 k.config, .int .i64 k.clock, .slice a1 k.places.length c1, .slice a2 k.machines.length c2, .slice a3 k.txs.length c3, .bool k.lost] _
  have HR : Hid (KCl.Rd U a1 c1 a2 c2 a3 c3 k) := h.later bU
  have FA : Hid (Bx U w.heap.size [.int .i64 k.config, .int .i64 k.clock, .slice a1 k.places.length c1, .slice a2 k.machines.length c2, .slice a3 k.txs.length c3, .bool k.lost]) := xU
  have BW : Hid (Below w.heap.size w U) := bU
  have HZ : Hid (∀ j, j < (atP k.places r).length → 0 ≤ atN (atP k.places r) j ∧ atN (atP k.places r) j < (k.machines.length : Int)) := fun j hj => clu_z hk hr hj
  have hls : (atP k.places r).length ≤ 3 := ((CSm.of hk).ps _ (List.mem_of_getElem? (atP_of hr))).2
  obtain ⟨_, hsp⟩ := HR.out.p
  rcases hsp with hsp | ⟨b, off, rfl, hb, hpl⟩
  · omega
  obtain ⟨a', cap', hc, hsl, hcp⟩ := hpl r _ (atP_of hr)
  have HSL : Hid (SlN U U.heap.size a' (atP k.places r).length (atP k.places r)) := hsl
  have p2 := xU.1 2 _ rfl
  have jr : (r : Int) < (k.places.length : Int) := by omega
  have hc' := hc
  rw [hU] at p2 hc'
  clear bU xU hc hsl hpl h
  generalize hzs : atP k.places r = zs at *
  go_enter Tryz.func18, Tryz.ntmps18
  go_wp2
  rw [← hU]
  clear p2 hc' hU jr hb
  go_loopw [8, 9] (fun v8 v9 wr => ∃ j : Nat, j ≤ zs.length ∧ v9 = .int .i64 j ∧ v8 = .int .i64 (voteJ k y (r : Int) zs j) ∧ Below U.heap.size U wr) (fun _ v9 _ => zs.length - (intOf v9).toNat)
  case atStart => exact ⟨0, Nat.zero_le _, rfl, by rw [voteJ_zero], Below.refl _ _⟩
  case round =>
    obtain ⟨j, hj, rfl, rfl, hbl⟩ := hrel
    have KD : Hid (Below U.heap.size U wr) := hbl
    clear hbl
    by_cases hlj : j < zs.length
    · obtain ⟨_, hsn⟩ := HSL.out
      rcases hsn with hsn | ⟨b', off', rfl, hb', h2⟩
      · omega
      have hz := HZ.out j hlj
      obtain ⟨i, hi⟩ : ∃ i : Nat, atN zs j = (i : Int) := ⟨(atN zs j).toNat, by omega⟩
      have hck := h2 j _ (atN_of hlj)
      have him : i < k.machines.length := by omega
      have HST : Hid (voteJ k y (r : Int) zs (j + 1) = if (atM k.machines i).alive = true then (if ((atM k.machines i).log.any (lgB y (r : Int) 3) || hasB (atM k.machines i).cleared y) = true then max (voteJ k y (r : Int) zs j) 4 else if (atM k.machines i).log.any (lgB y (r : Int) 2) = true then max (voteJ k y (r : Int) zs j) 3 else if (decide (j = 0) && (atM k.machines i).log.any (lgB y (r : Int) 1)) = true then max (voteJ k y (r : Int) zs j) 2 else voteJ k y (r : Int) zs j) else voteJ k y (r : Int) zs j) := by
        unfold Hid
        rw [voteJ_succ (atN_of hlj)]
        simp only [alB, dnB, bkB, lkB, hi, Int.toNat_natCast]
      rw [hi] at hck
      rcases HR.out.m with hs | ⟨mb, mo, rfl, hmb, hmrd⟩
      · rw [hs] at him; simp at him
      obtain ⟨⟨m0, m1, m2, m3, m4, m5⟩, hmel, hmr⟩ := hmrd i _ (atM_of him)
      have g0 : U.cell? ⟨mb, mo + i * 4, none⟩ = some (.bool (atM k.machines i).alive) := hmel 0 _ rfl
      have g1 : U.cell? ⟨mb, mo + i * 4 + 1, none⟩ = some (.slice m0 (atM k.machines i).copies.length m1) := hmel 1 _ rfl
      have g2 : U.cell? ⟨mb, mo + i * 4 + 2, none⟩ = some (.slice m2 (atM k.machines i).log.length m3) := hmel 2 _ rfl
      have g3 : U.cell? ⟨mb, mo + i * 4 + 3, none⟩ = some (.slice m4 (atM k.machines i).cleared.length m5) := hmel 3 _ rfl
      have HSM : Hid (SlM U ⟨m0, m1, m2, m3, m4, m5⟩ (atM k.machines i)) := hmr
      have HML : Hid (ML (atM k.machines i)) := hL.ms _ (List.mem_of_getElem? (atM_of him))
      have jz : (j : Int) < (zs.length : Int) := by omega
      have im : (i : Int) < (k.machines.length : Int) := by omega
      clear h2 hz hi hmrd hmel hmr
      generalize hvj : voteJ k y (r : Int) zs j = vj at *
      clear hvj
      go_wp2_with fail
      refine wp_region_until 9 (fun X : World => Below wr.heap.size wr X) (by kernel_rfl) ?_
      have hSX : (fun X : World => Below wr.heap.size wr X) wr.drew := (Below.refl _ _).drew
      have KS := hidOf hSX
      generalize wr.drew = XD at *
      refine wpUntil_take (i := 0) (v := ?_) rfl (by kernel_rfl) (fun _ _ _ h => h) (Or.inl ⟨by rfl, ?_⟩) hSX ?_
      rotate_left
      · (intro w hSw; go_simp; first | done | with_reducible rfl | rfl | (rw [if_pos (by omega)]))
      simp only [Act.put]
      refine wpUntil_take (i := 1) (v := ?_) rfl (by kernel_rfl) (fun _ _ _ h => h) (Or.inl ⟨by rfl, ?_⟩) hSX ?_
      rotate_left
      · (intro w hSw; have q := (FA.out.later (bstep KD.out hSw)).1 3 _ rfl; go_simp; first | done | with_reducible rfl | rfl | (rw [if_pos (by omega)]))
      simp only [Act.put]
      refine wpUntil_take (i := 2) (v := ?_) rfl (by kernel_rfl) (fun _ _ _ h => h) (Or.inl ⟨by rfl, ?_⟩) hSX ?_
      rotate_left
      · (intro w hSw; go_simp; first | done | with_reducible rfl | rfl | (rw [if_pos (by omega)]))
      simp only [Act.put]
      refine wpUntil_take (i := 3) (v := ?_) rfl (by kernel_rfl) (fun _ _ _ h => h) (Or.inl ⟨by rfl, ?_⟩) hSX ?_
      rotate_left
      · (intro w hSw; go_simp; first | done | with_reducible rfl | rfl | (rw [if_pos (by omega)]))
      simp only [Act.put]
      refine wpUntil_take (i := 4) (v := ?_) rfl (by kernel_rfl) (fun _ _ _ h => h) (Or.inl ⟨by rfl, ?_⟩) hSX ?_
      rotate_left
      · (intro w hSw; go_simp; first | done | with_reducible rfl | rfl | (rw [if_pos (by omega)]))
      simp only [Act.put]
      refine wpUntil_take (i := 5) (v := ?_) rfl (by kernel_rfl) (fun _ _ _ h => h) (Or.inl ⟨by rfl, ?_⟩) hSX ?_
      rotate_left
      · (intro w hSw; have q := ((bstep KD.out hSw).cell (p := ⟨b', off' + j, none⟩) hb').trans hck; go_simp; first | done | with_reducible rfl | rfl | (rw [if_pos (by omega)]))
      simp only [Act.put]
      refine wpUntil_take (i := 6) (v := ?_) rfl (by kernel_rfl) (fun _ _ _ h => h) (Or.inl ⟨by rfl, ?_⟩) hSX ?_
      rotate_left
      · (intro w hSw; go_simp; first | done | with_reducible rfl | rfl | (rw [if_pos (by omega)]))
      simp only [Act.put]
      refine wpUntil_take (i := 7) (v := ?_) rfl (by kernel_rfl) (fun _ _ _ h => h) (Or.inl ⟨by rfl, ?_⟩) hSX ?_
      rotate_left
      · (intro w hSw; have q0 := ((bstep KD.out hSw).cell (p := ⟨mb, mo + i * 4, none⟩) hmb).trans g0; have q1 := ((bstep KD.out hSw).cell (p := ⟨mb, mo + i * 4 + 1, none⟩) hmb).trans g1; have q2 := ((bstep KD.out hSw).cell (p := ⟨mb, mo + i * 4 + 2, none⟩) hmb).trans g2; have q3 := ((bstep KD.out hSw).cell (p := ⟨mb, mo + i * 4 + 3, none⟩) hmb).trans g3; go_simp; first | done | with_reducible rfl | rfl | (rw [if_pos (by omega)]))
      simp only [Act.put]
      refine wpUntil_ready (rs := [8]) (by kernel_rfl) (by simp) ?_
      refine AllU.cons rfl (fun K hK => ?_) AllU.nil
      obtain ⟨Y, hY⟩ : ∃ Y, Y = XD.alloc (.cells #[.bool false, .slice none 0 0, .slice none 0 0, .slice none 0 0] 85) := ⟨_, rfl⟩
      have bY : Below XD.heap.size XD Y := by rw [hY]; exact (Below.refl _ _).alloc (Nat.le_refl _) _
      have xY : Bx Y XD.heap.size [.bool false, .slice none 0 0, .slice none 0 0, .slice none 0 0] := by rw [hY]; exact Bx.made XD [.bool false, .slice none 0 0, .slice none 0 0, .slice none 0 0] _
      have hSY : (fun X : World => Below wr.heap.size wr X) Y := bstep hSX bY
      have y0 := xY.1 0 _ rfl
      have y1 := xY.1 1 _ rfl
      have y2 := xY.1 2 _ rfl
      have y3 := xY.1 3 _ rfl
      have f0 := xY.2.1 0
      have f1 := xY.2.1 1
      have f2 := xY.2.1 2
      have f3 := xY.2.1 3
      obtain ⟨V, hV⟩ : ∃ V, V = putB Y XD.heap.size 0 [.bool (atM k.machines i).alive, .slice m0 (atM k.machines i).copies.length m1, .slice m2 (atM k.machines i).log.length m3, .slice m4 (atM k.machines i).cleared.length m5] := ⟨_, rfl⟩
      have KV : Hid (Bx V XD.heap.size [.bool (atM k.machines i).alive, .slice m0 (atM k.machines i).copies.length m1, .slice m2 (atM k.machines i).log.length m3, .slice m4 (atM k.machines i).cleared.length m5] ∧ Below U.heap.size U V) := by
        rw [hV]
        exact ⟨xY.put [.bool (atM k.machines i).alive, .slice m0 (atM k.machines i).copies.length m1, .slice m2 (atM k.machines i).log.length m3, .slice m4 (atM k.machines i).cleared.length m5] rfl, bstep KD.out (putB_below (w := wr) KS.out.size [.bool (atM k.machines i).alive, .slice m0 (atM k.machines i).copies.length m1, .slice m2 (atM k.machines i).log.length m3, .slice m4 (atM k.machines i).cleared.length m5] Y 0 hSY)⟩
      simp only [putB] at hV
      go_simp
      rw [← hY]
      refine hK.out _ _ (fun _ => hSY) ?_
      clear hK K hSX bY xY hY
      refine wpUntil_ready (rs := [9]) (by kernel_rfl) (by simp) ?_
      refine AllU.cons rfl (fun K hK => ?_) AllU.nil
      go_simp
      rw [← hV]
      refine hK.out _ _ (fun h => absurd rfl h) ?_
      clear hK K hSY y0 y1 y2 y3 f0 f1 f2 f3 hV
      refine wpUntil_done (by kernel_rfl) ?_ _
      clear hck g0 g1 g2 g3 hb' hmb
      generalize XD.heap.size = s9 at *
      cases hal : (atM k.machines i).alive with
      | false =>
        have c0 := KV.out.1.1 0 _ rfl
        rw [hal] at c0
        have HE : Hid (voteJ k y (r : Int) zs (j + 1) = vj) := by unfold Hid; rw [HST.out, hal]; rfl
        go_wp2
        exact ⟨⟨j + 1, by omega, by simp, by rw [HE.out], KV.out.2⟩, by simp [intOf]; omega⟩
      | true =>
        have KW : Hid (Bx V s9 [.bool true, .slice m0 (atM k.machines i).copies.length m1, .slice m2 (atM k.machines i).log.length m3, .slice m4 (atM k.machines i).cleared.length m5] ∧ Below U.heap.size U V) := ⟨by have := KV.out.1; rwa [hal] at this, KV.out.2⟩
        clear KV
        have hl3 := l6Logged_any V ⟨m0, m1, m2, m3, m4, m5⟩ (atM k.machines i) y (r : Int) 3 HML.out (HSM.out.later KW.out.2)
        simp only [MV.val] at hl3
        rw [hal] at hl3
        have c0 := KW.out.1.1 0 _ rfl
        have c1 := KW.out.1.1 1 _ rfl
        have c2 := KW.out.1.1 2 _ rfl
        have c3 := KW.out.1.1 3 _ rfl
        go_wp2_with fail
        refine hl3.mono ?_
        clear hl3 c0 c1 c2 c3
        rintro e V1 ⟨⟨z3, rfl, hf3⟩, b3⟩
        have d3 := firstR_any hf3
        have K1 : Hid (Bx V1 s9 [.bool true, .slice m0 (atM k.machines i).copies.length m1, .slice m2 (atM k.machines i).log.length m3, .slice m4 (atM k.machines i).cleared.length m5] ∧ Below U.heap.size U V1) := ⟨KW.out.1.later b3, bstep KW.out.2 b3⟩
        clear hf3 b3
        cases h3 : (atM k.machines i).log.any (lgB y (r : Int) 3) with
        | true =>
          rw [h3] at d3
          have HE : Hid (voteJ k y (r : Int) zs (j + 1) = max vj 4) := by unfold Hid; rw [HST.out, hal, h3]; rfl
          go_wp2_with fail
          refine (l1Max_val V1 vj 4).mono ?_
          rintro e w' ⟨rfl, hw'⟩
          subst w'
          go_wp2
          exact ⟨⟨j + 1, by omega, by simp, by rw [HE.out], K1.out.2⟩, by simp [intOf]; omega⟩
        | false =>
          rw [h3] at d3
          have hh := l3Has_any V1 m4 (atM k.machines i).cleared.length m5 y (atM k.machines i).cleared HML.out.n (HSM.out.later K1.out.2).n
          have c3 := K1.out.1.1 3 _ rfl
          go_wp2_with fail
          refine hh.mono ?_
          clear hh c3
          rintro e w' ⟨rfl, hw'⟩
          subst w'
          cases hc : hasB (atM k.machines i).cleared y with
          | true =>
            have HE : Hid (voteJ k y (r : Int) zs (j + 1) = max vj 4) := by unfold Hid; rw [HST.out, hal, h3, hc]; rfl
            go_wp2_with fail
            refine (l1Max_val V1 vj 4).mono ?_
            rintro e w' ⟨rfl, hw'⟩
            subst w'
            go_wp2
            exact ⟨⟨j + 1, by omega, by simp, by rw [HE.out], K1.out.2⟩, by simp [intOf]; omega⟩
          | false =>
            have hl2 := l6Logged_any V1 ⟨m0, m1, m2, m3, m4, m5⟩ (atM k.machines i) y (r : Int) 2 HML.out (HSM.out.later K1.out.2)
            simp only [MV.val] at hl2
            rw [hal] at hl2
            have c0 := K1.out.1.1 0 _ rfl
            have c1 := K1.out.1.1 1 _ rfl
            have c2 := K1.out.1.1 2 _ rfl
            have c3 := K1.out.1.1 3 _ rfl
            go_wp2_with fail
            refine hl2.mono ?_
            clear hl2 c0 c1 c2 c3
            rintro e V2 ⟨⟨z2, rfl, hf2⟩, b2⟩
            have d2 := firstR_any hf2
            have K2 : Hid (Bx V2 s9 [.bool true, .slice m0 (atM k.machines i).copies.length m1, .slice m2 (atM k.machines i).log.length m3, .slice m4 (atM k.machines i).cleared.length m5] ∧ Below U.heap.size U V2) := ⟨K1.out.1.later b2, bstep K1.out.2 b2⟩
            clear hf2 b2
            cases h2 : (atM k.machines i).log.any (lgB y (r : Int) 2) with
            | true =>
              rw [h2] at d2
              have HE : Hid (voteJ k y (r : Int) zs (j + 1) = max vj 3) := by unfold Hid; rw [HST.out, hal, h3, hc, h2]; rfl
              go_wp2_with fail
              refine (l1Max_val V2 vj 3).mono ?_
              rintro e w' ⟨rfl, hw'⟩
              subst w'
              go_wp2
              exact ⟨⟨j + 1, by omega, by simp, by rw [HE.out], K2.out.2⟩, by simp [intOf]; omega⟩
            | false =>
              rw [h2] at d2
              by_cases j0 : j = 0
              · have dj : ((j : Int) == 0) = true := by rw [j0]; rfl
                have dj0 : decide (j = 0) = true := by rw [j0]; rfl
                have HDJ := hidOf dj0
                clear j0 dj0
                have hl1 := l6Logged_any V2 ⟨m0, m1, m2, m3, m4, m5⟩ (atM k.machines i) y (r : Int) 1 HML.out (HSM.out.later K2.out.2)
                simp only [MV.val] at hl1
                rw [hal] at hl1
                have c0 := K2.out.1.1 0 _ rfl
                have c1 := K2.out.1.1 1 _ rfl
                have c2 := K2.out.1.1 2 _ rfl
                have c3 := K2.out.1.1 3 _ rfl
                go_wp2_with fail
                refine hl1.mono ?_
                clear hl1 c0 c1 c2 c3
                rintro e V3 ⟨⟨z1, rfl, hf1⟩, b1⟩
                have d1 := firstR_any hf1
                have K3 : Hid (Bx V3 s9 [.bool true, .slice m0 (atM k.machines i).copies.length m1, .slice m2 (atM k.machines i).log.length m3, .slice m4 (atM k.machines i).cleared.length m5] ∧ Below U.heap.size U V3) := ⟨K2.out.1.later b1, bstep K2.out.2 b1⟩
                clear hf1 b1
                cases h1 : (atM k.machines i).log.any (lgB y (r : Int) 1) with
                | true =>
                  rw [h1] at d1
                  have HE : Hid (voteJ k y (r : Int) zs (j + 1) = max vj 2) := by unfold Hid; rw [HST.out, hal, h3, hc, h2, h1, HDJ.out]; rfl
                  go_wp2_with fail
                  refine (l1Max_val V3 vj 2).mono ?_
                  rintro e w' ⟨rfl, hw'⟩
                  subst w'
                  go_wp2
                  exact ⟨⟨j + 1, by omega, by simp, by rw [HE.out], K3.out.2⟩, by simp [intOf]; omega⟩
                | false =>
                  rw [h1] at d1
                  have HE : Hid (voteJ k y (r : Int) zs (j + 1) = vj) := by unfold Hid; rw [HST.out, hal, h3, hc, h2, h1, HDJ.out]; rfl
                  go_wp2
                  exact ⟨⟨j + 1, by omega, by simp, by rw [HE.out], K3.out.2⟩, by simp [intOf]; omega⟩
              · have dj : ((j : Int) == 0) = false := beq_eq_false_iff_ne.2 (by omega)
                have dj0 : decide (j = 0) = false := by simpa using j0
                have HDJ := hidOf dj0
                clear j0 dj0
                have HE : Hid (voteJ k y (r : Int) zs (j + 1) = vj) := by unfold Hid; rw [HST.out, hal, h3, hc, h2, HDJ.out]; rfl
                go_wp2
                exact ⟨⟨j + 1, by omega, by simp, by rw [HE.out], K2.out.2⟩, by simp [intOf]; omega⟩
    · obtain rfl : j = zs.length := by omega
      have hd : decide ((zs.length : Int) < (zs.length : Int)) = false := by simp
      go_wp2
      go_ret
      exact ⟨rfl, bstep BW.out KD.out⟩
end Go.Proofs.YteiofebmgilclaaGreat
namespace Go.Proofs.YteiofebmgilclaaGreat.tx
open Go.RowKit
open Go.Sort (grow)
def FirstAt (f : Nat → Bool) (n : Nat) (i : Int) : Prop := (i = -1 ∧ ∀ j, j < n → f j = false) ∨ ∃ k : Nat, i = (k : Int) ∧ k < n ∧ f k = true ∧ ∀ j, j < k → f j = false
theorem first_has {f : Nat → Bool} {n : Nat} {i : Int} (h : FirstAt f n i) : decide (0 ≤ i) = !((List.range n).all fun j => !f j) := by
  rcases h with ⟨rfl, h⟩ | ⟨k, rfl, hk, hf, _⟩
  · have : ((List.range n).all fun j => !f j) = true := by rw [List.all_eq_true]; intro j hj; simp [h j (List.mem_range.1 hj)]
    rw [this]; rfl
  · have : ((List.range n).all fun j => !f j) = false := by rw [List.all_eq_false]; exact ⟨k, List.mem_range.2 hk, by simp [hf]⟩
    rw [this]; simp
theorem implId (w : World) (x : Int) : Calls Tryz.prog 99 #[.int .i64 x] w fun e w' => e = .returned (.bool (inB 1 1000000 x)) ∧ w' = w := by
  go_enter Tryz.func99, Tryz.ntmps99
  go_wp2
  all_goals (go_ret; refine ⟨ret_bool ?_, rfl⟩; simp [inB_iff]; try omega)
theorem implMachine (w : World) (x : Int) : Calls Tryz.prog 100 #[.int .i64 x] w fun e w' => e = .returned (.bool (inB 0 7 x)) ∧ w' = w := by
  go_enter Tryz.func100, Tryz.ntmps100
  go_wp2
  all_goals (go_ret; refine ⟨ret_bool ?_, rfl⟩; simp [inB_iff]; try omega)
theorem implPhase (w : World) (x : Int) : Calls Tryz.prog 101 #[.int .i64 x] w fun e w' => e = .returned (.bool (inB 1 9 x)) ∧ w' = w := by
  go_enter Tryz.func101, Tryz.ntmps101
  go_wp2
  all_goals (go_ret; refine ⟨ret_bool ?_, rfl⟩; simp [inB_iff]; try omega)
theorem implDone (w : World) (x : Int) : Calls Tryz.prog 102 #[.int .i64 x] w fun e w' => e = .returned (.bool (inB 0 1000 x)) ∧ w' = w := by
  go_enter Tryz.func102, Tryz.ntmps102
  go_wp2
  all_goals (go_ret; refine ⟨ret_bool ?_, rfl⟩; simp [inB_iff]; try omega)
theorem implStamp (w : World) (x : Int) : Calls Tryz.prog 90 #[.int .i64 x] w fun e w' => e = .returned (.bool (inB 0 1000000 x)) ∧ w' = w := by
  go_enter Tryz.func90, Tryz.ntmps90
  go_wp2
  all_goals (go_ret; refine ⟨ret_bool ?_, rfl⟩; simp [inB_iff]; try omega)
theorem implVersion (w : World) (x : Int) : Calls Tryz.prog 153 #[.int .i64 x] w fun e w' => e = .returned (.bool (inB 0 1000000 x)) ∧ w' = w := by
  go_enter Tryz.func153, Tryz.ntmps153
  go_wp2
  all_goals (go_ret; refine ⟨ret_bool ?_, rfl⟩; simp [inB_iff]; try omega)
theorem implNoteOk (w : World) (s : N5) : Calls Tryz.prog 104 #[.agg #[.int .i64 s.region, .int .i64 s.slot, .int .i64 s.version, .int .i64 s.value, .bool s.used]] w fun e w' => e = .returned (.bool (noteOkB s)) ∧ Below w.heap.size w w' := by
  obtain ⟨r, l, v, u, x⟩ := s
  go_enter Tryz.func104, Tryz.ntmps104
  cases h1 : inB 0 5 r <;> cases h2 : inB 0 5 l <;> cases h3 : inB 0 1000000 v
  all_goals go_wp2_with (first | (go_at_call 153; refine (implVersion _ _).mono ?_; rintro e w' ⟨rfl, rfl⟩) | (go_at_call 151; refine (implRegion _ _).mono ?_; rintro e w' ⟨rfl, rfl⟩) | (go_at_call 152; refine (implSlot _ _).mono ?_; rintro e w' ⟨rfl, rfl⟩) | (go_at_call 154; refine (implValue _ _).mono ?_; rintro e w' ⟨rfl, rfl⟩))
  all_goals (go_ret; refine ⟨ret_bool ?_, (Below.refl _ _).alloc (Nat.le_refl _) _⟩; simp only [noteOkB, h1, h2, h3, Bool.and_true, Bool.and_false, Bool.false_and, Bool.true_and]; try simp [inB_iff]; try omega)
def rk (r s : Int) : Int := r * 6 + s
theorem rank_any (w : World) (r s : Int) (h1 : inB 0 5 r = true) (h2 : inB 0 5 s = true) : Calls Tryz.prog 178 #[.agg #[.int .i64 r, .int .i64 s]] w fun e w' => e = .returned (.int .i64 (rk r s)) ∧ Below w.heap.size w w' := by
  rw [inB_iff] at h1 h2
  have e1 : IntKind.i64.wrap (r * 6) = r * 6 := by simp [IntKind.wrap, IntKind.bits, IntKind.signed]; omega
  have e2 : IntKind.i64.wrap (r * 6 + s) = r * 6 + s := by simp [IntKind.wrap, IntKind.bits, IntKind.signed]; omega
  go_enter Tryz.func178, Tryz.ntmps178
  go_wp2
  go_ret
  exact ⟨by simp [rk], (Below.refl _ _).alloc (Nat.le_refl _) _⟩
theorem less_rk {r s q t : Int} (h1 : inB 0 5 s = true) (h2 : inB 0 5 t = true) : lessB r s q t = decide (rk r s < rk q t) := by
  rw [inB_iff] at h1 h2
  have hk : ∀ a b, rk a b = a * 6 + b := fun _ _ => rfl
  have hd : (r < q ∨ r = q ∧ s < t) ↔ rk r s < rk q t := by
    rw [hk, hk]
    constructor
    · rintro (h | ⟨h, h'⟩) <;> omega
    · intro h
      by_cases hr : r < q
      · exact .inl hr
      · exact .inr ⟨by omega, by omega⟩
  rw [Bool.eq_iff_iff]
  simp [lessB, hd]
set_option maxHeartbeats 1000000 in
theorem noCell_any (w : World) (s : N5) : Calls Tryz.prog 121 #[.agg #[.int .i64 s.region, .int .i64 s.slot, .int .i64 s.version, .int .i64 s.value, .bool s.used]] w fun e w' => e = .returned (.agg #[.int .i64 s.region, .int .i64 s.slot]) ∧ Below w.heap.size w w' := by
  obtain ⟨f0, f1, f2, f3, f4⟩ := s
  go_enter Tryz.func121, Tryz.ntmps121
  go_wp2
  refine bodyPost_ret (v := .agg #[.int .i64 f0, .int .i64 f1]) (by simp [results, Tryz.results121, go_sem]) rfl ⟨rfl, ?_⟩
  exact ((Below.refl _ _).alloc (Nat.le_refl _) _).alloc (by simp) _
set_option maxHeartbeats 1000000 in
theorem noRank_any (w : World) (s : N5) (h1 : inB 0 5 s.region = true) (h2 : inB 0 5 s.slot = true) : Calls Tryz.prog 150 #[.agg #[.int .i64 s.region, .int .i64 s.slot, .int .i64 s.version, .int .i64 s.value, .bool s.used]] w fun e w' => e = .returned (.int .i64 (rk s.region s.slot)) ∧ Below w.heap.size w w' := by
  have b0 : Below w.heap.size w (w.alloc (.cells #[.int .i64 s.region, .int .i64 s.slot, .int .i64 s.version, .int .i64 s.value, .bool s.used] 90)) := (Below.refl _ _).alloc (Nat.le_refl _) _
  have c1 := noCell_any (w.alloc (.cells #[.int .i64 s.region, .int .i64 s.slot, .int .i64 s.version, .int .i64 s.value, .bool s.used] 90)) s
  have hm : ∀ w : World, (method 374 90 (.agg #[.int .i64 s.region, .int .i64 s.slot, .int .i64 s.version, .int .i64 s.value, .bool s.used]) "loop.example/g00153/impl.cell").run Tryz.prog w = .ok (121, .agg #[.int .i64 s.region, .int .i64 s.slot, .int .i64 s.version, .int .i64 s.value, .bool s.used]) w := fun _ => by kernel_rfl
  go_enter Tryz.func150, Tryz.ntmps150
  go_wp2_with (first | (go_at_call 121; refine c1.mono ?_; rintro e w1 ⟨rfl, b1⟩) | (go_at_call 178; refine (rank_any _ _ _ h1 h2).mono ?_; rintro e w2 ⟨rfl, b2⟩))
  go_ret
  exact ⟨rfl, b0.trans ((b1.trans (b2.mono b1.size)).mono b0.size)⟩
set_option maxHeartbeats 1000000 in
theorem seCell_any (w : World) (s : S5) : Calls Tryz.prog 232 #[.agg #[.int .i64 s.region, .int .i64 s.slot, .int .i64 s.value, .bool s.used, .int .i64 s.version]] w fun e w' => e = .returned (.agg #[.int .i64 s.region, .int .i64 s.slot]) ∧ Below w.heap.size w w' := by
  obtain ⟨f0, f1, f2, f3, f4⟩ := s
  go_enter Tryz.func232, Tryz.ntmps232
  go_wp2
  refine bodyPost_ret (v := .agg #[.int .i64 f0, .int .i64 f1]) (by simp [results, Tryz.results232, go_sem]) rfl ⟨rfl, ?_⟩
  exact ((Below.refl _ _).alloc (Nat.le_refl _) _).alloc (by simp) _
set_option maxHeartbeats 1000000 in
theorem seRank_any (w : World) (s : S5) (h1 : inB 0 5 s.region = true) (h2 : inB 0 5 s.slot = true) : Calls Tryz.prog 158 #[.agg #[.int .i64 s.region, .int .i64 s.slot, .int .i64 s.value, .bool s.used, .int .i64 s.version]] w fun e w' => e = .returned (.int .i64 (rk s.region s.slot)) ∧ Below w.heap.size w w' := by
  have b0 : Below w.heap.size w (w.alloc (.cells #[.int .i64 s.region, .int .i64 s.slot, .int .i64 s.value, .bool s.used, .int .i64 s.version] 92)) := (Below.refl _ _).alloc (Nat.le_refl _) _
  have c1 := seCell_any (w.alloc (.cells #[.int .i64 s.region, .int .i64 s.slot, .int .i64 s.value, .bool s.used, .int .i64 s.version] 92)) s
  have hm : ∀ w : World, (method 374 92 (.agg #[.int .i64 s.region, .int .i64 s.slot, .int .i64 s.value, .bool s.used, .int .i64 s.version]) "loop.example/g00153/impl.cell").run Tryz.prog w = .ok (232, .agg #[.int .i64 s.region, .int .i64 s.slot, .int .i64 s.value, .bool s.used, .int .i64 s.version]) w := fun _ => by kernel_rfl
  go_enter Tryz.func158, Tryz.ntmps158
  go_wp2_with (first | (go_at_call 232; refine c1.mono ?_; rintro e w1 ⟨rfl, b1⟩) | (go_at_call 178; refine (rank_any _ _ _ h1 h2).mono ?_; rintro e w2 ⟨rfl, b2⟩))
  go_ret
  exact ⟨rfl, b0.trans ((b1.trans (b2.mono b1.size)).mono b0.size)⟩
end Go.Proofs.YteiofebmgilclaaGreat.tx