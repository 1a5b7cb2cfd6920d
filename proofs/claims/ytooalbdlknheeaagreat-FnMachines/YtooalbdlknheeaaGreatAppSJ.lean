/- Append of the specification. -/
import Derived.Test.YtooalbdlknheeaaGreatRows
import Derived.Test.YtooalbdlknheeaaGreatTurnAJ
import Derived.Test.YtooalbdlknheeaaGreatJ12LawMachines
import Derived.WalkKit
import Derived.WalkSpells
import Derived.WalkLawsBesides
import Derived.Below
import Derived.Deep.CutRange
namespace Go.Proofs.YtooalbdlknheeaaGreat
open Go.RowKit
/-- A machine, and whether there is one, answered in memory of the call's own. -/
def MAnsB (w : World) (n : M4) (ok : Bool) (e : Ending) (w' : World) : Prop :=
  ∃ (a : Option Addr) (b : Nat) (c : Option Addr) (d : Nat) (f : Option Addr) (h : Nat) (PK PR PD : Nat → Prop), e = .returned (.tuple #[.agg #[.bool n.alive, .slice a n.copies.length b, .slice c n.log.length d, .slice f n.cleared.length h], .bool ok]) ∧ OM w' w.heap.size ⟨a, b, c, d, f, h⟩ n PK PR PD ∧ (∀ q, OfM PK PR PD q → q < w'.heap.size) ∧ Below w.heap.size w w'
def zM : M4 := ⟨false, [], [], []⟩
theorem MAnsB.zero {w w' : World} (hb : Below w.heap.size w w') : MAnsB w zM false (.returned (.tuple #[.agg #[.bool false, .slice none 0 0, .slice none 0 0, .slice none 0 0], .bool false])) w' :=
  ⟨none, 0, none, 0, none, 0, fun _ => False, fun _ => False, fun _ => False, rfl, ⟨.inl rfl, .inl rfl, .inl rfl, fun _ h => h.elim, fun _ h => h.elim, fun _ h => h.elim, fun _ h => h.elim, fun _ h => h.elim, fun _ h => h.elim⟩, fun q h => by rcases h with h | h | h <;> exact h.elim, hb⟩
/-- What Append answers. -/
def appM (m : M4) (r : R4) : M4 := if machB m = true ∧ recB r.kind r.tx r.region r.sets = true ∧ m.log.length ≠ 200 then ⟨m.alive, m.copies, m.log ++ [r], m.cleared⟩ else zM
def appB (m : M4) (r : R4) : Bool := machB m && recB r.kind r.tx r.region r.sets && !decide (m.log.length = 200)
/-- The boxes of Append: its machine's at s, its record's at s + 1, its answer's at s + 2. -/
structure BA (s : Nat) (alive : Bool) (v1 v2 v3 : Value) (r : R4) (v4 : Value) (X : World) : Prop where
  a0 : X.cell? ⟨s, 0, none⟩ = some (.bool alive)
  a1 : X.cell? ⟨s, 1, none⟩ = some v1
  a2 : X.cell? ⟨s, 2, none⟩ = some v2
  a3 : X.cell? ⟨s, 3, none⟩ = some v3
  r0 : X.cell? ⟨s + 1, 0, none⟩ = some (.int .i64 r.kind)
  r1 : X.cell? ⟨s + 1, 1, none⟩ = some (.int .i64 r.tx)
  r2 : X.cell? ⟨s + 1, 2, none⟩ = some (.int .i64 r.region)
  r3 : X.cell? ⟨s + 1, 3, none⟩ = some v4
  z : X.heap[s + 2]? = some (.cells #[.bool false, .slice none 0 0, .slice none 0 0, .slice none 0 0] 28 (0, 0))
  lt : s + 2 < X.heap.size
theorem BA.keep {s : Nat} {alive : Bool} {v1 v2 v3 v4 : Value} {r : R4} {X Y : World} (h : BA s alive v1 v2 v3 r v4 X) (hs : X.heap.size ≤ Y.heap.size) (hb : ∀ x, x < s + 3 → Y.heap[x]? = X.heap[x]?) : BA s alive v1 v2 v3 r v4 Y := by
  have c : ∀ {b j : Nat} {u : Value}, b < s + 3 → X.cell? ⟨b, j, none⟩ = some u → Y.cell? ⟨b, j, none⟩ = some u := fun {b j u} e h => (World.cell?_of_block (a := ⟨b, j, none⟩) (hb b e)).trans h
  exact ⟨c (by omega) h.a0, c (by omega) h.a1, c (by omega) h.a2, c (by omega) h.a3, c (by omega) h.r0, c (by omega) h.r1, c (by omega) h.r2, c (by omega) h.r3, (hb _ (by omega)).trans h.z, Nat.lt_of_lt_of_le h.lt hs⟩
theorem BA.later {s : Nat} {alive : Bool} {v1 v2 v3 v4 : Value} {r : R4} {X Y : World} (h : BA s alive v1 v2 v3 r v4 X) (hb : Below X.heap.size X Y) : BA s alive v1 v2 v3 r v4 Y := h.keep hb.size (fun x hx => hb.block x (by have := h.lt; omega))
theorem BA.made (w : World) (m : M4) (r : R4) (ac : Option Addr) (cc : Nat) (al : Option Addr) (cl : Nat) (ad : Option Addr) (cd : Nat) (a : Option Addr) (cap : Nat) : BA w.heap.size m.alive (.slice ac m.copies.length cc) (.slice al m.log.length cl) (.slice ad m.cleared.length cd) r (.slice a r.sets.length cap) (((w.alloc (.cells #[.bool m.alive, .slice ac m.copies.length cc, .slice al m.log.length cl, .slice ad m.cleared.length cd] 28)).alloc (.cells #[.int .i64 r.kind, .int .i64 r.tx, .int .i64 r.region, .slice a r.sets.length cap] 41)).alloc (.cells #[.bool false, .slice none 0 0, .slice none 0 0, .slice none 0 0] 28)) := by
  refine ⟨by go_simp, by go_simp, by go_simp, by go_simp, by go_simp, by go_simp, by go_simp, by go_simp, ?_, by simp⟩
  have := heap_alloc_new ((w.alloc (.cells #[.bool m.alive, .slice ac m.copies.length cc, .slice al m.log.length cl, .slice ad m.cleared.length cd] 28)).alloc (.cells #[.int .i64 r.kind, .int .i64 r.tx, .int .i64 r.region, .slice a r.sets.length cap] 41)) (.cells #[.bool false, .slice none 0 0, .slice none 0 0, .slice none 0 0] 28)
  rwa [show ((w.alloc (.cells #[.bool m.alive, .slice ac m.copies.length cc, .slice al m.log.length cl, .slice ad m.cleared.length cd] 28)).alloc (.cells #[.int .i64 r.kind, .int .i64 r.tx, .int .i64 r.region, .slice a r.sets.length cap] 41)).heap.size = w.heap.size + 2 by simp] at this
theorem rec_pos {k t r : Int} {xs : List S5} (h : recB k t r xs = true) : 0 < xs.length ∧ xs.length ≤ 12 := by
  simp only [recB, Bool.and_eq_true, decide_eq_true_eq] at h
  omega
theorem MAnsB.of {w Y : World} {base p b nc nl nd : Nat} {v : MV} {m : M4} {gk gr : Nat → Nat} {x0 x1 x2 x3 : Value} (e1 : m.copies.length = nc) (e2 : m.log.length = nl) (e3 : m.cleared.length = nd) (h : MR base p Y (.slice v.ac nc v.cc) (.slice v.al nl v.cl) (.slice v.ad nd v.cd) m.copies m.log m.cleared gk gr) (hb : Below w.heap.size w Y) (h1 : b < base) (h2 : w.heap.size ≤ b) :
    MAnsB w m true (.returned (.tuple #[.agg #[.bool m.alive, .slice v.ac nc v.cc, .slice v.al nl v.cl, .slice v.ad nd v.cd], .bool true])) ((((Y.setCell ⟨b, 0, none⟩ x0).setCell ⟨b, 1, none⟩ x1).setCell ⟨b, 2, none⟩ x2).setCell ⟨b, 3, none⟩ x3) := by
  subst e1 e2 e3
  obtain ⟨ac, cc, al, cl, ad, cd⟩ := v
  have om := MR.om (v := ⟨ac, cc, al, cl, ad, cd⟩) h
  have hlt := h.lt
  refine ⟨ac, cc, al, cl, ad, cd, _, _, _, rfl, (om.keep (by simp [World.setCell]) (fun x _ hx => ?_)).mono (by omega), fun q hq => by have := hlt q hq; simp [World.setCell]; omega, ?_⟩
  · have := hlt x hx
    exact (Below.heap_setCell _ _ _ _ (by show x ≠ b; omega)).trans ((Below.heap_setCell _ _ _ _ (by show x ≠ b; omega)).trans ((Below.heap_setCell _ _ _ _ (by show x ≠ b; omega)).trans (Below.heap_setCell _ _ _ _ (by show x ≠ b; omega))))
  · exact (((hb.setCell (p := ⟨b, _, none⟩) h2 _).setCell (p := ⟨b, _, none⟩) h2 _).setCell (p := ⟨b, _, none⟩) h2 _).setCell (p := ⟨b, _, none⟩) h2 _
set_option maxRecDepth 100000 in
set_option maxHeartbeats 4000000 in
theorem specAppend_any (w : World) (v : MV) (m : M4) (r : R4) (a : Option Addr) (cap : Nat) (hl : ML m) (hs : SlM w v m) (hr : r.sets.length ≤ maxLen) (hsr : Sl w w.heap.size a r.sets.length r.sets) : Calls Tryz.prog 20 #[v.val m, r.val a cap] w (MAnsB w (appM m r) (appB m r)) := by
  obtain ⟨ac, cc, al, cl, ad, cd⟩ := v
  simp only [MV.val, R4.val]
  obtain ⟨W, hW⟩ : ∃ W, W = ((w.alloc (.cells #[.bool m.alive, .slice ac m.copies.length cc, .slice al m.log.length cl, .slice ad m.cleared.length cd] 28)).alloc (.cells #[.int .i64 r.kind, .int .i64 r.tx, .int .i64 r.region, .slice a r.sets.length cap] 41)).alloc (.cells #[.bool false, .slice none 0 0, .slice none 0 0, .slice none 0 0] 28) := ⟨_, rfl⟩
  have b0 : Below w.heap.size w W := by subst hW; exact (((Below.refl _ _).alloc (Nat.le_refl _) _).alloc (by simp) _).alloc (by simp; omega) _
  have s0 : W.heap.size = w.heap.size + 3 := by subst hW; simp
  have x0 : BA w.heap.size m.alive (.slice ac m.copies.length cc) (.slice al m.log.length cl) (.slice ad m.cleared.length cd) r (.slice a r.sets.length cap) W := by subst hW; exact BA.made w m r ac cc al cl ad cd a cap
  have hm := specMachineOk_any W ⟨ac, cc, al, cl, ad, cd⟩ m hl.k hl.r hl.n hl.ks hl.rs (hs.later b0)
  simp only [MV.val] at hm
  have H : Hid (Below w.heap.size w W ∧ W.heap.size = w.heap.size + 3 ∧ BA w.heap.size m.alive (.slice ac m.copies.length cc) (.slice al m.log.length cl) (.slice ad m.cleared.length cd) r (.slice a r.sets.length cap) W ∧ SlM w ⟨ac, cc, al, cl, ad, cd⟩ m ∧ Sl w w.heap.size a r.sets.length r.sets ∧ r.sets.length ≤ maxLen) := ⟨b0, s0, x0, hs, hsr, hr⟩
  clear b0 s0 x0 hs hl hsr hr
  cases hB : machB m with
  | false =>
    rw [hB] at hm
    have HN : Hid (appM m r = zM ∧ appB m r = false) := ⟨by simp [appM, hB], by simp [appB, hB]⟩
    go_enter Tryz.func20, Tryz.ntmps20
    go_wp2_with fail
    rw [← hW]
    clear hW
    refine hm.mono ?_
    clear hm
    rintro e w1 ⟨rfl, b1⟩
    obtain ⟨z0, z1, z2, z3, zf⟩ := zeroBoxM (H.out.2.2.1.later b1).z
    have f0 := zf 0
    have f1 := zf 1
    have f2 := zf 2
    have f3 := zf 3
    have K := hidOf (H.out.1.trans (b1.mono H.out.1.size))
    clear zf
    clear b1
    go_wp2
    refine bodyPost_ret (v := .tuple #[.agg #[.bool false, .slice none 0 0, .slice none 0 0, .slice none 0 0], .bool false]) (by simp [results, Tryz.results20, go_sem, z0, z1, z2, z3]) rfl ?_
    rw [HN.out.1, HN.out.2]
    exact MAnsB.zero ((((K.out.setCell (p := ⟨w.heap.size + 2, _, none⟩) (by dsimp only; omega) _).setCell (p := ⟨w.heap.size + 2, _, none⟩) (by dsimp only; omega) _).setCell (p := ⟨w.heap.size + 2, _, none⟩) (by dsimp only; omega) _).setCell (p := ⟨w.heap.size + 2, _, none⟩) (by dsimp only; omega) _)
  | true =>
    rw [hB] at hm
    go_enter Tryz.func20, Tryz.ntmps20
    go_wp2_with fail
    rw [← hW]
    clear hW
    refine hm.mono ?_
    clear hm
    rintro e w1 ⟨rfl, b1⟩
    have K1 : Hid (Below w.heap.size w w1 ∧ BA w.heap.size m.alive (.slice ac m.copies.length cc) (.slice al m.log.length cl) (.slice ad m.cleared.length cd) r (.slice a r.sets.length cap) w1 ∧ Sl w1 w1.heap.size a r.sets.length r.sets ∧ SlM w1 ⟨ac, cc, al, cl, ad, cd⟩ m) := by
      have bb := H.out.1.trans (b1.mono H.out.1.size)
      exact ⟨bb, H.out.2.2.1.later b1, (H.out.2.2.2.2.1.below bb).mono bb.size, H.out.2.2.2.1.later bb⟩
    have hmx := H.out.2.2.2.2.2
    clear b1 H
    have hc := specRecordOk_any w1 r.kind r.tx r.region a r.sets.length cap r.sets hmx K1.out.2.2.1
    obtain ⟨-, -, -, -, q0, q1, q2, q3, -, -⟩ := K1.out.2.1
    go_wp2_with fail
    refine hc.mono ?_
    clear hc q0 q1 q2 q3
    rintro e w1' ⟨rfl, b1⟩
    have K2 : Hid (Below w.heap.size w w1' ∧ BA w.heap.size m.alive (.slice ac m.copies.length cc) (.slice al m.log.length cl) (.slice ad m.cleared.length cd) r (.slice a r.sets.length cap) w1' ∧ Sl w1' w1'.heap.size a r.sets.length r.sets ∧ SlM w1' ⟨ac, cc, al, cl, ad, cd⟩ m) := ⟨K1.out.1.trans (b1.mono K1.out.1.size), K1.out.2.1.later b1, (K1.out.2.2.1.below b1).mono b1.size, K1.out.2.2.2.later b1⟩
    clear b1 K1
    cases hR : recB r.kind r.tx r.region r.sets with
    | false =>
      have HN : Hid (appM m r = zM ∧ appB m r = false) := ⟨by simp [appM, hR], by simp [appB, hR]⟩
      obtain ⟨z0, z1, z2, z3, zf⟩ := zeroBoxM (K2.out.2.1).z
      have f0 := zf 0
      have f1 := zf 1
      have f2 := zf 2
      have f3 := zf 3
      have K := hidOf (K2.out.1)
      clear zf
      go_wp2
      refine bodyPost_ret (v := .tuple #[.agg #[.bool false, .slice none 0 0, .slice none 0 0, .slice none 0 0], .bool false]) (by simp [results, Tryz.results20, go_sem, z0, z1, z2, z3]) rfl ?_
      rw [HN.out.1, HN.out.2]
      exact MAnsB.zero ((((K.out.setCell (p := ⟨w.heap.size + 2, _, none⟩) (by dsimp only; omega) _).setCell (p := ⟨w.heap.size + 2, _, none⟩) (by dsimp only; omega) _).setCell (p := ⟨w.heap.size + 2, _, none⟩) (by dsimp only; omega) _).setCell (p := ⟨w.heap.size + 2, _, none⟩) (by dsimp only; omega) _)
    | true =>
      have p2 := K2.out.2.1.a2
      by_cases h2 : m.log.length = 200
      · have d2 : ((m.log.length : Int) == 200) = true := by simp; omega
        have HN : Hid (appM m r = zM ∧ appB m r = false) := ⟨by simp [appM, h2], by simp [appB, h2]⟩
        obtain ⟨z0, z1, z2, z3, zf⟩ := zeroBoxM (K2.out.2.1).z
        have f0 := zf 0
        have f1 := zf 1
        have f2 := zf 2
        have f3 := zf 3
        have K := hidOf (K2.out.1)
        clear zf
        go_wp2
        refine bodyPost_ret (v := .tuple #[.agg #[.bool false, .slice none 0 0, .slice none 0 0, .slice none 0 0], .bool false]) (by simp [results, Tryz.results20, go_sem, z0, z1, z2, z3]) rfl ?_
        rw [HN.out.1, HN.out.2]
        exact MAnsB.zero ((((K.out.setCell (p := ⟨w.heap.size + 2, _, none⟩) (by dsimp only; omega) _).setCell (p := ⟨w.heap.size + 2, _, none⟩) (by dsimp only; omega) _).setCell (p := ⟨w.heap.size + 2, _, none⟩) (by dsimp only; omega) _).setCell (p := ⟨w.heap.size + 2, _, none⟩) (by dsimp only; omega) _)
      · have d2 : ((m.log.length : Int) == 200) = false := by simp; omega
        have HN : Hid (appM m r = (⟨m.alive, m.copies, m.log ++ [r], m.cleared⟩ : M4) ∧ appB m r = true) := ⟨by simp [appM, hB, hR, h2], by simp [appB, hB, hR, h2]⟩
        have hS := hidOf (MSm.of_mach hB)
        have hrp := rec_pos hR
        have hc := l6Copy_any w1' ⟨ac, cc, al, cl, ad, cd⟩ m hS.out K2.out.2.2.2
        simp only [MV.val] at hc
        obtain ⟨a0, a1, a2, a3, -, -, -, -, -, -⟩ := K2.out.2.1
        go_wp2_with fail
        refine hc.mono ?_
        clear hc p2 d2 a0 a1 a2 a3
        rintro e w2 ⟨⟨uc, uk, ul, uj, ud, ui⟩, p, gk, gr, rfl, mr, b2⟩
        obtain ⟨W3, hW3⟩ : ∃ X, X = w2.alloc (.cells #[.bool m.alive, .slice uc m.copies.length uk, .slice ul m.log.length uj, .slice ud m.cleared.length ui] 28) := ⟨_, rfl⟩
        have b3 : Below w2.heap.size w2 W3 := by rw [hW3]; exact (Below.refl _ _).alloc (Nat.le_refl _) _
        have s3 : W3.heap.size = w2.heap.size + 1 := by rw [hW3]; simp
        have bb := b2.trans (b3.mono b2.size)
        have u0 : W3.cell? ⟨w2.heap.size, 0, none⟩ = some (.bool m.alive) := by rw [hW3]; go_simp
        have u1 : W3.cell? ⟨w2.heap.size, 1, none⟩ = some (.slice uc m.copies.length uk) := by rw [hW3]; go_simp
        have u2 : W3.cell? ⟨w2.heap.size, 2, none⟩ = some (.slice ul m.log.length uj) := by rw [hW3]; go_simp
        have u3 : W3.cell? ⟨w2.heap.size, 3, none⟩ = some (.slice ud m.cleared.length ui) := by rw [hW3]; go_simp
        have uf : W3.frozen? ⟨w2.heap.size, 2, none⟩ = false := by rw [hW3]; go_simp
        have x3 := K2.out.2.1.later bb
        have K3 : Hid (Below w.heap.size w W3 ∧ BA w.heap.size m.alive (.slice ac m.copies.length cc) (.slice al m.log.length cl) (.slice ad m.cleared.length cd) r (.slice a r.sets.length cap) W3 ∧ MR w1'.heap.size w2.heap.size W3 (.slice uc m.copies.length uk) (.slice ul m.log.length uj) (.slice ud m.cleared.length ui) m.copies m.log m.cleared gk gr ∧ w1'.heap.size ≤ w2.heap.size ∧ w.heap.size + 3 ≤ w1'.heap.size ∧ W3.heap.size = w2.heap.size + 1 ∧ Sl W3 W3.heap.size a r.sets.length r.sets) := ⟨K2.out.1.trans (bb.mono K2.out.1.size), x3, ((mr.mono (by omega)).out (.inr (Nat.le_refl _))).later b3, b2.size, by have := K2.out.2.1.lt; omega, s3, (K2.out.2.2.1.below bb).mono bb.size⟩
        clear mr b2 b3 bb s3
        go_upto_region 4 with fail
        rw [← hW3]
        clear hW3
        have bX : Below W3.heap.size W3 W3.drew := (Below.refl _ _).drew
        have hc := l6Record_any W3.drew r a cap hrp.1 (by omega) ((K3.out.2.2.2.2.2.2.below bX).mono bX.size)
        simp only [R4.val] at hc
        have hSof : ∀ Y : World, (∀ x, x < w.heap.size + 3 → Y.heap[x]? = W3.heap[x]?) → Y.heap[w2.heap.size]? = W3.heap[w2.heap.size]? → (fun X : World => X.cell? ⟨w2.heap.size, 2, none⟩ = some (.slice ul m.log.length uj) ∧ X.cell? ⟨w.heap.size + 1, 0, none⟩ = some (.int .i64 r.kind) ∧ X.cell? ⟨w.heap.size + 1, 1, none⟩ = some (.int .i64 r.tx) ∧ X.cell? ⟨w.heap.size + 1, 2, none⟩ = some (.int .i64 r.region) ∧ X.cell? ⟨w.heap.size + 1, 3, none⟩ = some (.slice a r.sets.length cap)) Y := fun Y h1 h2 =>
          ⟨(World.cell?_of_block (a := ⟨w2.heap.size, 2, none⟩) h2).trans u2, (World.cell?_of_block (a := ⟨w.heap.size + 1, 0, none⟩) (h1 (w.heap.size + 1) (by omega))).trans x3.r0, (World.cell?_of_block (a := ⟨w.heap.size + 1, 1, none⟩) (h1 (w.heap.size + 1) (by omega))).trans x3.r1, (World.cell?_of_block (a := ⟨w.heap.size + 1, 2, none⟩) (h1 (w.heap.size + 1) (by omega))).trans x3.r2, (World.cell?_of_block (a := ⟨w.heap.size + 1, 3, none⟩) (h1 (w.heap.size + 1) (by omega))).trans x3.r3⟩
        have hSX := hSof W3.drew (fun _ _ => rfl) rfl
        have KH : Hid ((∀ Y : World, (∀ x, x < w.heap.size + 3 → Y.heap[x]? = W3.heap[x]?) → Y.heap[w2.heap.size]? = W3.heap[w2.heap.size]? → (fun X : World => X.cell? ⟨w2.heap.size, 2, none⟩ = some (.slice ul m.log.length uj) ∧ X.cell? ⟨w.heap.size + 1, 0, none⟩ = some (.int .i64 r.kind) ∧ X.cell? ⟨w.heap.size + 1, 1, none⟩ = some (.int .i64 r.tx) ∧ X.cell? ⟨w.heap.size + 1, 2, none⟩ = some (.int .i64 r.region) ∧ X.cell? ⟨w.heap.size + 1, 3, none⟩ = some (.slice a r.sets.length cap)) Y) ∧ Below W3.heap.size W3 W3.drew ∧ W3.cell? ⟨w2.heap.size, 0, none⟩ = some (.bool m.alive) ∧ W3.cell? ⟨w2.heap.size, 1, none⟩ = some (.slice uc m.copies.length uk) ∧ W3.cell? ⟨w2.heap.size, 3, none⟩ = some (.slice ud m.cleared.length ui) ∧ W3.frozen? ⟨w2.heap.size, 2, none⟩ = false ∧ m.log.length ≤ 200) := ⟨hSof, bX, u0, u1, u3, uf, by have := hS.out.r; omega⟩
        clear hSof bX x3 u0 u1 u2 u3 uf
        refine wp_region_until 7 (fun X : World => X.cell? ⟨w2.heap.size, 2, none⟩ = some (.slice ul m.log.length uj) ∧ X.cell? ⟨w.heap.size + 1, 0, none⟩ = some (.int .i64 r.kind) ∧ X.cell? ⟨w.heap.size + 1, 1, none⟩ = some (.int .i64 r.tx) ∧ X.cell? ⟨w.heap.size + 1, 2, none⟩ = some (.int .i64 r.region) ∧ X.cell? ⟨w.heap.size + 1, 3, none⟩ = some (.slice a r.sets.length cap)) (by kernel_rfl) ?_
        generalize hXX : W3.drew = X at *
        clear hXX
        refine wpUntil_take (i := 0) (v := ?_) rfl (by kernel_rfl) (fun _ _ _ h => h) (Or.inl ⟨by rfl, ?_⟩) hSX ?_
        rotate_left
        · (intro w hSw; obtain ⟨sw1, sw2, sw3, sw4, sw5⟩ := hSw; go_simp; first | done | with_reducible rfl | exact sw1 | exact sw2 | exact sw3 | exact sw4 | exact sw5 | (rw [if_pos (by omega)]))
        simp only [Act.put]
        refine wpUntil_take (i := 1) (v := ?_) rfl (by kernel_rfl) (fun _ _ _ h => h) (Or.inl ⟨by rfl, ?_⟩) hSX ?_
        rotate_left
        · (intro w hSw; obtain ⟨sw1, sw2, sw3, sw4, sw5⟩ := hSw; go_simp; first | done | with_reducible rfl | exact sw1 | exact sw2 | exact sw3 | exact sw4 | exact sw5 | (rw [if_pos (by omega)]))
        simp only [Act.put]
        refine wpUntil_take (i := 2) (v := ?_) rfl (by kernel_rfl) (fun _ _ _ h => h) (Or.inl ⟨by rfl, ?_⟩) hSX ?_
        rotate_left
        · (intro w hSw; obtain ⟨sw1, sw2, sw3, sw4, sw5⟩ := hSw; go_simp; first | done | with_reducible rfl | exact sw1 | exact sw2 | exact sw3 | exact sw4 | exact sw5 | (rw [if_pos (by omega)]))
        simp only [Act.put]
        refine wpUntil_ready (rs := [3]) (by kernel_rfl) (by simp) ?_
        refine AllU.cons rfl (fun K hK => ?_) AllU.nil
        go_simp
        refine hc.mono ?_
        clear hc
        rintro e X2 ⟨q, cp, rfl, hq1, hq2, hq3, hq4, b2⟩
        obtain ⟨hSof, bX, u0, u1, u3, uf, hlog⟩ := KH.out
        obtain ⟨k1, k2, k3, k4, k5, k6, -⟩ := K3.out
        have bX2 : Below W3.heap.size W3 X2 := bX.trans (b2.mono bX.size)
        have hS2 := hSof X2 (fun x hx => bX2.block x (by omega)) (bX2.block _ (by omega))
        have b3 : Below X2.heap.size X2 (X2.alloc (.cells #[.int .i64 r.kind, .int .i64 r.tx, .int .i64 r.region, .slice (some ⟨q, 0, none⟩) r.sets.length cp] 41)) := (Below.refl _ _).alloc (Nat.le_refl _) _
        have s3 : (X2.alloc (.cells #[.int .i64 r.kind, .int .i64 r.tx, .int .i64 r.region, .slice (some ⟨q, 0, none⟩) r.sets.length cp] 41)).heap.size = X2.heap.size + 1 := by simp
        have bX3 : Below W3.heap.size W3 (X2.alloc (.cells #[.int .i64 r.kind, .int .i64 r.tx, .int .i64 r.region, .slice (some ⟨q, 0, none⟩) r.sets.length cp] 41)) := bX2.trans (b3.mono bX2.size)
        have hS3 := hSof (X2.alloc (.cells #[.int .i64 r.kind, .int .i64 r.tx, .int .i64 r.region, .slice (some ⟨q, 0, none⟩) r.sets.length cp] 41)) (fun x hx => bX3.block x (by omega)) (bX3.block _ (by omega))
        obtain ⟨v', Y, hr, hmr', hgr, hol⟩ := k3.pushR bX3 (by omega) (by omega) r q cp X2.heap.size (by omega) 25 (by go_simp) (by go_simp) (by go_simp) (by go_simp) (AtR.of_block _ _ _ _ (b3.block q hq2) hq4) hq3 (by have := bX.size; omega) (by omega)
        have hfar : ∀ x, x = w2.heap.size ∨ x < w.heap.size + 3 → Y.heap[x]? = W3.heap[x]? := fun x hx => (hgr.block x (by have := bX3.size; omega) (fun e => by have := hol x e.symm; omega)).trans (bX3.block x (by omega))
        have hS4 := hSof Y (fun x hx => hfar x (by omega)) (hfar _ (.inl rfl))
        have hlk : (m.log ++ [r]).length = m.log.length + 1 := by simp
        obtain ⟨yb, yc, rfl, -⟩ := GrowG.own (hd := hdR) (sz := 4) (fun _ => rfl) hmr'.gR (fun e => by rw [e] at hlk; simp at hlk)
        rw [hlk] at hr hmr'
        have o2 := hS4.1
        have fo2 := (World.frozen?_of_block (a := ⟨w2.heap.size, 2, none⟩) (hfar _ (.inl rfl))).trans uf
        have eb := hfar w2.heap.size (.inl rfl)
        have KE : Hid (BA w.heap.size m.alive (.slice ac m.copies.length cc) (.slice al m.log.length cl) (.slice ad m.cleared.length cd) r (.slice a r.sets.length cap) (Y.setCell ⟨w2.heap.size, 2, none⟩ (.slice (some ⟨yb, 0, none⟩) (m.log.length + 1) yc)) ∧ MR w1'.heap.size w2.heap.size (Y.setCell ⟨w2.heap.size, 2, none⟩ (.slice (some ⟨yb, 0, none⟩) (m.log.length + 1) yc)) (.slice uc m.copies.length uk) (.slice (some ⟨yb, 0, none⟩) (m.log.length + 1) yc) (.slice ud m.cleared.length ui) m.copies (m.log ++ [r]) m.cleared gk (fun i => if i = m.log.length then q else gr i) ∧ Below w.heap.size w (Y.setCell ⟨w2.heap.size, 2, none⟩ (.slice (some ⟨yb, 0, none⟩) (m.log.length + 1) yc)) ∧ (Y.setCell ⟨w2.heap.size, 2, none⟩ (.slice (some ⟨yb, 0, none⟩) (m.log.length + 1) yc)).cell? ⟨w2.heap.size, 0, none⟩ = some (.bool m.alive) ∧ (Y.setCell ⟨w2.heap.size, 2, none⟩ (.slice (some ⟨yb, 0, none⟩) (m.log.length + 1) yc)).cell? ⟨w2.heap.size, 1, none⟩ = some (.slice uc m.copies.length uk) ∧ (Y.setCell ⟨w2.heap.size, 2, none⟩ (.slice (some ⟨yb, 0, none⟩) (m.log.length + 1) yc)).cell? ⟨w2.heap.size, 2, none⟩ = some (.slice (some ⟨yb, 0, none⟩) (m.log.length + 1) yc) ∧ (Y.setCell ⟨w2.heap.size, 2, none⟩ (.slice (some ⟨yb, 0, none⟩) (m.log.length + 1) yc)).cell? ⟨w2.heap.size, 3, none⟩ = some (.slice ud m.cleared.length ui) ∧ w.heap.size + 3 ≤ w1'.heap.size) :=
          ⟨(k2.keep (Nat.le_trans bX3.size hgr.size) (fun x hx => hfar x (.inr hx))).keep (by simp [World.setCell]) (fun x hx => Below.heap_setCell _ _ _ _ (by show x ≠ w2.heap.size; omega)), hmr'.set, ((k1.trans (bX3.mono (by omega))).grown hgr (by have := bX3.size; omega) (fun x e => by have := hol x e; omega)).setCell (p := ⟨w2.heap.size, 2, none⟩) (by show w.heap.size ≤ w2.heap.size; omega) _, (cell_set_other (by omega)).trans ((World.cell?_of_block (a := ⟨w2.heap.size, 0, none⟩) eb).trans u0), (cell_set_other (by omega)).trans ((World.cell?_of_block (a := ⟨w2.heap.size, 1, none⟩) eb).trans u1), cell_set_same o2, (cell_set_other (by omega)).trans ((World.cell?_of_block (a := ⟨w2.heap.size, 3, none⟩) eb).trans u3), k5⟩
        refine hK.out _ _ (fun _ => hS2) ?_
        clear hK K bX bX2 b3 s3 bX3 hmr' hgr hol hfar hlk hSX b2 hq1 hq2 hq3 hq4 KH hSof k1 k2 k3 k4 k5 k6 u0 u1 u3 uf eb K3
        refine wpUntil_ready (rs := [4]) (by kernel_rfl) (by simp) ?_
        refine AllU.cons rfl (fun K hK => ?_) AllU.nil
        go_simp
        refine hK.out _ _ (fun _ => hS3) ?_
        clear hK K
        clear hS2
        refine wpUntil_ready (rs := [5]) (by kernel_rfl) (by simp) ?_
        refine AllU.cons rfl (fun K hK => ?_) AllU.nil
        refine step_known _ rfl (.tmp 25) (.tmp 28) 25 rfl _ _ _ _ (by first | rfl | simp [Act.eval, Act.put]) (by first | rfl | simp [Act.eval, Act.put]) hr ?_
        refine hK.out _ _ (fun _ => hS4) ?_
        clear hK K
        clear hr hS3
        simp only [Act.put]
        refine wpUntil_ready (rs := [6]) (by kernel_rfl) (by simp) ?_
        refine AllU.cons rfl (fun K hK => ?_) AllU.nil
        go_simp
        refine hK.out _ _ (fun _ => hS4) ?_
        clear hK K
        refine wpUntil_ready (rs := [7]) (by kernel_rfl) (by simp) ?_
        refine AllU.cons rfl (fun K hK => ?_) AllU.nil
        go_simp
        refine hK.out _ _ (fun h => absurd rfl h) ?_
        clear hK K
        refine wpUntil_done (by kernel_rfl) ?_ _
        clear o2 fo2 hS4
        generalize (Y.setCell ⟨w2.heap.size, 2, none⟩ (.slice (some ⟨yb, 0, none⟩) (m.log.length + 1) yc)) = Y1 at *
        obtain ⟨e1, -, -, y0, y1, y2, y3, -⟩ := KE.out
        obtain ⟨z0, z1, z2, z3, zf⟩ := zeroBoxM (e1).z
        have f0 := zf 0
        have f1 := zf 1
        have f2 := zf 2
        have f3 := zf 3
        have K := hidOf (KE.out.2.2.1)
        clear zf
        clear e1 K
        go_wp2
        refine bodyPost_ret (v := .tuple #[.agg #[.bool m.alive, .slice uc m.copies.length uk, .slice (some ⟨yb, 0, none⟩) (m.log.length + 1) yc, .slice ud m.cleared.length ui], .bool true]) (by simp [results, Tryz.results20, go_sem, z0, z1, z2, z3]) rfl ?_
        rw [HN.out.1, HN.out.2]
        obtain ⟨e1, e2, e3, -, -, -, -, e4⟩ := KE.out
        exact MAnsB.of (m := (⟨m.alive, m.copies, m.log ++ [r], m.cleared⟩ : M4)) (v := ⟨uc, uk, some ⟨yb, 0, none⟩, yc, ud, ui⟩) (b := w.heap.size + 2) rfl (by simp) rfl e2 e3 (by omega) (by omega)
end Go.Proofs.YtooalbdlknheeaaGreat
