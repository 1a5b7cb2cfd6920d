/- What the specification draws for Logged: some machine that can be read, and three numbers. -/
import Derived.Test.YtooalbdlknheeaaGreatRows
import Derived.Test.YtooalbdlknheeaaGreatDrwLJ
import Derived.WalkKit
import Derived.WalkSpells
import Derived.WalkLawsBesides
import Derived.Below
import Derived.Deep.CutRange
namespace Go.Proofs.YtooalbdlknheeaaGreat
open Go.RowKit
set_option maxHeartbeats 2000000 in
theorem l5DrawRegion_any (w : World) (B c : Nat) (a : Option Addr) (n k : Nat) (hcur : Cur w c a n k) (hb : Bytes w B a n) (hB : B ≤ c) :
    Calls Tryz.prog 48 #[.pointer (some ⟨c, 0, none⟩)] w fun e w' => ∃ x : Int, e = .returned (.int .i64 x) ∧ Cur w' c a n k ∧ Turned c w w' := by
  have KB : Hid (Bytes w B a n ∧ B ≤ w.heap.size ∧ c < w.heap.size) := ⟨hb, by have := hcur.lt; omega, hcur.lt⟩
  have BY : Hid (∀ w', Turned c w w' → Bytes w' B a n) := fun w' h => KB.out.1.below (h.below hB KB.out.2.1)
  have hc := l1Once_any w B c a n k 10 hcur hb hB (by omega)
  clear hcur hb
  go_enter Tryz.func48, Tryz.ntmps48
  go_wp2_with fail
  refine hc.mono ?_
  clear hc
  rintro e w1 ⟨u, rfl, c1, t1⟩
  have K1 : Hid (Cur w1 c a n k ∧ Turned c w w1) := ⟨c1, t1⟩
  clear c1 t1
  cases u
  · go_wp2_with fail
    refine (l1Below_any _ B c a n k _ K1.out.1 (BY.out _ K1.out.2) hB (by omega)).mono ?_
    rintro e w2 ⟨y, rfl, -, -, c2, t2⟩
    have K2 : Hid (Cur w2 c a n k ∧ Turned c w w2) := ⟨c2, K1.out.2.trans t2⟩
    clear c2 t2
    go_wp2
    go_ret
    exact ⟨_, rfl, K2.out.1, K2.out.2⟩
  · go_wp2_with fail
    have hw7 : c < w1.heap.size := K1.out.1.lt
    refine (l1Below_any _ B c a n k _ (K1.out.1.alloc _) (BY.out _ (K1.out.2.alloc _)) hB (by omega)).mono ?_
    rintro e w2 ⟨y, rfl, hy0, hyq, c2, t2⟩
    obtain ⟨q, rfl⟩ := Int.eq_ofNat_of_zero_le hy0
    obtain ⟨x, hx⟩ := new_in_turnedI [-1, 6, 4611686018427387904] _ hw7 t2 q (by simp; omega)
    have K2 : Hid (Cur w2 c a n k ∧ Turned c w w2) := ⟨c2, (K1.out.2.alloc _).trans t2⟩
    clear c2 t2
    go_wp2
    go_ret
    exact ⟨_, rfl, K2.out.1, K2.out.2⟩
/-- A machine that was drawn, and three numbers. -/
def DrawnL (w : World) (e : Ending) (w' : World) : Prop :=
  ∃ (v : MV) (d : M4) (x y z : Int), e = .returned (.tuple #[v.val d, .int .i64 x, .int .i64 y, .int .i64 z]) ∧ (∀ Y, w'.heap.size ≤ Y.heap.size → (∀ q, w.heap.size ≤ q → q < w'.heap.size → Y.heap[q]? = w'.heap[q]?) → SlM Y v d) ∧ ML d ∧ Below w.heap.size w w'
/-- The draw's own place: the answer's block, the machine's box, the cursor; the blocks from lo to Q stay. -/
structure LG (w w2 : World) (c Q lo : Nat) (a : Option Addr) (n k : Nat) (v : MV) (d : M4) (X : World) : Prop where
  z : X.heap[w.heap.size]? = some (.cells #[.bool false, .slice none 0 0, .slice none 0 0, .slice none 0 0] 28 (0, 0))
  s : (fun Y : World => Y.cell? ⟨Q, 0, none⟩ = some (.bool d.alive) ∧ Y.cell? ⟨Q, 1, none⟩ = some (.slice v.ac d.copies.length v.cc) ∧ Y.cell? ⟨Q, 2, none⟩ = some (.slice v.al d.log.length v.cl) ∧ Y.cell? ⟨Q, 3, none⟩ = some (.slice v.ad d.cleared.length v.cd)) X
  kp : ∀ q, lo < q → q < Q → X.heap[q]? = w2.heap[q]?
  cu : Cur X c a n k
  bl : Below w.heap.size w X
  lq : w.heap.size < c ∧ (c ≤ lo ∧ c < Q) ∧ lo ≤ Q ∧ Q < X.heap.size
theorem LG.step {w w2 : World} {c Q lo : Nat} {a : Option Addr} {n k : Nat} {v : MV} {d : M4} {X Y : World} (h : LG w w2 c Q lo a n k v d X) (hc : Cur Y c a n k) (ht : Turned c X Y) : LG w w2 c Q lo a n k v d Y := by
  obtain ⟨l1, l2, l3, l4⟩ := h.lq
  have hq : Q ≠ c := by omega
  obtain ⟨g0, g1, g2, g3⟩ := h.s
  exact ⟨(ht.block _ (by omega) (by omega)).trans h.z, ⟨(ht.cell (p := ⟨Q, 0, none⟩) l4 hq).trans g0, (ht.cell (p := ⟨Q, 1, none⟩) l4 hq).trans g1, (ht.cell (p := ⟨Q, 2, none⟩) l4 hq).trans g2, (ht.cell (p := ⟨Q, 3, none⟩) l4 hq).trans g3⟩, fun q h1 h2 => (ht.block q (by omega) (by omega)).trans (h.kp q h1 h2), hc, h.bl.trans (ht.below (by omega) (by omega)), ⟨l1, l2, l3, Nat.lt_of_lt_of_le l4 ht.size⟩⟩
/-- A block behind the machine's box is turned. -/
theorem LG.far {w w2 : World} {c Q lo : Nat} {a : Option Addr} {n k : Nat} {v : MV} {d : M4} {X : World} (h : LG w w2 c Q lo a n k v d X) {b : Nat} (hb : Q < b) (o : Nat) (u : Value) : LG w w2 c Q lo a n k v d (X.setCell ⟨b, o, none⟩ u) := by
  obtain ⟨l1, l2, l3, l4⟩ := h.lq
  have hc : ∀ j, (X.setCell ⟨b, o, none⟩ u).cell? ⟨Q, j, none⟩ = X.cell? ⟨Q, j, none⟩ := fun j => World.cell?_of_block (a := ⟨Q, j, none⟩) (Below.heap_setCell _ _ _ _ (by show Q ≠ b; omega))
  obtain ⟨g0, g1, g2, g3⟩ := h.s
  exact ⟨(Below.heap_setCell _ _ _ _ (by show w.heap.size ≠ b; omega)).trans h.z, ⟨(hc 0).trans g0, (hc 1).trans g1, (hc 2).trans g2, (hc 3).trans g3⟩, fun q h1 h2 => (Below.heap_setCell _ _ _ _ (by show q ≠ b; omega)).trans (h.kp q h1 h2), h.cu.put (by omega) _ _, h.bl.setCell (p := ⟨b, o, none⟩) (by show w.heap.size ≤ b; omega) _, ⟨l1, l2, l3, by simpa [World.setCell] using l4⟩⟩
/-- The machine and the numbers are answered. -/
theorem LG.fin {w w2 : World} {c Q lo : Nat} {a : Option Addr} {n k : Nat} {v : MV} {d : M4} {X : World} (h : LG w w2 c Q lo a n k v d X) (hsl : ∀ Y, Q ≤ Y.heap.size → (∀ q, lo < q → q < Q → Y.heap[q]? = w2.heap[q]?) → SlM Y v d) (hml : ML d) (x y z : Int) (x0 x1 x2 x3 : Value) :
    DrawnL w (.returned (.tuple #[v.val d, .int .i64 x, .int .i64 y, .int .i64 z])) ((((X.setCell ⟨w.heap.size, 0, none⟩ x0).setCell ⟨w.heap.size, 1, none⟩ x1).setCell ⟨w.heap.size, 2, none⟩ x2).setCell ⟨w.heap.size, 3, none⟩ x3) := by
  obtain ⟨l1, l2, l3, l4⟩ := h.lq
  refine ⟨v, d, x, y, z, rfl, fun Y hYs hY => hsl Y (by simp only [World.setCell, Array.size_modify] at hYs; omega) (fun q h1 h2 => (hY q (by omega) (by simp only [World.setCell, Array.size_modify]; omega)).trans ?_), hml, (((h.bl.setCell (p := ⟨w.heap.size, _, none⟩) (Nat.le_refl _) _).setCell (p := ⟨w.heap.size, _, none⟩) (Nat.le_refl _) _).setCell (p := ⟨w.heap.size, _, none⟩) (Nat.le_refl _) _).setCell (p := ⟨w.heap.size, _, none⟩) (Nat.le_refl _) _⟩
  have hq : q ≠ w.heap.size := by omega
  exact ((Below.heap_setCell _ _ _ _ hq).trans ((Below.heap_setCell _ _ _ _ hq).trans ((Below.heap_setCell _ _ _ _ hq).trans (Below.heap_setCell _ _ _ _ hq)))).trans (h.kp q h1 h2)
set_option maxRecDepth 100000 in
set_option maxHeartbeats 8000000 in
theorem DrawLogged_any (w : World) (a : Option Addr) (n k : Nat) (hb : Bytes w w.heap.size a n) (hn : n ≤ 4096) :
    Calls Tryz.prog 75 #[.slice a n k] w (DrawnL w) := by
  obtain ⟨W, hW⟩ : ∃ W, W = w.alloc (.cells #[.bool false, .slice none 0 0, .slice none 0 0, .slice none 0 0] 28) := ⟨_, rfl⟩
  have b0 : Below w.heap.size w W := by rw [hW]; exact (Below.refl _ _).alloc (Nat.le_refl _) _
  have z0 : W.heap[w.heap.size]? = some (.cells #[.bool false, .slice none 0 0, .slice none 0 0, .slice none 0 0] 28 (0, 0)) := by rw [hW]; exact heap_alloc_new w _
  have s0 : W.heap.size = w.heap.size + 1 := by rw [hW]; simp
  have hc := l1New_any W a n k ((hb.below b0).mono b0.size) hn
  have H : Hid (Below w.heap.size w W ∧ W.heap[w.heap.size]? = some (.cells #[.bool false, .slice none 0 0, .slice none 0 0, .slice none 0 0] 28 (0, 0)) ∧ W.heap.size = w.heap.size + 1 ∧ Bytes w w.heap.size a n) := ⟨b0, z0, s0, hb⟩
  clear b0 z0 s0 hb
  go_enter Tryz.func75, Tryz.ntmps75
  go_wp2_with fail
  rw [← hW]
  clear hW
  refine hc.mono ?_
  clear hc
  rintro e w1 ⟨c, rfl, hc1, hcu, b1⟩
  have BY : Hid (∀ Y, Below w.heap.size w Y → Bytes Y w.heap.size a n) := fun Y hY => H.out.2.2.2.below hY
  have hB : w.heap.size ≤ c := by have := H.out.2.2.1; omega
  have bw1 : Below w.heap.size w w1 := H.out.1.trans (b1.mono (by have := H.out.2.2.1; omega))
  have hc := l6Draw_any w1 w.heap.size c a n k hcu (BY.out _ bw1) hB
  have H1 : Hid (Below w.heap.size w w1 ∧ w1.heap[w.heap.size]? = some (.cells #[.bool false, .slice none 0 0, .slice none 0 0, .slice none 0 0] 28 (0, 0)) ∧ w.heap.size < c ∧ c < w1.heap.size) := ⟨bw1, (b1.block _ (by have := H.out.2.2.1; omega)).trans H.out.2.1, by have := H.out.2.2.1; omega, hcu.lt⟩
  clear bw1 b1 hcu hc1 H
  go_wp2_with fail
  refine hc.mono ?_
  clear hc
  rintro e w2 ⟨v, d, rfl, hsl, hml, c2, t2⟩
  simp only [MV.val]
  obtain ⟨X, hX⟩ : ∃ X, X = w2.alloc (.cells #[.bool d.alive, .slice v.ac d.copies.length v.cc, .slice v.al d.log.length v.cl, .slice v.ad d.cleared.length v.cd] 28) := ⟨_, rfl⟩
  obtain ⟨Q, hQ⟩ : ∃ Q, Q = w2.heap.size := ⟨_, rfl⟩
  obtain ⟨lo, hlo⟩ : ∃ Q, Q = w1.heap.size := ⟨_, rfl⟩
  have HSL : Hid ((∀ Y, Q ≤ Y.heap.size → (∀ q, lo < q → q < Q → Y.heap[q]? = w2.heap[q]?) → SlM Y v d) ∧ ML d) := ⟨by rw [hQ, hlo]; exact hsl, hml⟩
  have hlen : d.log.length ≤ maxLen := hml.r
  have KL : Hid (LG w w2 c Q lo a n k v d X) := by
    obtain ⟨h1, h2, h3, h4⟩ := H1.out
    have bX : Below w2.heap.size w2 X := by rw [hX]; exact (Below.refl _ _).alloc (Nat.le_refl _) _
    have hs2 := t2.size
    refine ⟨?_, ?_, fun q h5 h6 => bX.block q (by omega), by rw [hX]; exact c2.alloc _, ?_, ⟨h3, by omega, by omega, by rw [hX, hQ]; simp⟩⟩
    · exact (bX.block _ (by omega)).trans ((t2.block _ (by omega) (by omega)).trans h2)
    · rw [hX, hQ]; exact ⟨by go_simp, by go_simp, by go_simp, by go_simp⟩
    · exact (h1.trans (t2.below (by omega) (by omega))).trans (bX.mono (by omega))
  clear c2 t2 hsl hml H1
  obtain ⟨g0, g1, g2, g3⟩ := KL.out.s
  rw [hX] at g0 g1 g2 g3
  rw [hQ] at g0 g1 g2 g3
  by_cases hpos : 0 < d.log.length
  · have hgt : (0 : Int) < (d.log.length : Int) := by omega
    go_wp2_with fail
    rw [← hQ, ← hX]
    clear hX g0 g1 g2 g3
    refine (l1Once_any _ w.heap.size c a n k _ KL.out.cu (BY.out _ KL.out.bl) hB (by omega)).mono ?_
    rintro e w3 ⟨u, rfl, c3, t3⟩
    have KK : Hid (LG w w2 c Q lo a n k v d w3) := KL.out.step c3 t3
    clear c3 t3 KL hQ hlo
    cases u
    · have hs3 : SlM w3 v d := HSL.out.1 w3 (by have := KK.out.lq; omega) KK.out.kp
      obtain ⟨bl, ofl, eal⟩ : ∃ b off, v.al = some ⟨b, off, none⟩ := by
        obtain ⟨_, h2⟩ := hs3.r
        rcases h2 with h2 | ⟨b, off, e, _⟩
        · omega
        · exact ⟨b, off, e⟩
      have HREC : Hid (∀ Y, LG w w2 c Q lo a n k v d Y → ∀ i, i < d.log.length → RecAt Y Y.heap.size bl (ofl + i * 4) (atR d.log i)) := fun Y hY i hi => by
        obtain ⟨_, h2⟩ := (HSL.out.1 Y (by have := hY.lq; omega) hY.kp).r
        rcases h2 with h2 | ⟨b, off, e, _, hx⟩
        · omega
        · rw [eal] at e
          injection e with e
          injection e with e1 e2
          subst e1 e2
          exact hx i _ (atR_of hi)
      have td : Turned c w3 w3.drew := (Turned.refl _ _).drew
      have DD := hidOf (KK.out.step (Y := w3.drew) (KK.out.cu.drewN 1) td)
      have hS : (fun Y : World => Y.cell? ⟨Q, 0, none⟩ = some (.bool d.alive) ∧ Y.cell? ⟨Q, 1, none⟩ = some (.slice v.ac d.copies.length v.cc) ∧ Y.cell? ⟨Q, 2, none⟩ = some (.slice v.al d.log.length v.cl) ∧ Y.cell? ⟨Q, 3, none⟩ = some (.slice v.ad d.cleared.length v.cd)) w3.drew := DD.out.s
      go_wp2_with fail
      refine wp_region_z (fun z => z == 10) (fun Y : World => Y.cell? ⟨Q, 0, none⟩ = some (.bool d.alive) ∧ Y.cell? ⟨Q, 1, none⟩ = some (.slice v.ac d.copies.length v.cc) ∧ Y.cell? ⟨Q, 2, none⟩ = some (.slice v.al d.log.length v.cl) ∧ Y.cell? ⟨Q, 3, none⟩ = some (.slice v.ad d.cleared.length v.cd)) (by kernel_rfl) ?_
      generalize w3.drew = Xd at *
      clear td KK hs3
      refine wpZ_takeP (i := 0) (v := ?_) rfl (by kernel_rfl) (fun _ _ _ h => h) (Or.inl ⟨by rfl, ?_⟩) hS ?_
      rotate_left
      · (intro X _; go_simp; first | done | with_reducible rfl | (rw [if_pos (by omega)]) | (rw [if_pos (by omega)]; go_simp))
      simp only [Act.put]
      refine wpZ_take (i := 1) (v := ?_) rfl (by kernel_rfl) (fun _ _ _ h => h) (Or.inl ⟨by rfl, ?_⟩) hS ?_
      rotate_left
      · (intro X hSw; obtain ⟨g0, g1, g2, g3⟩ := hSw; go_simp; first | done | with_reducible rfl)
      simp only [Act.put]
      refine wpZ_takeP (i := 2) (v := ?_) rfl (by kernel_rfl) (fun _ _ _ h => h) (Or.inl ⟨by rfl, ?_⟩) hS ?_
      rotate_left
      · (intro X _; go_simp; first | done | with_reducible rfl | (rw [if_pos (by omega)]) | (rw [if_pos (by omega)]; go_simp))
      simp only [Act.put]
      refine wpZ_takeP (i := 3) (v := ?_) rfl (by kernel_rfl) (fun _ _ _ h => h) (Or.inl ⟨by rfl, ?_⟩) hS ?_
      rotate_left
      · (intro X _; go_simp; first | done | with_reducible rfl | (rw [if_pos (by omega)]) | (rw [if_pos (by omega)]; go_simp))
      simp only [Act.put]
      refine wpZ_take (i := 4) (v := ?_) rfl (by kernel_rfl) (fun _ _ _ h => h) (Or.inl ⟨by rfl, ?_⟩) hS ?_
      rotate_left
      · (intro X hSw; obtain ⟨g0, g1, g2, g3⟩ := hSw; go_simp; first | done | with_reducible rfl)
      simp only [Act.put]
      refine wpZ_takeP (i := 5) (v := ?_) rfl (by kernel_rfl) (fun _ _ _ h => h) (Or.inl ⟨by rfl, ?_⟩) hS ?_
      rotate_left
      · (intro X _; go_simp; first | done | with_reducible rfl | (rw [if_pos (by omega)]) | (rw [if_pos (by omega)]; go_simp))
      simp only [Act.put]
      have hq8 := DD.out.lq
      refine wpZ_ready (rs := [6, 9]) (by kernel_rfl) (by simp) ?_
      refine AllZ.cons rfl (fun K hK => ?_) (AllZ.cons rfl (fun K hK => ?_) AllZ.nil)
      · go_simp
        refine (l1Below_any _ w.heap.size c a n k _ DD.out.cu (BY.out _ DD.out.bl) hB (by omega)).mono ?_
        rintro e E1 ⟨y5, rfl, hy50, hy51, c2, t2⟩
        obtain ⟨q, rfl⟩ := Int.eq_ofNat_of_zero_le hy50
        have hql : q < d.log.length := by omega
        have hqi : (q : Int) < (d.log.length : Int) := by omega
        have DE1 := hidOf (DD.out.step c2 t2)
        refine hK.out _ _ (fun _ => DE1.out.s) ?_
        clear hK K hS
        clear c2 t2 hy50
        have hS := DE1.out.s
        refine wpZ_takeP (i := 7) (v := ?_) rfl (by kernel_rfl) (fun _ _ _ h => h) (Or.inl ⟨by rfl, ?_⟩) hS ?_
        rotate_left
        · (intro X _; go_simp; first | done | with_reducible rfl | (rw [if_pos (by omega)]) | (rw [if_pos (by omega)]; go_simp))
        simp only [Act.put]
        refine wpZ_ready (rs := [8, 9]) (by kernel_rfl) (by simp) ?_
        refine AllZ.cons rfl (fun K hK => ?_) (AllZ.cons rfl (fun K hK => ?_) AllZ.nil)
        · obtain ⟨p0, p1, p2, ar, cr, p3, -, -⟩ := HREC.out _ DE1.out q hql
          go_simp
          refine hK.out _ _ (fun _ => DE1.out.s) ?_
          clear hK K p0 p1 p2 p3
          refine wpZ_ready (rs := [9]) (by kernel_rfl) (by simp) ?_
          refine AllZ.cons rfl (fun K hK => ?_) AllZ.nil
          go_simp
          obtain ⟨E3, hE3⟩ : ∃ V, V = E1.alloc (.cells #[.int .i64 0, .int .i64 0, .int .i64 0, .slice none 0 0] 41) := ⟨_, rfl⟩
          have t9 : Turned c E1 E3 := by rw [hE3]; exact (Turned.refl _ _).alloc _
          have DE3 := hidOf (DE1.out.step (by rw [hE3]; exact DE1.out.cu.alloc _) t9)
          obtain ⟨R8, hR8⟩ : ∃ r, r = E1.heap.size := ⟨_, rfl⟩
          have HR8 : Hid (RecBox E3 R8 0 0 0 (.slice none 0 0) ∧ Q < R8 ∧ R8 < E3.heap.size) := ⟨by rw [hE3, hR8]; exact RecBox.new _ _ _ _ _ _, by have := DE1.out.lq; omega, by rw [hE3, hR8]; simp⟩
          refine hK.out _ _ (fun _ => by rw [← hE3]; exact DE3.out.s) ?_
          clear hK K hS t9
          rw [← hE3, ← hR8]
          clear hE3 hR8
          have hS := DE3.out.s
          obtain ⟨⟨f0, f1, f2, f3⟩, ff⟩ := HR8.out.1
          have ff0 := ff 0 (by omega)
          have ff1 := ff 1 (by omega)
          have ff2 := ff 2 (by omega)
          have ff3 := ff 3 (by omega)
          clear ff
          have KS : Hid (LG w w2 c Q lo a n k v d ((((E3.setCell ⟨R8, 0, none⟩ (.int .i64 (atR d.log q).kind)).setCell ⟨R8, 1, none⟩ (.int .i64 (atR d.log q).tx)).setCell ⟨R8, 2, none⟩ (.int .i64 (atR d.log q).region)).setCell ⟨R8, 3, none⟩ (.slice ar (atR d.log q).sets.length cr)) ∧ RecBox ((((E3.setCell ⟨R8, 0, none⟩ (.int .i64 (atR d.log q).kind)).setCell ⟨R8, 1, none⟩ (.int .i64 (atR d.log q).tx)).setCell ⟨R8, 2, none⟩ (.int .i64 (atR d.log q).region)).setCell ⟨R8, 3, none⟩ (.slice ar (atR d.log q).sets.length cr)) R8 (atR d.log q).kind (atR d.log q).tx (atR d.log q).region (.slice ar (atR d.log q).sets.length cr) ∧ Q < R8) :=
            ⟨(((DE3.out.far HR8.out.2.1 _ _).far HR8.out.2.1 _ _).far HR8.out.2.1 _ _).far HR8.out.2.1 _ _, (((HR8.out.1.put0 _).put1 _).put2 _).put3 _, HR8.out.2.1⟩
          refine wpZ_ready (rs := [10]) (by kernel_rfl) (by simp) ?_
          refine AllZ.cons rfl (fun K hK => ?_) AllZ.nil
          go_simp
          refine hK.out _ _ (fun h => absurd (show false = true from h.symm.trans (by kernel_rfl)) (by decide)) ?_
          clear hK K
          refine wpZ_done (by kernel_rfl) ?_ _
          clear f0 f1 f2 f3 ff0 ff1 ff2 ff3 HR8 hS DE3
          generalize ((((E3.setCell ⟨R8, 0, none⟩ (.int .i64 (atR d.log q).kind)).setCell ⟨R8, 1, none⟩ (.int .i64 (atR d.log q).tx)).setCell ⟨R8, 2, none⟩ (.int .i64 (atR d.log q).region)).setCell ⟨R8, 3, none⟩ (.slice ar (atR d.log q).sets.length cr)) = Y5 at *
          generalize atR d.log q = rr at *
          have hl5 := KS.out.1.lq
          have td : Turned c Y5 Y5.drew := (Turned.refl _ _).drew
          have D5 := hidOf (KS.out.1.step (Y := Y5.drew) (KS.out.1.cu.drewN 1) td)
          have hS : (fun Y : World => (Y.cell? ⟨Q, 0, none⟩ = some (.bool d.alive) ∧ Y.cell? ⟨Q, 1, none⟩ = some (.slice v.ac d.copies.length v.cc) ∧ Y.cell? ⟨Q, 2, none⟩ = some (.slice v.al d.log.length v.cl) ∧ Y.cell? ⟨Q, 3, none⟩ = some (.slice v.ad d.cleared.length v.cd)) ∧ Y.cell? ⟨R8, 0, none⟩ = some (.int .i64 rr.kind) ∧ Y.cell? ⟨R8, 1, none⟩ = some (.int .i64 rr.tx) ∧ Y.cell? ⟨R8, 2, none⟩ = some (.int .i64 rr.region)) Y5.drew := ⟨D5.out.s, KS.out.2.1.1.1, KS.out.2.1.1.2.1, KS.out.2.1.1.2.2.1⟩
          go_wp2_with fail
          refine wp_region_z (fun _ => false) (fun Y : World => (Y.cell? ⟨Q, 0, none⟩ = some (.bool d.alive) ∧ Y.cell? ⟨Q, 1, none⟩ = some (.slice v.ac d.copies.length v.cc) ∧ Y.cell? ⟨Q, 2, none⟩ = some (.slice v.al d.log.length v.cl) ∧ Y.cell? ⟨Q, 3, none⟩ = some (.slice v.ad d.cleared.length v.cd)) ∧ Y.cell? ⟨R8, 0, none⟩ = some (.int .i64 rr.kind) ∧ Y.cell? ⟨R8, 1, none⟩ = some (.int .i64 rr.tx) ∧ Y.cell? ⟨R8, 2, none⟩ = some (.int .i64 rr.region)) (by kernel_rfl) ?_
          have HQR : Hid (w.heap.size < Q ∧ Q < R8) := ⟨by omega, KS.out.2.2⟩
          generalize Y5.drew = Yd at *
          clear td KS hl5
          refine wpZ_take (i := 0) (v := ?_) rfl (by kernel_rfl) (fun _ _ _ h => h) (Or.inl ⟨by rfl, ?_⟩) hS ?_
          rotate_left
          · (intro X hSw; obtain ⟨⟨g0, g1, g2, g3⟩, g4, g5, g6⟩ := hSw; go_simp; first | done | with_reducible rfl)
          simp only [Act.put]
          refine wpZ_takeP (i := 1) (v := ?_) rfl (by kernel_rfl) (fun _ _ _ h => h) (Or.inl ⟨by rfl, ?_⟩) hS ?_
          rotate_left
          · (intro X _; go_simp; first | done | with_reducible rfl | (rw [if_pos (by omega)]) | (rw [if_pos (by omega)]; go_simp))
          simp only [Act.put]
          refine wpZ_takeP (i := 3) (v := ?_) rfl (by kernel_rfl) (fun _ _ _ h => h) (Or.inl ⟨by rfl, ?_⟩) hS ?_
          rotate_left
          · (intro X _; go_simp; first | done | with_reducible rfl | (rw [if_pos (by omega)]) | (rw [if_pos (by omega)]; go_simp))
          simp only [Act.put]
          refine wpZ_takeP (i := 5) (v := ?_) rfl (by kernel_rfl) (fun _ _ _ h => h) (Or.inl ⟨by rfl, ?_⟩) hS ?_
          rotate_left
          · (intro X _; go_simp; first | done | with_reducible rfl | (rw [if_pos (by omega)]) | (rw [if_pos (by omega)]; go_simp))
          simp only [Act.put]
          refine wpZ_take (i := 2) (v := ?_) rfl (by kernel_rfl) (fun _ _ _ h => h) (Or.inl ⟨by rfl, ?_⟩) hS ?_
          rotate_left
          · (intro X hSw; obtain ⟨⟨g0, g1, g2, g3⟩, g4, g5, g6⟩ := hSw; go_simp; first | done | with_reducible rfl)
          simp only [Act.put]
          refine wpZ_take (i := 4) (v := ?_) rfl (by kernel_rfl) (fun _ _ _ h => h) (Or.inl ⟨by rfl, ?_⟩) hS ?_
          rotate_left
          · (intro X hSw; obtain ⟨⟨g0, g1, g2, g3⟩, g4, g5, g6⟩ := hSw; go_simp; first | done | with_reducible rfl)
          simp only [Act.put]
          refine wpZ_take (i := 6) (v := ?_) rfl (by kernel_rfl) (fun _ _ _ h => h) (Or.inl ⟨by rfl, ?_⟩) hS ?_
          rotate_left
          · (intro X hSw; obtain ⟨⟨g0, g1, g2, g3⟩, g4, g5, g6⟩ := hSw; go_simp; first | done | with_reducible rfl)
          simp only [Act.put]
          obtain ⟨z0, z1, z2, z3, zf⟩ := zeroBoxM D5.out.z
          have f0 := zf 0
          have f1 := zf 1
          have f2 := zf 2
          have f3 := zf 3
          clear zf
          have hS7 : Hid ((fun Y : World => (Y.cell? ⟨Q, 0, none⟩ = some (.bool d.alive) ∧ Y.cell? ⟨Q, 1, none⟩ = some (.slice v.ac d.copies.length v.cc) ∧ Y.cell? ⟨Q, 2, none⟩ = some (.slice v.al d.log.length v.cl) ∧ Y.cell? ⟨Q, 3, none⟩ = some (.slice v.ad d.cleared.length v.cd)) ∧ Y.cell? ⟨R8, 0, none⟩ = some (.int .i64 rr.kind) ∧ Y.cell? ⟨R8, 1, none⟩ = some (.int .i64 rr.tx) ∧ Y.cell? ⟨R8, 2, none⟩ = some (.int .i64 rr.region)) ((((Yd.setCell ⟨w.heap.size, 0, none⟩ (.bool d.alive)).setCell ⟨w.heap.size, 1, none⟩ (.slice v.ac d.copies.length v.cc)).setCell ⟨w.heap.size, 2, none⟩ (.slice (some ⟨bl, ofl, none⟩) d.log.length v.cl)).setCell ⟨w.heap.size, 3, none⟩ (.slice v.ad d.cleared.length v.cd))) := by
            have hq := HQR.out
            have e : ∀ b j, w.heap.size < b → ((((Yd.setCell ⟨w.heap.size, 0, none⟩ (.bool d.alive)).setCell ⟨w.heap.size, 1, none⟩ (.slice v.ac d.copies.length v.cc)).setCell ⟨w.heap.size, 2, none⟩ (.slice (some ⟨bl, ofl, none⟩) d.log.length v.cl)).setCell ⟨w.heap.size, 3, none⟩ (.slice v.ad d.cleared.length v.cd)).cell? ⟨b, j, none⟩ = Yd.cell? ⟨b, j, none⟩ := fun b j hb => by
              have hne : b ≠ w.heap.size := by omega
              exact World.cell?_of_block (a := ⟨b, j, none⟩) ((Below.heap_setCell _ _ _ _ hne).trans ((Below.heap_setCell _ _ _ _ hne).trans ((Below.heap_setCell _ _ _ _ hne).trans (Below.heap_setCell _ _ _ _ hne))))
            obtain ⟨⟨h1, h2, h3, h4⟩, h5, h6, h7⟩ := hS
            exact ⟨⟨(e _ _ (by omega)).trans h1, (e _ _ (by omega)).trans h2, (e _ _ (by omega)).trans h3, (e _ _ (by omega)).trans h4⟩, (e _ _ (by omega)).trans h5, (e _ _ (by omega)).trans h6, (e _ _ (by omega)).trans h7⟩
          clear hS
          refine wpZ_ready (rs := [7]) (by kernel_rfl) (by simp) ?_
          refine AllZ.cons rfl (fun K hK => ?_) AllZ.nil
          go_simp
          refine hK.out _ _ (fun _ => hS7.out) ?_
          clear hK K
          refine wpZ_ready (rs := [8]) (by kernel_rfl) (by simp) ?_
          refine AllZ.cons rfl (fun K hK => ?_) AllZ.nil
          go_simp
          refine hK.out _ _ (fun _ => hS7.out) ?_
          clear hK K
          refine wpZ_ready (rs := [9]) (by kernel_rfl) (by simp) ?_
          refine AllZ.cons rfl (fun K hK => ?_) AllZ.nil
          go_simp
          refine hK.out _ _ (fun _ => hS7.out) ?_
          clear hK K
          refine wpZ_ready (rs := [10]) (by kernel_rfl) (by simp) ?_
          refine AllZ.cons rfl (fun K hK => ?_) AllZ.nil
          go_simp
          refine hK.out _ _ (fun _ => hS7.out) ?_
          clear hK K
          refine wpZ_done (by kernel_rfl) ?_ _
          go_wp2
          refine bodyPost_ret (v := .tuple #[v.val d, .int .i64 rr.tx, .int .i64 rr.region, .int .i64 rr.kind]) (by simp [results, Tryz.results75, go_sem, z0, z1, z2, z3, MV.val, eal]) rfl ?_
          exact LG.fin D5.out HSL.out.1 HSL.out.2 _ _ _ _ _ _ _
        · go_simp
          obtain ⟨E4, hE4⟩ : ∃ V, V = E1.alloc (.cells #[.int .i64 0, .int .i64 0, .int .i64 0, .slice none 0 0] 41) := ⟨_, rfl⟩
          have t9 : Turned c E1 E4 := by rw [hE4]; exact (Turned.refl _ _).alloc _
          have DE4 := hidOf (DE1.out.step (by rw [hE4]; exact DE1.out.cu.alloc _) t9)
          obtain ⟨R8, hR8⟩ : ∃ r, r = E1.heap.size := ⟨_, rfl⟩
          have HR8 : Hid (RecBox E4 R8 0 0 0 (.slice none 0 0) ∧ Q < R8 ∧ R8 < E4.heap.size) := ⟨by rw [hE4, hR8]; exact RecBox.new _ _ _ _ _ _, by have := DE1.out.lq; omega, by rw [hE4, hR8]; simp⟩
          refine hK.out _ _ (fun _ => by rw [← hE4]; exact DE4.out.s) ?_
          clear hK K hS t9
          rw [← hE4, ← hR8]
          clear hE4 hR8
          have hS := DE4.out.s
          refine wpZ_ready (rs := [8]) (by kernel_rfl) (by simp) ?_
          refine AllZ.cons rfl (fun K hK => ?_) AllZ.nil
          obtain ⟨p0, p1, p2, ar, cr, p3, -, -⟩ := HREC.out _ DE4.out q hql
          go_simp
          refine hK.out _ _ (fun _ => DE4.out.s) ?_
          clear hK K p0 p1 p2 p3
          obtain ⟨⟨f0, f1, f2, f3⟩, ff⟩ := HR8.out.1
          have ff0 := ff 0 (by omega)
          have ff1 := ff 1 (by omega)
          have ff2 := ff 2 (by omega)
          have ff3 := ff 3 (by omega)
          clear ff
          have KS : Hid (LG w w2 c Q lo a n k v d ((((E4.setCell ⟨R8, 0, none⟩ (.int .i64 (atR d.log q).kind)).setCell ⟨R8, 1, none⟩ (.int .i64 (atR d.log q).tx)).setCell ⟨R8, 2, none⟩ (.int .i64 (atR d.log q).region)).setCell ⟨R8, 3, none⟩ (.slice ar (atR d.log q).sets.length cr)) ∧ RecBox ((((E4.setCell ⟨R8, 0, none⟩ (.int .i64 (atR d.log q).kind)).setCell ⟨R8, 1, none⟩ (.int .i64 (atR d.log q).tx)).setCell ⟨R8, 2, none⟩ (.int .i64 (atR d.log q).region)).setCell ⟨R8, 3, none⟩ (.slice ar (atR d.log q).sets.length cr)) R8 (atR d.log q).kind (atR d.log q).tx (atR d.log q).region (.slice ar (atR d.log q).sets.length cr) ∧ Q < R8) :=
            ⟨(((DE4.out.far HR8.out.2.1 _ _).far HR8.out.2.1 _ _).far HR8.out.2.1 _ _).far HR8.out.2.1 _ _, (((HR8.out.1.put0 _).put1 _).put2 _).put3 _, HR8.out.2.1⟩
          refine wpZ_ready (rs := [10]) (by kernel_rfl) (by simp) ?_
          refine AllZ.cons rfl (fun K hK => ?_) AllZ.nil
          go_simp
          refine hK.out _ _ (fun h => absurd (show false = true from h.symm.trans (by kernel_rfl)) (by decide)) ?_
          clear hK K
          refine wpZ_done (by kernel_rfl) ?_ _
          clear f0 f1 f2 f3 ff0 ff1 ff2 ff3 HR8 hS DE4
          generalize ((((E4.setCell ⟨R8, 0, none⟩ (.int .i64 (atR d.log q).kind)).setCell ⟨R8, 1, none⟩ (.int .i64 (atR d.log q).tx)).setCell ⟨R8, 2, none⟩ (.int .i64 (atR d.log q).region)).setCell ⟨R8, 3, none⟩ (.slice ar (atR d.log q).sets.length cr)) = Y5 at *
          generalize atR d.log q = rr at *
          have hl5 := KS.out.1.lq
          have td : Turned c Y5 Y5.drew := (Turned.refl _ _).drew
          have D5 := hidOf (KS.out.1.step (Y := Y5.drew) (KS.out.1.cu.drewN 1) td)
          have hS : (fun Y : World => (Y.cell? ⟨Q, 0, none⟩ = some (.bool d.alive) ∧ Y.cell? ⟨Q, 1, none⟩ = some (.slice v.ac d.copies.length v.cc) ∧ Y.cell? ⟨Q, 2, none⟩ = some (.slice v.al d.log.length v.cl) ∧ Y.cell? ⟨Q, 3, none⟩ = some (.slice v.ad d.cleared.length v.cd)) ∧ Y.cell? ⟨R8, 0, none⟩ = some (.int .i64 rr.kind) ∧ Y.cell? ⟨R8, 1, none⟩ = some (.int .i64 rr.tx) ∧ Y.cell? ⟨R8, 2, none⟩ = some (.int .i64 rr.region)) Y5.drew := ⟨D5.out.s, KS.out.2.1.1.1, KS.out.2.1.1.2.1, KS.out.2.1.1.2.2.1⟩
          go_wp2_with fail
          refine wp_region_z (fun _ => false) (fun Y : World => (Y.cell? ⟨Q, 0, none⟩ = some (.bool d.alive) ∧ Y.cell? ⟨Q, 1, none⟩ = some (.slice v.ac d.copies.length v.cc) ∧ Y.cell? ⟨Q, 2, none⟩ = some (.slice v.al d.log.length v.cl) ∧ Y.cell? ⟨Q, 3, none⟩ = some (.slice v.ad d.cleared.length v.cd)) ∧ Y.cell? ⟨R8, 0, none⟩ = some (.int .i64 rr.kind) ∧ Y.cell? ⟨R8, 1, none⟩ = some (.int .i64 rr.tx) ∧ Y.cell? ⟨R8, 2, none⟩ = some (.int .i64 rr.region)) (by kernel_rfl) ?_
          have HQR : Hid (w.heap.size < Q ∧ Q < R8) := ⟨by omega, KS.out.2.2⟩
          generalize Y5.drew = Yd at *
          clear td KS hl5
          refine wpZ_take (i := 0) (v := ?_) rfl (by kernel_rfl) (fun _ _ _ h => h) (Or.inl ⟨by rfl, ?_⟩) hS ?_
          rotate_left
          · (intro X hSw; obtain ⟨⟨g0, g1, g2, g3⟩, g4, g5, g6⟩ := hSw; go_simp; first | done | with_reducible rfl)
          simp only [Act.put]
          refine wpZ_takeP (i := 1) (v := ?_) rfl (by kernel_rfl) (fun _ _ _ h => h) (Or.inl ⟨by rfl, ?_⟩) hS ?_
          rotate_left
          · (intro X _; go_simp; first | done | with_reducible rfl | (rw [if_pos (by omega)]) | (rw [if_pos (by omega)]; go_simp))
          simp only [Act.put]
          refine wpZ_takeP (i := 3) (v := ?_) rfl (by kernel_rfl) (fun _ _ _ h => h) (Or.inl ⟨by rfl, ?_⟩) hS ?_
          rotate_left
          · (intro X _; go_simp; first | done | with_reducible rfl | (rw [if_pos (by omega)]) | (rw [if_pos (by omega)]; go_simp))
          simp only [Act.put]
          refine wpZ_takeP (i := 5) (v := ?_) rfl (by kernel_rfl) (fun _ _ _ h => h) (Or.inl ⟨by rfl, ?_⟩) hS ?_
          rotate_left
          · (intro X _; go_simp; first | done | with_reducible rfl | (rw [if_pos (by omega)]) | (rw [if_pos (by omega)]; go_simp))
          simp only [Act.put]
          refine wpZ_take (i := 2) (v := ?_) rfl (by kernel_rfl) (fun _ _ _ h => h) (Or.inl ⟨by rfl, ?_⟩) hS ?_
          rotate_left
          · (intro X hSw; obtain ⟨⟨g0, g1, g2, g3⟩, g4, g5, g6⟩ := hSw; go_simp; first | done | with_reducible rfl)
          simp only [Act.put]
          refine wpZ_take (i := 4) (v := ?_) rfl (by kernel_rfl) (fun _ _ _ h => h) (Or.inl ⟨by rfl, ?_⟩) hS ?_
          rotate_left
          · (intro X hSw; obtain ⟨⟨g0, g1, g2, g3⟩, g4, g5, g6⟩ := hSw; go_simp; first | done | with_reducible rfl)
          simp only [Act.put]
          refine wpZ_take (i := 6) (v := ?_) rfl (by kernel_rfl) (fun _ _ _ h => h) (Or.inl ⟨by rfl, ?_⟩) hS ?_
          rotate_left
          · (intro X hSw; obtain ⟨⟨g0, g1, g2, g3⟩, g4, g5, g6⟩ := hSw; go_simp; first | done | with_reducible rfl)
          simp only [Act.put]
          obtain ⟨z0, z1, z2, z3, zf⟩ := zeroBoxM D5.out.z
          have f0 := zf 0
          have f1 := zf 1
          have f2 := zf 2
          have f3 := zf 3
          clear zf
          have hS7 : Hid ((fun Y : World => (Y.cell? ⟨Q, 0, none⟩ = some (.bool d.alive) ∧ Y.cell? ⟨Q, 1, none⟩ = some (.slice v.ac d.copies.length v.cc) ∧ Y.cell? ⟨Q, 2, none⟩ = some (.slice v.al d.log.length v.cl) ∧ Y.cell? ⟨Q, 3, none⟩ = some (.slice v.ad d.cleared.length v.cd)) ∧ Y.cell? ⟨R8, 0, none⟩ = some (.int .i64 rr.kind) ∧ Y.cell? ⟨R8, 1, none⟩ = some (.int .i64 rr.tx) ∧ Y.cell? ⟨R8, 2, none⟩ = some (.int .i64 rr.region)) ((((Yd.setCell ⟨w.heap.size, 0, none⟩ (.bool d.alive)).setCell ⟨w.heap.size, 1, none⟩ (.slice v.ac d.copies.length v.cc)).setCell ⟨w.heap.size, 2, none⟩ (.slice (some ⟨bl, ofl, none⟩) d.log.length v.cl)).setCell ⟨w.heap.size, 3, none⟩ (.slice v.ad d.cleared.length v.cd))) := by
            have hq := HQR.out
            have e : ∀ b j, w.heap.size < b → ((((Yd.setCell ⟨w.heap.size, 0, none⟩ (.bool d.alive)).setCell ⟨w.heap.size, 1, none⟩ (.slice v.ac d.copies.length v.cc)).setCell ⟨w.heap.size, 2, none⟩ (.slice (some ⟨bl, ofl, none⟩) d.log.length v.cl)).setCell ⟨w.heap.size, 3, none⟩ (.slice v.ad d.cleared.length v.cd)).cell? ⟨b, j, none⟩ = Yd.cell? ⟨b, j, none⟩ := fun b j hb => by
              have hne : b ≠ w.heap.size := by omega
              exact World.cell?_of_block (a := ⟨b, j, none⟩) ((Below.heap_setCell _ _ _ _ hne).trans ((Below.heap_setCell _ _ _ _ hne).trans ((Below.heap_setCell _ _ _ _ hne).trans (Below.heap_setCell _ _ _ _ hne))))
            obtain ⟨⟨h1, h2, h3, h4⟩, h5, h6, h7⟩ := hS
            exact ⟨⟨(e _ _ (by omega)).trans h1, (e _ _ (by omega)).trans h2, (e _ _ (by omega)).trans h3, (e _ _ (by omega)).trans h4⟩, (e _ _ (by omega)).trans h5, (e _ _ (by omega)).trans h6, (e _ _ (by omega)).trans h7⟩
          clear hS
          refine wpZ_ready (rs := [7]) (by kernel_rfl) (by simp) ?_
          refine AllZ.cons rfl (fun K hK => ?_) AllZ.nil
          go_simp
          refine hK.out _ _ (fun _ => hS7.out) ?_
          clear hK K
          refine wpZ_ready (rs := [8]) (by kernel_rfl) (by simp) ?_
          refine AllZ.cons rfl (fun K hK => ?_) AllZ.nil
          go_simp
          refine hK.out _ _ (fun _ => hS7.out) ?_
          clear hK K
          refine wpZ_ready (rs := [9]) (by kernel_rfl) (by simp) ?_
          refine AllZ.cons rfl (fun K hK => ?_) AllZ.nil
          go_simp
          refine hK.out _ _ (fun _ => hS7.out) ?_
          clear hK K
          refine wpZ_ready (rs := [10]) (by kernel_rfl) (by simp) ?_
          refine AllZ.cons rfl (fun K hK => ?_) AllZ.nil
          go_simp
          refine hK.out _ _ (fun _ => hS7.out) ?_
          clear hK K
          refine wpZ_done (by kernel_rfl) ?_ _
          go_wp2
          refine bodyPost_ret (v := .tuple #[v.val d, .int .i64 rr.tx, .int .i64 rr.region, .int .i64 rr.kind]) (by simp [results, Tryz.results75, go_sem, z0, z1, z2, z3, MV.val, eal]) rfl ?_
          exact LG.fin D5.out HSL.out.1 HSL.out.2 _ _ _ _ _ _ _
      · go_simp
        obtain ⟨E6, hE6⟩ : ∃ V, V = Xd.alloc (.cells #[.int .i64 0, .int .i64 0, .int .i64 0, .slice none 0 0] 41) := ⟨_, rfl⟩
        have t9 : Turned c Xd E6 := by rw [hE6]; exact (Turned.refl _ _).alloc _
        have DE6 := hidOf (DD.out.step (by rw [hE6]; exact DD.out.cu.alloc _) t9)
        obtain ⟨R8, hR8⟩ : ∃ r, r = Xd.heap.size := ⟨_, rfl⟩
        have HR8 : Hid (RecBox E6 R8 0 0 0 (.slice none 0 0) ∧ Q < R8 ∧ R8 < E6.heap.size) := ⟨by rw [hE6, hR8]; exact RecBox.new _ _ _ _ _ _, by have := DD.out.lq; omega, by rw [hE6, hR8]; simp⟩
        refine hK.out _ _ (fun _ => by rw [← hE6]; exact DE6.out.s) ?_
        clear hK K hS t9
        rw [← hE6, ← hR8]
        clear hE6 hR8
        have hS := DE6.out.s
        refine wpZ_ready (rs := [6]) (by kernel_rfl) (by simp) ?_
        refine AllZ.cons rfl (fun K hK => ?_) AllZ.nil
        go_simp
        refine (l1Below_any _ w.heap.size c a n k _ DE6.out.cu (BY.out _ DE6.out.bl) hB (by omega)).mono ?_
        rintro e E7 ⟨y5, rfl, hy50, hy51, c2, t2⟩
        obtain ⟨q, rfl⟩ := Int.eq_ofNat_of_zero_le hy50
        have hql : q < d.log.length := by omega
        have hqi : (q : Int) < (d.log.length : Int) := by omega
        have DE7 := hidOf (DE6.out.step c2 t2)
        refine hK.out _ _ (fun _ => DE7.out.s) ?_
        clear hK K hS
        have HR8 : Hid (RecBox E7 R8 0 0 0 (.slice none 0 0) ∧ Q < R8 ∧ R8 < E7.heap.size) := ⟨HR8.out.1.turned t2 HR8.out.2.2 (by have := HR8.out.2.1; omega), HR8.out.2.1, Nat.lt_of_lt_of_le HR8.out.2.2 t2.size⟩
        clear c2 t2 hy50
        have hS := DE7.out.s
        refine wpZ_takeP (i := 7) (v := ?_) rfl (by kernel_rfl) (fun _ _ _ h => h) (Or.inl ⟨by rfl, ?_⟩) hS ?_
        rotate_left
        · (intro X _; go_simp; first | done | with_reducible rfl | (rw [if_pos (by omega)]) | (rw [if_pos (by omega)]; go_simp))
        simp only [Act.put]
        refine wpZ_ready (rs := [8]) (by kernel_rfl) (by simp) ?_
        refine AllZ.cons rfl (fun K hK => ?_) AllZ.nil
        obtain ⟨p0, p1, p2, ar, cr, p3, -, -⟩ := HREC.out _ DE7.out q hql
        go_simp
        refine hK.out _ _ (fun _ => DE7.out.s) ?_
        clear hK K p0 p1 p2 p3
        obtain ⟨⟨f0, f1, f2, f3⟩, ff⟩ := HR8.out.1
        have ff0 := ff 0 (by omega)
        have ff1 := ff 1 (by omega)
        have ff2 := ff 2 (by omega)
        have ff3 := ff 3 (by omega)
        clear ff
        have KS : Hid (LG w w2 c Q lo a n k v d ((((E7.setCell ⟨R8, 0, none⟩ (.int .i64 (atR d.log q).kind)).setCell ⟨R8, 1, none⟩ (.int .i64 (atR d.log q).tx)).setCell ⟨R8, 2, none⟩ (.int .i64 (atR d.log q).region)).setCell ⟨R8, 3, none⟩ (.slice ar (atR d.log q).sets.length cr)) ∧ RecBox ((((E7.setCell ⟨R8, 0, none⟩ (.int .i64 (atR d.log q).kind)).setCell ⟨R8, 1, none⟩ (.int .i64 (atR d.log q).tx)).setCell ⟨R8, 2, none⟩ (.int .i64 (atR d.log q).region)).setCell ⟨R8, 3, none⟩ (.slice ar (atR d.log q).sets.length cr)) R8 (atR d.log q).kind (atR d.log q).tx (atR d.log q).region (.slice ar (atR d.log q).sets.length cr) ∧ Q < R8) :=
          ⟨(((DE7.out.far HR8.out.2.1 _ _).far HR8.out.2.1 _ _).far HR8.out.2.1 _ _).far HR8.out.2.1 _ _, (((HR8.out.1.put0 _).put1 _).put2 _).put3 _, HR8.out.2.1⟩
        refine wpZ_ready (rs := [10]) (by kernel_rfl) (by simp) ?_
        refine AllZ.cons rfl (fun K hK => ?_) AllZ.nil
        go_simp
        refine hK.out _ _ (fun h => absurd (show false = true from h.symm.trans (by kernel_rfl)) (by decide)) ?_
        clear hK K
        refine wpZ_done (by kernel_rfl) ?_ _
        clear f0 f1 f2 f3 ff0 ff1 ff2 ff3 HR8 hS DE7
        generalize ((((E7.setCell ⟨R8, 0, none⟩ (.int .i64 (atR d.log q).kind)).setCell ⟨R8, 1, none⟩ (.int .i64 (atR d.log q).tx)).setCell ⟨R8, 2, none⟩ (.int .i64 (atR d.log q).region)).setCell ⟨R8, 3, none⟩ (.slice ar (atR d.log q).sets.length cr)) = Y5 at *
        generalize atR d.log q = rr at *
        have hl5 := KS.out.1.lq
        have td : Turned c Y5 Y5.drew := (Turned.refl _ _).drew
        have D5 := hidOf (KS.out.1.step (Y := Y5.drew) (KS.out.1.cu.drewN 1) td)
        have hS : (fun Y : World => (Y.cell? ⟨Q, 0, none⟩ = some (.bool d.alive) ∧ Y.cell? ⟨Q, 1, none⟩ = some (.slice v.ac d.copies.length v.cc) ∧ Y.cell? ⟨Q, 2, none⟩ = some (.slice v.al d.log.length v.cl) ∧ Y.cell? ⟨Q, 3, none⟩ = some (.slice v.ad d.cleared.length v.cd)) ∧ Y.cell? ⟨R8, 0, none⟩ = some (.int .i64 rr.kind) ∧ Y.cell? ⟨R8, 1, none⟩ = some (.int .i64 rr.tx) ∧ Y.cell? ⟨R8, 2, none⟩ = some (.int .i64 rr.region)) Y5.drew := ⟨D5.out.s, KS.out.2.1.1.1, KS.out.2.1.1.2.1, KS.out.2.1.1.2.2.1⟩
        go_wp2_with fail
        refine wp_region_z (fun _ => false) (fun Y : World => (Y.cell? ⟨Q, 0, none⟩ = some (.bool d.alive) ∧ Y.cell? ⟨Q, 1, none⟩ = some (.slice v.ac d.copies.length v.cc) ∧ Y.cell? ⟨Q, 2, none⟩ = some (.slice v.al d.log.length v.cl) ∧ Y.cell? ⟨Q, 3, none⟩ = some (.slice v.ad d.cleared.length v.cd)) ∧ Y.cell? ⟨R8, 0, none⟩ = some (.int .i64 rr.kind) ∧ Y.cell? ⟨R8, 1, none⟩ = some (.int .i64 rr.tx) ∧ Y.cell? ⟨R8, 2, none⟩ = some (.int .i64 rr.region)) (by kernel_rfl) ?_
        have HQR : Hid (w.heap.size < Q ∧ Q < R8) := ⟨by omega, KS.out.2.2⟩
        generalize Y5.drew = Yd at *
        clear td KS hl5
        refine wpZ_take (i := 0) (v := ?_) rfl (by kernel_rfl) (fun _ _ _ h => h) (Or.inl ⟨by rfl, ?_⟩) hS ?_
        rotate_left
        · (intro X hSw; obtain ⟨⟨g0, g1, g2, g3⟩, g4, g5, g6⟩ := hSw; go_simp; first | done | with_reducible rfl)
        simp only [Act.put]
        refine wpZ_takeP (i := 1) (v := ?_) rfl (by kernel_rfl) (fun _ _ _ h => h) (Or.inl ⟨by rfl, ?_⟩) hS ?_
        rotate_left
        · (intro X _; go_simp; first | done | with_reducible rfl | (rw [if_pos (by omega)]) | (rw [if_pos (by omega)]; go_simp))
        simp only [Act.put]
        refine wpZ_takeP (i := 3) (v := ?_) rfl (by kernel_rfl) (fun _ _ _ h => h) (Or.inl ⟨by rfl, ?_⟩) hS ?_
        rotate_left
        · (intro X _; go_simp; first | done | with_reducible rfl | (rw [if_pos (by omega)]) | (rw [if_pos (by omega)]; go_simp))
        simp only [Act.put]
        refine wpZ_takeP (i := 5) (v := ?_) rfl (by kernel_rfl) (fun _ _ _ h => h) (Or.inl ⟨by rfl, ?_⟩) hS ?_
        rotate_left
        · (intro X _; go_simp; first | done | with_reducible rfl | (rw [if_pos (by omega)]) | (rw [if_pos (by omega)]; go_simp))
        simp only [Act.put]
        refine wpZ_take (i := 2) (v := ?_) rfl (by kernel_rfl) (fun _ _ _ h => h) (Or.inl ⟨by rfl, ?_⟩) hS ?_
        rotate_left
        · (intro X hSw; obtain ⟨⟨g0, g1, g2, g3⟩, g4, g5, g6⟩ := hSw; go_simp; first | done | with_reducible rfl)
        simp only [Act.put]
        refine wpZ_take (i := 4) (v := ?_) rfl (by kernel_rfl) (fun _ _ _ h => h) (Or.inl ⟨by rfl, ?_⟩) hS ?_
        rotate_left
        · (intro X hSw; obtain ⟨⟨g0, g1, g2, g3⟩, g4, g5, g6⟩ := hSw; go_simp; first | done | with_reducible rfl)
        simp only [Act.put]
        refine wpZ_take (i := 6) (v := ?_) rfl (by kernel_rfl) (fun _ _ _ h => h) (Or.inl ⟨by rfl, ?_⟩) hS ?_
        rotate_left
        · (intro X hSw; obtain ⟨⟨g0, g1, g2, g3⟩, g4, g5, g6⟩ := hSw; go_simp; first | done | with_reducible rfl)
        simp only [Act.put]
        obtain ⟨z0, z1, z2, z3, zf⟩ := zeroBoxM D5.out.z
        have f0 := zf 0
        have f1 := zf 1
        have f2 := zf 2
        have f3 := zf 3
        clear zf
        have hS7 : Hid ((fun Y : World => (Y.cell? ⟨Q, 0, none⟩ = some (.bool d.alive) ∧ Y.cell? ⟨Q, 1, none⟩ = some (.slice v.ac d.copies.length v.cc) ∧ Y.cell? ⟨Q, 2, none⟩ = some (.slice v.al d.log.length v.cl) ∧ Y.cell? ⟨Q, 3, none⟩ = some (.slice v.ad d.cleared.length v.cd)) ∧ Y.cell? ⟨R8, 0, none⟩ = some (.int .i64 rr.kind) ∧ Y.cell? ⟨R8, 1, none⟩ = some (.int .i64 rr.tx) ∧ Y.cell? ⟨R8, 2, none⟩ = some (.int .i64 rr.region)) ((((Yd.setCell ⟨w.heap.size, 0, none⟩ (.bool d.alive)).setCell ⟨w.heap.size, 1, none⟩ (.slice v.ac d.copies.length v.cc)).setCell ⟨w.heap.size, 2, none⟩ (.slice (some ⟨bl, ofl, none⟩) d.log.length v.cl)).setCell ⟨w.heap.size, 3, none⟩ (.slice v.ad d.cleared.length v.cd))) := by
          have hq := HQR.out
          have e : ∀ b j, w.heap.size < b → ((((Yd.setCell ⟨w.heap.size, 0, none⟩ (.bool d.alive)).setCell ⟨w.heap.size, 1, none⟩ (.slice v.ac d.copies.length v.cc)).setCell ⟨w.heap.size, 2, none⟩ (.slice (some ⟨bl, ofl, none⟩) d.log.length v.cl)).setCell ⟨w.heap.size, 3, none⟩ (.slice v.ad d.cleared.length v.cd)).cell? ⟨b, j, none⟩ = Yd.cell? ⟨b, j, none⟩ := fun b j hb => by
            have hne : b ≠ w.heap.size := by omega
            exact World.cell?_of_block (a := ⟨b, j, none⟩) ((Below.heap_setCell _ _ _ _ hne).trans ((Below.heap_setCell _ _ _ _ hne).trans ((Below.heap_setCell _ _ _ _ hne).trans (Below.heap_setCell _ _ _ _ hne))))
          obtain ⟨⟨h1, h2, h3, h4⟩, h5, h6, h7⟩ := hS
          exact ⟨⟨(e _ _ (by omega)).trans h1, (e _ _ (by omega)).trans h2, (e _ _ (by omega)).trans h3, (e _ _ (by omega)).trans h4⟩, (e _ _ (by omega)).trans h5, (e _ _ (by omega)).trans h6, (e _ _ (by omega)).trans h7⟩
        clear hS
        refine wpZ_ready (rs := [7]) (by kernel_rfl) (by simp) ?_
        refine AllZ.cons rfl (fun K hK => ?_) AllZ.nil
        go_simp
        refine hK.out _ _ (fun _ => hS7.out) ?_
        clear hK K
        refine wpZ_ready (rs := [8]) (by kernel_rfl) (by simp) ?_
        refine AllZ.cons rfl (fun K hK => ?_) AllZ.nil
        go_simp
        refine hK.out _ _ (fun _ => hS7.out) ?_
        clear hK K
        refine wpZ_ready (rs := [9]) (by kernel_rfl) (by simp) ?_
        refine AllZ.cons rfl (fun K hK => ?_) AllZ.nil
        go_simp
        refine hK.out _ _ (fun _ => hS7.out) ?_
        clear hK K
        refine wpZ_ready (rs := [10]) (by kernel_rfl) (by simp) ?_
        refine AllZ.cons rfl (fun K hK => ?_) AllZ.nil
        go_simp
        refine hK.out _ _ (fun _ => hS7.out) ?_
        clear hK K
        refine wpZ_done (by kernel_rfl) ?_ _
        go_wp2
        refine bodyPost_ret (v := .tuple #[v.val d, .int .i64 rr.tx, .int .i64 rr.region, .int .i64 rr.kind]) (by simp [results, Tryz.results75, go_sem, z0, z1, z2, z3, MV.val, eal]) rfl ?_
        exact LG.fin D5.out HSL.out.1 HSL.out.2 _ _ _ _ _ _ _
    · go_wp2_with fail
      refine (l1Below_any _ w.heap.size c a n k _ KK.out.cu (BY.out _ KK.out.bl) hB (by omega)).mono ?_
      rintro e w4 ⟨y4, rfl, hy40, hy41, c4, t4⟩
      have K4 : Hid (LG w w2 c Q lo a n k v d w4) := KK.out.step c4 t4
      clear c4 t4 KK
      go_wp2_with fail
      refine (l5DrawRegion_any _ w.heap.size c a n k K4.out.cu (BY.out _ K4.out.bl) hB).mono ?_
      rintro e w5 ⟨r5, rfl, c5, t5⟩
      have K5 : Hid (LG w w2 c Q lo a n k v d w5) := K4.out.step c5 t5
      clear c5 t5 K4
      have td : Turned c w5 w5.drew := (Turned.refl _ _).drew
      have DD := hidOf (K5.out.step (Y := w5.drew) (K5.out.cu.drewN 1) td)
      have hS : (fun Y : World => Y.cell? ⟨Q, 0, none⟩ = some (.bool d.alive) ∧ Y.cell? ⟨Q, 1, none⟩ = some (.slice v.ac d.copies.length v.cc) ∧ Y.cell? ⟨Q, 2, none⟩ = some (.slice v.al d.log.length v.cl) ∧ Y.cell? ⟨Q, 3, none⟩ = some (.slice v.ad d.cleared.length v.cd)) w5.drew := DD.out.s
      go_wp2_with fail
      refine wp_region_z (fun z => decide (6 ≤ z)) (fun Y : World => Y.cell? ⟨Q, 0, none⟩ = some (.bool d.alive) ∧ Y.cell? ⟨Q, 1, none⟩ = some (.slice v.ac d.copies.length v.cc) ∧ Y.cell? ⟨Q, 2, none⟩ = some (.slice v.al d.log.length v.cl) ∧ Y.cell? ⟨Q, 3, none⟩ = some (.slice v.ad d.cleared.length v.cd)) (by kernel_rfl) ?_
      generalize w5.drew = Xd at *
      clear td K5
      refine wpZ_take (i := 0) (v := ?_) rfl (by kernel_rfl) (fun _ _ _ h => h) (Or.inl ⟨by rfl, ?_⟩) hS ?_
      rotate_left
      · (intro X hSw; obtain ⟨g0, g1, g2, g3⟩ := hSw; go_simp; first | done | with_reducible rfl)
      simp only [Act.put]
      refine wpZ_takeP (i := 1) (v := ?_) rfl (by kernel_rfl) (fun _ _ _ h => h) (Or.inl ⟨by rfl, ?_⟩) hS ?_
      rotate_left
      · (intro X _; go_simp; first | done | with_reducible rfl | (rw [if_pos (by omega)]) | (rw [if_pos (by omega)]; go_simp))
      simp only [Act.put]
      refine wpZ_takeP (i := 2) (v := ?_) rfl (by kernel_rfl) (fun _ _ _ h => h) (Or.inl ⟨by rfl, ?_⟩) hS ?_
      rotate_left
      · (intro X _; go_simp; first | done | with_reducible rfl | (rw [if_pos (by omega)]) | (rw [if_pos (by omega)]; go_simp))
      simp only [Act.put]
      refine wpZ_takeP (i := 3) (v := ?_) rfl (by kernel_rfl) (fun _ _ _ h => h) (Or.inl ⟨by rfl, ?_⟩) hS ?_
      rotate_left
      · (intro X _; go_simp; first | done | with_reducible rfl | (rw [if_pos (by omega)]) | (rw [if_pos (by omega)]; go_simp))
      simp only [Act.put]
      refine wpZ_ready (rs := [4]) (by kernel_rfl) (by simp) ?_
      refine AllZ.cons rfl (fun K hK => ?_) AllZ.nil
      go_simp
      refine (l1Below_any _ w.heap.size c a n k _ DD.out.cu (BY.out _ DD.out.bl) hB (by omega)).mono ?_
      rintro e w6 ⟨y6, rfl, hy60, hy61, c6, t6⟩
      have K6 : Hid (LG w w2 c Q lo a n k v d w6) := DD.out.step c6 t6
      refine hK.out _ _ (fun _ => K6.out.s) ?_
      clear hK K hS c6 t6 DD
      have hS := K6.out.s
      refine wpZ_takeP (i := 5) (v := ?_) rfl (by kernel_rfl) (fun _ _ _ h => h) (Or.inl ⟨by rfl, ?_⟩) hS ?_
      rotate_left
      · (intro X _; go_simp; first | done | with_reducible rfl | (rw [if_pos (by omega)]) | (rw [if_pos (by omega)]; go_simp))
      simp only [Act.put]
      obtain ⟨z0, z1, z2, z3, zf⟩ := zeroBoxM K6.out.z
      have f0 := zf 0
      have f1 := zf 1
      have f2 := zf 2
      have f3 := zf 3
      clear zf hS
      refine wpZ_ready (rs := [6]) (by kernel_rfl) (by simp) ?_
      refine AllZ.cons rfl (fun K hK => ?_) AllZ.nil
      go_simp
      refine hK.out _ _ (fun h => absurd (show false = true from h.symm.trans (by kernel_rfl)) (by decide)) ?_
      clear hK K
      refine wpZ_ready (rs := [7]) (by kernel_rfl) (by simp) ?_
      refine AllZ.cons rfl (fun K hK => ?_) AllZ.nil
      go_simp
      refine hK.out _ _ (fun h => absurd (show false = true from h.symm.trans (by kernel_rfl)) (by decide)) ?_
      clear hK K
      refine wpZ_ready (rs := [8]) (by kernel_rfl) (by simp) ?_
      refine AllZ.cons rfl (fun K hK => ?_) AllZ.nil
      go_simp
      refine hK.out _ _ (fun h => absurd (show false = true from h.symm.trans (by kernel_rfl)) (by decide)) ?_
      clear hK K
      refine wpZ_ready (rs := [9]) (by kernel_rfl) (by simp) ?_
      refine AllZ.cons rfl (fun K hK => ?_) AllZ.nil
      go_simp
      refine hK.out _ _ (fun h => absurd (show false = true from h.symm.trans (by kernel_rfl)) (by decide)) ?_
      clear hK K
      refine wpZ_done (by kernel_rfl) ?_ _
      go_wp2
      refine bodyPost_ret (v := .tuple #[v.val d, .int .i64 (1 + y4), .int .i64 r5, .int .i64 (IntKind.i64.wrap (1 + y6))]) (by simp [results, Tryz.results75, go_sem, z0, z1, z2, z3, MV.val]) rfl ?_
      exact LG.fin K6.out HSL.out.1 HSL.out.2 _ _ _ _ _ _ _
  · have hle : ¬ ((0 : Int) < (d.log.length : Int)) := by omega
    have KK := KL
    clear KL
    go_wp2_with fail
    rw [← hQ, ← hX]
    clear hX g0 g1 g2 g3 hQ hlo
    refine (l1Below_any _ w.heap.size c a n k _ KK.out.cu (BY.out _ KK.out.bl) hB (by omega)).mono ?_
    rintro e w4 ⟨y4, rfl, hy40, hy41, c4, t4⟩
    have K4 : Hid (LG w w2 c Q lo a n k v d w4) := KK.out.step c4 t4
    clear c4 t4 KK
    go_wp2_with fail
    refine (l5DrawRegion_any _ w.heap.size c a n k K4.out.cu (BY.out _ K4.out.bl) hB).mono ?_
    rintro e w5 ⟨r5, rfl, c5, t5⟩
    have K5 : Hid (LG w w2 c Q lo a n k v d w5) := K4.out.step c5 t5
    clear c5 t5 K4
    have td : Turned c w5 w5.drew := (Turned.refl _ _).drew
    have DD := hidOf (K5.out.step (Y := w5.drew) (K5.out.cu.drewN 1) td)
    have hS : (fun Y : World => Y.cell? ⟨Q, 0, none⟩ = some (.bool d.alive) ∧ Y.cell? ⟨Q, 1, none⟩ = some (.slice v.ac d.copies.length v.cc) ∧ Y.cell? ⟨Q, 2, none⟩ = some (.slice v.al d.log.length v.cl) ∧ Y.cell? ⟨Q, 3, none⟩ = some (.slice v.ad d.cleared.length v.cd)) w5.drew := DD.out.s
    go_wp2_with fail
    refine wp_region_z (fun z => decide (6 ≤ z)) (fun Y : World => Y.cell? ⟨Q, 0, none⟩ = some (.bool d.alive) ∧ Y.cell? ⟨Q, 1, none⟩ = some (.slice v.ac d.copies.length v.cc) ∧ Y.cell? ⟨Q, 2, none⟩ = some (.slice v.al d.log.length v.cl) ∧ Y.cell? ⟨Q, 3, none⟩ = some (.slice v.ad d.cleared.length v.cd)) (by kernel_rfl) ?_
    generalize w5.drew = Xd at *
    clear td K5
    refine wpZ_take (i := 0) (v := ?_) rfl (by kernel_rfl) (fun _ _ _ h => h) (Or.inl ⟨by rfl, ?_⟩) hS ?_
    rotate_left
    · (intro X hSw; obtain ⟨g0, g1, g2, g3⟩ := hSw; go_simp; first | done | with_reducible rfl)
    simp only [Act.put]
    refine wpZ_takeP (i := 1) (v := ?_) rfl (by kernel_rfl) (fun _ _ _ h => h) (Or.inl ⟨by rfl, ?_⟩) hS ?_
    rotate_left
    · (intro X _; go_simp; first | done | with_reducible rfl | (rw [if_pos (by omega)]) | (rw [if_pos (by omega)]; go_simp))
    simp only [Act.put]
    refine wpZ_takeP (i := 2) (v := ?_) rfl (by kernel_rfl) (fun _ _ _ h => h) (Or.inl ⟨by rfl, ?_⟩) hS ?_
    rotate_left
    · (intro X _; go_simp; first | done | with_reducible rfl | (rw [if_pos (by omega)]) | (rw [if_pos (by omega)]; go_simp))
    simp only [Act.put]
    refine wpZ_takeP (i := 3) (v := ?_) rfl (by kernel_rfl) (fun _ _ _ h => h) (Or.inl ⟨by rfl, ?_⟩) hS ?_
    rotate_left
    · (intro X _; go_simp; first | done | with_reducible rfl | (rw [if_pos (by omega)]) | (rw [if_pos (by omega)]; go_simp))
    simp only [Act.put]
    refine wpZ_ready (rs := [4]) (by kernel_rfl) (by simp) ?_
    refine AllZ.cons rfl (fun K hK => ?_) AllZ.nil
    go_simp
    refine (l1Below_any _ w.heap.size c a n k _ DD.out.cu (BY.out _ DD.out.bl) hB (by omega)).mono ?_
    rintro e w6 ⟨y6, rfl, hy60, hy61, c6, t6⟩
    have K6 : Hid (LG w w2 c Q lo a n k v d w6) := DD.out.step c6 t6
    refine hK.out _ _ (fun _ => K6.out.s) ?_
    clear hK K hS c6 t6 DD
    have hS := K6.out.s
    refine wpZ_takeP (i := 5) (v := ?_) rfl (by kernel_rfl) (fun _ _ _ h => h) (Or.inl ⟨by rfl, ?_⟩) hS ?_
    rotate_left
    · (intro X _; go_simp; first | done | with_reducible rfl | (rw [if_pos (by omega)]) | (rw [if_pos (by omega)]; go_simp))
    simp only [Act.put]
    obtain ⟨z0, z1, z2, z3, zf⟩ := zeroBoxM K6.out.z
    have f0 := zf 0
    have f1 := zf 1
    have f2 := zf 2
    have f3 := zf 3
    clear zf hS
    refine wpZ_ready (rs := [6]) (by kernel_rfl) (by simp) ?_
    refine AllZ.cons rfl (fun K hK => ?_) AllZ.nil
    go_simp
    refine hK.out _ _ (fun h => absurd (show false = true from h.symm.trans (by kernel_rfl)) (by decide)) ?_
    clear hK K
    refine wpZ_ready (rs := [7]) (by kernel_rfl) (by simp) ?_
    refine AllZ.cons rfl (fun K hK => ?_) AllZ.nil
    go_simp
    refine hK.out _ _ (fun h => absurd (show false = true from h.symm.trans (by kernel_rfl)) (by decide)) ?_
    clear hK K
    refine wpZ_ready (rs := [8]) (by kernel_rfl) (by simp) ?_
    refine AllZ.cons rfl (fun K hK => ?_) AllZ.nil
    go_simp
    refine hK.out _ _ (fun h => absurd (show false = true from h.symm.trans (by kernel_rfl)) (by decide)) ?_
    clear hK K
    refine wpZ_ready (rs := [9]) (by kernel_rfl) (by simp) ?_
    refine AllZ.cons rfl (fun K hK => ?_) AllZ.nil
    go_simp
    refine hK.out _ _ (fun h => absurd (show false = true from h.symm.trans (by kernel_rfl)) (by decide)) ?_
    clear hK K
    refine wpZ_done (by kernel_rfl) ?_ _
    go_wp2
    refine bodyPost_ret (v := .tuple #[v.val d, .int .i64 (1 + y4), .int .i64 r5, .int .i64 (IntKind.i64.wrap (1 + y6))]) (by simp [results, Tryz.results75, go_sem, z0, z1, z2, z3, MV.val]) rfl ?_
    exact LG.fin K6.out HSL.out.1 HSL.out.2 _ _ _ _ _ _ _
end Go.Proofs.YtooalbdlknheeaaGreat
