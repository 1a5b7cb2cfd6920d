/- TurnM; ToM: joined. -/
import Derived.Test.YtooalbdlknheeaaGreatRows
import Derived.Test.YtooalbdlknheeaaGreatJ26LawMachines
import Derived.Test.YtooalbdlknheeaaGreatCpyWJ
import Derived.WalkKit
import Derived.WalkSpells
import Derived.WalkLawsBesides
import Derived.Below
import Derived.Test.YtooalbdlknheeaaGreatJ9LawMachines
import Derived.Test.YtooalbdlknheeaaGreatMacTo4J
/- Turn over whole machines: what both sides turn, and the program's given. -/
namespace Go.Proofs.YtooalbdlknheeaaGreat
open Go.RowKit
set_option maxHeartbeats 1000000 in
theorem l6Turn_nil (w : World) (p : Nat) (a : Option Addr) (cap : Nat) (t g : Int) (hc : w.cell? ⟨p, 2, none⟩ = some (.slice a 0 cap)) :
    Calls Tryz.prog 82 #[.pointer (some ⟨p, 0, none⟩), .int .i64 t, .int .i64 g] w fun e w' => (∃ u, e = .returned u) ∧ w' = w := by
  go_enter Tryz.func82, Tryz.ntmps82
  go_wp2
  go_loop [6] (fun v => v = .int .i64 0) (fun _ => 0)
  case atStart => rfl
  case round =>
    obtain rfl := hrel
    go_wp2
    exact bodyPost_end (v := .tuple #[]) (by simp [results, Tryz.results82, go_sem]) rfl ⟨⟨_, rfl⟩, rfl⟩
theorem l6Turn_any (w : World) (p : Nat) (P : Nat → Prop) (a : Option Addr) (cap : Nat) (rs : List R4) (t g : Int) (hn : rs.length ≤ 1000) (hc : w.cell? ⟨p, 2, none⟩ = some (.slice a rs.length cap)) (hP : ¬ P p) (h : OwnL 4 hdR lnR AtR w P a rs) :
    Calls Tryz.prog 82 #[.pointer (some ⟨p, 0, none⟩), .int .i64 t, .int .i64 g] w fun e w' => (∃ u, e = .returned u) ∧ KeptP P w w' ∧ OwnL 4 hdR lnR AtR w' P a (rs.map (trR t g)) := by
  rcases h with rfl | ⟨b, gr, rfl, hb, hg, hbl, hr, ho⟩
  · refine (l6Turn_nil w p a cap t g hc).mono ?_
    rintro e w' ⟨hu, rfl⟩
    exact ⟨hu, KeptP.refl _ _, .inl rfl⟩
  · refine (l6Turn_some w p b cap rs gr t g hn hc (fun e => hP (e ▸ hb)) hbl hr ho).mono ?_
    rintro e w' ⟨hu, hk, hr', ho'⟩
    have hk : KeptP P w w' := KeptP.of_only hk hb
    exact ⟨hu, hk, .inr ⟨b, gr, rfl, hb, by rw [List.length_map]; exact hg, Nat.lt_of_lt_of_le hbl hk.size, by rw [List.length_map]; exact hr', by rw [List.length_map]; exact ho'⟩⟩
set_option maxHeartbeats 1000000 in
theorem turn_nil (w : World) (p : Nat) (a : Option Addr) (cap : Nat) (t g : Int) (hc : w.cell? ⟨p, 0, none⟩ = some (.slice a 0 cap)) :
    Calls Tryz.prog 81 #[.pointer (some ⟨p, 0, none⟩), .int .i64 t, .int .i64 g] w fun e w' => (∃ u, e = .returned u) ∧ w' = w := by
  go_enter Tryz.func81, Tryz.ntmps81
  go_wp2
  go_loop [13] (fun v => v = .int .i64 0) (fun _ => 0)
  case atStart => rfl
  case round =>
    obtain rfl := hrel
    go_wp2
    exact bodyPost_end (v := .tuple #[]) (by simp [results, Tryz.results81, go_sem]) rfl ⟨⟨_, rfl⟩, rfl⟩
theorem turn_any (w : World) (p : Nat) (P : Nat → Prop) (a : Option Addr) (cap : Nat) (rs : List R4) (t g : Int) (hn : rs.length ≤ 1000) (hc : w.cell? ⟨p, 0, none⟩ = some (.slice a rs.length cap)) (hpl : p < w.heap.size) (hP : ¬ P p) (h : OwnL 4 hdR lnR AtR w P a rs) :
    Calls Tryz.prog 81 #[.pointer (some ⟨p, 0, none⟩), .int .i64 t, .int .i64 g] w fun e w' => (∃ u, e = .returned u) ∧ KeptP P w w' ∧ OwnL 4 hdR lnR AtR w' P a (rs.map (trR t g)) := by
  rcases h with rfl | ⟨b, gr, rfl, hb, hg, hbl, hr, ho⟩
  · refine (turn_nil w p a cap t g hc).mono ?_
    rintro e w' ⟨hu, rfl⟩
    exact ⟨hu, KeptP.refl _ _, .inl rfl⟩
  · refine (turn_some w p b cap rs gr t g hn hc hpl (fun e => hP (e ▸ hb)) hbl hr ho).mono ?_
    rintro e w' ⟨hu, hk, hr', ho'⟩
    have hk : KeptP P w w' := hk.mono (fun q e => e ▸ hb)
    exact ⟨hu, hk, .inr ⟨b, gr, rfl, hb, by rw [List.length_map]; exact hg, Nat.lt_of_lt_of_le hbl hk.size, by rw [List.length_map]; exact hr', by rw [List.length_map]; exact ho'⟩⟩
def tM (t g : Int) (m : M4) : M4 := ⟨m.alive, m.copies, m.log.map (trR t g), m.cleared⟩
theorem OM.turn {w w' : World} {B : Nat} {v : MV} {m : M4} {PK PR PD : Nat → Prop} {t g : Int} (h : OM w B v m PK PR PD) (hk : KeptP PR w w') (hr : OwnL 4 hdR lnR AtR w' PR v.al (m.log.map (trR t g))) : OM w' B v (tM t g m) PK PR PD :=
  ⟨h.k.keep AtK.of_block hk.size (fun q hq hp => hk.block q hq (h.kr q hp)), hr, h.n.keep hk.size (fun q hq hp => hk.block q hq (fun e => h.rd q e hp)), h.kr, h.kd, h.rd, h.kB, h.rB, h.dB⟩
set_option maxRecDepth 100000 in
set_option maxHeartbeats 4000000 in
theorem given_any (w : World) (p : Nat) (alive : Bool) (al : Option Addr) (nl cl : Nat) (ac : Option Addr) (nc cc : Nat) (ad : Option Addr) (nd cd : Nat) (h0 : w.cell? ⟨p, 0, none⟩ = some (.slice al nl cl)) (h1 : w.cell? ⟨p, 1, none⟩ = some (.bool alive)) (h2 : w.cell? ⟨p, 2, none⟩ = some (.slice ac nc cc)) (h3 : w.cell? ⟨p, 3, none⟩ = some (.slice ad nd cd)) (hp : p < w.heap.size) :
    Calls Tryz.prog 54 #[.pointer (some ⟨p, 0, none⟩)] w fun e w' => e = .returned (.agg #[.bool alive, .slice ac nc cc, .slice al nl cl, .slice ad nd cd]) ∧ Below w.heap.size w w' := by
  obtain ⟨W, hW⟩ : ∃ W, W = (w.alloc (.cells #[.bool false, .slice none 0 0, .slice none 0 0, .slice none 0 0] 28)).drew := ⟨_, rfl⟩
  have bW : Below w.heap.size w W := by subst hW; exact ((Below.refl _ _).alloc (Nat.le_refl _) _).drew
  have hS : (fun X : World => X.cell? ⟨p, 0, none⟩ = some (.slice al nl cl) ∧ X.cell? ⟨p, 1, none⟩ = some (.bool alive) ∧ X.cell? ⟨p, 2, none⟩ = some (.slice ac nc cc) ∧ X.cell? ⟨p, 3, none⟩ = some (.slice ad nd cd)) W := ⟨(bW.cell (p := ⟨p, 0, none⟩) hp).trans h0, (bW.cell (p := ⟨p, 1, none⟩) hp).trans h1, (bW.cell (p := ⟨p, 2, none⟩) hp).trans h2, (bW.cell (p := ⟨p, 3, none⟩) hp).trans h3⟩
  have hz : W.heap[w.heap.size]? = some (.cells #[.bool false, .slice none 0 0, .slice none 0 0, .slice none 0 0] 28 (0, 0)) := by subst hW; exact heap_alloc_new w _
  obtain ⟨z0, z1, z2, z3, zf⟩ := zeroBoxM hz
  have f0 := zf 0
  have f1 := zf 1
  have f2 := zf 2
  have f3 := zf 3
  have KB := hidOf bW
  clear bW h0 h1 h2 h3 zf hz
  go_enter Tryz.func54, Tryz.ntmps54
  go_wp2_with fail
  refine wp_region_until 18 (fun X : World => X.cell? ⟨p, 0, none⟩ = some (.slice al nl cl) ∧ X.cell? ⟨p, 1, none⟩ = some (.bool alive) ∧ X.cell? ⟨p, 2, none⟩ = some (.slice ac nc cc) ∧ X.cell? ⟨p, 3, none⟩ = some (.slice ad nd cd)) (by kernel_rfl) ?_
  rw [← hW]
  clear hW
  refine wpUntil_take (i := 0) (v := ?_) rfl (by kernel_rfl) (fun _ _ _ h => h) (Or.inl ⟨by rfl, ?_⟩) hS ?_
  rotate_left
  · (intro w hSw; obtain ⟨sw1, sw2, sw3, sw4⟩ := hSw; go_simp; first | done | with_reducible rfl | exact sw1 | exact sw2 | exact sw3 | exact sw4)
  simp only [Act.put]
  refine wpUntil_take (i := 1) (v := ?_) rfl (by kernel_rfl) (fun _ _ _ h => h) (Or.inl ⟨by rfl, ?_⟩) hS ?_
  rotate_left
  · (intro w hSw; obtain ⟨sw1, sw2, sw3, sw4⟩ := hSw; go_simp; first | done | with_reducible rfl | exact sw1 | exact sw2 | exact sw3 | exact sw4)
  simp only [Act.put]
  refine wpUntil_take (i := 2) (v := ?_) rfl (by kernel_rfl) (fun _ _ _ h => h) (Or.inl ⟨by rfl, ?_⟩) hS ?_
  rotate_left
  · (intro w hSw; obtain ⟨sw1, sw2, sw3, sw4⟩ := hSw; go_simp; first | done | with_reducible rfl | exact sw1 | exact sw2 | exact sw3 | exact sw4)
  simp only [Act.put]
  refine wpUntil_take (i := 3) (v := ?_) rfl (by kernel_rfl) (fun _ _ _ h => h) (Or.inl ⟨by rfl, ?_⟩) hS ?_
  rotate_left
  · (intro w hSw; obtain ⟨sw1, sw2, sw3, sw4⟩ := hSw; go_simp; first | done | with_reducible rfl | exact sw1 | exact sw2 | exact sw3 | exact sw4)
  simp only [Act.put]
  refine wpUntil_take (i := 4) (v := ?_) rfl (by kernel_rfl) (fun _ _ _ h => h) (Or.inl ⟨by rfl, ?_⟩) hS ?_
  rotate_left
  · (intro w hSw; obtain ⟨sw1, sw2, sw3, sw4⟩ := hSw; go_simp; first | done | with_reducible rfl | exact sw1 | exact sw2 | exact sw3 | exact sw4)
  simp only [Act.put]
  refine wpUntil_take (i := 5) (v := ?_) rfl (by kernel_rfl) (fun _ _ _ h => h) (Or.inl ⟨by rfl, ?_⟩) hS ?_
  rotate_left
  · (intro w hSw; obtain ⟨sw1, sw2, sw3, sw4⟩ := hSw; go_simp; first | done | with_reducible rfl | exact sw1 | exact sw2 | exact sw3 | exact sw4)
  simp only [Act.put]
  refine wpUntil_take (i := 6) (v := ?_) rfl (by kernel_rfl) (fun _ _ _ h => h) (Or.inl ⟨by rfl, ?_⟩) hS ?_
  rotate_left
  · (intro w hSw; obtain ⟨sw1, sw2, sw3, sw4⟩ := hSw; go_simp; first | done | with_reducible rfl | exact sw1 | exact sw2 | exact sw3 | exact sw4)
  simp only [Act.put]
  refine wpUntil_take (i := 7) (v := ?_) rfl (by kernel_rfl) (fun _ _ _ h => h) (Or.inl ⟨by rfl, ?_⟩) hS ?_
  rotate_left
  · (intro w hSw; obtain ⟨sw1, sw2, sw3, sw4⟩ := hSw; go_simp; first | done | with_reducible rfl | exact sw1 | exact sw2 | exact sw3 | exact sw4)
  simp only [Act.put]
  refine wpUntil_take (i := 8) (v := ?_) rfl (by kernel_rfl) (fun _ _ _ h => h) (Or.inl ⟨by rfl, ?_⟩) hS ?_
  rotate_left
  · (intro w hSw; obtain ⟨sw1, sw2, sw3, sw4⟩ := hSw; go_simp; first | done | with_reducible rfl | exact sw1 | exact sw2 | exact sw3 | exact sw4)
  simp only [Act.put]
  refine wpUntil_take (i := 9) (v := ?_) rfl (by kernel_rfl) (fun _ _ _ h => h) (Or.inl ⟨by rfl, ?_⟩) hS ?_
  rotate_left
  · (intro w hSw; obtain ⟨sw1, sw2, sw3, sw4⟩ := hSw; go_simp; first | done | with_reducible rfl | exact sw1 | exact sw2 | exact sw3 | exact sw4)
  simp only [Act.put]
  refine wpUntil_take (i := 10) (v := ?_) rfl (by kernel_rfl) (fun _ _ _ h => h) (Or.inl ⟨by rfl, ?_⟩) hS ?_
  rotate_left
  · (intro w hSw; obtain ⟨sw1, sw2, sw3, sw4⟩ := hSw; go_simp; first | done | with_reducible rfl | exact sw1 | exact sw2 | exact sw3 | exact sw4)
  simp only [Act.put]
  refine wpUntil_take (i := 11) (v := ?_) rfl (by kernel_rfl) (fun _ _ _ h => h) (Or.inl ⟨by rfl, ?_⟩) hS ?_
  rotate_left
  · (intro w hSw; obtain ⟨sw1, sw2, sw3, sw4⟩ := hSw; go_simp; first | done | with_reducible rfl | exact sw1 | exact sw2 | exact sw3 | exact sw4)
  simp only [Act.put]
  refine wpUntil_take (i := 12) (v := ?_) rfl (by kernel_rfl) (fun _ _ _ h => h) (Or.inl ⟨by rfl, ?_⟩) hS ?_
  rotate_left
  · (intro w hSw; obtain ⟨sw1, sw2, sw3, sw4⟩ := hSw; go_simp; first | done | with_reducible rfl | exact sw1 | exact sw2 | exact sw3 | exact sw4)
  simp only [Act.put]
  refine wpUntil_take (i := 13) (v := ?_) rfl (by kernel_rfl) (fun _ _ _ h => h) (Or.inl ⟨by rfl, ?_⟩) hS ?_
  rotate_left
  · (intro w hSw; obtain ⟨sw1, sw2, sw3, sw4⟩ := hSw; go_simp; first | done | with_reducible rfl | exact sw1 | exact sw2 | exact sw3 | exact sw4)
  simp only [Act.put]
  refine wpUntil_take (i := 14) (v := ?_) rfl (by kernel_rfl) (fun _ _ _ h => h) (Or.inl ⟨by rfl, ?_⟩) hS ?_
  rotate_left
  · (intro w hSw; obtain ⟨sw1, sw2, sw3, sw4⟩ := hSw; go_simp; first | done | with_reducible rfl | exact sw1 | exact sw2 | exact sw3 | exact sw4)
  simp only [Act.put]
  refine wpUntil_take (i := 15) (v := ?_) rfl (by kernel_rfl) (fun _ _ _ h => h) (Or.inl ⟨by rfl, ?_⟩) hS ?_
  rotate_left
  · (intro w hSw; obtain ⟨sw1, sw2, sw3, sw4⟩ := hSw; go_simp; first | done | with_reducible rfl | exact sw1 | exact sw2 | exact sw3 | exact sw4)
  simp only [Act.put]
  refine wpUntil_take (i := 16) (v := ?_) rfl (by kernel_rfl) (fun _ _ _ h => h) (Or.inl ⟨by rfl, ?_⟩) hS ?_
  rotate_left
  · (intro w hSw; obtain ⟨sw1, sw2, sw3, sw4⟩ := hSw; go_simp; first | done | with_reducible rfl | exact sw1 | exact sw2 | exact sw3 | exact sw4)
  simp only [Act.put]
  refine wpUntil_take (i := 17) (v := ?_) rfl (by kernel_rfl) (fun _ _ _ h => h) (Or.inl ⟨by rfl, ?_⟩) hS ?_
  rotate_left
  · (intro w hSw; obtain ⟨sw1, sw2, sw3, sw4⟩ := hSw; go_simp; first | done | with_reducible rfl | exact sw1 | exact sw2 | exact sw3 | exact sw4)
  simp only [Act.put]
  refine wpUntil_ready (rs := [18]) (by kernel_rfl) (by simp) ?_
  refine AllU.cons rfl (fun K hK => ?_) AllU.nil
  go_simp
  refine hK.out _ _ (fun h => absurd rfl h) ?_
  clear hK K
  refine wpUntil_done (by kernel_rfl) ?_ _
  go_wp2
  refine bodyPost_ret (v := .agg #[.bool alive, .slice ac nc cc, .slice al nl cl, .slice ad nd cd]) (by simp [results, Tryz.results54, go_sem, z0, z1, z2, z3]) rfl ⟨rfl, ?_⟩
  exact (((KB.out.setCell (p := ⟨_, _, none⟩) (by simp) _).setCell (p := ⟨_, _, none⟩) (by simp) _).setCell (p := ⟨_, _, none⟩) (by simp) _).setCell (p := ⟨_, _, none⟩) (by simp) _
end Go.Proofs.YtooalbdlknheeaaGreat
/- The laws' own copy of a machine. -/
namespace Go.Proofs.YtooalbdlknheeaaGreat
open Go.RowKit
theorem OM.mono {w : World} {B B' : Nat} {v : MV} {m : M4} {PK PR PD : Nat → Prop} (h : OM w B v m PK PR PD) (hb : B' ≤ B) : OM w B' v m PK PR PD := ⟨h.k, h.r, h.n, h.kr, h.kd, h.rd, fun q hq => Nat.le_trans hb (h.kB q hq), fun q hq => Nat.le_trans hb (h.rB q hq), fun q hq => Nat.le_trans hb (h.dB q hq)⟩
/-- The law's own copy of a machine: its blocks lie behind what was there. -/
theorem toM_any (w : World) (v : MV) (m : M4) (ht : MT m) (hs : SlM w v m) : Calls Tryz.prog 31 #[v.val m] w fun e w' =>
    ∃ (c4 : Option Addr) (k4 : Nat) (l4 : Option Addr) (j4 : Nat) (d4 : Option Addr) (i4 : Nat) (PK PR PD : Nat → Prop), e = .returned ((MV.mk c4 k4 l4 j4 d4 i4).val m) ∧ OM w' w.heap.size ⟨c4, k4, l4, j4, d4, i4⟩ m PK PR PD ∧ (∀ q, OfM PK PR PD q → q < w'.heap.size) ∧ Below w.heap.size w w' :=
  (toMachine_any w v m ht.k ht.ks ht.r ht.rs ht.n hs).mono (by
    rintro e w' ⟨⟨c4, k4, l4, j4, d4, i4⟩, B1, B2, B3, gk, gr, h1, h2, h3⟩
    have o1 := h2.o1; have o2 := h2.o2; have o3 := h2.o3; have o4 := h2.sz
    refine ⟨c4, k4, l4, j4, d4, i4, _, _, _, h1, h2.om.mono (by omega), fun q hq => ?_, h3⟩
    rcases hq with hq | hq | hq <;> omega)
theorem MT.ml {m : M4} (h : MT m) : ML m := ⟨by have := h.k; unfold maxLen; omega, fun c hc => by have := h.ks c hc; unfold maxLen; omega, by have := h.r; unfold maxLen; omega, fun c hc => by have := h.rs c hc; unfold maxLen; omega, by have := h.n; unfold maxLen; omega⟩
end Go.Proofs.YtooalbdlknheeaaGreat
