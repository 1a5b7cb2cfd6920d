/- The program's takeMachine: a machine that is MachineOk, copied whole; else none. -/
import Derived.Test.YtooalbdlknheeaaGreatRows
import Derived.Test.YtooalbdlknheeaaGreatOwnIJ
import Derived.Test.YtooalbdlknheeaaGreatMacOkIJ
import Derived.WalkKit
import Derived.WalkSpells
import Derived.WalkLawsBesides
import Derived.Below
namespace Go.Proofs.YtooalbdlknheeaaGreat
open Go.RowKit
theorem MSm.of_mach {m : M4} (h : machB m = true) : MSm m := by
  simp only [machB, Bool.and_eq_true, decide_eq_true_eq] at h
  obtain ⟨⟨⟨⟨⟨h1, h2⟩, h3⟩, _⟩, h4⟩, h5⟩ := h
  refine ⟨h1, fun c hc => ?_, h2, fun c hc => ?_, h3⟩
  · obtain ⟨i, hi, rfl⟩ := List.getElem_of_mem hc
    have := List.all_eq_true.1 h4 i (List.mem_range.2 hi)
    simp only [copB, atK, List.getElem?_eq_getElem hi, Option.getD_some, Bool.and_eq_true, cellsB, decide_eq_true_eq] at this
    exact this.1.2.1
  · obtain ⟨i, hi, rfl⟩ := List.getElem_of_mem hc
    have := List.all_eq_true.1 h5 i (List.mem_range.2 hi)
    simp only [logB, atR, List.getElem?_eq_getElem hi, Option.getD_some, Bool.and_eq_true, recB, decide_eq_true_eq] at this
    exact ⟨this.1.1.1.2, this.1.1.2⟩
theorem GrowG.mono {α : Type} {T : TypeId} {sz : Nat} {hd : α → List Int} {ln : α → Nat} {At : World → Nat → α → Prop} {w : World} {base base' : Nat} {v : Value} {rs : List α} {g : Nat → Nat} (h : GrowG T sz hd ln At w base v rs g) (hb : base' ≤ base) : GrowG T sz hd ln At w base' v rs g := by
  obtain ⟨caps, ho, hc⟩ := h.row
  refine ⟨⟨caps, ⟨ho.1, ho.2.imp id ?_⟩, hc⟩, fun i hi => Nat.le_trans hb (h.low i hi), h.lt, h.ne, h.sub, h.inj⟩
  rintro ⟨q, cap, cur, rfl, l, r⟩
  exact ⟨q, cap, cur, rfl, Nat.le_trans hb l, r⟩
theorem MR.mono {base base' p : Nat} {X : World} {vk vr vd : Value} {ks : List K2} {rs : List R4} {zs : List Int} {gk gr : Nat → Nat} (h : MR base p X vk vr vd ks rs zs gk gr) (hb : base' ≤ base) : MR base' p X vk vr vd ks rs zs gk gr := by
  refine ⟨h.gK.mono hb, h.gR.mono hb, ⟨h.gD.1, h.gD.2.imp id ?_⟩, h.kr, h.kd, h.rd, h.kp, h.rp, h.dp⟩
  rintro ⟨q, cap, cur, rfl, l, r⟩
  exact ⟨q, cap, cur, rfl, Nat.le_trans hb l, r⟩
/-- With another block left out that none of the rows lies in. -/
theorem MR.out {base p p' : Nat} {X : World} {vk vr vd : Value} {ks : List K2} {rs : List R4} {zs : List Int} {gk gr : Nat → Nat} (h : MR base p X vk vr vd ks rs zs gk gr) (hp : p' < base ∨ X.heap.size ≤ p') : MR base p' X vk vr vd ks rs zs gk gr :=
  ⟨h.gK, h.gR, h.gD, h.kr, h.kd, h.rd, fun q hq e => by have := h.gK.blocks hq; omega, fun q hq e => by have := h.gR.blocks hq; omega, fun e => by have := World.ownsRow.lt h.gD _ e; omega⟩
/-- The boxes of takeMachine: its argument's at s, its answer's at s + 1. -/
structure B2 (s : Nat) (alive : Bool) (v1 v2 v3 : Value) (X : World) : Prop where
  a0 : X.cell? ⟨s, 0, none⟩ = some (.bool alive)
  a1 : X.cell? ⟨s, 1, none⟩ = some v1
  a2 : X.cell? ⟨s, 2, none⟩ = some v2
  a3 : X.cell? ⟨s, 3, none⟩ = some v3
  z : X.heap[s + 1]? = some (.cells #[.slice none 0 0, .bool false, .slice none 0 0, .slice none 0 0] 85 (0, 0))
  lt : s + 1 < X.heap.size
theorem B2.later {s : Nat} {alive : Bool} {v1 v2 v3 : Value} {X Y : World} (h : B2 s alive v1 v2 v3 X) (hb : Below X.heap.size X Y) : B2 s alive v1 v2 v3 Y := by
  have l := h.lt
  have l' : s < X.heap.size := by omega
  exact ⟨(hb.cell (p := ⟨s, 0, none⟩) l').trans h.a0, (hb.cell (p := ⟨s, 1, none⟩) l').trans h.a1, (hb.cell (p := ⟨s, 2, none⟩) l').trans h.a2, (hb.cell (p := ⟨s, 3, none⟩) l').trans h.a3, (hb.block _ l).trans h.z, Nat.lt_of_lt_of_le l hb.size⟩
/-- What takeMachine answers of a machine that is none. -/
def noM : Value := .agg #[.slice none 0 0, .bool false, .slice none 0 0, .slice none 0 0]
def MV.own (u : MV) (m : M4) : Value := .agg #[.slice u.al m.log.length u.cl, .bool m.alive, .slice u.ac m.copies.length u.cc, .slice u.ad m.cleared.length u.cd]
set_option maxHeartbeats 2000000 in
theorem take_any (w : World) (v : MV) (m : M4) (hl : ML m) (hs : SlM w v m) :
    Calls Tryz.prog 50 #[v.val m] w fun e w' => (machB m = false → e = .returned (.tuple #[noM, .bool false])) ∧ (machB m = true → ∃ (u : MV) (p : Nat) (gk gr : Nat → Nat), e = .returned (.tuple #[u.own m, .bool true]) ∧ MR (w.heap.size + 2) p w' (.slice u.ac m.copies.length u.cc) (.slice u.al m.log.length u.cl) (.slice u.ad m.cleared.length u.cd) m.copies m.log m.cleared gk gr) ∧ Below w.heap.size w w' := by
  obtain ⟨ac, cc, al, cl, ad, cd⟩ := v
  simp only [MV.val, noM, MV.own]
  obtain ⟨W, hW⟩ : ∃ W, W = (w.alloc (.cells #[.bool m.alive, .slice ac m.copies.length cc, .slice al m.log.length cl, .slice ad m.cleared.length cd] 28)).alloc (.cells #[.slice none 0 0, .bool false, .slice none 0 0, .slice none 0 0] 85) := ⟨_, rfl⟩
  have b0 : Below w.heap.size w W := by subst hW; exact ((Below.refl _ _).alloc (Nat.le_refl _) _).alloc (by simp) _
  have s0 : W.heap.size = w.heap.size + 2 := by subst hW; simp
  have x0 : B2 w.heap.size m.alive (.slice ac m.copies.length cc) (.slice al m.log.length cl) (.slice ad m.cleared.length cd) W := by
    subst hW
    refine ⟨by go_simp, by go_simp, by go_simp, by go_simp, ?_, by simp⟩
    have := heap_alloc_new (w.alloc (.cells #[.bool m.alive, .slice ac m.copies.length cc, .slice al m.log.length cl, .slice ad m.cleared.length cd] 28)) (.cells #[.slice none 0 0, .bool false, .slice none 0 0, .slice none 0 0] 85)
    rw [show (w.alloc (.cells #[.bool m.alive, .slice ac m.copies.length cc, .slice al m.log.length cl, .slice ad m.cleared.length cd] 28)).heap.size = w.heap.size + 1 by simp] at this
    exact this
  have hm := implMachineOk_any W ⟨ac, cc, al, cl, ad, cd⟩ m hl (hs.later b0)
  simp only [MV.val] at hm
  have H : Hid (Below w.heap.size w W ∧ W.heap.size = w.heap.size + 2 ∧ B2 w.heap.size m.alive (.slice ac m.copies.length cc) (.slice al m.log.length cl) (.slice ad m.cleared.length cd) W ∧ SlM w ⟨ac, cc, al, cl, ad, cd⟩ m) := ⟨b0, s0, x0, hs⟩
  clear b0 s0 x0 hs hl
  subst hW
  cases hB : machB m with
  | false =>
    rw [hB] at hm
    go_enter Tryz.func50, Tryz.ntmps50
    go_wp2_with fail
    refine hm.mono ?_
    clear hm
    rintro e w1 ⟨rfl, b1⟩
    have x1 := H.out.2.2.1.later b1
    obtain ⟨z0, z1, z2, z3, zf⟩ := zeroBox x1.z
    have f0 := zf 0
    have f1 := zf 1
    have f2 := zf 2
    have f3 := zf 3
    have K : Hid (Below w.heap.size w w1) := H.out.1.trans (b1.mono H.out.1.size)
    clear b1 x1 zf
    go_wp2
    refine bodyPost_ret (v := .tuple #[.agg #[.slice none 0 0, .bool false, .slice none 0 0, .slice none 0 0], .bool false]) (by simp [results, Tryz.results50, go_sem, z0, z1, z2, z3]) rfl ⟨fun _ => rfl, fun h => (by cases h), ?_⟩
    exact (((K.out.setCell (p := ⟨_, _, none⟩) (by simp) _).setCell (p := ⟨_, _, none⟩) (by simp) _).setCell (p := ⟨_, _, none⟩) (by simp) _).setCell (p := ⟨_, _, none⟩) (by simp) _
  | true =>
    rw [hB] at hm
    have hMS := hidOf (MSm.of_mach hB)
    go_enter Tryz.func50, Tryz.ntmps50
    go_wp2_with fail
    refine hm.mono ?_
    clear hm
    rintro e w1 ⟨rfl, b1⟩
    have x1 := H.out.2.2.1.later b1
    have a0 := x1.a0
    have a1 := x1.a1
    have a2 := x1.a2
    have a3 := x1.a3
    have K : Hid (Below w.heap.size w w1 ∧ w.heap.size + 2 ≤ w1.heap.size ∧ B2 w.heap.size m.alive (.slice ac m.copies.length cc) (.slice al m.log.length cl) (.slice ad m.cleared.length cd) w1) := ⟨H.out.1.trans (b1.mono H.out.1.size), by have := b1.size; have := H.out.2.1; omega, x1⟩
    have ho := ownMachine_any w1 ⟨ac, cc, al, cl, ad, cd⟩ m hMS.out (H.out.2.2.2.later K.out.1)
    simp only [MV.val] at ho
    clear b1 x1
    go_wp2_with fail
    refine ho.mono ?_
    clear ho
    rintro e w2 ⟨⟨uc, uk, ul, uj, ud, ui⟩, p, gk, gr, rfl, mr, b2⟩
    have x2 := K.out.2.2.later b2
    obtain ⟨z0, z1, z2, z3, zf⟩ := zeroBox x2.z
    have f0 := zf 0
    have f1 := zf 1
    have f2 := zf 2
    have f3 := zf 3
    have K2 : Hid (Below w.heap.size w w2 ∧ MR (w.heap.size + 2) p w2 (.slice uc m.copies.length uk) (.slice ul m.log.length uj) (.slice ud m.cleared.length ui) m.copies m.log m.cleared gk gr) := ⟨K.out.1.trans (b2.mono K.out.1.size), mr.mono (by have := K.out.2.1; omega)⟩
    clear b2 x2 zf mr
    go_wp2
    refine bodyPost_ret (v := .tuple #[.agg #[.slice ul m.log.length uj, .bool m.alive, .slice uc m.copies.length uk, .slice ud m.cleared.length ui], .bool true]) (by simp [results, Tryz.results50, go_sem, z0, z1, z2, z3]) rfl ⟨fun h => (by cases h), fun _ => ⟨⟨uc, uk, ul, uj, ud, ui⟩, p, gk, gr, rfl, ?_⟩, ?_⟩
    · refine K2.out.2.keep (by simp [World.setCell]) (fun x _ hx _ => ?_)
      exact (Below.heap_setCell _ _ _ _ (by show x ≠ w.heap.size + 1; omega)).trans ((Below.heap_setCell _ _ _ _ (by show x ≠ w.heap.size + 1; omega)).trans ((Below.heap_setCell _ _ _ _ (by show x ≠ w.heap.size + 1; omega)).trans (Below.heap_setCell _ _ _ _ (by show x ≠ w.heap.size + 1; omega))))
    · exact (((K2.out.1.setCell (p := ⟨_, _, none⟩) (by simp) _).setCell (p := ⟨_, _, none⟩) (by simp) _).setCell (p := ⟨_, _, none⟩) (by simp) _).setCell (p := ⟨_, _, none⟩) (by simp) _
end Go.Proofs.YtooalbdlknheeaaGreat
