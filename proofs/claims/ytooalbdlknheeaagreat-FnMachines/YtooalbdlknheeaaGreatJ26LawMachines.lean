/- TurnL; TurnI; CpyS: joined. -/
import Derived.Test.YtooalbdlknheeaaGreatRows
import Derived.Test.YtooalbdlknheeaaGreatLogIJ
import Derived.WalkKit
import Derived.WalkSpells
import Derived.WalkLawsBesides
import Derived.Below
import Derived.Test.YtooalbdlknheeaaGreatJ12LawMachines
import Derived.Test.YtooalbdlknheeaaGreatOwnIJ
import Derived.Test.YtooalbdlknheeaaGreatTakeJ
import Derived.Deep.CutRange
/- Records of a transaction and region turned in a log of the call's own: the specification's l6Turn. -/
namespace Go.Proofs.YtooalbdlknheeaaGreat
open Go.RowKit
def trR (t g : Int) (r : R4) : R4 := if lgB t g 1 r = true then ⟨3, r.tx, r.region, r.sets⟩ else r
theorem trR_yes {t g : Int} {r : R4} (h : lgB t g 1 r = true) : trR t g r = ⟨3, r.tx, r.region, r.sets⟩ := if_pos h
theorem trR_no {t g : Int} {r : R4} (h : lgB t g 1 r = false) : trR t g r = r := if_neg (by rw [h]; simp)
def trAt (t g : Int) (rs : List R4) (i : Nat) : R4 := trR t g (atR rs i)
theorem mix_tr (t g : Int) (rs : List R4) : mix (trAt t g rs) rs rs.length = rs.map (trR t g) := by
  rw [mix_all]
  apply List.ext_getElem?
  intro i
  by_cases h : i < rs.length
  · simp [h, trAt, atR]
  · rw [List.getElem?_eq_none (by simp; omega), List.getElem?_eq_none (by simp; omega)]
/-- The record's kind stored anew, or left. -/
theorem OwnG.turn {w V : World} {b n j : Nat} {rs : List R4} {gr : Nat → Nat} {r : R4} (h : OwnG 4 hdR lnR AtR w 0 b n rs gr) (hj : rs[j]? = some r) (hb : Below w.heap.size w V) (hlt : b < w.heap.size) (x : Int) : OwnG 4 hdR lnR AtR (V.setCell ⟨b, j * 4, none⟩ (.int .i64 x)) 0 b n (rs.set j ⟨x, r.tx, r.region, r.sets⟩) gr := by
  have hV := h.later AtR.of_block hb hlt
  have hjn := hV.idx hj
  have c0 := hV.head j r hj 0 r.kind rfl
  rw [Nat.add_zero] at c0
  refine hV.set AtR.of_block hj rfl (by omega) (by intro r; simp [hdR]) (by simp [World.setCell]) (fun y _ hy _ => Below.heap_setCell _ _ _ _ hy) (fun o ho => cell_set_other (by omega)) (fun t z hz => ?_) (AtR.of_block _ _ _ _ (Below.heap_setCell _ _ _ _ (hV.ne j hjn)) (hV.sub j r hj))
  have ht := (List.getElem?_eq_some_iff.1 hz).1
  simp [hdR] at ht
  rcases t with _ | _ | _ | t
  · simp [hdR] at hz; subst hz; exact cell_set_same c0
  · simp [hdR] at hz; subst hz; rw [cell_set_other (by omega)]; exact hV.head j r hj 1 r.tx rfl
  · simp [hdR] at hz; subst hz; rw [cell_set_other (by omega)]; exact hV.head j r hj 2 r.region rfl
  · omega
set_option maxHeartbeats 4000000 in
theorem l6Turn_some (w : World) (p b cap : Nat) (rs : List R4) (gr : Nat → Nat) (t g : Int) (hn : rs.length ≤ 1000) (hc : w.cell? ⟨p, 2, none⟩ = some (.slice (some ⟨b, 0, none⟩) rs.length cap)) (hpb : p ≠ b) (hbl : b < w.heap.size) (hr : Room w b (rs.length * 4)) (ho : OwnG 4 hdR lnR AtR w 0 b rs.length rs gr) :
    Calls Tryz.prog 82 #[.pointer (some ⟨p, 0, none⟩), .int .i64 t, .int .i64 g] w fun e w' => (∃ u, e = .returned u) ∧ OnlyBlock b w w' ∧ Room w' b (rs.length * 4) ∧ OwnG 4 hdR lnR AtR w' 0 b rs.length (rs.map (trR t g)) gr := by
  have HO : Hid (OwnG 4 hdR lnR AtR w 0 b rs.length rs gr ∧ Room w b (rs.length * 4) ∧ b < w.heap.size ∧ p ≠ b ∧ w.cell? ⟨p, 2, none⟩ = some (.slice (some ⟨b, 0, none⟩) rs.length cap)) := ⟨ho, hr, hbl, hpb, hc⟩
  clear ho hr hbl
  go_enter Tryz.func82, Tryz.ntmps82
  go_wp2
  clear hc
  go_loopw [6] (fun v6 wr => ∃ j : Nat, j ≤ rs.length ∧ v6 = .int .i64 j ∧ OnlyBlock b w wr ∧ Room wr b (rs.length * 4) ∧ OwnG 4 hdR lnR AtR wr 0 b rs.length (mix (trAt t g rs) rs j) gr) (fun v6 _ => rs.length - (intOf v6).toNat)
  case atStart => exact ⟨0, Nat.zero_le _, rfl, OnlyBlock.refl _ _, HO.out.2.1, by rw [mix_zero]; exact HO.out.1⟩
  case round =>
    obtain ⟨j, hj, rfl, hob, hro, how⟩ := hrel
    have cp : wr.cell? ⟨p, 2, none⟩ = some (.slice (some ⟨b, 0, none⟩) rs.length cap) := (World.cell?_of_block (a := ⟨p, 2, none⟩) (hob.block p HO.out.2.2.2.1)).trans HO.out.2.2.2.2
    by_cases hlt : j < rs.length
    · have hrj := atR_of hlt
      have hcur := mix_cur (trAt t g rs) rs j hrj
      have c0 := how.head j _ hcur 0 (atR rs j).kind rfl
      have c1 := how.head j _ hcur 1 (atR rs j).tx rfl
      have c2 := how.head j _ hcur 2 (atR rs j).region rfl
      rw [Nat.add_zero] at c0
      obtain ⟨v0, d0, f0⟩ := hro (j * 4) (by omega)
      clear d0
      have HV : Hid (lgB t g 1 (atR rs j) = (((atR rs j).tx == t) && ((atR rs j).region == g) && ((atR rs j).kind == 1))) := rfl
      have hbw : b < wr.heap.size := by rw [hob.size]; exact HO.out.2.2.1
      have NO : Hid (lgB t g 1 (atR rs j) = false → OwnG 4 hdR lnR AtR wr 0 b rs.length (mix (trAt t g rs) rs (j + 1)) gr) := fun h => by
        rw [mix_succ _ _ _ hlt]
        have e : trAt t g rs j = atR rs j := trR_no h
        rw [e]
        have : (mix (trAt t g rs) rs j).set j (atR rs j) = mix (trAt t g rs) rs j := by
          apply List.ext_getElem?
          intro i
          by_cases e : i = j
          · subst e; rw [List.getElem?_set_self (by rw [mix_len]; exact hlt), hcur]
          · rw [List.getElem?_set_ne (fun k => e k.symm)]
        rw [this]; exact how
      have YES : Hid (lgB t g 1 (atR rs j) = true → OwnG 4 hdR lnR AtR (wr.setCell ⟨b, j * 4, none⟩ (.int .i64 3)) 0 b rs.length (mix (trAt t g rs) rs (j + 1)) gr) := fun h => by
        rw [mix_succ _ _ _ hlt]
        have e : trAt t g rs j = ⟨3, (atR rs j).tx, (atR rs j).region, (atR rs j).sets⟩ := trR_yes h
        rw [e]
        exact how.turn hcur (Below.refl _ _) hbw 3
      have K : Hid (OnlyBlock b w wr ∧ Room wr b (rs.length * 4)) := ⟨hob, hro⟩
      clear hob hro how hcur hrj hbw
      generalize (atR rs j).tx = x1 at *
      generalize (atR rs j).region = x2 at *
      generalize (atR rs j).kind = x0 at *
      cases q1 : (x1 == t) with
      | false =>
        go_wp2
        exact ⟨⟨j + 1, by omega, by simp, K.out.1, K.out.2, NO.out (by rw [HV.out, q1]; rfl)⟩, by simp [intOf]; omega⟩
      | true =>
        cases q2 : (x2 == g) with
        | false =>
          go_wp2
          exact ⟨⟨j + 1, by omega, by simp, K.out.1, K.out.2, NO.out (by rw [HV.out, q1, q2]; rfl)⟩, by simp [intOf]; omega⟩
        | true =>
          cases q3 : (x0 == 1) with
          | false =>
            go_wp2
            exact ⟨⟨j + 1, by omega, by simp, K.out.1, K.out.2, NO.out (by rw [HV.out, q1, q2, q3]; rfl)⟩, by simp [intOf]; omega⟩
          | true =>
            go_wp2
            exact ⟨⟨j + 1, by omega, by simp, K.out.1.setCell _ _, K.out.2.set _, YES.out (by rw [HV.out, q1, q2, q3]; rfl)⟩, by simp [intOf]; omega⟩
    · obtain rfl : j = rs.length := by omega
      have hd : decide ((rs.length : Int) < (rs.length : Int)) = false := by simp
      rw [mix_tr] at how
      have K : Hid (OnlyBlock b w wr ∧ Room wr b (rs.length * 4) ∧ OwnG 4 hdR lnR AtR wr 0 b rs.length (rs.map (trR t g)) gr) := ⟨hob, hro, how⟩
      clear hob hro how
      go_wp2
      exact bodyPost_end (v := .tuple #[]) (by simp [results, Tryz.results82, go_sem]) rfl ⟨⟨_, rfl⟩, K.out.1, K.out.2.1, K.out.2.2⟩
end Go.Proofs.YtooalbdlknheeaaGreat
/- Records of a transaction and region turned in a log of the call's own: the program's turn; its given. -/
namespace Go.Proofs.YtooalbdlknheeaaGreat
open Go.RowKit
set_option maxHeartbeats 4000000 in
theorem turn_some (w : World) (p b cap : Nat) (rs : List R4) (gr : Nat → Nat) (t g : Int) (hn : rs.length ≤ 1000) (hc : w.cell? ⟨p, 0, none⟩ = some (.slice (some ⟨b, 0, none⟩) rs.length cap)) (hpl : p < w.heap.size) (hpb : p ≠ b) (hbl : b < w.heap.size) (hr : Room w b (rs.length * 4)) (ho : OwnG 4 hdR lnR AtR w 0 b rs.length rs gr) :
    Calls Tryz.prog 81 #[.pointer (some ⟨p, 0, none⟩), .int .i64 t, .int .i64 g] w fun e w' => (∃ u, e = .returned u) ∧ KeptP (fun q => q = b) w w' ∧ Room w' b (rs.length * 4) ∧ OwnG 4 hdR lnR AtR w' 0 b rs.length (rs.map (trR t g)) gr := by
  have HO : Hid (OwnG 4 hdR lnR AtR w 0 b rs.length rs gr ∧ Room w b (rs.length * 4) ∧ b < w.heap.size ∧ p ≠ b ∧ w.cell? ⟨p, 0, none⟩ = some (.slice (some ⟨b, 0, none⟩) rs.length cap) ∧ p < w.heap.size) := ⟨ho, hr, hbl, hpb, hc, hpl⟩
  clear ho hr hbl hpl
  go_enter Tryz.func81, Tryz.ntmps81
  go_wp2
  clear hc
  go_loopw [13] (fun v13 wr => ∃ j : Nat, j ≤ rs.length ∧ v13 = .int .i64 j ∧ KeptP (fun q => q = b) w wr ∧ Room wr b (rs.length * 4) ∧ OwnG 4 hdR lnR AtR wr 0 b rs.length (mix (trAt t g rs) rs j) gr) (fun v13 _ => rs.length - (intOf v13).toNat)
  case atStart => exact ⟨0, Nat.zero_le _, rfl, KeptP.refl _ _, HO.out.2.1, by rw [mix_zero]; exact HO.out.1⟩
  case round =>
    obtain ⟨j, hj, rfl, hkp, hro, how⟩ := hrel
    have cp : wr.cell? ⟨p, 0, none⟩ = some (.slice (some ⟨b, 0, none⟩) rs.length cap) := (World.cell?_of_block (a := ⟨p, 0, none⟩) (hkp.block p HO.out.2.2.2.2.2 HO.out.2.2.2.1)).trans HO.out.2.2.2.2.1
    by_cases hlt : j < rs.length
    · have hrj := atR_of hlt
      have hcur := mix_cur (trAt t g rs) rs j hrj
      have c0 := how.head j _ hcur 0 (atR rs j).kind rfl
      have c1 := how.head j _ hcur 1 (atR rs j).tx rfl
      have c2 := how.head j _ hcur 2 (atR rs j).region rfl
      rw [Nat.add_zero] at c0
      obtain ⟨cq, c3, _⟩ := how.tail j _ hcur
      simp only [lnR, Nat.reduceSub] at c3
      have hbw : b < wr.heap.size := Nat.lt_of_lt_of_le HO.out.2.2.1 hkp.size
      have hcl := ofRegion_any wr (atR rs j) (some ⟨gr j, 0, none⟩) cq t g
      simp only [R4.val] at hcl
      have HV : Hid (lgB t g 1 (atR rs j) = (ofB t g (atR rs j) && ((atR rs j).kind == 1))) := rfl
      have KL : Hid (∀ V, Below wr.heap.size wr V → KeptP (fun q => q = b) w V ∧ Room V b (rs.length * 4) ∧ V.cell? ⟨b, j * 4, none⟩ = some (.int .i64 (atR rs j).kind) ∧ V.frozen? ⟨b, j * 4, none⟩ = false ∧ (lgB t g 1 (atR rs j) = false → OwnG 4 hdR lnR AtR V 0 b rs.length (mix (trAt t g rs) rs (j + 1)) gr) ∧ (lgB t g 1 (atR rs j) = true → OwnG 4 hdR lnR AtR (V.setCell ⟨b, j * 4, none⟩ (.int .i64 3)) 0 b rs.length (mix (trAt t g rs) rs (j + 1)) gr)) := fun V bV => by
        have roV := hro.below bV hbw
        refine ⟨hkp.trans (KeptP.of_below bV), roV, (bV.cell (p := ⟨b, j * 4, none⟩) hbw).trans c0, ?_, fun h => ?_, fun h => ?_⟩
        · obtain ⟨_, _, f⟩ := roV (j * 4) (by omega)
          exact f
        · rw [mix_succ _ _ _ hlt, show trAt t g rs j = atR rs j from trR_no h]
          have : (mix (trAt t g rs) rs j).set j (atR rs j) = mix (trAt t g rs) rs j := by
            apply List.ext_getElem?
            intro i
            by_cases e : i = j
            · subst e; rw [List.getElem?_set_self (by rw [mix_len]; exact hlt), hcur]
            · rw [List.getElem?_set_ne (fun k => e k.symm)]
          rw [this]; exact how.later AtR.of_block bV hbw
        · rw [mix_succ _ _ _ hlt, show trAt t g rs j = ⟨3, (atR rs j).tx, (atR rs j).region, (atR rs j).sets⟩ from trR_yes h]
          exact how.turn hcur bV hbw 3
      clear hkp hro how hcur hrj hbw
      have hlj : (j : Int) < (rs.length : Int) := by omega
      cases q1 : ofB t g (atR rs j) with
      | false =>
        rw [q1] at hcl
        go_wp2_with fail
        refine hcl.mono ?_
        clear hcl
        rintro e w1 ⟨rfl, b1⟩
        obtain ⟨k1, k2, _, _, k5, _⟩ := KL.out w1 b1
        have KE : Hid (KeptP (fun q => q = b) w w1 ∧ Room w1 b (rs.length * 4) ∧ OwnG 4 hdR lnR AtR w1 0 b rs.length (mix (trAt t g rs) rs (j + 1)) gr) := ⟨k1, k2, k5 (by rw [HV.out, q1]; rfl)⟩
        clear k1 k2 k5 b1
        go_wp2
        exact ⟨⟨j + 1, by omega, by simp, KE.out.1, KE.out.2.1, KE.out.2.2⟩, by simp [intOf]; omega⟩
      | true =>
        rw [q1] at hcl
        go_wp2_with fail
        refine hcl.mono ?_
        clear hcl
        rintro e w1 ⟨rfl, b1⟩
        obtain ⟨k1, k2, k3, k4, k5, k6⟩ := KL.out w1 b1
        have KE : Hid (KeptP (fun q => q = b) w w1 ∧ Room w1 b (rs.length * 4) ∧ (lgB t g 1 (atR rs j) = false → OwnG 4 hdR lnR AtR w1 0 b rs.length (mix (trAt t g rs) rs (j + 1)) gr) ∧ (lgB t g 1 (atR rs j) = true → OwnG 4 hdR lnR AtR (w1.setCell ⟨b, j * 4, none⟩ (.int .i64 3)) 0 b rs.length (mix (trAt t g rs) rs (j + 1)) gr)) := ⟨k1, k2, k5, k6⟩
        clear k1 k2 k5 k6 b1 c0 c1 c2 c3
        cases q3 : ((atR rs j).kind == 1) with
        | false =>
          go_wp2
          exact ⟨⟨j + 1, by omega, by simp, KE.out.1, KE.out.2.1, KE.out.2.2.1 (by rw [HV.out, q1, q3]; rfl)⟩, by simp [intOf]; omega⟩
        | true =>
          go_wp2
          exact ⟨⟨j + 1, by omega, by simp, KE.out.1.trans (KeptP.of_set w1 _ rfl), KE.out.2.1.set _, KE.out.2.2.2 (by rw [HV.out, q1, q3]; rfl)⟩, by simp [intOf]; omega⟩
    · obtain rfl : j = rs.length := by omega
      have hd : decide ((rs.length : Int) < (rs.length : Int)) = false := by simp
      rw [mix_tr] at how
      have K : Hid (KeptP (fun q => q = b) w wr ∧ Room wr b (rs.length * 4) ∧ OwnG 4 hdR lnR AtR wr 0 b rs.length (rs.map (trR t g)) gr) := ⟨hkp, hro, how⟩
      clear hkp hro how
      go_wp2
      exact bodyPost_end (v := .tuple #[]) (by simp [results, Tryz.results81, go_sem]) rfl ⟨⟨_, rfl⟩, K.out.1, K.out.2.1, K.out.2.2⟩
end Go.Proofs.YtooalbdlknheeaaGreat
/- The specification's l6Copy: a machine copied whole into memory of the call's own. Its first statement. -/
namespace Go.Proofs.YtooalbdlknheeaaGreat
open Go.RowKit
/-- The two boxes of l6Copy: its answer's at s + 1, the machine that it makes at p. -/
structure C3 (s p : Nat) (alive : Bool) (X : World) (vk vr vd : Value) : Prop where
  r0 : X.cell? ⟨s + 1, 0, none⟩ = some (.bool false)
  r1 : X.cell? ⟨s + 1, 1, none⟩ = some (.slice none 0 0)
  r2 : X.cell? ⟨s + 1, 2, none⟩ = some (.slice none 0 0)
  r3 : X.cell? ⟨s + 1, 3, none⟩ = some (.slice none 0 0)
  fr : ∀ j, X.frozen? ⟨s + 1, j, none⟩ = false
  o0 : X.cell? ⟨p, 0, none⟩ = some (.bool alive)
  o1 : X.cell? ⟨p, 1, none⟩ = some vk
  o2 : X.cell? ⟨p, 2, none⟩ = some vr
  o3 : X.cell? ⟨p, 3, none⟩ = some vd
  fo : ∀ j, X.frozen? ⟨p, j, none⟩ = false
  pl : s + 2 ≤ p
  pX : p < X.heap.size
theorem C3.keep {s p : Nat} {alive : Bool} {X Y : World} {vk vr vd : Value} (h : C3 s p alive X vk vr vd) (hs : X.heap.size ≤ Y.heap.size) (er : Y.heap[s + 1]? = X.heap[s + 1]?) (ep : Y.heap[p]? = X.heap[p]?) : C3 s p alive Y vk vr vd := by
  have c : ∀ {b j : Nat} {u : Value}, Y.heap[b]? = X.heap[b]? → X.cell? ⟨b, j, none⟩ = some u → Y.cell? ⟨b, j, none⟩ = some u := fun {b j u} e h => (World.cell?_of_block (a := ⟨b, j, none⟩) e).trans h
  exact ⟨c er h.r0, c er h.r1, c er h.r2, c er h.r3, fun j => (World.frozen?_of_block (a := ⟨s + 1, j, none⟩) er).trans (h.fr j), c ep h.o0, c ep h.o1, c ep h.o2, c ep h.o3, fun j => (World.frozen?_of_block (a := ⟨p, j, none⟩) ep).trans (h.fo j), h.pl, Nat.lt_of_lt_of_le h.pX hs⟩
theorem C3.later {s p : Nat} {alive : Bool} {X Y : World} {vk vr vd : Value} (h : C3 s p alive X vk vr vd) (hb : Below X.heap.size X Y) : C3 s p alive Y vk vr vd :=
  h.keep hb.size (hb.block _ (by have := h.pl; have := h.pX; omega)) (hb.block _ h.pX)
theorem C3.setK {s p : Nat} {alive : Bool} {X : World} {vk vr vd : Value} (h : C3 s p alive X vk vr vd) (u : Value) : C3 s p alive (X.setCell ⟨p, 1, none⟩ u) u vr vd :=
  have hp := h.pl
  have far : ∀ j, (X.setCell ⟨p, 1, none⟩ u).cell? ⟨s + 1, j, none⟩ = X.cell? ⟨s + 1, j, none⟩ := fun j => cell_set_far (by show p ≠ s + 1; omega) u
  ⟨(far 0).trans h.r0, (far 1).trans h.r1, (far 2).trans h.r2, (far 3).trans h.r3, fun j => by rw [World.frozen?_setCell]; exact h.fr j, (cell_set_other (by omega)).trans h.o0, cell_set_same h.o1, (cell_set_other (by omega)).trans h.o2, (cell_set_other (by omega)).trans h.o3, fun j => by rw [World.frozen?_setCell]; exact h.fo j, h.pl, by simpa [World.setCell] using h.pX⟩
theorem C3.setR {s p : Nat} {alive : Bool} {X : World} {vk vr vd : Value} (h : C3 s p alive X vk vr vd) (u : Value) : C3 s p alive (X.setCell ⟨p, 2, none⟩ u) vk u vd :=
  have hp := h.pl
  have far : ∀ j, (X.setCell ⟨p, 2, none⟩ u).cell? ⟨s + 1, j, none⟩ = X.cell? ⟨s + 1, j, none⟩ := fun j => cell_set_far (by show p ≠ s + 1; omega) u
  ⟨(far 0).trans h.r0, (far 1).trans h.r1, (far 2).trans h.r2, (far 3).trans h.r3, fun j => by rw [World.frozen?_setCell]; exact h.fr j, (cell_set_other (by omega)).trans h.o0, (cell_set_other (by omega)).trans h.o1, cell_set_same h.o2, (cell_set_other (by omega)).trans h.o3, fun j => by rw [World.frozen?_setCell]; exact h.fo j, h.pl, by simpa [World.setCell] using h.pX⟩
theorem zeroBoxM {X : World} {r : Nat} (h : X.heap[r]? = some (.cells #[.bool false, .slice none 0 0, .slice none 0 0, .slice none 0 0] 28 (0, 0))) :
    X.cell? ⟨r, 0, none⟩ = some (.bool false) ∧ X.cell? ⟨r, 1, none⟩ = some (.slice none 0 0) ∧ X.cell? ⟨r, 2, none⟩ = some (.slice none 0 0) ∧ X.cell? ⟨r, 3, none⟩ = some (.slice none 0 0) ∧ ∀ j, X.frozen? ⟨r, j, none⟩ = false :=
  ⟨by rw [cell_of_row X r 0 _ _ _ h]; rfl, by rw [cell_of_row X r 1 _ _ _ h]; rfl, by rw [cell_of_row X r 2 _ _ _ h]; rfl, by rw [cell_of_row X r 3 _ _ _ h]; rfl, fun j => frozen_of_row X r j _ _ h⟩
theorem owns_empty {X : World} {q base : Nat} (h : X.heap[q]? = some (.cells #[] 2 (0, 0))) (hb : base ≤ q) : X.ownsRow base 2 1 (.slice (some ⟨q, 0, none⟩) 0 0) 0 [] :=
  ⟨by simp, .inr ⟨q, 0, #[], rfl, hb, h, Nat.le_refl _, Nat.zero_le _, by simp, by simp⟩⟩
theorem firstM_A {s : Nat} {alive : Bool} {X : World} {vd : Value} {zs : List Int} (hX : s + 2 ≤ X.heap.size) (hr : X.heap[s + 1]? = some (.cells #[.bool false, .slice none 0 0, .slice none 0 0, .slice none 0 0] 28 (0, 0))) (hd : X.ownsRow (s + 2) 2 1 vd zs.length (zs.map (Value.int .i64))) :
    C3 s X.heap.size alive (X.alloc (.cells #[.bool alive, .slice none 0 0, .slice none 0 0, vd] 28)) (.slice none 0 0) (.slice none 0 0) vd ∧ MR (s + 2) X.heap.size (X.alloc (.cells #[.bool alive, .slice none 0 0, .slice none 0 0, vd] 28)) (.slice none 0 0) (.slice none 0 0) vd [] [] zs gz gz := by
  have bA : Below X.heap.size X (X.alloc (.cells #[.bool alive, .slice none 0 0, .slice none 0 0, vd] 28)) := (Below.refl _ _).alloc (Nat.le_refl _) _
  obtain ⟨z0, z1, z2, z3, zf⟩ := zeroBoxM ((bA.block (s + 1) (by omega)).trans hr)
  refine ⟨⟨z0, z1, z2, z3, zf, by go_simp, by go_simp, by go_simp, by go_simp, by intro j; go_simp, hX, by simp⟩, MR.start ?_ (fun e => by have := (World.ownsRow.lt hd _ e).2; omega)⟩
  refine ⟨hd.1, hd.2.imp id ?_⟩
  rintro ⟨q, cap, cur, rfl, l, hg, r⟩
  exact ⟨q, cap, cur, rfl, l, (bA.block q (World.ownsRow.lt hd q rfl).2).trans hg, r⟩
theorem firstM_B {s p : Nat} {alive : Bool} {X : World} {vd : Value} {zs : List Int} (hp : s + 2 ≤ p) (hpX : p < X.heap.size) (hr : X.heap[s + 1]? = some (.cells #[.bool false, .slice none 0 0, .slice none 0 0, .slice none 0 0] 28 (0, 0))) (hz : X.heap[p]? = some (.cells #[.bool false, .slice none 0 0, .slice none 0 0, .slice none 0 0] 28 (0, 0))) (hd : X.ownsRow (s + 2) 2 1 vd zs.length (zs.map (Value.int .i64))) (hne : vd.ownBlock ≠ some p) :
    C3 s p alive ((((X.setCell ⟨p, 0, none⟩ (.bool alive)).setCell ⟨p, 1, none⟩ (.slice none 0 0)).setCell ⟨p, 2, none⟩ (.slice none 0 0)).setCell ⟨p, 3, none⟩ vd) (.slice none 0 0) (.slice none 0 0) vd ∧ MR (s + 2) p ((((X.setCell ⟨p, 0, none⟩ (.bool alive)).setCell ⟨p, 1, none⟩ (.slice none 0 0)).setCell ⟨p, 2, none⟩ (.slice none 0 0)).setCell ⟨p, 3, none⟩ vd) (.slice none 0 0) (.slice none 0 0) vd [] [] zs gz gz := by
  obtain ⟨z0, z1, z2, z3, zf⟩ := zeroBoxM hr
  obtain ⟨y0, y1, y2, y3, yf⟩ := zeroBoxM hz
  have f : ∀ j, ((((X.setCell ⟨p, 0, none⟩ (.bool alive)).setCell ⟨p, 1, none⟩ (.slice none 0 0)).setCell ⟨p, 2, none⟩ (.slice none 0 0)).setCell ⟨p, 3, none⟩ vd).cell? ⟨s + 1, j, none⟩ = X.cell? ⟨s + 1, j, none⟩ := fun j => by
    rw [cell_set_far (by show p ≠ s + 1; omega), cell_set_far (by show p ≠ s + 1; omega), cell_set_far (by show p ≠ s + 1; omega), cell_set_far (by show p ≠ s + 1; omega)]
  refine ⟨⟨(f 0).trans z0, (f 1).trans z1, (f 2).trans z2, (f 3).trans z3, fun j => by simp only [World.frozen?_setCell]; exact zf j, ?_, ?_, ?_, ?_, fun j => by simp only [World.frozen?_setCell]; exact yf j, hp, by simpa [World.setCell] using hpX⟩, (((MR.start hd hne).set.set).set).set⟩
  · rw [cell_set_other (by omega), cell_set_other (by omega), cell_set_other (by omega)]; exact cell_set_same y0
  · rw [cell_set_other (by omega), cell_set_other (by omega)]; exact cell_set_same (by rw [cell_set_other (by omega)]; exact y1)
  · rw [cell_set_other (by omega)]; exact cell_set_same (by rw [cell_set_other (by omega), cell_set_other (by omega)]; exact y2)
  · exact cell_set_same (by rw [cell_set_other (by omega), cell_set_other (by omega), cell_set_other (by omega)]; exact y3)
end Go.Proofs.YtooalbdlknheeaaGreat
