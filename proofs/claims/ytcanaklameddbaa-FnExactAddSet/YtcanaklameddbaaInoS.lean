/- The pile in memory: all are taken out in order. -/
import Derived.Test.YtcanaklameddbaaRows
import Derived.Test.YtcanaklameddbaaTakS
import Derived.WalkKit
import Derived.WalkSpells
import Derived.WalkLawsBesides
import Derived.Below
namespace Go.Proofs.Ytcanaklameddbaa
open Go.RowKit
def seR (s : S5) : Int := rk s.region s.slot
def seLen : Value → Nat
  | .slice _ n _ => n
  | _ => 0
theorem seK_R {xs : List S5} {i : Nat} {x : S5} (h : xs[i]? = some x) : seK xs i = seR x := seK_at h
theorem seTop {ys : List S5} {x : S5} (h : HeapP.Hp (seK ys) ys.length) (hx : ys[0]? = some x) : ∀ b ∈ ys, seR x ≤ seR b := fun b hb => by
  obtain ⟨i, hi, rfl⟩ := List.getElem_of_mem hb
  have := h.top i hi
  rwa [seK_R hx, seK_R (List.getElem?_eq_getElem hi)] at this
set_option maxHeartbeats 8000000 in
theorem seInOrder_any (w : World) (base p q mb n cap : Nat) (xs : List S5) (h : Pis w base p q mb n cap xs) (hn : n ≤ 5000) (hl : xs.length ≤ 13) (hu : HeapP.Hp (seK xs) xs.length) (hd : xs.Pairwise (fun a b => seR a ≠ seR b)) :
    Calls Try.prog 54 #[.pointer (some ⟨p, 0, none⟩)] w fun e w' => ∃ v out, e = .returned v ∧ RowS w' w.heap.size v out ∧ out.Perm xs ∧ out.Pairwise (fun a b => seR a < seR b) ∧ KeptP (OfP p q mb) w w' := by
  have hlow : p < w.heap.size ∧ q < w.heap.size ∧ mb < w.heap.size := ⟨h.lp, h.lq, h.mp.lt⟩
  have H : Hid (Pis w base p q mb n cap xs ∧ HeapP.Hp (seK xs) xs.length ∧ xs.Pairwise (fun a b => seR a ≠ seR b) ∧ p < w.heap.size ∧ q < w.heap.size ∧ mb < w.heap.size) := ⟨h, hu, hd, hlow⟩
  clear h hu hd hlow
  go_enter Try.func54, Try.ntmps54
  go_wp2
  go_loopw [3] (fun v wr => ∃ (n' : Nat) (ys out : List S5), RowS wr w.heap.size v out ∧ Pis wr base p q mb n' cap ys ∧ HeapP.Hp (seK ys) ys.length ∧ (out ++ ys).Perm xs ∧ out.Pairwise (fun a b => seR a < seR b) ∧ (∀ a ∈ out, ∀ b ∈ ys, seR a < seR b) ∧ n' + 60 * ys.length ≤ n + 60 * xs.length ∧ KeptP (OfP p q mb) w wr) (fun v _ => 100 - seLen v)
  case atStart => exact ⟨n, xs, [], RowS.nil _ _, H.out.1, H.out.2.1, by simp, by simp, by simp, Nat.le_refl _, KeptP.refl _ _⟩
  case round =>
    obtain ⟨n', ys, out, hrow, hp, hu, hpm, hso, hlt, hnn, hk⟩ := hrel
    obtain ⟨a3, k3, rfl, -⟩ := hrow.form
    have hlen : out.length + ys.length = xs.length := by have := hpm.length_eq; simpa using this
    have p0 := hp.c0
    cases hys : ys with
    | nil =>
      subst hys
      have KE : Hid (RowS wr w.heap.size (.slice a3 out.length k3) out ∧ out.Perm xs ∧ out.Pairwise (fun a b => seR a < seR b) ∧ KeptP (OfP p q mb) w wr) := ⟨hrow, by simpa using hpm, hso, hk⟩
      simp only [List.length_nil] at p0
      clear hrow hp hu hpm hso hlt hk hlen hnn
      go_wp2
      go_ret
      exact ⟨_, out, rfl, KE.out.1, KE.out.2.1, KE.out.2.2.1, KE.out.2.2.2⟩
    | cons x r =>
      have hx : ys[0]? = some x := by rw [hys]; rfl
      have hyl : ys.length = r.length + 1 := by rw [hys]; rfl
      have c1 := seTake_any wr base p q mb n' cap r.length ys x hp (by omega) hyl (by omega) hx hu
      rw [hyl] at p0
      have d0 : decide ((0 : Int) < ((r.length + 1 : Nat) : Int)) = true := by simp
      have hdist : (out ++ ys).Pairwise (fun a b => seR a ≠ seR b) := (hpm.symm.pairwise_iff (fun {a b} (h : seR a ≠ seR b) => h.symm)).1 H.out.2.2.1
      have KA : Hid (RowS wr w.heap.size (.slice a3 out.length k3) out ∧ (out ++ ys).Perm xs ∧ out.Pairwise (fun a b => seR a < seR b) ∧ (∀ a ∈ out, ∀ b ∈ ys, seR a < seR b) ∧ KeptP (OfP p q mb) w wr ∧ (∀ b ∈ ys, seR x ≤ seR b) ∧ x ∈ ys ∧ (out ++ ys).Pairwise (fun a b => seR a ≠ seR b) ∧ ys.length = r.length + 1) := ⟨hrow, hpm, hso, hlt, hk, seTop hu hx, List.mem_of_getElem? hx, hdist, hyl⟩
      clear hrow hp hu hpm hso hlt hk hx hdist hys
      go_wp2_with fail
      refine c1.mono ?_
      clear c1 p0
      rintro e w1 ⟨rfl, n1, zs, hn1, p1, pm1, hp1, k1⟩
      obtain ⟨g1, g2, g3, g4, g5, g6, g7, g8, g9⟩ := KA.out
      have hnot : ∀ b, w.heap.size ≤ b → ¬ OfP p q mb b := fun b hb h => by
        obtain ⟨_, _, _, l1, l2, l3⟩ := H.out
        rcases h with h | h | h <;> omega
      have row1 : RowS w1 w.heap.size (.slice a3 out.length k3) out := g1.keep (fun b hb hlt _ => k1.block b hlt (hnot b hb))
      obtain ⟨V, hV⟩ : ∃ V, V = w1.alloc (.cells #[.int .i64 x.region, .int .i64 x.slot, .int .i64 x.value, .bool x.used, .int .i64 x.version] 36) := ⟨_, rfl⟩
      have bV : Below w1.heap.size w1 V := by rw [hV]; exact (Below.refl _ _).alloc (Nat.le_refl _) _
      have hone : SetsAt V w1.heap.size 0 [x] := by rw [hV]; exact (SetAt.box w1 _ _).one
      have hws : w.heap.size ≤ w1.heap.size := Nat.le_trans g5.size k1.size
      obtain ⟨v', Y, hr, hrow', hgr, hlies⟩ := pushSe (row1.later bV) [x] (by simp; omega) 25 w1.heap.size 0 1 hone (by have := bV.size; omega)
      have hzl : zs.length = r.length := by have := pm1.length_eq; simp at this; omega
      have hxz : ∀ b ∈ zs, seR x < seR b := fun b hb => by
        have h1 := g6 b (pm1.mem_iff.2 (by simp [hb]))
        have h2 : (x :: zs).Pairwise (fun a b => seR a ≠ seR b) := (pm1.pairwise_iff (fun {a b} (h : seR a ≠ seR b) => h.symm)).1 ((List.pairwise_append.1 g8).2.1)
        have h3 := (List.pairwise_cons.1 h2).1 b hb
        omega
      have kY : KeptP (OfP p q mb) w Y := by
        have k0 : KeptP (OfP p q mb) w V := (g5.trans k1).trans (KeptP.of_below bV)
        exact ⟨hgr.os.trans k0.os, hgr.tape.trans k0.tape, hgr.output.trans k0.output, Nat.le_trans k0.size hgr.size, fun b hb hnb => (hgr.block b (Nat.lt_of_lt_of_le hb k0.size) (fun e => by have := (row1.lt e.symm).1; omega)).trans (k0.block b hb hnb)⟩
      have KE : Hid (RowS Y w.heap.size v' (out ++ [x]) ∧ Pis Y base p q mb n1 cap zs ∧ HeapP.Hp (seK zs) zs.length ∧ ((out ++ [x]) ++ zs).Perm xs ∧ (out ++ [x]).Pairwise (fun a b => seR a < seR b) ∧ (∀ a ∈ out ++ [x], ∀ b ∈ zs, seR a < seR b) ∧ n1 + 60 * zs.length ≤ n + 60 * xs.length ∧ KeptP (OfP p q mb) w Y) := by
        refine ⟨hrow', ?_, hp1, ?_, ?_, ?_, by omega, kY⟩
        · refine (p1.later bV).keep hgr.size (fun b hb => hgr.block b ?_ (fun e => ?_))
          · have := bV.size
            rcases hb with rfl | rfl | rfl
            · have := p1.lp; omega
            · have := p1.lq; omega
            · have := p1.mp.lt; omega
          · exact hnot b (row1.lt e.symm).1 hb
        · rw [List.append_assoc]
          exact ((List.Perm.refl out).append (pm1.symm : (x :: zs).Perm ys)).trans g2
        · rw [List.pairwise_append]
          exact ⟨g3, by simp, fun a ha b hb => by simp at hb; subst hb; exact g4 a ha b g7⟩
        · intro a ha b hb
          rcases List.mem_append.1 ha with ha | ha
          · exact g4 a ha b (pm1.mem_iff.2 (by simp [hb]))
          · simp at ha; subst ha; exact hxz b hb
      have HL : Hid (out.length < 13 ∧ ∃ a c, v' = .slice a (out ++ [x]).length c) := ⟨by omega, by obtain ⟨a, c, e, _⟩ := hrow'.form; exact ⟨a, c, e⟩⟩
      rw [hV] at hr
      clear hV bV hone hrow' hgr hlies row1 hnot hzl hxz kY g1 g2 g3 g4 g5 g6 g7 g8 g9 p1 pm1 hp1 k1 hws
      simp only [List.length_cons, List.length_nil, Nat.zero_add] at hr
      go_wp2_with (at_builtin; refine append_known _ rfl (.tmp 10) (.tmp 13) 25 rfl _ _ _ _ rfl rfl hr ?_)
      obtain ⟨g1, a, c, rfl⟩ := HL.out
      exact ⟨⟨n1, zs, out ++ [x], KE.out⟩, by simp [seLen]; omega⟩
end Go.Proofs.Ytcanaklameddbaa
