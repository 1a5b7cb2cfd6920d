/- The law FnFreeSlots returns true whatever its bytes: a free slot is not in use, not locked and not one that is left out, and none ahead of it is. No condition. -/
import Derived.Test.YthadnikhnikceaaRows
import Derived.Test.YthadnikhnikceaaDraw3
import Derived.WalkKit
import Derived.ProofKit
import Derived.OpenShut
import Derived.ShutString
import Derived.ChangeOld
import Derived.Below
import Derived.Test.YthadnikhnikceaaOpenCells
namespace Go.Proofs.Ythadnikhnikceaa.fnFreeSlots
open Go.ChangeShapes Go.WideShapes Go.ChangeAt Go.RowKit
open Go.ChangeMaps (open_string shut_string)
set_option linter.unusedVariables false

theorem own : ownKnob Try.prog.godebug = none := by kernel_rfl
theorem laidOut : laidOutB Try.prog = true := by kernel_rfl

/-- What the walk is told of the bytes that came in. -/
def IsRow (k : IntKind) (w : World) (a : Option Addr) (len cap : Nat) (zs : List Int) : Prop :=
  (a = none ∧ len = 0 ∧ cap = 0 ∧ zs = []) ∨
  ∃ x, a = some x ∧ len ≤ cap ∧ cap ≤ maxLen ∧ zs.length = cap ∧ (∀ i, i < zs.length → w.cell? (x.add i) = some (.int k (zs.getD i 0))) ∧ ∀ n ∈ zs, (Lit.int k n).wf = true
theorem IsRow.bytes {w : World} {a : Option Addr} {n k : Nat} {zs : List Int} (h : IsRow .u8 w a n k zs) : Bytes w w.heap.size a n := by
  rcases h with ⟨rfl, rfl, rfl, rfl⟩ | ⟨x, rfl, hl, hm, hz, hc, hw⟩
  · exact ⟨by unfold maxLen; omega, .inl rfl⟩
  · refine ⟨by omega, ?_⟩
    by_cases h0 : n = 0
    · exact .inl h0
    · obtain ⟨b, off, rfl, hcc⟩ := ints_at hc (by omega)
      exact .inr ⟨b, off, rfl, World.block_lt_of_cell? w _ (hcc 0 (by omega)), fun i hi => ⟨zs.getD i 0, hcc i (by omega), by simpa using range_u8 hw i⟩⟩
theorem has_take {zs : List Int} {i : Nat} {z s : Int} (h : zs[i]? = some z) : hasB (zs.take (i + 1)) s = (hasB (zs.take i) s || decide (z = s)) := by
  rw [List.take_add_one, h, hasB, List.any_append]
  simp [hasB]
theorem cells_of_room {w : World} {b off m : Nat} (h : IntRoom w b 12) (hm : off + m * 2 ≤ 12) : ∃ xs : List C2, xs.length = m ∧ CellsAt w b off xs := by
  obtain ⟨xs, h1, h2⟩ := some_of (p := fun i (s : C2) => CellAt w b (off + i * 2) s) m fun i hi => by
    obtain ⟨z0, c0, _⟩ := h (off + i * 2) (by omega)
    obtain ⟨z1, c1, _⟩ := h (off + i * 2 + 1) (by omega)
    exact ⟨⟨z0, z1⟩, c0, c1⟩
  exact ⟨xs, h1, h2⟩
set_option maxHeartbeats 8000000 in
theorem walk (a0 : Option Addr) (len0 cap0 : Nat) (z0 : List Int) (w : World) (w0 : IsRow .u8 w a0 len0 cap0 z0) :
    Calls Try.prog 3 #[.slice a0 len0 cap0] w fun e w' => e = .returned (.bool true) ∧ Below w.heap.size w w' := by
  have hb := w0.bytes
  clear w0
  by_cases hn : len0 ≤ 4096
  · go_enter Try.func3, Try.ntmps3
    go_wp2_with (go_at_call 12; go_in)
    refine (DrawFreeSlot_any _ a0 len0 cap0 hb hn).mono ?_
    rintro e w1 ⟨v, g, n', cap', zs, rfl, ⟨_, b, off, m, cap, rfl, _, _, hb2, hr, hom⟩, hzl, hn3, hg, hnums, hbe⟩
    obtain ⟨xs, hxl, hcs⟩ := cells_of_room hr hom
    have hmx : m ≤ maxLen := by unfold maxLen; omega
    have hmx' : n' ≤ maxLen := by unfold maxLen; omega
    have K1 : Hid (SlC w1 w1.heap.size (some ⟨b, off, none⟩) m xs ∧ SlN w1 w1.heap.size (some ⟨g, 0, none⟩) n' zs ∧ Below w.heap.size w w1) := ⟨⟨hxl, .inr ⟨b, off, rfl, hb2, hcs⟩⟩, ⟨hzl, .inr ⟨g, 0, rfl, hg, hnums⟩⟩, hbe⟩
    have hz3 : zs.length = n' := hzl
    clear hb hb2 hr hcs hg hnums hbe hzl hxl
    go_wp2_with fail
    refine (implFreeSlot_any _ _ m cap _ n' cap' xs zs hmx K1.out.1 hmx' K1.out.2.1).mono ?_
    rintro e w2 ⟨rfl, b2⟩
    have K2 : Hid (SlC w2 w2.heap.size (some ⟨b, off, none⟩) m xs ∧ SlN w2 w2.heap.size (some ⟨g, 0, none⟩) n' zs ∧ Below w.heap.size w w2) := ⟨K1.out.1.later b2, K1.out.2.1.later b2, K1.out.2.2.trans (b2.mono K1.out.2.2.size)⟩
    clear b2 K1
    go_wp2_with fail
    refine (specFreeSlot_any _ _ m cap _ n' cap' xs zs hmx K2.out.1 hmx' K2.out.2.1).mono ?_
    rintro e w3 ⟨rfl, b3⟩
    have K3 : Hid (SlC w3 w3.heap.size (some ⟨b, off, none⟩) m xs ∧ SlN w3 w3.heap.size (some ⟨g, 0, none⟩) n' zs ∧ Below w.heap.size w w3) := ⟨K2.out.1.later b3, K2.out.2.1.later b3, K2.out.2.2.trans (b3.mono K2.out.2.2.size)⟩
    clear b3 K2
    go_wp2_with fail
    refine (implCellsOk_any _ _ m cap xs hmx K3.out.1).mono ?_
    cases g1 : cellsB xs with
    | false =>
      rintro e w4 ⟨rfl, b4⟩
      have hf : freeR xs zs = -1 := by rw [freeR, g1]; rfl
      have hfq : (freeR xs zs == -1) = true := by rw [hf]; rfl
      have B4 : Hid (Below w.heap.size w w4) := K3.out.2.2.trans (b4.mono K3.out.2.2.size)
      clear hf b4
      go_wp2
      go_ret
      exact ⟨by simp, B4.out⟩
    | true =>
      rintro e w4 ⟨rfl, b4⟩
      have h6 := cells_six g1
      have hm6 : m = 6 := by rw [← K3.out.1.1]; exact h6
      subst hm6
      have K4 : Hid (SlC w4 w4.heap.size (some ⟨b, off, none⟩) 6 xs ∧ SlN w4 w4.heap.size (some ⟨g, 0, none⟩) n' zs ∧ Below w.heap.size w w4 ∧ cellsB xs = true ∧ freeR xs zs = freeFrom xs zs 0 6) := ⟨K3.out.1.later b4, K3.out.2.1.later b4, K3.out.2.2.trans (b4.mono K3.out.2.2.size), g1, by rw [freeR, g1]; rfl⟩
      clear b4 K3 g1 h6 hmx
      generalize freeR xs zs = f at *
      go_wp2
      go_loop [6] (fun v => ∃ k : Nat, k ≤ 6 ∧ v = .int .i64 k ∧ f = freeFrom xs zs k (6 - k)) (fun v => 6 - (intOf v).toNat)
      case atStart => exact ⟨0, Nat.zero_le _, rfl, K4.out.2.2.2.2⟩
      case round =>
        obtain ⟨k, hk, rfl, hfr⟩ := hrel
        by_cases hlt : k < 6
        · have hlt' : (k : Int) < 6 := by omega
          have HF : Hid (f = if freeB xs zs k = true then (k : Int) else freeFrom xs zs (k + 1) (6 - (k + 1))) := by unfold Hid; rw [hfr, show 6 - k = (6 - (k + 1)) + 1 by omega, freeFrom]
          clear hfr
          have hg := cells_head K4.out.2.2.2.1 hlt
          obtain ⟨hxl, hsl⟩ := K4.out.1
          have hc : CellAt w4 b (off + k * 2) (at2 xs k) := by
            rcases hsl with h0 | ⟨b', off', e, _, h⟩
            · omega
            · cases e; exact h.get (by omega)
          obtain ⟨c0, c1⟩ := hc
          clear hxl hsl
          have HFB : Hid (freeB xs zs k = (!usedB (at2 xs k).head && !lockedB (at2 xs k).head && !hasB zs (k : Int))) := rfl
          generalize at2 xs k = C at c0 c1 hg HFB
          obtain ⟨h, v⟩ := C
          simp only at c0 c1 hg HFB
          have inner : ∀ i, i < n' → w4.cell? ⟨g, i, none⟩ = some (.int .i64 (atN zs i)) := fun i hi => by
            obtain ⟨_, hsn⟩ := K4.out.2.1
            rcases hsn with h0 | ⟨b', off', e, _, hh⟩
            · omega
            · cases e
              have := hh i _ (atN_of (by omega))
              simpa using this
          have INNER : Hid (∀ i, i < n' → w4.cell? ⟨g, i, none⟩ = some (.int .i64 (atN zs i))) := inner
          clear inner c1
          cases g2 : usedB h <;> cases g3 : lockedB h
          · rw [g2, g3] at HFB
            go_wp2_with (first | (go_at_call 17; refine (implUsed_any _ _).mono ?_; rw [hg, g2]; rintro e w' ⟨rfl, rfl⟩) | (go_at_call 18; refine (implLocked_any _ _).mono ?_; rw [hg, g3]; rintro e w' ⟨rfl, rfl⟩))
            go_loop [7, 8] (fun v7 v8 => ∃ i : Nat, i ≤ n' ∧ v8 = .int .i64 i ∧ v7 = .bool (!hasB (zs.take i) (k : Int))) (fun _ v8 => n' - (intOf v8).toNat)
            case atStart => exact ⟨0, Nat.zero_le _, rfl, rfl⟩
            case round =>
              obtain ⟨i, hi, rfl, rfl⟩ := hrel
              by_cases hl : i < n'
              · have hl' : (i : Int) < (n' : Int) := by omega
                have ci := INNER.out i hl
                have HT : Hid (hasB (zs.take (i + 1)) (k : Int) = (hasB (zs.take i) (k : Int) || decide (atN zs i = (k : Int)))) := has_take (atN_of (by omega))
                generalize atN zs i = z at ci HT
                cases ht : hasB (zs.take i) (k : Int) with
                | true =>
                  go_wp2
                  exact ⟨⟨i + 1, by omega, by simp, by rw [HT.out, ht]; rfl⟩, by simp [intOf]; omega⟩
                | false =>
                  go_wp2
                  refine ⟨⟨i + 1, by omega, by simp, ?_⟩, by simp [intOf]; omega⟩
                  rw [HT.out, ht]
                  by_cases e : z = (k : Int) <;> simp [e]
              · have : i = n' := by omega
                subst this
                have hd : decide ((i : Int) < (i : Int)) = false := by simp
                have htk : zs.take i = zs := List.take_of_length_le (by omega)
                rw [htk]
                clear htk
                cases ht : hasB zs (k : Int) with
                | true =>
                  go_wp2
                  exact ⟨⟨k + 1, by omega, by simp, by rw [HF.out, HFB.out, ht]; rfl⟩, by simp [intOf]; omega⟩
                | false =>
                  have hfk : f = (k : Int) := by rw [HF.out, HFB.out, ht]; rfl
                  have hfq : (f == (k : Int)) = true := by rw [hfk]; simp
                  clear hfk
                  go_wp2
                  go_ret
                  exact ⟨by simp, K4.out.2.2.1⟩
          · rw [g2, g3] at HFB
            go_wp2_with (first | (go_at_call 17; refine (implUsed_any _ _).mono ?_; rw [hg, g2]; rintro e w' ⟨rfl, rfl⟩) | (go_at_call 18; refine (implLocked_any _ _).mono ?_; rw [hg, g3]; rintro e w' ⟨rfl, rfl⟩))
            go_loop [7, 8] (fun v7 v8 => ∃ i : Nat, i ≤ n' ∧ v8 = .int .i64 i ∧ v7 = .bool false) (fun _ v8 => n' - (intOf v8).toNat)
            case atStart => exact ⟨0, Nat.zero_le _, rfl, rfl⟩
            case round =>
              obtain ⟨i, hi, rfl, rfl⟩ := hrel
              by_cases hl : i < n'
              · have hl' : (i : Int) < (n' : Int) := by omega
                go_wp2
                exact ⟨⟨i + 1, by omega, by simp, rfl⟩, by simp [intOf]; omega⟩
              · have : i = n' := by omega
                subst this
                have hd : decide ((i : Int) < (i : Int)) = false := by simp
                go_wp2
                exact ⟨⟨k + 1, by omega, by simp, by rw [HF.out, HFB.out]; rfl⟩, by simp [intOf]; omega⟩
          · rw [g2, g3] at HFB
            go_wp2_with (first | (go_at_call 17; refine (implUsed_any _ _).mono ?_; rw [hg, g2]; rintro e w' ⟨rfl, rfl⟩) | (go_at_call 18; refine (implLocked_any _ _).mono ?_; rw [hg, g3]; rintro e w' ⟨rfl, rfl⟩))
            go_loop [7, 8] (fun v7 v8 => ∃ i : Nat, i ≤ n' ∧ v8 = .int .i64 i ∧ v7 = .bool false) (fun _ v8 => n' - (intOf v8).toNat)
            case atStart => exact ⟨0, Nat.zero_le _, rfl, rfl⟩
            case round =>
              obtain ⟨i, hi, rfl, rfl⟩ := hrel
              by_cases hl : i < n'
              · have hl' : (i : Int) < (n' : Int) := by omega
                go_wp2
                exact ⟨⟨i + 1, by omega, by simp, rfl⟩, by simp [intOf]; omega⟩
              · have : i = n' := by omega
                subst this
                have hd : decide ((i : Int) < (i : Int)) = false := by simp
                go_wp2
                exact ⟨⟨k + 1, by omega, by simp, by rw [HF.out, HFB.out]; rfl⟩, by simp [intOf]; omega⟩
          · rw [g2, g3] at HFB
            go_wp2_with (first | (go_at_call 17; refine (implUsed_any _ _).mono ?_; rw [hg, g2]; rintro e w' ⟨rfl, rfl⟩) | (go_at_call 18; refine (implLocked_any _ _).mono ?_; rw [hg, g3]; rintro e w' ⟨rfl, rfl⟩))
            go_loop [7, 8] (fun v7 v8 => ∃ i : Nat, i ≤ n' ∧ v8 = .int .i64 i ∧ v7 = .bool false) (fun _ v8 => n' - (intOf v8).toNat)
            case atStart => exact ⟨0, Nat.zero_le _, rfl, rfl⟩
            case round =>
              obtain ⟨i, hi, rfl, rfl⟩ := hrel
              by_cases hl : i < n'
              · have hl' : (i : Int) < (n' : Int) := by omega
                go_wp2
                exact ⟨⟨i + 1, by omega, by simp, rfl⟩, by simp [intOf]; omega⟩
              · have : i = n' := by omega
                subst this
                have hd : decide ((i : Int) < (i : Int)) = false := by simp
                go_wp2
                exact ⟨⟨k + 1, by omega, by simp, by rw [HF.out, HFB.out]; rfl⟩, by simp [intOf]; omega⟩
        · have : k = 6 := by omega
          subst this
          have hfq : (f == -1) = true := by rw [hfr]; rfl
          clear hfr
          go_wp2
          go_ret
          exact ⟨by simp, K4.out.2.2.1⟩
  · go_enter Try.func3, Try.ntmps3
    have hbig : (4096 : Int) < (len0 : Int) := by omega
    have hmm := hb.1
    unfold maxLen at hmm
    go_wp2_with (go_at_call 12; go_in)
    go_ret
    exact ⟨rfl, Below.refl _ _⟩
set_option maxRecDepth 100000 in
theorem lifted (os : Os) (started : os.Started) (H : Type) (enc : TypeId × Value → H) :
    ReturnsInHanded {} Try.checked os 3 .any (Rows.fnFreeSlotsSpec.pre6 enc Try.prog Try.f3 Rows.fnFreeSlotsRow.domain false) (Rows.fnFreeSlotsSpec.post enc Try.prog Try.f3 false true false false) := by
  refine returnsInHanded_of_change (C := Try.checked) own started (by kernel_rfl) Try.func3
    (ChangeSpec.witness6 (enc := enc) (C := Try.checked) false ⟨#[], #[.slice none 0 0], []⟩ 8 (by kernel_rfl) (by kernel_rfl) (by kernel_rfl) (by kernel_rfl)) ?_
  intro W base args ds gs before hval0 hW hcnd _
  have hval : ∀ (j : Nat) t v, Try.f3.params[j]? = some t → args[j]? = some v → Value.okWide Try.prog W .any base t v := hval0
  have hW' := hW
  obtain ⟨p, q, hA0, hV, rfl, hfz, hnd⟩ := hW
  have hA : DataW.TrodAll enc Try.prog W 0 (fun _ => true) true Try.f3.params.toList args.toList ds p := hA0
  rw [Try.params3] at hA hval
  obtain ⟨v0, vs0, d0, ds0, p0, q0, hargs, rfl, rfl, h0, r0⟩ := trodAll_cons hA
  obtain ⟨rfl, rfl, rfl⟩ := trodAll_nil r0
  obtain rfl : args = #[v0] := by cases args; simp_all
  obtain ⟨rfl, rfl⟩ := trodVars_none hV
  obtain ⟨a0, len0, cap0, rfl⟩ := okWide_slice Try.underlying22 (hval 0 22 v0 rfl rfl)
  have k0 := h0
  have lt0 : ∀ x ∈ p0, x.block < W.heap.size := by obtain ⟨m, hm⟩ := k0; exact DataW.trod_lt m _ _ _ hm
  obtain ⟨z0, w0⟩ : ∃ zs, IsRow .u8 W a0 len0 cap0 zs := by
    obtain ⟨fuel, hf⟩ := h0
    rcases open_ints Try.underlying22 Try.underlying5 (by kernel_rfl) hf with ⟨hcs, _⟩ | ⟨x, l, c, zs, hcs, _, hl, hm, hz, _, hcell, hwz⟩
    · simp [Value.cells] at hcs
      obtain ⟨rfl, rfl, rfl⟩ := hcs
      exact ⟨[], .inl ⟨rfl, rfl, rfl, rfl⟩⟩
    · simp [Value.cells] at hcs
      obtain ⟨rfl, rfl, rfl⟩ := hcs
      exact ⟨zs, .inr ⟨_, rfl, hl, hm, by simpa using hz, hcell, hwz⟩⟩
  clear hA0 hval0
  refine (walk a0 len0 cap0 z0 W w0).mono fun e W' ⟨he, bel⟩ => ?_
  subst he
  exact ⟨_, rfl, _, _, _, [], _, [], hW', trodAll_mk1 (shut_bool Try.underlying4 _), (trodAll_cons_mk (Below.trod laidOut (by kernel_rfl) (of_decide_eq_true (by kernel_rfl)) k0 bel lt0) trodAll_mk0), rfl, bel.frame _, fun h => by cases h⟩

theorem over : Rows.fnFreeSlotsRow.holds Try.pinned (OpenSpec.ofChange Rows.fnFreeSlotsSpec) :=
  OpenClaim.holds_of_wide 3 Try.f3 rfl rfl rfl rfl rfl rfl rfl ⟨rfl, rfl, rfl, rfl, rfl⟩ rfl rfl rfl rfl rfl (by kernel_rfl) Try.func3 (by kernel_rfl)
    (of_decide_eq_true (by kernel_rfl)) (by unfold Func.isWrapper; first | (rw [if_pos (by decide +kernel)]; kernel_rfl) | (rw [if_neg (by decide +kernel)]; exact ⟨rfl, rfl⟩))
    (fun os started H enc _ => lifted os started H enc)

end Go.Proofs.Ythadnikhnikceaa.fnFreeSlots
namespace Go.Proofs.Ythadnikhnikceaa
theorem fnFreeSlots_holds : Rows.FnFreeSlotsSaid := fnFreeSlots.over
#print axioms fnFreeSlots_holds
end Go.Proofs.Ythadnikhnikceaa
