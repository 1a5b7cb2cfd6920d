/- WanF; ChkB; ChkA; SofI; BytesIn: joined. -/
import Derived.Test.YtiidlcjjaglkdaaRows
import Derived.Test.YtiidlcjjaglkdaaJ9LawWanted
import Derived.Test.YtiidlcjjaglkdaaJ5LawWanted
import Derived.Test.YtiidlcjjaglkdaaJ4LawWanted
import Derived.WalkKit
import Derived.WalkSpells
import Derived.WalkLawsBesides
import Derived.Below
import Derived.Lib.QuietBelow
import Derived.BigQuiet
import Derived.Test.YtiidlcjjaglkdaaJ0LawWanted
import Derived.ProofKit
import Derived.OpenShut
namespace Go.Proofs.Ytiidlcjjaglkdaa
theorem mem_wln {zs : List Int} : ∀ j, (∀ z ∈ wln zs j, ∃ i, i < j ∧ z = atN zs i) ∧ ∀ i, i < j → atN zs i ∈ wln zs j
  | 0 => ⟨fun z h => by simp [wln] at h, fun i h => by omega⟩
  | j + 1 => by
    obtain ⟨h1, h2⟩ := mem_wln (zs := zs) j
    rw [wln]
    split
    · next hh =>
      refine ⟨fun z hz => ?_, fun i hi => ?_⟩
      · obtain ⟨i, hi, e⟩ := h1 z hz; exact ⟨i, by omega, e⟩
      · by_cases hij : i = j
        · subst hij; exact has_mem.1 hh
        · exact h2 i (by omega)
    · refine ⟨fun z hz => ?_, fun i hi => ?_⟩
      · rcases List.mem_append.1 hz with hz | hz
        · obtain ⟨i, hi, e⟩ := h1 z hz; exact ⟨i, by omega, e⟩
        · rw [List.mem_singleton] at hz; exact ⟨j, by omega, hz⟩
      · by_cases hij : i = j
        · subst hij; exact List.mem_append.2 (.inr (List.mem_singleton.2 rfl))
        · exact List.mem_append.2 (.inl (h2 i (by omega)))
theorem up_mono {zs : List Int} (h : ∀ i, i + 1 < zs.length → atN zs i ≤ atN zs (i + 1)) (i : Nat) : ∀ d, i + d < zs.length → atN zs i ≤ atN zs (i + d)
  | 0, _ => Int.le_refl _
  | d + 1, hd => Int.le_trans (up_mono h i d (by omega)) (h (i + d) (by omega))
theorem wln_up {zs : List Int} (h : ∀ i, i + 1 < zs.length → atN zs i ≤ atN zs (i + 1)) : ∀ j, j ≤ zs.length → (wln zs j).Pairwise (fun a b => a < b)
  | 0, _ => by rw [wln]; exact List.Pairwise.nil
  | j + 1, hj => by
    have ih := wln_up h j (by omega)
    rw [wln]
    split
    · exact ih
    · next hh =>
      rw [List.pairwise_append]
      refine ⟨ih, List.pairwise_singleton _ _, fun x hx y hy => ?_⟩
      rw [List.mem_singleton] at hy
      subst hy
      obtain ⟨i, hi, rfl⟩ := (mem_wln j).1 x hx
      have hle := up_mono h i (j - i) (by omega)
      rw [show i + (j - i) = j by omega] at hle
      rcases Int.lt_or_eq_of_le hle with hlt | he
      · exact hlt
      · exact absurd (has_mem.2 (he ▸ hx)) hh
theorem wants_up {t : T7} (h : txB t = true) : (wantsT t).Pairwise (fun a b => a < b) := by
  rw [wantsT, if_pos h]
  exact wln_up (rgs_up h) _ (by simp [rgs])
theorem wants_next {t : T7} (h : txB t = true) {i : Nat} (hi : i + 1 < (wantsT t).length) : atN (wantsT t) i < atN (wantsT t) (i + 1) := by
  have := List.pairwise_iff_getElem.1 (wants_up h) i (i + 1) (by omega) hi (by omega)
  simpa [atN, hi, Nat.lt_of_succ_lt hi] using this
theorem wants_mem {t : T7} (h : txB t = true) (g : Int) : g ∈ wantsT t ↔ ∃ s ∈ t.sets, s.region = g := by
  rw [wantsT, if_pos h]
  constructor
  · intro hg
    obtain ⟨i, hi, rfl⟩ := (mem_wln _).1 g hg
    exact ⟨atSe t.sets i, List.mem_of_getElem? (atSe_of hi), (rgs_at hi).symm⟩
  · rintro ⟨s, hs, rfl⟩
    obtain ⟨i, hi, rfl⟩ := List.getElem_of_mem hs
    have := (mem_wln (zs := rgs t.sets) t.sets.length).2 i hi
    rw [rgs_at hi] at this
    have e : atSe t.sets i = t.sets[i] := by have := atSe_of hi; rw [List.getElem?_eq_getElem hi] at this; exact (Option.some.inj this).symm
    rw [e] at this
    exact this
theorem wants_some {t : T7} (h : txB t = true) {i : Nat} (hi : i < (wantsT t).length) : 0 < (setsOfT t (atN (wantsT t) i)).length := by
  have hm : atN (wantsT t) i ∈ wantsT t := List.mem_of_getElem? (atN_of hi)
  obtain ⟨s, hs, e⟩ := (wants_mem h _).1 hm
  rw [setsOfT, if_pos h]
  exact List.length_pos_of_mem (List.mem_filter.2 ⟨hs, by simp [e]⟩)
theorem one_of {r : Int} : ∀ {ws : List Int}, ws.Pairwise (fun a b => a < b) → (ws.map fun g => if r = g then 1 else 0).sum = if r ∈ ws then 1 else 0
  | [], _ => by simp
  | g :: ws, h => by
    obtain ⟨h1, h2⟩ := List.pairwise_cons.1 h
    rw [List.map_cons, List.sum_cons, one_of h2]
    by_cases e : r = g
    · subst e
      have : r ∉ ws := fun hh => absurd (h1 r hh) (by omega)
      simp [this]
    · simp [e]
theorem sum_all {ws : List Int} (hw : ws.Pairwise (fun a b => a < b)) : ∀ (xs : List S5), (∀ s ∈ xs, s.region ∈ ws) → (ws.map fun g => (ofR g xs).length).sum = xs.length
  | [], _ => by
    have : ∀ l : List Int, (l.map fun _ => 0).sum = 0 := fun l => by
      induction l with
      | nil => rfl
      | cons _ l ih => simpa using ih
    simpa [ofR] using this ws
  | s :: xs, h => by
    have ih := sum_all hw xs (fun x hx => h x (List.mem_cons_of_mem _ hx))
    have e : ∀ g, (ofR g (s :: xs)).length = (if s.region = g then 1 else 0) + (ofR g xs).length := fun g => by
      unfold ofR
      rw [List.filter_cons]
      by_cases hg : s.region = g
      · simp [hg]; omega
      · simp [hg]
    have add : ∀ (l : List Int) (f k : Int → Nat), (l.map fun g => f g + k g).sum = (l.map f).sum + (l.map k).sum := fun l f k => by
      induction l with
      | nil => rfl
      | cons a l ih => simp only [List.map_cons, List.sum_cons, ih]; omega
    have o := one_of (r := s.region) hw
    rw [if_pos (h s (List.mem_cons_self ..))] at o
    rw [show (fun g => (ofR g (s :: xs)).length) = (fun g => (if s.region = g then 1 else 0) + (ofR g xs).length) from funext e, add, o, ih, List.length_cons]
    omega
def sumW (t : T7) (j : Nat) : Nat := (((wantsT t).take j).map fun g => (setsOfT t g).length).sum
theorem sumW_zero (t : T7) : sumW t 0 = 0 := rfl
theorem sumW_next (t : T7) {j : Nat} (hj : j < (wantsT t).length) : sumW t (j + 1) = sumW t j + (setsOfT t (atN (wantsT t) j)).length := by
  unfold sumW
  rw [List.take_add_one, atN_of hj]
  simp
theorem sumW_all {t : T7} (h : txB t = true) : sumW t (wantsT t).length = t.sets.length := by
  unfold sumW
  rw [List.take_length]
  have := sum_all (wants_up h) t.sets (fun s hs => (wants_mem h _).2 ⟨s, hs, rfl⟩)
  rw [← this]
  congr 1
  refine List.map_congr_left fun g _ => ?_
  rw [setsOfT, if_pos h]
theorem sumW_le {t : T7} (h : txB t = true) : ∀ j, sumW t j ≤ 1000
  | 0 => by rw [sumW_zero]; omega
  | j + 1 => by
    by_cases hj : j < (wantsT t).length
    · have hn : ∀ d, j + 1 + d ≤ (wantsT t).length → sumW t (j + 1) ≤ sumW t (j + 1 + d) := fun d => by
        induction d with
        | zero => exact fun _ => Nat.le_refl _
        | succ d ih =>
          intro hd
          have := ih (by omega)
          rw [← Nat.add_assoc, sumW_next t (j := j + 1 + d) (by omega)]
          omega
      have := hn ((wantsT t).length - (j + 1)) (by omega)
      rw [show j + 1 + ((wantsT t).length - (j + 1)) = (wantsT t).length by omega, sumW_all h] at this
      have := (txB_lens h).2
      omega
    · have ih := sumW_le h j
      have : sumW t (j + 1) = sumW t j := by
        unfold sumW
        rw [List.take_of_length_le (by omega), List.take_of_length_le (by omega)]
      omega
theorem checks_none {t : T7} (h : txB t = true) {i k : Nat} (hi : i < (checksT t).length) (hk : k < t.sets.length) : ¬ ((atSe t.sets k).region = (atNo (checksT t) i).region ∧ (atSe t.sets k).slot = (atNo (checksT t) i).slot) := by
  have hm : atNo (checksT t) i ∈ checksT t := List.mem_of_getElem? (atNo_of hi)
  generalize atNo (checksT t) i = n at *
  rw [checksT, if_pos h] at hm
  have hn := (List.mem_filter.1 hm).2
  rw [Option.isNone_iff_eq_none, seW, List.findIdx?_eq_none_iff] at hn
  have := hn _ (List.mem_of_getElem? (atSe_of hk))
  rintro ⟨h1, h2⟩
  simp [h1, h2] at this
theorem nodup_len : ∀ {xs ys : List Int}, xs.Nodup → (∀ x ∈ xs, x ∈ ys) → xs.length ≤ ys.length
  | [], _, _, _ => Nat.zero_le _
  | x :: xs, ys, hn, hs => by
    obtain ⟨h1, h2⟩ := List.nodup_cons.1 hn
    have hx : x ∈ ys := hs x (List.mem_cons_self ..)
    have := nodup_len (ys := ys.erase x) h2 (fun y hy => (List.mem_erase_of_ne (by rintro rfl; exact h1 hy)).2 (hs y (List.mem_cons_of_mem _ hy)))
    have hl := List.length_erase_of_mem hx
    have := List.length_pos_of_mem hx
    rw [List.length_cons]
    omega
theorem checks_len {t : T7} (h : txB t = true) : (checksT t).length ≤ t.reads.length ∧ t.reads.length ≤ (checksT t).length + t.sets.length := by
  rw [checksT, if_pos h]
  refine ⟨ofC_len _ _, ?_⟩
  have part : ∀ xs : List N5, xs.length = (ofC t.sets xs).length + (xs.filter fun n => (seW t.sets n.region n.slot).isSome).length := fun xs => by
    induction xs with
    | nil => rfl
    | cons n xs ih =>
      unfold ofC at ih ⊢
      rw [List.filter_cons, List.filter_cons, List.length_cons, ih]
      cases hx : seW t.sets n.region n.slot with
      | none => simp; omega
      | some i => simp; omega
  rw [part t.reads]
  have hup := (txB_no h).2
  have hsub : (((t.reads.filter fun n => (seW t.sets n.region n.slot).isSome).map noR).Pairwise (fun a b => a < b)) := by
    rw [List.pairwise_map]
    exact List.Pairwise.sublist List.filter_sublist hup
  have hnd : ((t.reads.filter fun n => (seW t.sets n.region n.slot).isSome).map noR).Nodup := List.Pairwise.imp (fun h => Int.ne_of_lt h) hsub
  have := nodup_len (ys := t.sets.map seR) hnd (fun x hx => by
    obtain ⟨n, hn, rfl⟩ := List.mem_map.1 hx
    obtain ⟨_, hs⟩ := List.mem_filter.1 hn
    obtain ⟨i, hi⟩ := Option.isSome_iff_exists.1 hs
    unfold seW at hi
    rw [List.findIdx?_eq_some_iff_getElem] at hi
    obtain ⟨hl, hp, _⟩ := hi
    have hp' : t.sets[i].region = n.region ∧ t.sets[i].slot = n.slot := by simpa using hp
    exact List.mem_map.2 ⟨t.sets[i], List.getElem_mem hl, by unfold seR noR; rw [hp'.1, hp'.2]⟩)
  rw [List.length_map, List.length_map] at this
  omega
end Go.Proofs.Ytiidlcjjaglkdaa
namespace Go.Proofs.Ytiidlcjjaglkdaa
open Go.RowKit
open Go.Sort (grow)
set_option maxHeartbeats 4000000 in
theorem l7Checks_any (w : World) (v : TV) (t : T7) (hl : t.sets.length ≤ 1000) (hr : t.reads.length ≤ 1000) (hs : SlT w v t) :
    Calls Try.prog 74 #[v.val t] w (CAns w (ofC t.sets t.reads)) := by
  obtain ⟨ar, cr, ah, ch⟩ := v
  simp only [TV.val]
  obtain ⟨W0, hW0⟩ : ∃ W, W = w.alloc (.cells #[.int .i64 t.id, .int .i64 t.home, .int .i64 t.phase, .int .i64 t.count, .slice ar t.reads.length cr, .slice ah t.sets.length ch, .int .i64 t.stamp] 27) := ⟨_, rfl⟩
  have b0 : Below w.heap.size w W0 := by rw [hW0]; exact (Below.refl _ _).alloc (Nat.le_refl _) _
  have x0 : BT W0 w.heap.size ⟨ar, cr, ah, ch⟩ t := by rw [hW0]; exact BT.box w ⟨ar, cr, ah, ch⟩ t _
  have z0 : W0.heap.size = w.heap.size + 1 := by rw [hW0]; simp
  obtain ⟨W, hW⟩ : ∃ W, W = W0.alloc (.cells #[] 29) := ⟨_, rfl⟩
  have b1 : Below W0.heap.size W0 W := by rw [hW]; exact (Below.refl _ _).alloc (Nat.le_refl _) _
  have r1 : RowN W (w.heap.size + 1) (.slice (some ⟨w.heap.size + 1, 0, none⟩) 0 0) [] := by rw [hW, ← z0]; exact RowN.made W0
  have H : Hid (SlT w ⟨ar, cr, ah, ch⟩ t ∧ BT W w.heap.size ⟨ar, cr, ah, ch⟩ t ∧ Below w.heap.size w W ∧ RowN W (w.heap.size + 1) (.slice (some ⟨w.heap.size + 1, 0, none⟩) 0 0) [] ∧ w.heap.size + 1 ≤ W.heap.size) := ⟨hs, x0.later b1, b0.trans (b1.mono b0.size), r1, by rw [← z0]; exact b1.size⟩
  clear hs b0 x0 z0 b1 r1
  rw [hW0] at hW
  clear hW0
  go_enter Try.func74, Try.ntmps74
  go_wp2
  rw [← hW]
  clear hW
  go_loopw [3, 4] (fun v3 v4 wr => ∃ k : Nat, k ≤ t.reads.length ∧ v4 = .int .i64 k ∧ RowN wr (w.heap.size + 1) v3 (ofC t.sets (t.reads.take k)) ∧ Below (w.heap.size + 1) W wr) (fun _ v4 _ => t.reads.length - (intOf v4).toNat)
  case atStart => exact ⟨0, Nat.zero_le _, rfl, by simpa [ofC] using H.out.2.2.2.1, Below.refl _ _⟩
  case round =>
    obtain ⟨k, hk, rfl, hrow, hbl⟩ := hrel
    obtain ⟨h1, h2, h3, h4, h5⟩ := H.out
    have hsz := hbl.size
    have bw : Below w.heap.size w wr := h3.trans (hbl.mono (by omega))
    have hbt := h2.of_block (hbl.block w.heap.size (by omega)) hbl.size
    by_cases hlt : k < t.reads.length
    · have hsl := h1.later bw
      obtain ⟨_, hsk⟩ := hsl.r
      dsimp only at hsk
      rcases hsk with hsk | ⟨b, off, rfl, hb, hx⟩
      · omega
      have hat := hx k _ (atNo_of hlt)
      obtain ⟨c0, c1, c2, c3, c4⟩ := hat
      obtain ⟨p0, p1, p2, p3, p4, p5, p6, -, hlt0⟩ := hbt
      dsimp only at p0 p1 p2 p3 p4 p5 p6
      have hk5 : (k : Int) < (t.reads.length : Int) := by omega
      have q0 : ∀ d os, (grow (redrawn wr d) os).cell? ⟨w.heap.size, 0, none⟩ = some (.int .i64 t.id) := fun d os => ((below_regrown wr d os).cell (p := ⟨w.heap.size, 0, none⟩) hlt0).trans p0
      have q1 : ∀ d os, (grow (redrawn wr d) os).cell? ⟨w.heap.size, 1, none⟩ = some (.int .i64 t.home) := fun d os => ((below_regrown wr d os).cell (p := ⟨w.heap.size, 1, none⟩) hlt0).trans p1
      have q2 : ∀ d os, (grow (redrawn wr d) os).cell? ⟨w.heap.size, 2, none⟩ = some (.int .i64 t.phase) := fun d os => ((below_regrown wr d os).cell (p := ⟨w.heap.size, 2, none⟩) hlt0).trans p2
      have q3 : ∀ d os, (grow (redrawn wr d) os).cell? ⟨w.heap.size, 3, none⟩ = some (.int .i64 t.count) := fun d os => ((below_regrown wr d os).cell (p := ⟨w.heap.size, 3, none⟩) hlt0).trans p3
      have q4 : ∀ d os, (grow (redrawn wr d) os).cell? ⟨w.heap.size, 4, none⟩ = some (.slice (some ⟨b, off, none⟩) t.reads.length cr) := fun d os => ((below_regrown wr d os).cell (p := ⟨w.heap.size, 4, none⟩) hlt0).trans p4
      have q5 : ∀ d os, (grow (redrawn wr d) os).cell? ⟨w.heap.size, 5, none⟩ = some (.slice ah t.sets.length ch) := fun d os => ((below_regrown wr d os).cell (p := ⟨w.heap.size, 5, none⟩) hlt0).trans p5
      have q6 : ∀ d os, (grow (redrawn wr d) os).cell? ⟨w.heap.size, 6, none⟩ = some (.int .i64 t.stamp) := fun d os => ((below_regrown wr d os).cell (p := ⟨w.heap.size, 6, none⟩) hlt0).trans p6
      have n0 : ∀ d os, (grow (redrawn wr d) os).cell? ⟨b, off + k * 5, none⟩ = some (.int .i64 (atNo t.reads k).region) := fun d os => ((below_regrown wr d os).cell (p := ⟨b, off + k * 5, none⟩) hb).trans c0
      have n1 : ∀ d os, (grow (redrawn wr d) os).cell? ⟨b, off + k * 5 + 1, none⟩ = some (.int .i64 (atNo t.reads k).slot) := fun d os => ((below_regrown wr d os).cell (p := ⟨b, off + k * 5 + 1, none⟩) hb).trans c1
      have n2 : ∀ d os, (grow (redrawn wr d) os).cell? ⟨b, off + k * 5 + 2, none⟩ = some (.int .i64 (atNo t.reads k).version) := fun d os => ((below_regrown wr d os).cell (p := ⟨b, off + k * 5 + 2, none⟩) hb).trans c2
      have n3 : ∀ d os, (grow (redrawn wr d) os).cell? ⟨b, off + k * 5 + 3, none⟩ = some (.int .i64 (atNo t.reads k).value) := fun d os => ((below_regrown wr d os).cell (p := ⟨b, off + k * 5 + 3, none⟩) hb).trans c3
      have n4 : ∀ d os, (grow (redrawn wr d) os).cell? ⟨b, off + k * 5 + 4, none⟩ = some (.bool (atNo t.reads k).used) := fun d os => ((below_regrown wr d os).cell (p := ⟨b, off + k * 5 + 4, none⟩) hb).trans c4
      have cS : ∀ d os, Calls Try.prog 62 #[.agg #[.int .i64 t.id, .int .i64 t.home, .int .i64 t.phase, .int .i64 t.count, .slice (some ⟨b, off, none⟩) t.reads.length cr, .slice ah t.sets.length ch, .int .i64 t.stamp], .int .i64 (atNo t.reads k).region, .int .i64 (atNo t.reads k).slot] (grow (redrawn wr d) os) fun e w'' => e = .returned (.int .i64 (setAt t.sets (atNo t.reads k).region (atNo t.reads k).slot)) ∧ ∃ p : Regrown, w'' = grow (redrawn wr p.d) p.os := fun d os => Calls.regrown_of (l7Set_any _ ⟨some ⟨b, off, none⟩, cr, ah, ch⟩ t _ _ hl (hsl.later (below_regrown wr d os)))
      have dS := setAt_lt t.sets (atNo t.reads k).region (atNo t.reads k).slot
      have KA : Hid (RowN wr (w.heap.size + 1) u3 (ofC t.sets (t.reads.take k)) ∧ Below (w.heap.size + 1) W wr ∧ w.heap.size + 1 ≤ W.heap.size ∧ w.heap.size + 1 ≤ wr.heap.size) := ⟨hrow, hbl, h5, by omega⟩
      clear c0 c1 c2 c3 c4 p0 p1 p2 p3 p5 p6 hx hsl hrow hbl h1 h2 h3 h4 bw
      cases hg : (seW t.sets (atNo t.reads k).region (atNo t.reads k).slot).isSome with
      | false =>
        rw [hg] at dS
        simp only [Bool.not_false] at dS
        generalize setAt t.sets (atNo t.reads k).region (atNo t.reads k).slot = A at *
        go_wp2_with fail
        refine wp_region_quiet_below (by kernel_rfl) (by kernel_rfl) ?_
        repeat (go_big_quiet_step (exact cS _ _))
        refine wpQuiet_nil ?_
        intro _ hw'
        obtain ⟨⟨dq, osq⟩, hw''⟩ := hw'
        subst hw''
        have bq := below_regrown wr dq osq
        have e4 := q4 dq osq
        have f0 := n0 dq osq
        have f1 := n1 dq osq
        have f2 := n2 dq osq
        have f3 := n3 dq osq
        have f4 := n4 dq osq
        clear q0 q1 q2 q3 q4 q5 q6 n0 n1 n2 n3 n4 cS
        generalize grow (redrawn wr dq) osq = U at *
        obtain ⟨V, hV⟩ : ∃ V, V = U.alloc (.cells #[.int .i64 (atNo t.reads k).region, .int .i64 (atNo t.reads k).slot, .int .i64 (atNo t.reads k).version, .int .i64 (atNo t.reads k).value, .bool (atNo t.reads k).used] 29) := ⟨_, rfl⟩
        have bU : Below U.heap.size U V := by rw [hV]; exact (Below.refl _ _).alloc (Nat.le_refl _) _
        have bV : Below wr.heap.size wr V := bq.trans (bU.mono bq.size)
        have hone : NotesAt V U.heap.size 0 [atNo t.reads k] := by rw [hV]; exact (NoteAt.box U _ _).one
        obtain ⟨v', Y, hr', hrow', hgr, hlies⟩ := pushNo (KA.out.1.later bV) [atNo t.reads k] (by have := ofC_len t.sets (t.reads.take k); rw [List.length_take] at this; simp; omega) 24 U.heap.size 0 1 hone (by have := bV.size; have := KA.out.2.2.2; omega)
        have KE : Hid (RowN Y (w.heap.size + 1) v' (ofC t.sets (t.reads.take (k + 1))) ∧ Below (w.heap.size + 1) W Y) := by
          refine ⟨by rw [ofC_yes (atNo_of hlt) hg]; exact hrow', ?_⟩
          exact (KA.out.2.1.trans (bV.mono KA.out.2.2.2)).grown hgr (by have := bV.size; have := KA.out.2.1.size; omega) (fun q e => (KA.out.1.lt e).1)
        rw [hV] at hr'
        clear hV bV bU bq hone hrow' hgr hlies
        simp only [List.length_cons, List.length_nil, Nat.zero_add] at hr'
        go_wp2_with (at_builtin; refine append_known _ rfl (.tmp 28) (.tmp 34) 24 rfl _ _ _ _ rfl rfl hr' ?_)
        exact ⟨⟨k + 1, by omega, by simp, KE.out.1, KE.out.2⟩, by simp [intOf]; omega⟩
      | true =>
        rw [hg] at dS
        simp only [Bool.not_true] at dS
        generalize setAt t.sets (atNo t.reads k).region (atNo t.reads k).slot = A at *
        go_wp2_with fail
        refine wp_region_quiet_below (by kernel_rfl) (by kernel_rfl) ?_
        repeat (go_big_quiet_step (exact cS _ _))
        refine wpQuiet_nil ?_
        intro _ hw'
        obtain ⟨⟨dq, osq⟩, hw''⟩ := hw'
        subst hw''
        have bq := below_regrown wr dq osq
        have KE : Hid (RowN (grow (redrawn wr dq) osq) (w.heap.size + 1) u3 (ofC t.sets (t.reads.take (k + 1))) ∧ Below (w.heap.size + 1) W (grow (redrawn wr dq) osq)) := ⟨by rw [ofC_no (atNo_of hlt) hg]; exact KA.out.1.later bq, KA.out.2.1.trans (bq.mono KA.out.2.2.2)⟩
        clear bq q0 q1 q2 q3 q4 q5 q6 n0 n1 n2 n3 n4 cS
        go_wp2
        exact ⟨⟨k + 1, by omega, by simp, KE.out.1, KE.out.2⟩, by simp [intOf]; omega⟩
    · obtain rfl : k = t.reads.length := by omega
      have hd : decide ((t.reads.length : Int) < (t.reads.length : Int)) = false := by simp
      rw [List.take_length] at hrow
      have p4 := hbt.c4
      dsimp only at p4
      have KE : Hid (RowN wr (w.heap.size + 1) u3 (ofC t.sets t.reads) ∧ Below w.heap.size w wr) := ⟨hrow, bw⟩
      clear hrow hbl h1 h2 h3 h4 bw hbt
      go_wp2
      go_ret
      exact CAns.of KE.out.1 (by omega) KE.out.2
set_option maxHeartbeats 2000000 in
theorem specChecks_any (w : World) (v : TV) (t : T7) (hl : TL t) (hs : SlT w v t) :
    Calls Try.prog 23 #[v.val t] w (CAns w (checksT t)) := by
  obtain ⟨ar, cr, ah, ch⟩ := v
  simp only [TV.val]
  obtain ⟨W, hW⟩ : ∃ W, W = w.alloc (.cells #[.int .i64 t.id, .int .i64 t.home, .int .i64 t.phase, .int .i64 t.count, .slice ar t.reads.length cr, .slice ah t.sets.length ch, .int .i64 t.stamp] 27) := ⟨_, rfl⟩
  have b0 : Below w.heap.size w W := by rw [hW]; exact (Below.refl _ _).alloc (Nat.le_refl _) _
  have x0 : BT W w.heap.size ⟨ar, cr, ah, ch⟩ t := by rw [hW]; exact BT.box w ⟨ar, cr, ah, ch⟩ t _
  have c1 := specTxOk_any W ⟨ar, cr, ah, ch⟩ t hl (hs.later b0)
  simp only [TV.val] at c1
  have H : Hid (SlT W ⟨ar, cr, ah, ch⟩ t ∧ BT W w.heap.size ⟨ar, cr, ah, ch⟩ t ∧ Below w.heap.size w W) := ⟨hs.later b0, x0, b0⟩
  clear hs b0 x0 hl
  cases hB : txB t with
  | false =>
    rw [hB] at c1
    have HN : Hid (checksT t = []) := by unfold Hid; simp [checksT, hB]
    go_enter Try.func23, Try.ntmps23
    go_wp2_with fail
    rw [← hW]
    clear hW
    refine c1.mono ?_
    clear c1
    rintro e w1 ⟨rfl, b1⟩
    have KB : Hid (∀ o, Below w.heap.size w (w1.alloc o)) := fun o => (H.out.2.2.trans (b1.mono H.out.2.2.size)).alloc (Nat.le_trans H.out.2.2.size b1.size) _
    clear b1
    go_wp2
    go_ret
    rw [HN.out]
    exact ⟨_, _, fun _ => False, rfl, .inl rfl, fun _ h => h.elim, KB.out _⟩
  | true =>
    rw [hB] at c1
    have HN : Hid (checksT t = ofC t.sets t.reads) := by unfold Hid; simp [checksT, hB]
    have HL := hidOf (txB_lens hB)
    go_enter Try.func23, Try.ntmps23
    go_wp2_with fail
    rw [← hW]
    clear hW
    refine c1.mono ?_
    clear c1
    rintro e w1 ⟨rfl, b1⟩
    obtain ⟨p0, p1, p2, p3, p4, p5, p6, -, -⟩ := H.out.2.1.later b1
    have c2 := l7Checks_any w1 ⟨ar, cr, ah, ch⟩ t (by have := HL.out; omega) (by have := HL.out; omega) (H.out.1.later b1)
    simp only [TV.val] at c2
    have KB : Hid (Below w.heap.size w w1) := H.out.2.2.trans (b1.mono H.out.2.2.size)
    clear b1
    go_wp2_with fail
    refine c2.mono ?_
    clear c2
    rintro e w2 ⟨a, c, PS, rfl, h1, h2, h3⟩
    have KE : Hid (OwnNo w2 PS a (ofC t.sets t.reads) ∧ (∀ q, PS q → w.heap.size ≤ q ∧ q < w2.heap.size) ∧ Below w.heap.size w w2) := ⟨h1, fun q hq => ⟨Nat.le_trans KB.out.size (h2 q hq).1, (h2 q hq).2⟩, KB.out.trans (h3.mono KB.out.size)⟩
    clear h1 h2 h3
    go_wp2
    go_ret
    rw [HN.out]
    exact ⟨a, c, PS, rfl, KE.out.1, KE.out.2.1, KE.out.2.2⟩
set_option maxHeartbeats 4000000 in
theorem implChecks_any (w : World) (v : TV) (t : T7) (hl : TL t) (hs : SlT w v t) :
    Calls Try.prog 19 #[v.val t] w (CAns w (checksT t)) := by
  obtain ⟨ar, cr, ah, ch⟩ := v
  simp only [TV.val]
  obtain ⟨W, hW⟩ : ∃ W, W = w.alloc (.cells #[.int .i64 t.id, .int .i64 t.home, .int .i64 t.phase, .int .i64 t.count, .slice ar t.reads.length cr, .slice ah t.sets.length ch, .int .i64 t.stamp] 27) := ⟨_, rfl⟩
  have b0 : Below w.heap.size w W := by rw [hW]; exact (Below.refl _ _).alloc (Nat.le_refl _) _
  have x0 : BT W w.heap.size ⟨ar, cr, ah, ch⟩ t := by rw [hW]; exact BT.box w ⟨ar, cr, ah, ch⟩ t _
  have c1 := implTxOk_any W ⟨ar, cr, ah, ch⟩ t hl (hs.later b0)
  simp only [TV.val] at c1
  have H : Hid (SlT W ⟨ar, cr, ah, ch⟩ t ∧ BT W w.heap.size ⟨ar, cr, ah, ch⟩ t ∧ Below w.heap.size w W) := ⟨hs.later b0, x0, b0⟩
  clear hs b0 x0 hl
  cases hB : txB t with
  | false =>
    rw [hB] at c1
    have HN : Hid (checksT t = []) := by unfold Hid; simp [checksT, hB]
    go_enter Try.func19, Try.ntmps19
    go_wp2_with fail
    rw [← hW]
    clear hW
    refine c1.mono ?_
    clear c1
    rintro e w1 ⟨rfl, b1⟩
    have KB : Hid (Below w.heap.size w w1) := H.out.2.2.trans (b1.mono H.out.2.2.size)
    clear b1
    go_wp2
    go_ret
    rw [HN.out]
    exact CAns.none KB.out
  | true =>
    rw [hB] at c1
    have HN : Hid (checksT t = ofC t.sets t.reads) := by unfold Hid; simp [checksT, hB]
    obtain ⟨l12, l12'⟩ := txB_lens hB
    have HT : Hid ((∀ s ∈ t.reads, noteOkB s = true) ∧ (∀ s ∈ t.sets, setOkB s = true) ∧ seUp2 t.sets) := ⟨(txB_no hB).1, (txB_se hB).1, (txB_se hB).2⟩
    go_enter Try.func19, Try.ntmps19
    go_wp2_with fail
    rw [← hW]
    clear hW
    refine c1.mono ?_
    clear c1
    rintro e w1 ⟨rfl, b1⟩
    have p5 := (H.out.2.1.later b1).c5
    dsimp only at p5
    have c2 := sePileOf_any w1 ah ch t.sets (by omega) ((H.out.1.later b1).s) HT.out.2.1 HT.out.2.2
    have K1 : Hid (SlT w1 ⟨ar, cr, ah, ch⟩ t ∧ BT w1 w.heap.size ⟨ar, cr, ah, ch⟩ t ∧ Below w.heap.size w w1) := ⟨H.out.1.later b1, H.out.2.1.later b1, H.out.2.2.trans (b1.mono H.out.2.2.size)⟩
    clear b1 H
    go_wp2_with fail
    refine c2.mono ?_
    clear c2 p5
    rintro e w2 ⟨pp, mb, n, pv, rfl, hp, hn, b2⟩
    have p4 := (K1.out.2.1.later b2).c4
    dsimp only at p4
    have K2 : Hid (SlT w2 ⟨ar, cr, ah, ch⟩ t ∧ PisB w2 w1.heap.size pp mb n pv t.sets ∧ Below w.heap.size w w2) := ⟨K1.out.1.later b2, hp, K1.out.2.2.trans (b2.mono K1.out.2.2.size)⟩
    clear b2 hp K1
    go_wp2
    clear p4
    go_loopw [4, 16] (fun v4 v16 wr => ∃ k : Nat, k ≤ t.reads.length ∧ v16 = .int .i64 k ∧ RowN wr w2.heap.size v4 (ofC t.sets (t.reads.take k)) ∧ Below w2.heap.size w2 wr) (fun _ v16 _ => t.reads.length - (intOf v16).toNat)
    case atStart => exact ⟨0, Nat.zero_le _, rfl, by simpa [ofC] using RowN.nil w2 _, Below.refl _ _⟩
    case round =>
      obtain ⟨k, hk, rfl, hrow, hbl⟩ := hrel
      obtain ⟨h1, h2, h3⟩ := K2.out
      have hsz := hbl.size
      by_cases hlt : k < t.reads.length
      · obtain ⟨_, hsk⟩ := (h1.later hbl).r
        dsimp only at hsk
        rcases hsk with hsk | ⟨b, off, rfl, hb, hx⟩
        · omega
        obtain ⟨c0, c1, c2, c3, c4⟩ := hx k _ (atNo_of hlt)
        have hrs := noOk_in (HT.out.1 _ (List.mem_of_getElem? (atNo_of hlt)))
        obtain ⟨U, hU⟩ : ∃ V, V = wr.alloc (.cells #[.int .i64 (atNo t.reads k).region, .int .i64 (atNo t.reads k).slot, .int .i64 (atNo t.reads k).version, .int .i64 (atNo t.reads k).value, .bool (atNo t.reads k).used] 29) := ⟨_, rfl⟩
        have bU : Below wr.heap.size wr U := by rw [hU]; exact (Below.refl _ _).alloc (Nat.le_refl _) _
        have hbox : NoteAt U wr.heap.size 0 (atNo t.reads k) := by rw [hU]; exact NoteAt.box wr _ _
        have hzU : wr.heap.size < U.heap.size := by rw [hU]; simp
        have cc := noCell_any U (atNo t.reads k)
        have KA : Hid (PisB U w1.heap.size pp mb n pv t.sets ∧ RowN U w2.heap.size u4 (ofC t.sets (t.reads.take k)) ∧ Below w2.heap.size w2 U ∧ NoteAt U wr.heap.size 0 (atNo t.reads k) ∧ wr.heap.size < U.heap.size ∧ w2.heap.size ≤ U.heap.size) := ⟨(h2.later hbl).later bU, hrow.later bU, hbl.trans (bU.mono hbl.size), hbox, hzU, by omega⟩
        have hd : decide ((k : Int) < (t.reads.length : Int)) = true := by simp; omega
        clear hrow hbl h1 h2 h3 hx bU hbox hzU
        go_wp2_with fail
        rw [← hU]
        clear hU c0 c1 c2 c3 c4
        refine cc.mono ?_
        clear cc
        rintro e w3 ⟨rfl, b3⟩
        have ch := seHas_any w3 w1.heap.size pp mb n pv t.sets (atNo t.reads k).region (atNo t.reads k).slot (KA.out.1.later b3) hrs.1 hrs.2
        have K3 : Hid (Below U.heap.size U w3) := b3
        clear b3
        go_wp2_with fail
        refine ch.mono ?_
        clear ch
        rintro e w4 ⟨rfl, b4⟩
        have b04 : Below U.heap.size U w4 := K3.out.trans (b4.mono K3.out.size)
        obtain ⟨f0, f1, f2, f3, f4⟩ := KA.out.2.2.2.1.below b04 KA.out.2.2.2.2.1
        simp only [Nat.zero_add] at f1 f2 f3 f4
        have K4 : Hid (RowN w4 w2.heap.size u4 (ofC t.sets (t.reads.take k)) ∧ Below w2.heap.size w2 w4 ∧ w2.heap.size ≤ w4.heap.size) := ⟨KA.out.2.1.later b04, KA.out.2.2.1.trans (b04.mono KA.out.2.2.2.2.2), Nat.le_trans KA.out.2.2.2.2.2 b04.size⟩
        clear b4 b04 K3 KA
        cases hg : (seW t.sets (atNo t.reads k).region (atNo t.reads k).slot).isSome with
        | false =>
          obtain ⟨V, hV⟩ : ∃ V, V = w4.alloc (.cells #[.int .i64 (atNo t.reads k).region, .int .i64 (atNo t.reads k).slot, .int .i64 (atNo t.reads k).version, .int .i64 (atNo t.reads k).value, .bool (atNo t.reads k).used] 29) := ⟨_, rfl⟩
          have bV : Below w4.heap.size w4 V := by rw [hV]; exact (Below.refl _ _).alloc (Nat.le_refl _) _
          have hone : NotesAt V w4.heap.size 0 [atNo t.reads k] := by rw [hV]; exact (NoteAt.box w4 _ _).one
          obtain ⟨v', Y, hr', hrow', hgr, hlies⟩ := pushNo (K4.out.1.later bV) [atNo t.reads k] (by have := ofC_len t.sets (t.reads.take k); rw [List.length_take] at this; simp; omega) 24 w4.heap.size 0 1 hone (by have := bV.size; have := K4.out.2.2; omega)
          have KE : Hid (RowN Y w2.heap.size v' (ofC t.sets (t.reads.take (k + 1))) ∧ Below w2.heap.size w2 Y) := by
            refine ⟨by rw [ofC_yes (atNo_of hlt) hg]; exact hrow', ?_⟩
            exact (K4.out.2.1.trans (bV.mono K4.out.2.2)).grown hgr (by have := bV.size; have := K4.out.2.2; omega) (fun q e => (K4.out.1.lt e).1)
          rw [hV] at hr'
          clear hV bV hone hrow' hgr hlies
          simp only [List.length_cons, List.length_nil, Nat.zero_add] at hr'
          go_wp2_with (at_builtin; refine append_known _ rfl (.tmp 25) (.tmp 27) 24 rfl _ _ _ _ rfl rfl hr' ?_)
          exact ⟨⟨k + 1, by omega, by simp, KE.out.1, KE.out.2⟩, by simp [intOf]; omega⟩
        | true =>
          have KE : Hid (RowN w4 w2.heap.size u4 (ofC t.sets (t.reads.take (k + 1))) ∧ Below w2.heap.size w2 w4) := ⟨by rw [ofC_no (atNo_of hlt) hg]; exact K4.out.1, K4.out.2.1⟩
          clear f0 f1 f2 f3 f4
          go_wp2
          exact ⟨⟨k + 1, by omega, by simp, KE.out.1, KE.out.2⟩, by simp [intOf]; omega⟩
      · obtain rfl : k = t.reads.length := by omega
        have hd : decide ((t.reads.length : Int) < (t.reads.length : Int)) = false := by simp
        rw [List.take_length] at hrow
        have KE : Hid (RowN wr w2.heap.size u4 (ofC t.sets t.reads) ∧ Below w.heap.size w wr ∧ w.heap.size ≤ w2.heap.size) := ⟨hrow, h3.trans (hbl.mono h3.size), h3.size⟩
        clear hrow hbl h1 h2 h3
        go_wp2
        go_ret
        rw [HN.out]
        exact CAns.of KE.out.1 KE.out.2.2 KE.out.2.1
end Go.Proofs.Ytiidlcjjaglkdaa
namespace Go.Proofs.Ytiidlcjjaglkdaa
open Go.RowKit
set_option maxHeartbeats 4000000 in
theorem implSetsOf_any (w : World) (v : TV) (t : T7) (g : Int) (hl : TL t) (hs : SlT w v t) :
    Calls Try.prog 24 #[v.val t, .int .i64 g] w (SAns w (setsOfT t g)) := by
  obtain ⟨ar, cr, ah, ch⟩ := v
  simp only [TV.val]
  obtain ⟨W, hW⟩ : ∃ W, W = w.alloc (.cells #[.int .i64 t.id, .int .i64 t.home, .int .i64 t.phase, .int .i64 t.count, .slice ar t.reads.length cr, .slice ah t.sets.length ch, .int .i64 t.stamp] 27) := ⟨_, rfl⟩
  have b0 : Below w.heap.size w W := by rw [hW]; exact (Below.refl _ _).alloc (Nat.le_refl _) _
  have x0 : BT W w.heap.size ⟨ar, cr, ah, ch⟩ t := by rw [hW]; exact BT.box w ⟨ar, cr, ah, ch⟩ t _
  have c1 := implTxOk_any W ⟨ar, cr, ah, ch⟩ t hl (hs.later b0)
  simp only [TV.val] at c1
  have H : Hid (SlT W ⟨ar, cr, ah, ch⟩ t ∧ BT W w.heap.size ⟨ar, cr, ah, ch⟩ t ∧ Below w.heap.size w W) := ⟨hs.later b0, x0, b0⟩
  clear hs b0 x0 hl
  cases hB : txB t with
  | false =>
    rw [hB] at c1
    have HN : Hid (setsOfT t g = []) := by unfold Hid; simp [setsOfT, hB]
    go_enter Try.func24, Try.ntmps24
    go_wp2_with fail
    rw [← hW]
    clear hW
    refine c1.mono ?_
    clear c1
    rintro e w1 ⟨rfl, b1⟩
    have KB : Hid (Below w.heap.size w w1) := H.out.2.2.trans (b1.mono H.out.2.2.size)
    clear b1
    go_wp2
    go_ret
    rw [HN.out]
    exact SAns.none KB.out
  | true =>
    rw [hB] at c1
    have HN : Hid (setsOfT t g = ofR g t.sets) := by unfold Hid; simp [setsOfT, hB]
    have hl12 := (txB_lens hB).2
    go_enter Try.func24, Try.ntmps24
    go_wp2_with fail
    rw [← hW]
    clear hW
    refine c1.mono ?_
    clear c1
    rintro e w1 ⟨rfl, b1⟩
    have p5 := (H.out.2.1.later b1).c5
    dsimp only at p5
    have K1 : Hid (SlT w1 ⟨ar, cr, ah, ch⟩ t ∧ Below w.heap.size w w1) := ⟨H.out.1.later b1, H.out.2.2.trans (b1.mono H.out.2.2.size)⟩
    clear b1 H
    go_wp2
    clear p5
    go_loopw [5, 14] (fun v5 v14 wr => ∃ k : Nat, k ≤ t.sets.length ∧ v14 = .int .i64 k ∧ RowS wr w1.heap.size v5 (ofR g (t.sets.take k)) ∧ Below w1.heap.size w1 wr) (fun _ v14 _ => t.sets.length - (intOf v14).toNat)
    case atStart => exact ⟨0, Nat.zero_le _, rfl, by simpa [ofR] using RowS.nil w1 _, Below.refl _ _⟩
    case round =>
      obtain ⟨k, hk, rfl, hrow, hbl⟩ := hrel
      obtain ⟨h1, h2⟩ := K1.out
      have hsz := hbl.size
      by_cases hlt : k < t.sets.length
      · obtain ⟨_, hsk⟩ := (h1.later hbl).s
        dsimp only at hsk
        rcases hsk with hsk | ⟨b, off, rfl, hb, hx⟩
        · omega
        obtain ⟨c0, c1, c2, c3, c4⟩ := hx k _ (atSe_of hlt)
        by_cases hg : (atSe t.sets k).region = g
        · have dg : ((atSe t.sets k).region == g) = true := by simpa using hg
          obtain ⟨U, hU⟩ : ∃ V, V = wr.alloc (.cells #[.int .i64 (atSe t.sets k).region, .int .i64 (atSe t.sets k).slot, .int .i64 (atSe t.sets k).value, .bool (atSe t.sets k).used, .int .i64 (atSe t.sets k).version] 36) := ⟨_, rfl⟩
          have bU : Below wr.heap.size wr U := by rw [hU]; exact (Below.refl _ _).alloc (Nat.le_refl _) _
          have zU : U.heap.size = wr.heap.size + 1 := by rw [hU]; simp
          obtain ⟨V, hV⟩ : ∃ V, V = U.alloc (.cells #[.int .i64 (atSe t.sets k).region, .int .i64 (atSe t.sets k).slot, .int .i64 (atSe t.sets k).value, .bool (atSe t.sets k).used, .int .i64 (atSe t.sets k).version] 36) := ⟨_, rfl⟩
          have bV : Below wr.heap.size wr V := by rw [hV]; exact bU.alloc bU.size _
          have hone : SetsAt V (wr.heap.size + 1) 0 [atSe t.sets k] := by rw [hV, ← zU]; exact (SetAt.box U _ _).one
          obtain ⟨v', Y, hr, hrow', hgr, hlies⟩ := pushSe (hrow.later bV) [atSe t.sets k] (by have := ofR_len g (t.sets.take k); rw [List.length_take] at this; simp; omega) 25 (wr.heap.size + 1) 0 1 hone (by have := bV.size; omega)
          have KE : Hid (RowS Y w1.heap.size v' (ofR g (t.sets.take (k + 1))) ∧ Below w1.heap.size w1 Y) := by
            refine ⟨by rw [ofR_yes (atSe_of hlt) hg]; exact hrow', ?_⟩
            exact (hbl.trans (bV.mono (by omega))).grown hgr (by have := bV.size; omega) (fun q e => (hrow.lt e).1)
          rw [hV, hU] at hr
          clear hV hU bV bU zU hone hrow' hgr hlies hrow hbl h1 h2 hx hg
          simp only [List.length_cons, List.length_nil, Nat.zero_add] at hr
          go_wp2_with (at_builtin; refine append_known _ rfl (.tmp 22) (.tmp 24) 25 rfl _ _ _ _ rfl rfl hr ?_)
          exact ⟨⟨k + 1, by omega, by simp, KE.out.1, KE.out.2⟩, by simp [intOf]; omega⟩
        · have dg : ((atSe t.sets k).region == g) = false := by simpa using hg
          have bU : Below wr.heap.size wr (wr.alloc (.cells #[.int .i64 (atSe t.sets k).region, .int .i64 (atSe t.sets k).slot, .int .i64 (atSe t.sets k).value, .bool (atSe t.sets k).used, .int .i64 (atSe t.sets k).version] 36)) := (Below.refl _ _).alloc (Nat.le_refl _) _
          have KE : Hid (RowS (wr.alloc (.cells #[.int .i64 (atSe t.sets k).region, .int .i64 (atSe t.sets k).slot, .int .i64 (atSe t.sets k).value, .bool (atSe t.sets k).used, .int .i64 (atSe t.sets k).version] 36)) w1.heap.size u5 (ofR g (t.sets.take (k + 1))) ∧ Below w1.heap.size w1 (wr.alloc (.cells #[.int .i64 (atSe t.sets k).region, .int .i64 (atSe t.sets k).slot, .int .i64 (atSe t.sets k).value, .bool (atSe t.sets k).used, .int .i64 (atSe t.sets k).version] 36))) := ⟨by rw [ofR_no (atSe_of hlt) hg]; exact hrow.later bU, hbl.trans (bU.mono hbl.size)⟩
          clear hrow hbl h1 h2 hx hg bU
          go_wp2
          exact ⟨⟨k + 1, by omega, by simp, KE.out.1, KE.out.2⟩, by simp [intOf]; omega⟩
      · obtain rfl : k = t.sets.length := by omega
        have hd : decide ((t.sets.length : Int) < (t.sets.length : Int)) = false := by simp
        rw [List.take_length] at hrow
        have KE : Hid (RowS wr w1.heap.size u5 (ofR g t.sets) ∧ Below w.heap.size w wr ∧ w.heap.size ≤ w1.heap.size) := ⟨hrow, h2.trans (hbl.mono h2.size), h2.size⟩
        clear hrow hbl h1 h2
        go_wp2
        go_ret
        rw [HN.out]
        exact SAns.of KE.out.1 KE.out.2.2 KE.out.2.1
end Go.Proofs.Ytiidlcjjaglkdaa
namespace Go.Proofs.Ytiidlcjjaglkdaa
open Go.ChangeShapes Go.WideShapes Go.ChangeAt Go.RowKit
def IsRow (k : IntKind) (w : World) (a : Option Addr) (len cap : Nat) (zs : List Int) : Prop :=
  (a = none ∧ len = 0 ∧ cap = 0 ∧ zs = []) ∨
  ∃ x, a = some x ∧ len ≤ cap ∧ cap ≤ maxLen ∧ zs.length = cap ∧ (∀ i, i < zs.length → w.cell? (x.add i) = some (.int k (zs.getD i 0))) ∧ ∀ n ∈ zs, (Lit.int k n).wf = true
theorem IsRow.bytes {w : World} {a : Option Addr} {n k : Nat} {zs : List Int} (h : IsRow .u8 w a n k zs) : Bytes w w.heap.size a n := by
  rcases h with ⟨rfl, rfl, rfl, rfl⟩ | ⟨x, rfl, hl, hm, hz, hc, hw⟩
  · exact ⟨by unfold maxLen; omega, .inl rfl⟩
  · refine ⟨by omega, ?_⟩
    by_cases h0 : n = 0
    · exact .inl h0
    · obtain ⟨b, off, rfl, hcc⟩ := ints_at hc (by omega)
      exact .inr ⟨b, off, rfl, World.block_lt_of_cell? w _ (hcc 0 (by omega)), fun i hi => ⟨zs.getD i 0, hcc i (by omega), by simpa using range_u8 hw i⟩⟩
end Go.Proofs.Ytiidlcjjaglkdaa