/- Those of an iterator's machines that live: the contract of living's closure, over whatever iterator reads nothing above n₀. -/
import Derived.Test.YtgohihcpmjfhdaaVals
namespace Go.Proofs.Ytgohihcpmjfhdaa
open Go.RowKit Go.Shelf
attribute [local go_sem] Oper.semAt_some
def livM (al : List Bool) (ms : List { x : Int // 0 ≤ x ∧ x ≤ 7 }) : List { x : Int // 0 ≤ x ∧ x ≤ 7 } := ms.filter fun x => livesB al x.1
theorem livM_snoc (al : List Bool) (ms : List { x : Int // 0 ≤ x ∧ x ≤ 7 }) (x : { x : Int // 0 ≤ x ∧ x ≤ 7 }) : livM al (ms ++ [x]) = if livesB al x.1 = true then livM al ms ++ [x] else livM al ms := by
  rw [livM, List.filter_append]
  by_cases h : livesB al x.1 = true
  · simp [h, livM]
  · simp [h, livM]
theorem livM_len (al : List Bool) (ms : List { x : Int // 0 ≤ x ∧ x ≤ 7 }) : (livM al ms).length ≤ ms.length := List.length_filter_le _ _
/-- What the loop within keeps beside the caller's own. -/
structure LivI (l y0 Ba Bk n₀ : Nat) (aa : Option Addr) (na ca : Nat) (X Y : World) : Prop where
  yb : Boxed Y y0 72 (.func (.yield l) #[] #[])
  ab : Boxed Y Ba 25 (.slice aa na ca)
  n1 : NR Bk Y y0
  n2 : NR Bk Y Ba
  sz : X.heap.size ≤ Y.heap.size
  bel : Below n₀ X Y
theorem LivI.own {β : Type} {l y0 Ba Bk n₀ : Nat} {aa : Option Addr} {na ca : Nat} {X : World} (hBk : Bk < X.heap.size) (hn : n₀ ≤ X.heap.size) : OwnFrom X.heap.size (fun (_ : β) Y => LivI l y0 Ba Bk n₀ aa na ca X Y) := fun s A B row hs hg hr => by
  have far : ∀ k, k < X.heap.size → B.heap[k]? = A.heap[k]? := fun k hk => hg.block k (Nat.lt_of_lt_of_le hk hs.sz) (fun e => by have := (hr k e.symm).1; omega)
  have box : ∀ {k : Nat} {t : TypeId} {v : Value}, Boxed A k t v → Boxed B k t v := fun {k t v} h => h.kept hg (fun e => by
    obtain ⟨_, o, ho, hc⟩ := hr k e.symm
    rw [show A.heap[k]? = _ from h] at ho; cases ho; cases hc)
  exact ⟨box hs.yb, box hs.ab, hs.n1.of_block (far Bk hBk), hs.n2.of_block (far Bk hBk), Nat.le_trans hs.sz hg.size, hs.bel.grown hg (Nat.le_trans hn hs.sz) (fun k e => by have := (hr k e).1; omega)⟩
set_option maxRecDepth 100000 in
set_option maxHeartbeats 4000000 in
theorem living1_seq (n : Nat) (hn : 4 ≤ n) (Bm Ba Bk n₀ gf : Nat) (lb : Array Value) (ms : List { x : Int // 0 ≤ x ∧ x ≤ 7 }) (N : Nat) (al : List Bool) (aa : Option Addr) (na ca : Nat) (w : World)
    (eg : ∀ args w, (callFunc gf args).run Try.prog w = .ok (.enter gf args) w)
    (hin : SeqStopsK Fence.wide (n - 1) Try.prog gf lb macE (Below n₀) (fun ys => ys = ms) (fun pre => pre <+: ms) N w)
    (bm : Boxed w Bm 80 (.func (.func gf) #[] lb)) (ba : Boxed w Ba 25 (.slice aa na ca)) (hs : SlB w n₀ aa na al) (hn0 : n₀ ≤ w.heap.size)
    (hBk : Bk < w.heap.size) (ha : Ba ≠ Bk) (na1 : NR Bk w Ba) (nlt : ∀ v r, w.cell? ⟨Bk, 0, none⟩ = some v → v.ownBlock = some r → r < w.heap.size) :
    SeqO n Try.prog 65 #[.pointer (some ⟨Bm, 0, none⟩), .pointer (some ⟨Ba, 0, none⟩)] macE (fun W W' => Below n₀ W W' ∧ KeepR Bk (w.heap.size + 1) W W') (fun ys => ys = livM al ms) (fun pre => pre <+: livM al ms) N w := by
  intro l J Jx W hW hW2 hJ hJx hY h0
  have bm' : Boxed W Bm 80 (.func (.func gf) #[] lb) := (hW.block Bm bm.lt).trans bm
  have ba' : Boxed W Ba 25 (.slice aa na ca) := (hW.block Ba ba.lt).trans ba
  have cm : ∀ o : Obj, (W.alloc o).cell? ⟨Bm, 0, none⟩ = some (.func (.func gf) #[] lb) := fun o => (bm'.alloc o).cell
  have HY : Hid _ := hY
  refine callsIn_of_wp_marks Try.func65 rfl trivial ?_ rfl
  simp only [Try.ntmps65, List.size_toArray, List.length_cons, List.length_nil, Nat.reduceAdd, Nat.reduceSub, Array.replicate_succ, Array.replicate_zero, List.push_toArray, List.append_toArray, List.nil_append, List.cons_append]
  gi_wp2
  obtain ⟨X, hX⟩ : ∃ X, W.alloc (.cells #[.func (.yield l) #[] #[]] 72) = X := ⟨_, rfl⟩
  have sX : X.heap.size = W.heap.size + 1 := by rw [← hX]; simp
  have bX : Below W.heap.size W X := by rw [← hX]; exact (Below.refl _ _).alloc (Nat.le_refl _) _
  have bwX : Below w.heap.size w X := hW.trans (bX.mono hW.size)
  have hst : LivI l W.heap.size Ba Bk n₀ aa na ca X X := by
    have eB : X.heap[Bk]? = w.heap[Bk]? := bwX.block Bk hBk
    refine ⟨by rw [← hX]; exact Boxed.new W _ _, by rw [← hX]; exact ba'.alloc _, fun v r hc hr e => ?_, na1.of_block eB, Nat.le_refl _, Below.refl _ _⟩
    have := nlt v r ((World.cell?_of_block (a := ⟨Bk, 0, none⟩) eB).symm.trans hc) hr
    have := hW.size
    omega
  have hJX : J [] X := by rw [← hX]; exact hJ.alloc _ h0
  rw [hX]
  clear hY cm
  refine wpIn_rangeFunc_ownG rfl (by omega) (gf := gf) (lb := lb) rfl trivial eg hin belowK_t (belowK_b (by have := hW.size; omega)) bwX (fun _ => rfl)
    (fun pre Y => J (livM al pre) Y ∧ LivI l W.heap.size Ba Bk n₀ aa na ca X Y)
    (fun c pre Y => c = .ret ∧ Jx (livM al pre) Y)
    (OwnFrom.and (fun s A B row h hg hr => hJ _ A B row h hg (fun r e => ⟨by have := (hr r e).1; omega, (hr r e).2⟩)) (LivI.own (by have := hW.size; omega) (by have := hW.size; omega)))
    (fun c s A B row h hg hr => ⟨h.1, hJx _ A B row h.2 hg (fun r e => ⟨by have := (hr r e).1; omega, (hr r e).2⟩)⟩)
    ⟨hJX, hst⟩
    (fun x => { tmps := #[.func (.yield l) #[] #[], .pointer (some ⟨Bm, 0, none⟩), .pointer (some ⟨Ba, 0, none⟩), .pointer (some ⟨W.heap.size, 0, none⟩), .int .i64 x.1, .func (.func gf) #[] lb, .int .i64 x.1, undef, undef, undef, undef, undef, undef, undef, undef, undef], defers := [] }) ?assign ?body ?done ?stop
  case assign =>
    intro l' x Y K hK
    simp only [macE]
    gi_wp2
    exact hK
  case body =>
    rintro l' pre x Y ⟨hj, hl⟩ hlen
    have hsz := hW.size
    have hn1 : 1 ≤ n - 1 - 1 := by omega
    have hsY : SlB Y Y.heap.size aa na al := ((hs.below (bwX.mono hn0)).below hl.bel).mono (by have := hl.sz; omega)
    have hlv := lives_any Y aa na ca x.1 al x.2.1 hsY
    have ca1 := hl.ab.cell
    have cy1 := hl.yb.cell
    have KL : Hid (LivI l W.heap.size Ba Bk n₀ aa na ca X Y) := hl
    have KX : Hid (W.heap.size + 1 = X.heap.size) := sX.symm
    obtain ⟨fn, tmps, assign, body, hy, hR⟩ := HY.out _ x Y hj (Nat.lt_of_le_of_lt (livM_len al pre) hlen)
    simp only [macE] at hy
    clear hin eg bm ba hs bm' ba' hX sX bX bwX hst hJX hl hsY
    cases hb : livesB al x.1 with
    | false =>
      rw [hb] at hlv
      gi_wp2_with (refine ⟨trivial, ?_⟩; gi_at_call 66; refine (CallsIn.inRound l' (callsIn_wide.2 hlv)).mono ?_; clear hlv; rintro e Y ⟨rfl, rfl⟩)
      refine ⟨fun _ h => (by cases h), ?_⟩
      gi_wp2
      exact ⟨KeepsFrom.refl _ _, Below.refl _ _, by rw [livM_snoc, if_neg (by rw [hb]; simp)]; exact hj, KL.out⟩
    | true =>
      rw [hb] at hlv
      gi_wp2_with (refine ⟨trivial, ?_⟩; gi_at_call 66; refine (CallsIn.inRound l' (callsIn_wide.2 hlv)).mono ?_; clear hlv; rintro e Y ⟨rfl, rfl⟩)
      refine RoundIn.mono (R := _) ⟨hR.1, fun c cs _ => hR.2 c cs (room_wide _)⟩ ?_
      rintro e Z ⟨⟨kb, kr⟩, (⟨rfl, hj3⟩ | ⟨rfl, hx3⟩)⟩
      · gi_wp2
        have hl := KL.out
        exact ⟨⟨kr.size, fun k o hk ho hc => kr.others k o ho hc (by have := KX.out; omega)⟩, kb, by rw [livM_snoc, if_pos hb]; exact hj3, ⟨kr.boxed hl.yb (by omega) hl.n1, kr.boxed hl.ab ha hl.n2, kr.row _ hl.yb.lt hl.n1, kr.row _ hl.ab.lt hl.n2, Nat.le_trans hl.sz kr.size, hl.bel.trans kb⟩⟩
      · gi_wp2
        exact ⟨⟨kr.size, fun k o hk ho hc => kr.others k o ho hc (by have := KX.out; omega)⟩, rfl, by rw [livM_snoc, if_pos hb]; exact hx3⟩
  case done =>
    rintro D ys Y hD rfl ⟨hj, hl⟩ hK
    gi_wp2
    refine ⟨by simp, .inl ⟨_, _, rfl, run_takeDeferred hK, ?_⟩⟩
    exact ⟨_, results_none rfl _ _ _, ⟨_, rfl⟩, .inl ⟨_, rfl, hJ.putObj _ hj (by omega) hK rfl⟩⟩
  case stop =>
    rintro D c pre Y hD hp ⟨rfl, hj⟩ hK
    gi_wp2
    refine ⟨by simp, .inl ⟨_, _, rfl, run_takeDeferred hK, ?_⟩⟩
    exact ⟨_, results_none rfl _ _ _, ⟨_, rfl⟩, .inr ⟨_, hp.filter _, hJx.putObj _ hj (by omega) hK rfl⟩⟩
end Go.Proofs.Ytgohihcpmjfhdaa
