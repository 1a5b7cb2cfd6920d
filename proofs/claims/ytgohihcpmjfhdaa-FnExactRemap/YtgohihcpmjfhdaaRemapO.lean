/- What the program's remapOne answers at a Place. -/
import Derived.Test.YtgohihcpmjfhdaaKept
import Derived.Test.YtgohihcpmjfhdaaPlacesI1
namespace Go.Proofs.Ytgohihcpmjfhdaa
open Go.RowKit Go.Shelf
attribute [local go_sem] Oper.semAt_some
def valsM (ms : List { x : Int // 0 ≤ x ∧ x ≤ 7 }) : List Int := ms.map (·.1)
theorem macs_of (zs : List Int) (h : ∀ z ∈ zs, 0 ≤ z ∧ z ≤ 7) : ∃ ms : List { x : Int // 0 ≤ x ∧ x ≤ 7 }, valsM ms = zs :=
  ⟨zs.attach.map fun z => ⟨z.1, h z.1 z.2⟩, by simp [valsM]⟩
theorem valsM_len (ms : List { x : Int // 0 ≤ x ∧ x ≤ 7 }) : (valsM ms).length = ms.length := by simp [valsM]
theorem valsM_snoc (ms : List { x : Int // 0 ≤ x ∧ x ≤ 7 }) (x : { x : Int // 0 ≤ x ∧ x ≤ 7 }) : valsM (ms ++ [x]) = valsM ms ++ [x.1] := by simp [valsM]
theorem keep_vals (al : List Bool) (ms : List { x : Int // 0 ≤ x ∧ x ≤ 7 }) : valsM (livM al ms) = keepL al (valsM ms) := by
  rw [valsM, livM, keepL, valsM, List.filter_map]; rfl
theorem place_in {zs : List Int} (h : placeB zs = true) : 1 ≤ zs.length ∧ zs.length ≤ 3 ∧ ∀ z ∈ zs, 0 ≤ z ∧ z ≤ 7 := by
  simp only [placeB, Bool.and_eq_true, decide_eq_true_eq] at h
  refine ⟨h.1.1, h.1.2, fun z hz => ?_⟩
  obtain ⟨i, hi, rfl⟩ := List.getElem_of_mem hz
  have := List.all_eq_true.1 h.2 i (List.mem_range.2 hi)
  simp only [goodAt, Bool.and_eq_true, inB_iff] at this
  rw [atN, List.getElem?_eq_getElem hi] at this
  exact this.1
structure RO (w : World) (Pb Rb : Nat) (pv : Value) (W : World) : Prop where
  pb : Boxed W Pb 40 pv
  rb : Boxed W Rb 40 (.slice none 0 0)
  bel : Below w.heap.size w W
theorem RO.own {β : Type} {w : World} {Pb Rb B : Nat} {pv : Value} (hB : w.heap.size ≤ B) : OwnFrom B (fun (_ : β) W => RO w Pb Rb pv W) := fun s A C row hs hg hr => by
  have box : ∀ {k : Nat} {t : TypeId} {v : Value}, Boxed A k t v → Boxed C k t v := fun {k t v} h => h.kept hg (fun e => by
    obtain ⟨_, o, ho, hc⟩ := hr k e.symm
    rw [show A.heap[k]? = _ from h] at ho; cases ho; cases hc)
  exact ⟨box hs.pb, box hs.rb, hs.bel.grown hg hs.bel.size (fun k e => by have := (hr k e).1; omega)⟩
theorem KB.own {β : Type} {base Bk B : Nat} {f : β → List Int} : OwnFrom B (fun s W => ∃ v, KB W base Bk v (f s)) := fun _ _ _ _ ⟨v, h⟩ hg hr => ⟨v, h.kept hg (fun r e => (hr r e).2)⟩
theorem below_put {n₀ l : Nat} {W : World} (o' : Obj) (hl : n₀ ≤ l) (h : l < W.heap.size) : Below n₀ W (W.putObj l o') := (Below.refl n₀ W).grown (grownBy_putObj' W l o') (by omega) (fun k e => by cases e; exact hl)
theorem KB.alloc {W : World} {base Bk : Nat} {v : Value} {zs : List Int} (h : KB W base Bk v zs) (o : Obj) : KB (W.alloc o) base Bk v zs := h.kept (World.grownBy_alloc W o none) (fun r e => by cases e)
theorem RO.alloc {w : World} {Pb Rb : Nat} {pv : Value} {W : World} (h : RO w Pb Rb pv W) (o : Obj) : RO w Pb Rb pv (W.alloc o) := ⟨h.pb.alloc o, h.rb.alloc o, h.bel.alloc h.bel.size o⟩
theorem still_own {β : Type} {D B : Nat} {o : Obj} (hD : D < B) : OwnFrom B (fun (_ : β) W => W.heap[D]? = some o) := fun _ _ _ _ hs hg hr => (hg.block D (Array.getElem?_eq_some_iff.1 hs).1 (fun e => by have := (hr D e.symm).1; omega)).trans hs
def RowPost (w : World) (al : List Bool) (zs : List Int) (e : Ending) (w' : World) : Prop :=
  ∃ q cp, e = .returned (.tuple #[.agg #[.slice (some ⟨q, 0, none⟩) (rowR al zs).length cp], .bool (!(keepL al zs).isEmpty)]) ∧ w.heap.size ≤ q ∧ q < w'.heap.size ∧ (rowR al zs).length ≤ cp ∧ NumsAt w' q 0 (rowR al zs) ∧ Room w' q (rowR al zs).length ∧ Below w.heap.size w w'
set_option maxRecDepth 100000 in
set_option maxHeartbeats 8000000 in
theorem remapOne_any (w : World) (b off cap : Nat) (zs : List Int) (aa : Option Addr) (na ca : Nat) (al : List Bool) (hb : b < w.heap.size) (hx : NumsAt w b off zs) (hz : placeB zs = true) (hs : SlB w w.heap.size aa na al) (hna : na ≤ 8) :
    Calls Try.prog 39 #[.agg #[.slice (some ⟨b, off, none⟩) zs.length cap], .slice aa na ca] w fun e w' => RowPost w al zs e w' := by
  obtain ⟨z1, z3, zin⟩ := place_in hz
  obtain ⟨ms, hms⟩ := macs_of zs zin
  have hml : ms.length = zs.length := by rw [← hms, valsM_len]
  have hcells : ∀ j x, ms[j]? = some x → w.cell? ⟨b, off + j, none⟩ = some (.int .i64 x.1) := fun j x e => hx j x.1 (by rw [← hms, valsM, List.getElem?_map, e]; rfl)
  have HN : Hid (NumsAt w b off zs) := hx
  have HC : Hid (∀ j x, ms[j]? = some x → w.cell? ⟨b, off + j, none⟩ = some (.int .i64 x.1)) := hcells
  have HS : Hid (SlB w w.heap.size aa na al) := hs
  have HZ : Hid (zs.length ≤ 3 ∧ 1 ≤ zs.length) := ⟨z3, z1⟩
  have HM : Hid (valsM ms = zs ∧ ms.length = zs.length) := ⟨hms, hml⟩
  clear hx hs hcells hms hml z1 z3 zin hz
  refine (callsIn_wide (n := 8)).1 ?_
  refine callsIn_of_wp_marks Try.func39 rfl trivial ?_ rfl
  simp only [Try.ntmps39, List.size_toArray, List.length_cons, List.length_nil, Nat.reduceAdd, Nat.reduceSub, Array.replicate_succ, Array.replicate_zero, List.push_toArray, List.append_toArray, List.nil_append, List.cons_append]
  refine wpIn_wide.2 ?_
  go_wp2_with (first
    | (go_at_call 57; refine (values_any _ _ _ _).mono ?_; rintro e w' ⟨rfl, rfl⟩)
    | (go_at_call 56; refine (living_any _ _ _ _ _ _).mono ?_; rintro e w' ⟨rfl, rfl⟩))
  obtain ⟨X, hX⟩ : ∃ X, (((((w.alloc (.cells #[.slice (some ⟨b, off, none⟩) zs.length cap] 40)).alloc (.cells #[.slice none 0 0] 40)).alloc (.cells #[.slice none 0 0] 28)).alloc (.cells #[.slice (some ⟨b, off, none⟩) zs.length cap] 28)).alloc (.cells #[.func (.func 67) #[] #[.pointer (some ⟨w.heap.size + 3, 0, none⟩)]] 80)).alloc (.cells #[.slice aa na ca] 25) = X := ⟨_, rfl⟩
  have sX : X.heap.size = w.heap.size + 6 := by rw [← hX]; simp
  have bX : Below w.heap.size w X := by rw [← hX]; exact ((((((Below.refl _ _).alloc (Nat.le_refl _) _).alloc (by simp) _).alloc (by simp; omega) _).alloc (by simp; omega) _).alloc (by simp; omega) _).alloc (by simp; omega) _
  have x0 : Boxed X w.heap.size 40 (.slice (some ⟨b, off, none⟩) zs.length cap) := by rw [← hX]; exact (((((Boxed.new w _ _).alloc _).alloc _).alloc _).alloc _).alloc _
  have x1 : Boxed X (w.heap.size + 1) 40 (.slice none 0 0) := by
    have := Boxed.new (w.alloc (.cells #[.slice (some ⟨b, off, none⟩) zs.length cap] 40)) 40 (.slice none 0 0)
    rw [World.size_alloc] at this
    rw [← hX]; exact (((this.alloc _).alloc _).alloc _).alloc _
  have x2 : Boxed X (w.heap.size + 2) 28 (.slice none 0 0) := by
    have := Boxed.new ((w.alloc (.cells #[.slice (some ⟨b, off, none⟩) zs.length cap] 40)).alloc (.cells #[.slice none 0 0] 40)) 28 (.slice none 0 0)
    rw [World.size_alloc, World.size_alloc] at this
    rw [← hX]; exact ((this.alloc _).alloc _).alloc _
  have x3 : Boxed X (w.heap.size + 3) 28 (.slice (some ⟨b, off, none⟩) zs.length cap) := by
    have := Boxed.new (((w.alloc (.cells #[.slice (some ⟨b, off, none⟩) zs.length cap] 40)).alloc (.cells #[.slice none 0 0] 40)).alloc (.cells #[.slice none 0 0] 28)) 28 (.slice (some ⟨b, off, none⟩) zs.length cap)
    rw [World.size_alloc, World.size_alloc, World.size_alloc] at this
    rw [← hX]; exact (this.alloc _).alloc _
  have x4 : Boxed X (w.heap.size + 4) 80 (.func (.func 67) #[] #[.pointer (some ⟨w.heap.size + 3, 0, none⟩)]) := by
    have := Boxed.new ((((w.alloc (.cells #[.slice (some ⟨b, off, none⟩) zs.length cap] 40)).alloc (.cells #[.slice none 0 0] 40)).alloc (.cells #[.slice none 0 0] 28)).alloc (.cells #[.slice (some ⟨b, off, none⟩) zs.length cap] 28)) 80 (.func (.func 67) #[] #[.pointer (some ⟨w.heap.size + 3, 0, none⟩)])
    rw [World.size_alloc, World.size_alloc, World.size_alloc, World.size_alloc] at this
    rw [← hX]; exact this.alloc _
  have x5 : Boxed X (w.heap.size + 5) 25 (.slice aa na ca) := by
    have := Boxed.new (((((w.alloc (.cells #[.slice (some ⟨b, off, none⟩) zs.length cap] 40)).alloc (.cells #[.slice none 0 0] 40)).alloc (.cells #[.slice none 0 0] 28)).alloc (.cells #[.slice (some ⟨b, off, none⟩) zs.length cap] 28)).alloc (.cells #[.func (.func 67) #[] #[.pointer (some ⟨w.heap.size + 3, 0, none⟩)]] 80)) 25 (.slice aa na ca)
    rw [World.size_alloc, World.size_alloc, World.size_alloc, World.size_alloc, World.size_alloc] at this
    rw [← hX]; exact this
  have hkb : KB X X.heap.size (w.heap.size + 2) (.slice none 0 0) [] := ⟨x2, ON.nil _ _, by omega, Nat.le_refl _⟩
  have hro : RO w w.heap.size (w.heap.size + 1) (.slice (some ⟨b, off, none⟩) zs.length cap) X := ⟨x0, x1, bX⟩
  have hin := values_stops 6 (by omega) (w.heap.size + 3) w.heap.size b off cap ms (by have := HZ.out; have := HM.out.2; omega) X (by omega) (by omega) hb (by rw [HM.out.2]; exact x3.cell) (fun j x e => (bX.cell (p := ⟨b, off + j, none⟩) hb).trans (HC.out j x e))
  have hsX := HS.out.below bX
  have nr0 : ∀ k, NR (w.heap.size + 2) X k := fun k v r hc hr => by rw [x2.cell] at hc; cases hc; cases hr
  have hseq := living1_seq 7 (by omega) (w.heap.size + 4) (w.heap.size + 5) (w.heap.size + 2) w.heap.size _ _ ms ms.length al aa na ca X (enters_of Try.func67 (by kernel_rfl) rfl) hin x4 x5 hsX (by omega) (by omega) (by omega) (nr0 _) (fun v r hc hr => by rw [x2.cell] at hc; cases hc; cases hr)
  rw [hX]
  have HX : Hid (X.heap.size = w.heap.size + 6) := sX
  clear hX x0 x1 x2 x3 x4 x5 hin hsX nr0 bX
  refine (wpIn_wide (n := 8)).1 ?_
  refine wpIn_rangeO (by omega) (gf := 65) (lb := #[.pointer (some ⟨w.heap.size + 4, 0, none⟩), .pointer (some ⟨w.heap.size + 5, 0, none⟩)]) rfl (enters_of Try.func65 (by kernel_rfl) rfl)
    hseq (fun h k => ⟨h.1.trans k.1, h.2.trans k.2⟩) (fun W o o' h hc => ⟨below_put o' (by omega) (Array.getElem?_eq_some_iff.1 h).1, KeepR.put (by omega) W o o' h hc⟩) (fun _ => rfl)
    (fun pre W => (∃ v, KB W X.heap.size (w.heap.size + 2) v (valsM pre)) ∧ RO w w.heap.size (w.heap.size + 1) (.slice (some ⟨b, off, none⟩) zs.length cap) W)
    (fun _ _ _ => False)
    (OwnFrom.and KB.own (RO.own (by omega))) (fun _ _ _ _ _ h _ _ => h) ⟨⟨_, hkb⟩, hro⟩
    (fun x => { tmps := #[.agg #[.slice (some ⟨b, off, none⟩) zs.length cap], .slice aa na ca, .pointer (some ⟨w.heap.size, 0, none⟩), undef, .pointer (some ⟨w.heap.size + 1, 0, none⟩), .bool false, .pointer (some ⟨w.heap.size + 2, 0, none⟩), .int .i64 x.1, undef, .pointer (some ⟨w.heap.size, 0, none⟩), .slice (some ⟨b, off, none⟩) zs.length cap, .func (.func 67) #[] #[.pointer (some ⟨w.heap.size + 3, 0, none⟩)], .slice aa na ca, .func (.func 65) #[] #[.pointer (some ⟨w.heap.size + 4, 0, none⟩), .pointer (some ⟨w.heap.size + 5, 0, none⟩)], .int .i64 x.1, undef, undef, undef, undef, undef, undef, undef, undef, undef, undef, undef, undef, undef, undef, undef, undef, undef, undef, undef, undef, undef, undef, undef, undef, undef, undef, undef], defers := [] }) ?assign ?body ?done ?stop
  case assign =>
    intro l x W K hK
    simp only [macE]
    gi_wp2
    exact hK
  case body =>
    rintro l pre x W ⟨⟨v, kb⟩, ro⟩ hlen
    obtain ⟨v', W', hr, c1, f1, kb2, ko, kbel, kr, far, q, cp, rfl⟩ := kb.step x.1 (by rw [valsM_len]; have := HZ.out; have := HM.out.2; omega) 28
    have cv := kb.box.cell
    have hX := HX.out
    have K2 : Hid (KB (W'.setCell ⟨w.heap.size + 2, 0, none⟩ (.slice (some ⟨q, 0, none⟩) ((valsM pre).length + 1) cp)) X.heap.size (w.heap.size + 2) (.slice (some ⟨q, 0, none⟩) ((valsM pre).length + 1) cp) (valsM pre ++ [x.1]) ∧ KeepsOthers W (W'.setCell ⟨w.heap.size + 2, 0, none⟩ (.slice (some ⟨q, 0, none⟩) ((valsM pre).length + 1) cp)) ∧ Below w.heap.size W (W'.setCell ⟨w.heap.size + 2, 0, none⟩ (.slice (some ⟨q, 0, none⟩) ((valsM pre).length + 1) cp)) ∧ KeepR (w.heap.size + 2) (X.heap.size + 1) W (W'.setCell ⟨w.heap.size + 2, 0, none⟩ (.slice (some ⟨q, 0, none⟩) ((valsM pre).length + 1) cp)) ∧ RO w w.heap.size (w.heap.size + 1) (.slice (some ⟨b, off, none⟩) zs.length cap) (W'.setCell ⟨w.heap.size + 2, 0, none⟩ (.slice (some ⟨q, 0, none⟩) ((valsM pre).length + 1) cp))) :=
      ⟨kb2, ko, kbel _ (by omega), kr _, ⟨(far _ (by omega) (by omega)).trans ro.pb, (far _ (by omega) (by omega)).trans ro.rb, ro.bel.trans (kbel _ (by omega))⟩⟩
    clear kb2 ko kbel kr far hseq hkb hro kb ro hX sX
    gi_wp2_with (gi_at_builtin; refine append_knownIn _ rfl (.tmp 15) (.tmp 17) 28 rfl _ _ _ _ rfl rfl hr ?_)
    obtain ⟨kb2, ko, kbel, kr, ro2⟩ := K2.out
    exact ⟨ko, ⟨kbel, kr⟩, ⟨_, by rw [valsM_snoc]; exact kb2⟩, ro2⟩
  case stop =>
    rintro c pre W _ h _
    exact h.elim
  case done =>
    rintro xs Y rfl ⟨⟨v, kb⟩, ro⟩ hK
    rw [keep_vals, HM.out.1] at kb
    obtain ⟨av, cpv, rfl⟩ : ∃ av cpv, v = .slice av (keepL al zs).length cpv := by
      rcases kb.on.form with ⟨rfl, e⟩ | ⟨q, cp, e, _⟩
      · exact ⟨none, 0, by rw [e]; rfl⟩
      · exact ⟨_, cp, e⟩
    have hkl := keepL_len al zs
    clear sX
    by_cases hke : keepL al zs = []
    · rw [hke] at kb
      have cv : Y.cell? ⟨w.heap.size + 2, 0, none⟩ = some (.slice av 0 cpv) := kb.box.cell
      have cb := ro.pb.cell
      have hbY : b < Y.heap.size := Nat.lt_of_lt_of_le hb ro.bel.size
      have hcl := clone_any Y b off cap zs hbY (HN.out.below ro.bel hb) (by have := HZ.out; omega)
      have hDl : X.heap.size < Y.heap.size := (Array.getElem?_eq_some_iff.1 hK).1
      have KY : Hid (Boxed Y (w.heap.size + 1) 40 (.slice none 0 0) ∧ Below w.heap.size w Y ∧ Y.heap[X.heap.size]? = some (.deferred (some []))) := ⟨ro.rb, ro.bel, hK⟩
      have HKE : Hid (keepL al zs = []) := hke
      clear kb ro hseq hkb hro hK hke
      go_wp2_with (go_at_call 58; refine hcl.mono ?_; clear hcl; rintro e Z ⟨q, cp, rfl, on, bz⟩; have cr := (bz.cell (p := ⟨w.heap.size + 1, 0, none⟩) KY.out.1.lt).trans KY.out.1.cell; have fr := (bz.frozen (p := ⟨w.heap.size + 1, 0, none⟩) KY.out.1.lt).trans KY.out.1.frozen; have KZ : Hid (ON Z Y.heap.size (.slice (some ⟨q, 0, none⟩) zs.length cp) zs ∧ Below Y.heap.size Y Z) := ⟨on, bz⟩; clear on bz)
      have hX := HX.out
      obtain ⟨on, bz⟩ := KZ.out
      obtain ⟨rb, bel, hK⟩ := KY.out
      obtain ⟨q1, q2, q3, q4, q5⟩ : Y.heap.size ≤ q ∧ q < Z.heap.size ∧ zs.length ≤ cp ∧ NumsAt Z q 0 zs ∧ Room Z q zs.length := by
        rcases on.form with ⟨e, _⟩ | ⟨q', cp', e, h1, h2, h3, h4, h5⟩
        · cases e
        · cases e; exact ⟨h1, h2, h3, h4, h5⟩
      obtain ⟨V, hV⟩ : ∃ V, Z.setCell ⟨w.heap.size + 1, 0, none⟩ (.slice (some ⟨q, 0, none⟩) zs.length cp) = V := ⟨_, rfl⟩
      have rbV : Boxed V (w.heap.size + 1) 40 (.slice (some ⟨q, 0, none⟩) zs.length cp) := by rw [← hV]; exact Boxed.set (v := .slice none 0 0) _ ((bz.block _ rb.lt).trans rb)
      have vB : ∀ k, k ≠ w.heap.size + 1 → V.heap[k]? = Z.heap[k]? := fun k hk => by rw [← hV]; exact Below.heap_setCell _ _ _ _ (fun e => hk e)
      have vS : V.heap.size = Z.heap.size := by rw [← hV]; simp [World.setCell]
      have belV : Below w.heap.size w V := by rw [← hV]; exact (bel.trans (bz.mono bel.size)).setCell (p := ⟨w.heap.size + 1, 0, none⟩) (by simp) _
      have kV : V.heap[X.heap.size]? = some (.deferred (some [])) := (vB _ (by omega)).trans ((bz.block _ hDl).trans hK)
      have lV : X.heap.size < V.heap.size := (Array.getElem?_eq_some_iff.1 kV).1
      rw [hV]
      refine ⟨by simp, .inl ⟨_, _, rfl, run_takeDeferred kV, ?_⟩⟩
      have eF : ∀ k, k ≠ X.heap.size → (V.putObj X.heap.size (.deferred none)).heap[k]? = V.heap[k]? := fun k h1 => World.putObj_heap_other h1
      have g0 : (V.putObj X.heap.size (.deferred none)).cell? ⟨w.heap.size + 1, 0, none⟩ = some (.slice (some ⟨q, 0, none⟩) zs.length cp) := (World.cell?_of_block (a := ⟨w.heap.size + 1, 0, none⟩) (eF (w.heap.size + 1) (by omega))).trans rbV.cell
      have eq1 := (eF q (by omega)).trans (vB q (by omega))
      have hrow : rowR al zs = zs := by rw [rowR, if_pos HKE.out]
      refine ⟨.tuple #[.agg #[.slice (some ⟨q, 0, none⟩) zs.length cp], .bool false], by simp [results, Try.results39, go_sem, g0], ?_⟩
      unfold RowPost
      rw [hrow, HKE.out]
      exact ⟨q, cp, rfl, by omega, by simp [World.putObj, vS]; omega, q3, q4.of_block eq1, q5.of_block eq1, belV.trans (below_put _ (by omega) lV)⟩
    · have hp1 : 1 ≤ (keepL al zs).length := by
        rcases Nat.eq_zero_or_pos (keepL al zs).length with h | h
        · exact absurd (List.eq_nil_of_length_eq_zero h) hke
        · exact h
      have hp3 : (keepL al zs).length ≤ 3 := by have := HZ.out; omega
      have cv := kb.box.cell
      have d0 : (((keepL al zs).length : Int) == 0) = false := by simp; omega
      have HKE : Hid (keepL al zs ≠ []) := hke
      have HAL : Hid (al.length = na ∧ na ≤ 8) := ⟨HS.out.1, hna⟩
      have HROW : Hid (rowR al zs = fillM (keepL al zs) (livM al allM)) := by unfold Hid; rw [rowR, if_neg hke, fillM_row al _ (by have := HAL.out; omega)]
      have HNE : Hid (rowR al zs ≠ []) := by
        intro e
        have := (fillM_len hp3 (livM al allM)).1
        rw [← HROW.out, e] at this
        have h0 : ([] : List Int).length = 0 := rfl
        omega
      have KY : Hid (KB Y X.heap.size (w.heap.size + 2) (.slice av (keepL al zs).length cpv) (keepL al zs) ∧ RO w w.heap.size (w.heap.size + 1) (.slice (some ⟨b, off, none⟩) zs.length cap) Y ∧ Y.heap[X.heap.size]? = some (.deferred (some []))) := ⟨kb, ro, hK⟩
      clear kb ro hseq hkb hro hK hke
      go_wp2_with (go_at_call 56; refine (living_any _ _ _ _ _ _).mono ?_; rintro e w' ⟨rfl, rfl⟩)
      have hX := HX.out
      obtain ⟨kb, ro, hK⟩ := KY.out
      obtain ⟨X2, hX2⟩ : ∃ X2, (Y.alloc (.cells #[.func (.func 59) #[] #[]] 80)).alloc (.cells #[.slice aa na ca] 25) = X2 := ⟨_, rfl⟩
      have sX2 : X2.heap.size = Y.heap.size + 2 := by rw [← hX2]; simp
      have hYs : X.heap.size < Y.heap.size := (Array.getElem?_eq_some_iff.1 hK).1
      have bY2 : Below Y.heap.size Y X2 := by rw [← hX2]; exact ((Below.refl _ _).alloc (Nat.le_refl _) _).alloc (by simp) _
      have y4 : Boxed X2 Y.heap.size 80 (.func (.func 59) #[] #[]) := by rw [← hX2]; exact (Boxed.new Y _ _).alloc _
      have y5 : Boxed X2 (Y.heap.size + 1) 25 (.slice aa na ca) := by
        have := Boxed.new (Y.alloc (.cells #[.func (.func 59) #[] #[]] 80)) 25 (.slice aa na ca)
        rw [World.size_alloc] at this
        rw [← hX2]; exact this
      have hkb2 : KB X2 X.heap.size (w.heap.size + 2) (.slice av (keepL al zs).length cpv) (keepL al zs) := by rw [← hX2]; exact (kb.alloc _).alloc _
      have hro2 : RO w w.heap.size (w.heap.size + 1) (.slice (some ⟨b, off, none⟩) zs.length cap) X2 := by rw [← hX2]; exact (ro.alloc _).alloc _
      have hd2 : X2.heap[X.heap.size]? = some (.deferred (some [])) := (bY2.block _ hYs).trans hK
      have hsX2 := HS.out.below hro2.bel
      have ow : ∀ v r, X2.cell? ⟨w.heap.size + 2, 0, none⟩ = some v → v.ownBlock = some r → r < Y.heap.size := fun v r hc hr => by
        rw [hkb2.box.cell] at hc
        cases hc
        exact (World.ownsRow.lt kb.on r hr).2
      have hseq2 := living1_seq 7 (by omega) Y.heap.size (Y.heap.size + 1) (w.heap.size + 2) w.heap.size _ _ allM 8 al aa na ca X2 (enters_of Try.func59 (by kernel_rfl) rfl) (every_stops 6 (by omega) w.heap.size X2) y4 y5 hsX2 (by omega) (by omega) (by omega) (fun v r hc hr e => by have := ow v r hc hr; omega) (fun v r hc hr => by have := ow v r hc hr; omega)
      rw [hX2]
      have HX2 : Hid (X2.heap.size = Y.heap.size + 2 ∧ X.heap.size < Y.heap.size) := ⟨sX2, hYs⟩
      have HP : Hid (1 ≤ (keepL al zs).length ∧ (keepL al zs).length ≤ 3) := ⟨hp1, hp3⟩
      have hI2 : OwnFrom X2.heap.size (fun (pre : List { x : Int // 0 ≤ x ∧ x ≤ 7 }) W => (∃ v, KB W X.heap.size (w.heap.size + 2) v (fillM (keepL al zs) pre)) ∧ RO w w.heap.size (w.heap.size + 1) (.slice (some ⟨b, off, none⟩) zs.length cap) W ∧ W.heap[X.heap.size]? = some (.deferred (some []))) :=
        OwnFrom.and KB.own (OwnFrom.and (RO.own (by omega)) (still_own (by omega)))
      clear hX2 y4 y5 hsX2 ow bY2 kb ro hK KY hp1 hp3
      refine (wpIn_wide (n := 8)).1 ?_
      refine wpIn_rangeO (by omega) (gf := 65) (lb := #[.pointer (some ⟨Y.heap.size, 0, none⟩), .pointer (some ⟨Y.heap.size + 1, 0, none⟩)]) rfl (enters_of Try.func65 (by kernel_rfl) rfl)
        hseq2 (fun h k => ⟨h.1.trans k.1, h.2.trans k.2⟩) (fun W o o' h hc => ⟨below_put o' (by omega) (Array.getElem?_eq_some_iff.1 h).1, KeepR.put (by omega) W o o' h hc⟩) (fun _ => rfl)
        (fun pre W => (∃ v, KB W X.heap.size (w.heap.size + 2) v (fillM (keepL al zs) pre)) ∧ RO w w.heap.size (w.heap.size + 1) (.slice (some ⟨b, off, none⟩) zs.length cap) W ∧ W.heap[X.heap.size]? = some (.deferred (some [])))
        (fun c pre W => c = .exit 2 ∧ 3 ≤ (fillM (keepL al zs) pre).length ∧ (∃ v, KB W X.heap.size (w.heap.size + 2) v (fillM (keepL al zs) pre)) ∧ RO w w.heap.size (w.heap.size + 1) (.slice (some ⟨b, off, none⟩) zs.length cap) W ∧ W.heap[X.heap.size]? = some (.deferred (some [])))
        hI2 (fun c s A B row h hg hr => ⟨h.1, h.2.1, hI2 s A B row h.2.2 hg hr⟩)
        ⟨⟨_, hkb2⟩, hro2, hd2⟩
        (fun x => { tmps := #[.agg #[.slice (some ⟨b, off, none⟩) zs.length cap], .slice aa na ca, .pointer (some ⟨w.heap.size, 0, none⟩), undef, .pointer (some ⟨w.heap.size + 1, 0, none⟩), .bool false, .pointer (some ⟨w.heap.size + 2, 0, none⟩), undef, .int .i64 x.1, .pointer (some ⟨w.heap.size, 0, none⟩), .slice (some ⟨b, off, none⟩) zs.length cap, .func (.func 67) #[] #[.pointer (some ⟨w.heap.size + 3, 0, none⟩)], .slice aa na ca, .func (.func 65) #[] #[.pointer (some ⟨w.heap.size + 4, 0, none⟩), .pointer (some ⟨w.heap.size + 5, 0, none⟩)], undef, undef, undef, undef, undef, .slice av (keepL al zs).length cpv, .int .i64 (keepL al zs).length, .bool false, undef, undef, undef, undef, .slice aa na ca, .func (.func 65) #[] #[.pointer (some ⟨Y.heap.size, 0, none⟩), .pointer (some ⟨Y.heap.size + 1, 0, none⟩)], .int .i64 x.1, undef, undef, undef, undef, undef, undef, undef, undef, undef, undef, undef, undef, undef], defers := [] }) ?assign2 ?body2 ?done2 ?stop2
      case assign2 =>
        intro l x W K hK
        simp only [macE]
        gi_wp2
        exact hK
      case body2 =>
        rintro l pre x W ⟨⟨v, kb⟩, ro, hd⟩ hlen
        obtain ⟨hf1, hf3⟩ := fillM_len HP.out.2 pre
        have hsn := fillM_snoc (keepL al zs) pre x
        obtain ⟨f, hf⟩ : ∃ f, fillM (keepL al zs) pre = f := ⟨_, rfl⟩
        rw [hf] at hf1 hf3 hsn kb
        have hp1 := HP.out.1
        obtain ⟨q, cp, rfl, q2, q4⟩ : ∃ q cp, v = .slice (some ⟨q, 0, none⟩) f.length cp ∧ q < W.heap.size ∧ NumsAt W q 0 f := by
          rcases kb.on.form with ⟨_, e⟩ | ⟨q, cp, e, h1, h2, h3, h4, h5⟩
          · rw [e] at hf1; have h0 : ([] : List Int).length = 0 := rfl; omega
          · exact ⟨q, cp, e, h2, h4⟩
        have cv := kb.box.cell
        have KW : Hid (KB W X.heap.size (w.heap.size + 2) (.slice (some ⟨q, 0, none⟩) f.length cp) f ∧ RO w w.heap.size (w.heap.size + 1) (.slice (some ⟨b, off, none⟩) zs.length cap) W ∧ W.heap[X.heap.size]? = some (.deferred (some []))) := ⟨kb, ro, hd⟩
        have HSN : Hid (fillM (keepL al zs) (pre ++ [x]) = if f.length < 3 ∧ hasB f x.1 = false then f ++ [x.1] else f) := hsn
        have hst := kb.step x.1 (by omega) 28
        have hct := contains_any W (some ⟨q, 0, none⟩) f.length cp x.1 f (by unfold maxLen; omega) ⟨rfl, .inr ⟨q, 0, rfl, q2, q4⟩⟩
        clear kb ro hd hseq2 hkb2 hro2 hd2 hI2 hX sX2 hYs hsn q4 hf
        by_cases h3 : f.length = 3
        · have d3 : ((f.length : Int) == 3) = true := by simp; omega
          have HL3 : Hid (f.length = 3) := h3
          clear hst hct h3
          gi_wp2
          have e : fillM (keepL al zs) (pre ++ [x]) = f := by rw [HSN.out, if_neg (by have := HL3.out; omega)]
          exact ⟨KeepsOthers.refl _, ⟨Below.refl _ _, KeepR.refl _ _ _⟩, rfl, by rw [e]; have := HL3.out; omega, ⟨_, by rw [e]; exact KW.out.1⟩, KW.out.2.1, KW.out.2.2⟩
        · have d3 : ((f.length : Int) == 3) = false := by simp; omega
          have HL3 : Hid (f.length < 3) := by unfold Hid; omega
          clear h3
          cases hh : hasB f x.1 with
          | true =>
            rw [hh] at hct
            clear hst
            gi_wp2_with (refine ⟨trivial, ?_⟩; gi_at_call 60; refine (CallsIn.inRound l (callsIn_wide.2 hct)).mono ?_; clear hct; rintro e W ⟨rfl, rfl⟩)
            have e : fillM (keepL al zs) (pre ++ [x]) = f := by rw [HSN.out, if_neg (by rw [hh]; simp)]
            exact ⟨KeepsOthers.refl _, ⟨Below.refl _ _, KeepR.refl _ _ _⟩, ⟨_, by rw [e]; exact KW.out.1⟩, KW.out.2.1, KW.out.2.2⟩
          | false =>
            rw [hh] at hct
            obtain ⟨v', W', hr, c1, f1, kb2, ko, kbel, kr, far, q', cp', rfl⟩ := hst
            have hX := HX.out
            have hY2 := HX2.out
            have hXY := (Array.getElem?_eq_some_iff.1 KW.out.2.2).1
            have e : fillM (keepL al zs) (pre ++ [x]) = f ++ [x.1] := by rw [HSN.out, if_pos ⟨HL3.out, hh⟩]
            have K2 : Hid (KeepsOthers W (W'.setCell ⟨w.heap.size + 2, 0, none⟩ (.slice (some ⟨q', 0, none⟩) (f.length + 1) cp')) ∧ (Below w.heap.size W (W'.setCell ⟨w.heap.size + 2, 0, none⟩ (.slice (some ⟨q', 0, none⟩) (f.length + 1) cp')) ∧ KeepR (w.heap.size + 2) (X2.heap.size + 1) W (W'.setCell ⟨w.heap.size + 2, 0, none⟩ (.slice (some ⟨q', 0, none⟩) (f.length + 1) cp'))) ∧ (∃ v, KB (W'.setCell ⟨w.heap.size + 2, 0, none⟩ (.slice (some ⟨q', 0, none⟩) (f.length + 1) cp')) X.heap.size (w.heap.size + 2) v (fillM (keepL al zs) (pre ++ [x]))) ∧ RO w w.heap.size (w.heap.size + 1) (.slice (some ⟨b, off, none⟩) zs.length cap) (W'.setCell ⟨w.heap.size + 2, 0, none⟩ (.slice (some ⟨q', 0, none⟩) (f.length + 1) cp')) ∧ (W'.setCell ⟨w.heap.size + 2, 0, none⟩ (.slice (some ⟨q', 0, none⟩) (f.length + 1) cp')).heap[X.heap.size]? = some (.deferred (some []))) :=
              ⟨ko, ⟨kbel _ (by omega), kr _⟩, ⟨_, by rw [e]; exact kb2⟩, ⟨(far _ (by omega) (by omega)).trans KW.out.2.1.pb, (far _ (by omega) (by omega)).trans KW.out.2.1.rb, KW.out.2.1.bel.trans (kbel _ (by omega))⟩, ko.same _ _ KW.out.2.2 rfl⟩
            clear kb2 ko kbel kr far hX hY2 hXY e
            gi_wp2_with (first
              | (refine ⟨trivial, ?_⟩; gi_at_call 60; refine (CallsIn.inRound l (callsIn_wide.2 hct)).mono ?_; clear hct; rintro e W ⟨rfl, rfl⟩)
              | (gi_at_builtin; refine append_knownIn _ rfl (.tmp 36) (.tmp 38) 28 rfl _ _ _ _ rfl rfl hr ?_))
            exact K2.out
      case done2 =>
        rintro xs W rfl ⟨⟨v, kb⟩, ro, hd⟩ hK2
        rw [← HROW.out] at kb
        obtain ⟨q, cp, rfl, q1, q2, q3, q4, q5⟩ : ∃ q cp, v = .slice (some ⟨q, 0, none⟩) (rowR al zs).length cp ∧ X.heap.size ≤ q ∧ q < W.heap.size ∧ (rowR al zs).length ≤ cp ∧ NumsAt W q 0 (rowR al zs) ∧ Room W q (rowR al zs).length := by
          rcases kb.on.form with ⟨_, e⟩ | ⟨q, cp, e, h1, h2, h3, h4, h5⟩
          · exact absurd e HNE.out
          · exact ⟨q, cp, e, h1, h2, h3, h4, h5⟩
        obtain ⟨o1, ho1, hc1⟩ : ∃ o : Obj, W.heap[q]? = some o ∧ o.isCells = true := by
          obtain ⟨c, fz, h3⟩ := Go.Lib.ownsRow_kind kb.on q rfl
          exact ⟨_, h3, rfl⟩
        have cv := kb.box.cell
        have cr := ro.rb.cell
        have fr := ro.rb.frozen
        clear hX sX2 hYs
        have n1 : q ≠ X.heap.size := fun e => by rw [← e, ho1] at hd; cases hd; cases hc1
        have n2 : q ≠ X2.heap.size := fun e => by rw [← e, ho1] at hK2; cases hK2; cases hc1
        have KF : Hid (W.heap[X2.heap.size]? = some (.deferred (some [])) ∧ W.heap[X.heap.size]? = some (.deferred (some [])) ∧ Boxed W (w.heap.size + 1) 40 (.slice none 0 0) ∧ Below w.heap.size w W ∧ NumsAt W q 0 (rowR al zs) ∧ Room W q (rowR al zs).length) := ⟨hK2, hd, ro.rb, ro.bel, q4, q5⟩
        clear hK2 hd ro kb q4 q5 hseq2 hkb2 hro2 ho1 hd2 hI2
        go_wp2
        have hX := HX.out
        have hX2 := HX2.out
        obtain ⟨k2, k1, rb, bel, q4, q5⟩ := KF.out
        obtain ⟨V, hV⟩ : ∃ V, W.setCell ⟨w.heap.size + 1, 0, none⟩ (.slice (some ⟨q, 0, none⟩) (rowR al zs).length cp) = V := ⟨_, rfl⟩
        have rbV : Boxed V (w.heap.size + 1) 40 (.slice (some ⟨q, 0, none⟩) (rowR al zs).length cp) := by rw [← hV]; exact rb.set _
        have vB : ∀ k, k ≠ w.heap.size + 1 → V.heap[k]? = W.heap[k]? := fun k hk => by rw [← hV]; exact Below.heap_setCell _ _ _ _ (fun e => hk e)
        have vS : V.heap.size = W.heap.size := by rw [← hV]; simp [World.setCell]
        have belV : Below w.heap.size w V := by rw [← hV]; exact bel.setCell (p := ⟨w.heap.size + 1, 0, none⟩) (by simp) _
        have k2V : V.heap[X2.heap.size]? = some (.deferred (some [])) := (vB _ (by omega)).trans k2
        have k1V : (V.putObj X2.heap.size (.deferred none)).heap[X.heap.size]? = some (.deferred (some [])) := (World.putObj_heap_other (by omega)).trans ((vB _ (by omega)).trans k1)
        rw [hV]
        refine ⟨by simp, .inl ⟨_, _, rfl, run_takeDeferred k2V, by simp, .inl ⟨_, _, rfl, run_takeDeferred k1V, ?_⟩⟩⟩
        have l2 : X2.heap.size < V.heap.size := (Array.getElem?_eq_some_iff.1 k2V).1
        have l1 : X.heap.size < (V.putObj X2.heap.size (.deferred none)).heap.size := (Array.getElem?_eq_some_iff.1 k1V).1
        have eF : ∀ k, k ≠ X2.heap.size → k ≠ X.heap.size → ((V.putObj X2.heap.size (.deferred none)).putObj X.heap.size (.deferred none)).heap[k]? = V.heap[k]? := fun k h2 h1 => (World.putObj_heap_other h1).trans (World.putObj_heap_other h2)
        have g0 : ((V.putObj X2.heap.size (.deferred none)).putObj X.heap.size (.deferred none)).cell? ⟨w.heap.size + 1, 0, none⟩ = some (.slice (some ⟨q, 0, none⟩) (rowR al zs).length cp) := (World.cell?_of_block (a := ⟨w.heap.size + 1, 0, none⟩) (eF (w.heap.size + 1) (by omega) (by omega))).trans rbV.cell
        have eq1 := (eF q n2 n1).trans (vB q (by omega))
        refine ⟨.tuple #[.agg #[.slice (some ⟨q, 0, none⟩) (rowR al zs).length cp], .bool true], by simp [results, Try.results39, go_sem, g0], ?_⟩
        refine ⟨q, cp, by rw [show (keepL al zs).isEmpty = false by simpa using HKE.out]; rfl, by omega, by simp [World.putObj, vS]; omega, q3, q4.of_block eq1, q5.of_block eq1, (belV.trans (below_put _ (by omega) l2)).trans (below_put _ (by omega) l1)⟩
      case stop2 =>
        rintro c pre W hp ⟨rfl, h3, ⟨v, kb⟩, ro, hd⟩ hK2
        have hfull : fillM (keepL al zs) pre = rowR al zs := by
          obtain ⟨t, ht⟩ := hp
          rw [HROW.out, ← ht, fillM_append, fillM_full h3]
        rw [hfull] at kb
        refine wpIn_wide.2 ?_
        obtain ⟨q, cp, rfl, q1, q2, q3, q4, q5⟩ : ∃ q cp, v = .slice (some ⟨q, 0, none⟩) (rowR al zs).length cp ∧ X.heap.size ≤ q ∧ q < W.heap.size ∧ (rowR al zs).length ≤ cp ∧ NumsAt W q 0 (rowR al zs) ∧ Room W q (rowR al zs).length := by
          rcases kb.on.form with ⟨_, e⟩ | ⟨q, cp, e, h1, h2, h3, h4, h5⟩
          · exact absurd e HNE.out
          · exact ⟨q, cp, e, h1, h2, h3, h4, h5⟩
        obtain ⟨o1, ho1, hc1⟩ : ∃ o : Obj, W.heap[q]? = some o ∧ o.isCells = true := by
          obtain ⟨c, fz, h3⟩ := Go.Lib.ownsRow_kind kb.on q rfl
          exact ⟨_, h3, rfl⟩
        have cv := kb.box.cell
        have cr := ro.rb.cell
        have fr := ro.rb.frozen
        clear hX sX2 hYs
        have n1 : q ≠ X.heap.size := fun e => by rw [← e, ho1] at hd; cases hd; cases hc1
        have n2 : q ≠ X2.heap.size := fun e => by rw [← e, ho1] at hK2; cases hK2; cases hc1
        have KF : Hid (W.heap[X2.heap.size]? = some (.deferred (some [])) ∧ W.heap[X.heap.size]? = some (.deferred (some [])) ∧ Boxed W (w.heap.size + 1) 40 (.slice none 0 0) ∧ Below w.heap.size w W ∧ NumsAt W q 0 (rowR al zs) ∧ Room W q (rowR al zs).length) := ⟨hK2, hd, ro.rb, ro.bel, q4, q5⟩
        clear hK2 hd ro kb q4 q5 hseq2 hkb2 hro2 ho1 hd2 hI2
        go_wp2
        have hX := HX.out
        have hX2 := HX2.out
        obtain ⟨k2, k1, rb, bel, q4, q5⟩ := KF.out
        obtain ⟨V, hV⟩ : ∃ V, W.setCell ⟨w.heap.size + 1, 0, none⟩ (.slice (some ⟨q, 0, none⟩) (rowR al zs).length cp) = V := ⟨_, rfl⟩
        have rbV : Boxed V (w.heap.size + 1) 40 (.slice (some ⟨q, 0, none⟩) (rowR al zs).length cp) := by rw [← hV]; exact rb.set _
        have vB : ∀ k, k ≠ w.heap.size + 1 → V.heap[k]? = W.heap[k]? := fun k hk => by rw [← hV]; exact Below.heap_setCell _ _ _ _ (fun e => hk e)
        have vS : V.heap.size = W.heap.size := by rw [← hV]; simp [World.setCell]
        have belV : Below w.heap.size w V := by rw [← hV]; exact bel.setCell (p := ⟨w.heap.size + 1, 0, none⟩) (by simp) _
        have k2V : V.heap[X2.heap.size]? = some (.deferred (some [])) := (vB _ (by omega)).trans k2
        have k1V : (V.putObj X2.heap.size (.deferred none)).heap[X.heap.size]? = some (.deferred (some [])) := (World.putObj_heap_other (by omega)).trans ((vB _ (by omega)).trans k1)
        rw [hV]
        refine ⟨by simp, .inl ⟨_, _, rfl, run_takeDeferred k2V, by simp, .inl ⟨_, _, rfl, run_takeDeferred k1V, ?_⟩⟩⟩
        have l2 : X2.heap.size < V.heap.size := (Array.getElem?_eq_some_iff.1 k2V).1
        have l1 : X.heap.size < (V.putObj X2.heap.size (.deferred none)).heap.size := (Array.getElem?_eq_some_iff.1 k1V).1
        have eF : ∀ k, k ≠ X2.heap.size → k ≠ X.heap.size → ((V.putObj X2.heap.size (.deferred none)).putObj X.heap.size (.deferred none)).heap[k]? = V.heap[k]? := fun k h2 h1 => (World.putObj_heap_other h1).trans (World.putObj_heap_other h2)
        have g0 : ((V.putObj X2.heap.size (.deferred none)).putObj X.heap.size (.deferred none)).cell? ⟨w.heap.size + 1, 0, none⟩ = some (.slice (some ⟨q, 0, none⟩) (rowR al zs).length cp) := (World.cell?_of_block (a := ⟨w.heap.size + 1, 0, none⟩) (eF (w.heap.size + 1) (by omega) (by omega))).trans rbV.cell
        have eq1 := (eF q n2 n1).trans (vB q (by omega))
        refine ⟨.tuple #[.agg #[.slice (some ⟨q, 0, none⟩) (rowR al zs).length cp], .bool true], by simp [results, Try.results39, go_sem, g0], ?_⟩
        refine ⟨q, cp, by rw [show (keepL al zs).isEmpty = false by simpa using HKE.out]; rfl, by omega, by simp [World.putObj, vS]; omega, q3, q4.of_block eq1, q5.of_block eq1, (belV.trans (below_put _ (by omega) l2)).trans (below_put _ (by omega) l1)⟩
end Go.Proofs.Ytgohihcpmjfhdaa
