/- YTxR; YTxK; YTxI; YTold; KdG; OwnG; MacTo1; MacTo2; MacTo3; MacTo4: joined. -/
import Derived.Test.YtdmpobegobfpjaaGreatRows
import Derived.Test.YtdmpobegobfpjaaGreatJ1ExactAgrees
import Derived.WalkKit
import Derived.WalkSpells
import Derived.WalkLawsBesides
import Derived.Below
import Derived.Lib.QuietBelow
import Derived.BigQuiet
import Derived.Deep.RegionWith
import Derived.Test.YtdmpobegobfpjaaGreatJ0ExactAgrees
namespace Go.Proofs.YtdmpobegobfpjaaGreat.tx
open Go.RowKit
open Go.Sort (grow)
def FirstAt (f : Nat → Bool) (n : Nat) (i : Int) : Prop := (i = -1 ∧ ∀ j, j < n → f j = false) ∨ ∃ k : Nat, i = (k : Int) ∧ k < n ∧ f k = true ∧ ∀ j, j < k → f j = false
theorem first_has {f : Nat → Bool} {n : Nat} {i : Int} (h : FirstAt f n i) : decide (0 ≤ i) = !((List.range n).all fun j => !f j) := by
  rcases h with ⟨rfl, h⟩ | ⟨k, rfl, hk, hf, _⟩
  · have : ((List.range n).all fun j => !f j) = true := by rw [List.all_eq_true]; intro j hj; simp [h j (List.mem_range.1 hj)]
    rw [this]; rfl
  · have : ((List.range n).all fun j => !f j) = false := by rw [List.all_eq_false]; exact ⟨k, List.mem_range.2 hk, by simp [hf]⟩
    rw [this]; simp
theorem implId (w : World) (x : Int) : Calls Tryz.prog 110 #[.int .i64 x] w fun e w' => e = .returned (.bool (inB 1 1000000 x)) ∧ w' = w := by
  go_enter Tryz.func110, Tryz.ntmps110
  go_wp2
  all_goals (go_ret; refine ⟨ret_bool ?_, rfl⟩; simp [inB_iff]; try omega)
theorem implMachine (w : World) (x : Int) : Calls Tryz.prog 159 #[.int .i64 x] w fun e w' => e = .returned (.bool (inB 0 7 x)) ∧ w' = w := by
  go_enter Tryz.func159, Tryz.ntmps159
  go_wp2
  all_goals (go_ret; refine ⟨ret_bool ?_, rfl⟩; simp [inB_iff]; try omega)
theorem implPhase (w : World) (x : Int) : Calls Tryz.prog 195 #[.int .i64 x] w fun e w' => e = .returned (.bool (inB 1 9 x)) ∧ w' = w := by
  go_enter Tryz.func195, Tryz.ntmps195
  go_wp2
  all_goals (go_ret; refine ⟨ret_bool ?_, rfl⟩; simp [inB_iff]; try omega)
theorem implDone (w : World) (x : Int) : Calls Tryz.prog 196 #[.int .i64 x] w fun e w' => e = .returned (.bool (inB 0 1000 x)) ∧ w' = w := by
  go_enter Tryz.func196, Tryz.ntmps196
  go_wp2
  all_goals (go_ret; refine ⟨ret_bool ?_, rfl⟩; simp [inB_iff]; try omega)
theorem implStamp (w : World) (x : Int) : Calls Tryz.prog 63 #[.int .i64 x] w fun e w' => e = .returned (.bool (inB 0 1000000 x)) ∧ w' = w := by
  go_enter Tryz.func63, Tryz.ntmps63
  go_wp2
  all_goals (go_ret; refine ⟨ret_bool ?_, rfl⟩; simp [inB_iff]; try omega)
theorem implVersion (w : World) (x : Int) : Calls Tryz.prog 220 #[.int .i64 x] w fun e w' => e = .returned (.bool (inB 0 1000000 x)) ∧ w' = w := by
  go_enter Tryz.func220, Tryz.ntmps220
  go_wp2
  all_goals (go_ret; refine ⟨ret_bool ?_, rfl⟩; simp [inB_iff]; try omega)
theorem implNoteOk (w : World) (s : N5) : Calls Tryz.prog 198 #[.agg #[.int .i64 s.region, .int .i64 s.slot, .int .i64 s.version, .int .i64 s.value, .bool s.used]] w fun e w' => e = .returned (.bool (noteOkB s)) ∧ Below w.heap.size w w' := by
  obtain ⟨r, l, v, u, x⟩ := s
  go_enter Tryz.func198, Tryz.ntmps198
  cases h1 : inB 0 5 r <;> cases h2 : inB 0 5 l <;> cases h3 : inB 0 1000000 v
  all_goals go_wp2_with (first | (go_at_call 220; refine (implVersion _ _).mono ?_; rintro e w' ⟨rfl, rfl⟩) | (go_at_call 182; refine (implRegion _ _).mono ?_; rintro e w' ⟨rfl, rfl⟩) | (go_at_call 219; refine (implSlot _ _).mono ?_; rintro e w' ⟨rfl, rfl⟩) | (go_at_call 221; refine (implValue _ _).mono ?_; rintro e w' ⟨rfl, rfl⟩))
  all_goals (go_ret; refine ⟨ret_bool ?_, (Below.refl _ _).alloc (Nat.le_refl _) _⟩; simp only [noteOkB, h1, h2, h3, Bool.and_true, Bool.and_false, Bool.false_and, Bool.true_and]; try simp [inB_iff]; try omega)
def rk (r s : Int) : Int := r * 6 + s
theorem rank_any (w : World) (r s : Int) (h1 : inB 0 5 r = true) (h2 : inB 0 5 s = true) : Calls Tryz.prog 230 #[.agg #[.int .i64 r, .int .i64 s]] w fun e w' => e = .returned (.int .i64 (rk r s)) ∧ Below w.heap.size w w' := by
  rw [inB_iff] at h1 h2
  have e1 : IntKind.i64.wrap (r * 6) = r * 6 := by simp [IntKind.wrap, IntKind.bits, IntKind.signed]; omega
  have e2 : IntKind.i64.wrap (r * 6 + s) = r * 6 + s := by simp [IntKind.wrap, IntKind.bits, IntKind.signed]; omega
  go_enter Tryz.func230, Tryz.ntmps230
  go_wp2
  go_ret
  exact ⟨by simp [rk], (Below.refl _ _).alloc (Nat.le_refl _) _⟩
theorem less_rk {r s q t : Int} (h1 : inB 0 5 s = true) (h2 : inB 0 5 t = true) : lessB r s q t = decide (rk r s < rk q t) := by
  rw [inB_iff] at h1 h2
  have hk : ∀ a b, rk a b = a * 6 + b := fun _ _ => rfl
  have hd : (r < q ∨ r = q ∧ s < t) ↔ rk r s < rk q t := by
    rw [hk, hk]
    constructor
    · rintro (h | ⟨h, h'⟩) <;> omega
    · intro h
      by_cases hr : r < q
      · exact .inl hr
      · exact .inr ⟨by omega, by omega⟩
  rw [Bool.eq_iff_iff]
  simp [lessB, hd]
set_option maxHeartbeats 1000000 in
theorem noCell_any (w : World) (s : N5) : Calls Tryz.prog 135 #[.agg #[.int .i64 s.region, .int .i64 s.slot, .int .i64 s.version, .int .i64 s.value, .bool s.used]] w fun e w' => e = .returned (.agg #[.int .i64 s.region, .int .i64 s.slot]) ∧ Below w.heap.size w w' := by
  obtain ⟨f0, f1, f2, f3, f4⟩ := s
  go_enter Tryz.func135, Tryz.ntmps135
  go_wp2
  refine bodyPost_ret (v := .agg #[.int .i64 f0, .int .i64 f1]) (by simp [results, Tryz.results135, go_sem]) rfl ⟨rfl, ?_⟩
  exact ((Below.refl _ _).alloc (Nat.le_refl _) _).alloc (by simp) _
set_option maxHeartbeats 1000000 in
theorem noRank_any (w : World) (s : N5) (h1 : inB 0 5 s.region = true) (h2 : inB 0 5 s.slot = true) : Calls Tryz.prog 218 #[.agg #[.int .i64 s.region, .int .i64 s.slot, .int .i64 s.version, .int .i64 s.value, .bool s.used]] w fun e w' => e = .returned (.int .i64 (rk s.region s.slot)) ∧ Below w.heap.size w w' := by
  have b0 : Below w.heap.size w (w.alloc (.cells #[.int .i64 s.region, .int .i64 s.slot, .int .i64 s.version, .int .i64 s.value, .bool s.used] 104)) := (Below.refl _ _).alloc (Nat.le_refl _) _
  have c1 := noCell_any (w.alloc (.cells #[.int .i64 s.region, .int .i64 s.slot, .int .i64 s.version, .int .i64 s.value, .bool s.used] 104)) s
  have hm : ∀ w : World, (method 366 104 (.agg #[.int .i64 s.region, .int .i64 s.slot, .int .i64 s.version, .int .i64 s.value, .bool s.used]) "loop.example/g00153/impl.cell").run Tryz.prog w = .ok (135, .agg #[.int .i64 s.region, .int .i64 s.slot, .int .i64 s.version, .int .i64 s.value, .bool s.used]) w := fun _ => by kernel_rfl
  go_enter Tryz.func218, Tryz.ntmps218
  go_wp2_with (first | (go_at_call 135; refine c1.mono ?_; rintro e w1 ⟨rfl, b1⟩) | (go_at_call 230; refine (rank_any _ _ _ h1 h2).mono ?_; rintro e w2 ⟨rfl, b2⟩))
  go_ret
  exact ⟨rfl, b0.trans ((b1.trans (b2.mono b1.size)).mono b0.size)⟩
set_option maxHeartbeats 1000000 in
theorem seCell_any (w : World) (s : S5) : Calls Tryz.prog 137 #[.agg #[.int .i64 s.region, .int .i64 s.slot, .int .i64 s.value, .bool s.used, .int .i64 s.version]] w fun e w' => e = .returned (.agg #[.int .i64 s.region, .int .i64 s.slot]) ∧ Below w.heap.size w w' := by
  obtain ⟨f0, f1, f2, f3, f4⟩ := s
  go_enter Tryz.func137, Tryz.ntmps137
  go_wp2
  refine bodyPost_ret (v := .agg #[.int .i64 f0, .int .i64 f1]) (by simp [results, Tryz.results137, go_sem]) rfl ⟨rfl, ?_⟩
  exact ((Below.refl _ _).alloc (Nat.le_refl _) _).alloc (by simp) _
set_option maxHeartbeats 1000000 in
theorem seRank_any (w : World) (s : S5) (h1 : inB 0 5 s.region = true) (h2 : inB 0 5 s.slot = true) : Calls Tryz.prog 224 #[.agg #[.int .i64 s.region, .int .i64 s.slot, .int .i64 s.value, .bool s.used, .int .i64 s.version]] w fun e w' => e = .returned (.int .i64 (rk s.region s.slot)) ∧ Below w.heap.size w w' := by
  have b0 : Below w.heap.size w (w.alloc (.cells #[.int .i64 s.region, .int .i64 s.slot, .int .i64 s.value, .bool s.used, .int .i64 s.version] 106)) := (Below.refl _ _).alloc (Nat.le_refl _) _
  have c1 := seCell_any (w.alloc (.cells #[.int .i64 s.region, .int .i64 s.slot, .int .i64 s.value, .bool s.used, .int .i64 s.version] 106)) s
  have hm : ∀ w : World, (method 366 106 (.agg #[.int .i64 s.region, .int .i64 s.slot, .int .i64 s.value, .bool s.used, .int .i64 s.version]) "loop.example/g00153/impl.cell").run Tryz.prog w = .ok (137, .agg #[.int .i64 s.region, .int .i64 s.slot, .int .i64 s.value, .bool s.used, .int .i64 s.version]) w := fun _ => by kernel_rfl
  go_enter Tryz.func224, Tryz.ntmps224
  go_wp2_with (first | (go_at_call 137; refine c1.mono ?_; rintro e w1 ⟨rfl, b1⟩) | (go_at_call 230; refine (rank_any _ _ _ h1 h2).mono ?_; rintro e w2 ⟨rfl, b2⟩))
  go_ret
  exact ⟨rfl, b0.trans ((b1.trans (b2.mono b1.size)).mono b0.size)⟩
theorem noOk_in {s : N5} (h : noteOkB s = true) : inB 0 5 s.region = true ∧ inB 0 5 s.slot = true := by simp only [noteOkB, Bool.and_eq_true] at h; exact ⟨h.1.1.1, h.1.1.2⟩
set_option maxHeartbeats 1000000 in
theorem noWrong_any (w : World) (s : N5) (g : Nat) (hg : w.cell? ⟨g, 0, none⟩ = some (.func (.func 198) #[] #[])) (hl : g < w.heap.size) : Calls Tryz.prog 216 #[.agg #[.int .i64 s.region, .int .i64 s.slot, .int .i64 s.version, .int .i64 s.value, .bool s.used], .pointer (some ⟨g, 0, none⟩)] w fun e w' => e = .returned (.bool (!noteOkB s)) ∧ Below w.heap.size w w' := by
  obtain ⟨W, hW⟩ : ∃ W, W = w.alloc (.cells #[.int .i64 s.region, .int .i64 s.slot, .int .i64 s.version, .int .i64 s.value, .bool s.used] 104) := ⟨_, rfl⟩
  have b0 : Below w.heap.size w W := by rw [hW]; exact (Below.refl _ _).alloc (Nat.le_refl _) _
  have d := (b0.cell (p := ⟨g, 0, none⟩) hl).trans hg
  have c1 := implNoteOk W s
  have KB : Hid (Below w.heap.size w W) := b0
  clear hg hl b0
  rw [hW] at d
  go_enter Tryz.func216, Tryz.ntmps216
  go_wp2_with fail
  rw [← hW]
  refine c1.mono ?_
  clear c1 hW d
  rintro e w1 ⟨rfl, b1⟩
  go_wp2
  go_ret
  exact ⟨rfl, KB.out.trans (b1.mono KB.out.size)⟩
set_option maxHeartbeats 2000000 in
theorem noIdx (w : World) (a : Option Addr) (cap : Nat) (xs : List N5) (g : Nat) (hn : xs.length ≤ maxLen) (hs : SlNo w w.heap.size a xs.length xs) (hg : w.cell? ⟨g, 0, none⟩ = some (.func (.func 198) #[] #[])) (hgl : g < w.heap.size) :
    Calls Tryz.prog 173 #[.slice a xs.length cap, .func (.func 216) #[] #[.pointer (some ⟨g, 0, none⟩)]] w fun e w' => (∃ i : Int, e = .returned (.int .i64 i) ∧ FirstAt (fun i => !noteOkB (atNo xs i)) xs.length i) ∧ Below w.heap.size w w' := by
  unfold maxLen at hn
  obtain ⟨hx, hs⟩ := hs
  clear hx
  obtain ⟨f, hf⟩ : ∃ f : Nat → Bool, f = fun i => !noteOkB (atNo xs i) := ⟨_, rfl⟩
  have HF : Hid (∀ (X : World) (i : Nat), Below w.heap.size w X → Calls Tryz.prog 216 #[.agg #[.int .i64 (atNo xs i).region, .int .i64 (atNo xs i).slot, .int .i64 (atNo xs i).version, .int .i64 (atNo xs i).value, .bool (atNo xs i).used], .pointer (some ⟨g, 0, none⟩)] X fun e w' => e = .returned (.bool (f i)) ∧ Below X.heap.size X w') := fun X i hX => by
    rw [hf]; exact noWrong_any X (atNo xs i) g ((hX.cell (p := ⟨g, 0, none⟩) hgl).trans hg) (Nat.lt_of_lt_of_le hgl hX.size)
  rw [← hf]
  clear hf hg
  obtain ⟨n, hN⟩ : ∃ n, n = xs.length := ⟨_, rfl⟩
  rw [← hN] at hn hs ⊢
  have HN : Hid (n = xs.length) := hN
  clear hN
  go_enter Tryz.func173, Tryz.ntmps173
  go_wp2
  go_loopw [8] (fun v wr => ∃ j : Nat, j ≤ n ∧ v = .int .i64 j ∧ Below w.heap.size w wr ∧ ∀ i, i < j → f i = false) (fun v _ => n - (intOf v).toNat)
  case atStart => exact ⟨0, Nat.zero_le _, rfl, Below.refl _ _, fun i h => absurd h (by omega)⟩
  case round =>
    obtain ⟨j, hj, rfl, hbl, hall⟩ := hrel
    by_cases hlt : j < n
    · rcases hs with hs | ⟨b, off, rfl, hb, h1⟩
      · omega
      · obtain ⟨c0, c1, c2, c3, c4⟩ := (h1.below hbl hb) j _ (atNo_of (by rw [← HN.out]; exact hlt))
        have KA : Hid ((∀ i, i < j → f i = false) ∧ Below w.heap.size w wr) := ⟨hall, hbl⟩
        have hw := HF.out wr j hbl
        clear h1 hall hbl
        cases hp : f j with
        | true =>
          rw [hp] at hw
          go_wp2_with fail
          refine hw.mono ?_
          clear hw
          rintro e w1 ⟨rfl, b1⟩
          go_wp2
          go_ret
          exact ⟨⟨_, rfl, .inr ⟨j, rfl, hlt, hp, KA.out.1⟩⟩, KA.out.2.trans (b1.mono KA.out.2.size)⟩
        | false =>
          rw [hp] at hw
          go_wp2_with fail
          refine hw.mono ?_
          clear hw
          rintro e w1 ⟨rfl, b1⟩
          go_wp2
          exact ⟨⟨j + 1, by omega, by simp, KA.out.2.trans (b1.mono KA.out.2.size), fun i hi => by
            by_cases e : i = j
            · rw [e]; exact hp
            · exact KA.out.1 i (by omega)⟩, by simp [intOf]; omega⟩
    · have : j = n := by omega
      subst this
      have hd : decide ((j : Int) < (j : Int)) = false := by simp
      have KA : Hid (∀ i, i < j → f i = false) := hall
      clear hs hall
      go_wp2
      go_ret
      exact ⟨⟨_, rfl, .inl ⟨rfl, KA.out⟩⟩, hbl⟩
set_option maxHeartbeats 1000000 in
theorem noHas (w : World) (a : Option Addr) (cap : Nat) (xs : List N5) (g : Nat) (hn : xs.length ≤ maxLen) (hs : SlNo w w.heap.size a xs.length xs) (hg : w.cell? ⟨g, 0, none⟩ = some (.func (.func 198) #[] #[])) (hgl : g < w.heap.size) :
    Calls Tryz.prog 138 #[.slice a xs.length cap, .func (.func 216) #[] #[.pointer (some ⟨g, 0, none⟩)]] w fun e w' => e = .returned (.bool (!((List.range xs.length).all fun i => noteOkB (atNo xs i)))) ∧ Below w.heap.size w w' := by
  have c1 := noIdx w a cap xs g hn hs hg hgl
  have HE : Hid (∀ i : Int, FirstAt (fun i => !noteOkB (atNo xs i)) xs.length i → decide (0 ≤ i) = !((List.range xs.length).all fun i => noteOkB (atNo xs i))) := fun i h => by
    rw [first_has h]; simp
  clear hn hs hg hgl
  go_enter Tryz.func138, Tryz.ntmps138
  go_wp2_with fail
  refine c1.mono ?_
  clear c1
  rintro e w1 ⟨⟨i, rfl, hi⟩, b1⟩
  have KE : Hid (decide (0 ≤ i) = !((List.range xs.length).all fun i => noteOkB (atNo xs i))) := HE.out i hi
  clear hi HE
  go_wp2
  go_ret
  exact ⟨by rw [← KE.out]; rfl, b1⟩
def noUp (xs : List N5) (i : Nat) : Bool := decide (i = 0) || decide (rk (atNo xs (i - 1)).region (atNo xs (i - 1)).slot < rk (atNo xs i).region (atNo xs i).slot)
set_option maxHeartbeats 4000000 in
theorem noRises_any (w : World) (a : Option Addr) (cap : Nat) (xs : List N5) (hn : xs.length ≤ maxLen) (hs : SlNo w w.heap.size a xs.length xs) (hok : ∀ i, i < xs.length → noteOkB (atNo xs i) = true) :
    Calls Tryz.prog 217 #[.slice a xs.length cap, .func (.func 218) #[] #[]] w fun e w' => e = .returned (.bool ((List.range xs.length).all (noUp xs))) ∧ Below w.heap.size w w' := by
  unfold maxLen at hn
  obtain ⟨_, hs⟩ := hs
  have HO := hidOf hok
  clear hok
  obtain ⟨n, hN⟩ : ∃ n, n = xs.length := ⟨_, rfl⟩
  have HN : Hid (n = xs.length) := hN
  rw [← hN] at hn hs ⊢
  clear hN
  go_enter Tryz.func217, Tryz.ntmps217
  go_wp2
  go_loopw [5] (fun v wr => ∃ j : Nat, (j ≤ n ∨ n = 0 ∧ j = 1) ∧ 0 < j ∧ v = .int .i64 j ∧ Below w.heap.size w wr ∧ (List.range j).all (noUp xs) = true) (fun v _ => n - (intOf v).toNat)
  case atStart => exact ⟨1, by omega, by omega, rfl, Below.refl _ _, by simp [noUp]⟩
  case round =>
    obtain ⟨j, hj, hj0, rfl, hbl, hall⟩ := hrel
    by_cases hlt : j < n
    · rcases hs with hs | ⟨b, off, rfl, hb, h1⟩
      · omega
      obtain ⟨i, rfl⟩ : ∃ i, j = i + 1 := ⟨j - 1, by omega⟩
      obtain ⟨t0, t1, t2, t3, t4⟩ := (h1.below hbl hb) (i + 1) _ (atNo_of (by rw [← HN.out]; exact hlt))
      obtain ⟨u0, u1, u2, u3, u4⟩ := (h1.below hbl hb) i _ (atNo_of (by rw [← HN.out]; omega))
      have hbW : b < wr.heap.size := Nat.lt_of_lt_of_le hb hbl.size
      have lift : ∀ {o : Nat} {u : Value}, wr.cell? ⟨b, o, none⟩ = some u → ∀ d os, (grow (redrawn wr d) os).cell? ⟨b, o, none⟩ = some u := fun {o u} h d os => ((below_regrown wr d os).cell (p := ⟨b, o, none⟩) hbW).trans h
      have x0 := lift t0
      have x1 := lift t1
      have x2 := lift t2
      have x3 := lift t3
      have x4 := lift t4
      have y0 := lift u0
      have y1 := lift u1
      have y2 := lift u2
      have y3 := lift u3
      have y4 := lift u4
      have k1 := noOk_in (HO.out (i + 1) (by rw [← HN.out]; exact hlt))
      have k2 := noOk_in (HO.out i (by rw [← HN.out]; omega))
      have cA : ∀ d os, Calls Tryz.prog 218 #[.agg #[.int .i64 (atNo xs (i + 1)).region, .int .i64 (atNo xs (i + 1)).slot, .int .i64 (atNo xs (i + 1)).version, .int .i64 (atNo xs (i + 1)).value, .bool (atNo xs (i + 1)).used]] (grow (redrawn wr d) os) fun e w'' => e = .returned (.int .i64 (rk (atNo xs (i + 1)).region (atNo xs (i + 1)).slot)) ∧ ∃ p : Regrown, w'' = grow (redrawn wr p.d) p.os := fun d os => Calls.regrown_of (noRank_any _ _ k1.1 k1.2)
      have cB : ∀ d os, Calls Tryz.prog 218 #[.agg #[.int .i64 (atNo xs i).region, .int .i64 (atNo xs i).slot, .int .i64 (atNo xs i).version, .int .i64 (atNo xs i).value, .bool (atNo xs i).used]] (grow (redrawn wr d) os) fun e w'' => e = .returned (.int .i64 (rk (atNo xs i).region (atNo xs i).slot)) ∧ ∃ p : Regrown, w'' = grow (redrawn wr p.d) p.os := fun d os => Calls.regrown_of (noRank_any _ _ k2.1 k2.2)
      have K : Hid (Below w.heap.size w wr ∧ (List.range (i + 1)).all (noUp xs) = true) := ⟨hbl, hall⟩
      have hi : (i : Int) < (n : Int) := by omega
      clear lift t0 t1 t2 t3 t4 u0 u1 u2 u3 u4 k1 k2 h1 hbl hall
      have U : Hid (noUp xs (i + 1) = decide (rk (atNo xs i).region (atNo xs i).slot < rk (atNo xs (i + 1)).region (atNo xs (i + 1)).slot)) := by unfold Hid; simp [noUp]
      have HL : Hid (i + 1 < n) := hlt
      have hi1 : ((i + 1 : Nat) : Int) < (n : Int) := by omega
      clear hlt
      generalize rk (atNo xs (i + 1)).region (atNo xs (i + 1)).slot = x at *
      generalize rk (atNo xs i).region (atNo xs i).slot = y at *
      generalize (atNo xs (i + 1)).region = a0 at *
      generalize (atNo xs (i + 1)).slot = a1 at *
      generalize (atNo xs (i + 1)).value = a2 at *
      generalize (atNo xs (i + 1)).used = a3 at *
      generalize (atNo xs (i + 1)).version = a4 at *
      generalize (atNo xs i).region = e0 at *
      generalize (atNo xs i).slot = e1 at *
      generalize (atNo xs i).value = e2 at *
      generalize (atNo xs i).used = e3 at *
      generalize (atNo xs i).version = e4 at *
      by_cases hq : x ≤ y
      · have KU : Hid (noUp xs (i + 1) = false) := by unfold Hid; rw [U.out]; simp; omega
        have dq : decide (x ≤ y) = true := by simpa using hq
        clear hq U
        go_wp2_with fail
        refine wp_region_quiet_below (by kernel_rfl) (by kernel_rfl) ?_
        repeat (go_big_quiet_step (first | (go_at_call_of 218 (Value.agg #[.int .i64 a0, .int .i64 a1, .int .i64 a4, .int .i64 a2, .bool a3]); exact cA _ _) | (go_at_call_of 218 (Value.agg #[.int .i64 e0, .int .i64 e1, .int .i64 e4, .int .i64 e2, .bool e3]); exact cB _ _)))
        refine wpQuiet_nil ?_
        intro _ hw'
        obtain ⟨⟨dq', osq⟩, hw''⟩ := hw'
        subst hw''
        have bq := below_regrown wr dq' osq
        go_wp2
        go_ret
        exact ⟨by rw [alls_fail HL.out KU.out]; rfl, K.out.1.trans (bq.mono K.out.1.size)⟩
      · have KU : Hid (noUp xs (i + 1) = true) := by unfold Hid; rw [U.out]; simp; omega
        have dq : decide (x ≤ y) = false := by simpa using hq
        clear hq U
        go_wp2_with fail
        refine wp_region_quiet_below (by kernel_rfl) (by kernel_rfl) ?_
        repeat (go_big_quiet_step (first | (go_at_call_of 218 (Value.agg #[.int .i64 a0, .int .i64 a1, .int .i64 a4, .int .i64 a2, .bool a3]); exact cA _ _) | (go_at_call_of 218 (Value.agg #[.int .i64 e0, .int .i64 e1, .int .i64 e4, .int .i64 e2, .bool e3]); exact cB _ _)))
        refine wpQuiet_nil ?_
        intro _ hw'
        obtain ⟨⟨dq', osq⟩, hw''⟩ := hw'
        subst hw''
        have bq := below_regrown wr dq' osq
        go_wp2
        exact ⟨⟨i + 1 + 1, .inl HL.out, by omega, by simp, K.out.1.trans (bq.mono K.out.1.size), alls_step K.out.2 KU.out⟩, by have := HL.out; simp [intOf]; omega⟩
    · have hd : decide ((j : Int) < (n : Int)) = false := by simp; omega
      have KA : Hid ((List.range n).all (noUp xs) = true) := by
        unfold Hid
        rw [List.all_eq_true] at hall ⊢
        exact fun x hx => hall x (List.mem_range.2 (by have := List.mem_range.1 hx; omega))
      clear hs hall
      go_wp2
      go_ret
      exact ⟨by rw [KA.out]; rfl, hbl⟩
theorem noAt_all {xs : List N5} : (List.range xs.length).all (noAt xs) = ((List.range xs.length).all (fun i => noteOkB (atNo xs i)) && (List.range xs.length).all (noUp xs)) := by
  rw [Bool.eq_iff_iff, Bool.and_eq_true, List.all_eq_true, List.all_eq_true, List.all_eq_true]
  constructor
  · intro h
    have h1 : ∀ i, i < xs.length → noteOkB (atNo xs i) = true := fun i hi => by
      have := h i (List.mem_range.2 hi)
      simp only [noAt, Bool.and_eq_true] at this
      exact this.1
    refine ⟨fun i hi => h1 i (List.mem_range.1 hi), fun i hi => ?_⟩
    have hi' := List.mem_range.1 hi
    have := h i hi
    simp only [noAt, Bool.and_eq_true, Bool.or_eq_true, decide_eq_true_eq] at this
    simp only [noUp, Bool.or_eq_true, decide_eq_true_eq]
    by_cases e : i = 0
    · exact .inl e
    · rcases this.2 with e' | e'
      · exact .inl e'
      · rw [less_rk (noOk_in (h1 (i - 1) (by omega))).2 (noOk_in (h1 i hi')).2] at e'
        exact .inr (by simpa using e')
  · rintro ⟨h1, h2⟩ i hi
    have hi' := List.mem_range.1 hi
    have g1 := h1 i hi
    have g2 := h2 i hi
    simp only [noUp, Bool.or_eq_true, decide_eq_true_eq] at g2
    simp only [noAt, Bool.and_eq_true, Bool.or_eq_true, decide_eq_true_eq]
    refine ⟨g1, ?_⟩
    by_cases e : i = 0
    · exact .inl e
    · rcases g2 with e' | e'
      · exact .inl e'
      · refine .inr ?_
        rw [less_rk (noOk_in (h1 (i - 1) (List.mem_range.2 (by omega)))).2 (noOk_in g1).2]
        simpa using e'
set_option maxHeartbeats 2000000 in
theorem noEach_any (w : World) (a : Option Addr) (cap : Nat) (xs : List N5) (hn : xs.length ≤ maxLen) (hs : SlNo w w.heap.size a xs.length xs) :
    Calls Tryz.prog 197 #[.slice a xs.length cap, .func (.func 198) #[] #[]] w fun e w' => e = .returned (.bool (decide (xs.length ≤ 12) && (List.range xs.length).all (noAt xs))) ∧ Below w.heap.size w w' := by
  obtain ⟨W, hW⟩ : ∃ W, W = w.alloc (.cells #[.func (.func 198) #[] #[]] 144) := ⟨_, rfl⟩
  have b0 : Below w.heap.size w W := by rw [hW]; exact (Below.refl _ _).alloc (Nat.le_refl _) _
  have g0 : W.cell? ⟨w.heap.size, 0, none⟩ = some (.func (.func 198) #[] #[]) := by rw [hW]; go_simp
  have s0 : w.heap.size < W.heap.size := by rw [hW]; simp
  have c1 := noHas W a cap xs w.heap.size hn (hs.later b0) g0 s0
  have H : Hid (SlNo w w.heap.size a xs.length xs ∧ xs.length ≤ maxLen ∧ Below w.heap.size w W) := ⟨hs, hn, b0⟩
  have HA := hidOf (@noAt_all xs)
  clear hs b0 g0 s0
  unfold maxLen at hn
  by_cases h12 : xs.length ≤ 12
  case neg =>
    have d12 : decide ((xs.length : Int) ≤ 12) = false := by simp; omega
    have KN : Hid (decide (xs.length ≤ 12) = false) := by unfold Hid; simp; omega
    rw [hW] at H
    clear c1 hW h12
    go_enter Tryz.func197, Tryz.ntmps197
    go_wp2
    go_ret
    exact ⟨by rw [KN.out]; rfl, H.out.2.2⟩
  have d12 : decide ((xs.length : Int) ≤ 12) = true := by simp; omega
  have KN : Hid (decide (xs.length ≤ 12) = true) := by unfold Hid; simp; omega
  cases hal : (List.range xs.length).all (fun i => noteOkB (atNo xs i)) with
  | false =>
    rw [hal] at c1
    clear h12
    go_enter Tryz.func197, Tryz.ntmps197
    go_wp2_with fail
    rw [← hW]
    clear hW
    refine c1.mono ?_
    clear c1
    rintro e w1 ⟨rfl, b1⟩
    go_wp2
    go_ret
    exact ⟨by rw [KN.out, HA.out, hal]; rfl, H.out.2.2.trans (b1.mono H.out.2.2.size)⟩
  | true =>
    rw [hal] at c1
    have HO : Hid (∀ i, i < xs.length → noteOkB (atNo xs i) = true) := fun i hi => List.all_eq_true.1 hal i (List.mem_range.2 hi)
    clear h12
    go_enter Tryz.func197, Tryz.ntmps197
    go_wp2_with fail
    rw [← hW]
    clear hW
    refine c1.mono ?_
    clear c1
    rintro e w1 ⟨rfl, b1⟩
    have bw : Below w.heap.size w w1 := H.out.2.2.trans (b1.mono H.out.2.2.size)
    have c2 := noRises_any w1 a cap xs H.out.2.1 (H.out.1.later bw) HO.out
    have KB : Hid (Below w.heap.size w w1) := bw
    clear b1 bw
    go_wp2_with fail
    refine c2.mono ?_
    clear c2
    rintro e w2 ⟨rfl, b2⟩
    go_wp2
    go_ret
    exact ⟨by rw [KN.out, HA.out, hal]; rfl, KB.out.trans (b2.mono KB.out.size)⟩
theorem seOk_in {s : S5} (h : setOkB s = true) : inB 0 5 s.region = true ∧ inB 0 5 s.slot = true := by simp only [setOkB, Bool.and_eq_true] at h; exact ⟨h.1.1.1, h.1.1.2⟩
set_option maxHeartbeats 1000000 in
theorem seWrong_any (w : World) (s : S5) (g : Nat) (hg : w.cell? ⟨g, 0, none⟩ = some (.func (.func 200) #[] #[])) (hl : g < w.heap.size) : Calls Tryz.prog 222 #[.agg #[.int .i64 s.region, .int .i64 s.slot, .int .i64 s.value, .bool s.used, .int .i64 s.version], .pointer (some ⟨g, 0, none⟩)] w fun e w' => e = .returned (.bool (!setOkB s)) ∧ Below w.heap.size w w' := by
  obtain ⟨W, hW⟩ : ∃ W, W = w.alloc (.cells #[.int .i64 s.region, .int .i64 s.slot, .int .i64 s.value, .bool s.used, .int .i64 s.version] 106) := ⟨_, rfl⟩
  have b0 : Below w.heap.size w W := by rw [hW]; exact (Below.refl _ _).alloc (Nat.le_refl _) _
  have d := (b0.cell (p := ⟨g, 0, none⟩) hl).trans hg
  have c1 := implSetOk W s
  have KB : Hid (Below w.heap.size w W) := b0
  clear hg hl b0
  rw [hW] at d
  go_enter Tryz.func222, Tryz.ntmps222
  go_wp2_with fail
  rw [← hW]
  refine c1.mono ?_
  clear c1 hW d
  rintro e w1 ⟨rfl, b1⟩
  go_wp2
  go_ret
  exact ⟨rfl, KB.out.trans (b1.mono KB.out.size)⟩
set_option maxHeartbeats 2000000 in
theorem seIdx (w : World) (a : Option Addr) (cap : Nat) (xs : List S5) (g : Nat) (hn : xs.length ≤ maxLen) (hs : Sl w w.heap.size a xs.length xs) (hg : w.cell? ⟨g, 0, none⟩ = some (.func (.func 200) #[] #[])) (hgl : g < w.heap.size) :
    Calls Tryz.prog 174 #[.slice a xs.length cap, .func (.func 222) #[] #[.pointer (some ⟨g, 0, none⟩)]] w fun e w' => (∃ i : Int, e = .returned (.int .i64 i) ∧ FirstAt (fun i => !setOkB (atSe xs i)) xs.length i) ∧ Below w.heap.size w w' := by
  unfold maxLen at hn
  obtain ⟨hx, hs⟩ := hs
  clear hx
  obtain ⟨f, hf⟩ : ∃ f : Nat → Bool, f = fun i => !setOkB (atSe xs i) := ⟨_, rfl⟩
  have HF : Hid (∀ (X : World) (i : Nat), Below w.heap.size w X → Calls Tryz.prog 222 #[.agg #[.int .i64 (atSe xs i).region, .int .i64 (atSe xs i).slot, .int .i64 (atSe xs i).value, .bool (atSe xs i).used, .int .i64 (atSe xs i).version], .pointer (some ⟨g, 0, none⟩)] X fun e w' => e = .returned (.bool (f i)) ∧ Below X.heap.size X w') := fun X i hX => by
    rw [hf]; exact seWrong_any X (atSe xs i) g ((hX.cell (p := ⟨g, 0, none⟩) hgl).trans hg) (Nat.lt_of_lt_of_le hgl hX.size)
  rw [← hf]
  clear hf hg
  obtain ⟨n, hN⟩ : ∃ n, n = xs.length := ⟨_, rfl⟩
  rw [← hN] at hn hs ⊢
  have HN : Hid (n = xs.length) := hN
  clear hN
  go_enter Tryz.func174, Tryz.ntmps174
  go_wp2
  go_loopw [8] (fun v wr => ∃ j : Nat, j ≤ n ∧ v = .int .i64 j ∧ Below w.heap.size w wr ∧ ∀ i, i < j → f i = false) (fun v _ => n - (intOf v).toNat)
  case atStart => exact ⟨0, Nat.zero_le _, rfl, Below.refl _ _, fun i h => absurd h (by omega)⟩
  case round =>
    obtain ⟨j, hj, rfl, hbl, hall⟩ := hrel
    by_cases hlt : j < n
    · rcases hs with hs | ⟨b, off, rfl, hb, h1⟩
      · omega
      · obtain ⟨c0, c1, c2, c3, c4⟩ := (h1.below hbl hb) j _ (atSe_of (by rw [← HN.out]; exact hlt))
        have KA : Hid ((∀ i, i < j → f i = false) ∧ Below w.heap.size w wr) := ⟨hall, hbl⟩
        have hw := HF.out wr j hbl
        clear h1 hall hbl
        cases hp : f j with
        | true =>
          rw [hp] at hw
          go_wp2_with fail
          refine hw.mono ?_
          clear hw
          rintro e w1 ⟨rfl, b1⟩
          go_wp2
          go_ret
          exact ⟨⟨_, rfl, .inr ⟨j, rfl, hlt, hp, KA.out.1⟩⟩, KA.out.2.trans (b1.mono KA.out.2.size)⟩
        | false =>
          rw [hp] at hw
          go_wp2_with fail
          refine hw.mono ?_
          clear hw
          rintro e w1 ⟨rfl, b1⟩
          go_wp2
          exact ⟨⟨j + 1, by omega, by simp, KA.out.2.trans (b1.mono KA.out.2.size), fun i hi => by
            by_cases e : i = j
            · rw [e]; exact hp
            · exact KA.out.1 i (by omega)⟩, by simp [intOf]; omega⟩
    · have : j = n := by omega
      subst this
      have hd : decide ((j : Int) < (j : Int)) = false := by simp
      have KA : Hid (∀ i, i < j → f i = false) := hall
      clear hs hall
      go_wp2
      go_ret
      exact ⟨⟨_, rfl, .inl ⟨rfl, KA.out⟩⟩, hbl⟩
set_option maxHeartbeats 1000000 in
theorem seHas (w : World) (a : Option Addr) (cap : Nat) (xs : List S5) (g : Nat) (hn : xs.length ≤ maxLen) (hs : Sl w w.heap.size a xs.length xs) (hg : w.cell? ⟨g, 0, none⟩ = some (.func (.func 200) #[] #[])) (hgl : g < w.heap.size) :
    Calls Tryz.prog 139 #[.slice a xs.length cap, .func (.func 222) #[] #[.pointer (some ⟨g, 0, none⟩)]] w fun e w' => e = .returned (.bool (!((List.range xs.length).all fun i => setOkB (atSe xs i)))) ∧ Below w.heap.size w w' := by
  have c1 := seIdx w a cap xs g hn hs hg hgl
  have HE : Hid (∀ i : Int, FirstAt (fun i => !setOkB (atSe xs i)) xs.length i → decide (0 ≤ i) = !((List.range xs.length).all fun i => setOkB (atSe xs i))) := fun i h => by
    rw [first_has h]; simp
  clear hn hs hg hgl
  go_enter Tryz.func139, Tryz.ntmps139
  go_wp2_with fail
  refine c1.mono ?_
  clear c1
  rintro e w1 ⟨⟨i, rfl, hi⟩, b1⟩
  have KE : Hid (decide (0 ≤ i) = !((List.range xs.length).all fun i => setOkB (atSe xs i))) := HE.out i hi
  clear hi HE
  go_wp2
  go_ret
  exact ⟨by rw [← KE.out]; rfl, b1⟩
def seUp (xs : List S5) (i : Nat) : Bool := decide (i = 0) || decide (rk (atSe xs (i - 1)).region (atSe xs (i - 1)).slot < rk (atSe xs i).region (atSe xs i).slot)
set_option maxHeartbeats 4000000 in
theorem seRises_any (w : World) (a : Option Addr) (cap : Nat) (xs : List S5) (hn : xs.length ≤ maxLen) (hs : Sl w w.heap.size a xs.length xs) (hok : ∀ i, i < xs.length → setOkB (atSe xs i) = true) :
    Calls Tryz.prog 223 #[.slice a xs.length cap, .func (.func 224) #[] #[]] w fun e w' => e = .returned (.bool ((List.range xs.length).all (seUp xs))) ∧ Below w.heap.size w w' := by
  unfold maxLen at hn
  obtain ⟨_, hs⟩ := hs
  have HO := hidOf hok
  clear hok
  obtain ⟨n, hN⟩ : ∃ n, n = xs.length := ⟨_, rfl⟩
  have HN : Hid (n = xs.length) := hN
  rw [← hN] at hn hs ⊢
  clear hN
  go_enter Tryz.func223, Tryz.ntmps223
  go_wp2
  go_loopw [5] (fun v wr => ∃ j : Nat, (j ≤ n ∨ n = 0 ∧ j = 1) ∧ 0 < j ∧ v = .int .i64 j ∧ Below w.heap.size w wr ∧ (List.range j).all (seUp xs) = true) (fun v _ => n - (intOf v).toNat)
  case atStart => exact ⟨1, by omega, by omega, rfl, Below.refl _ _, by simp [seUp]⟩
  case round =>
    obtain ⟨j, hj, hj0, rfl, hbl, hall⟩ := hrel
    by_cases hlt : j < n
    · rcases hs with hs | ⟨b, off, rfl, hb, h1⟩
      · omega
      obtain ⟨i, rfl⟩ : ∃ i, j = i + 1 := ⟨j - 1, by omega⟩
      obtain ⟨t0, t1, t2, t3, t4⟩ := (h1.below hbl hb) (i + 1) _ (atSe_of (by rw [← HN.out]; exact hlt))
      obtain ⟨u0, u1, u2, u3, u4⟩ := (h1.below hbl hb) i _ (atSe_of (by rw [← HN.out]; omega))
      have hbW : b < wr.heap.size := Nat.lt_of_lt_of_le hb hbl.size
      have lift : ∀ {o : Nat} {u : Value}, wr.cell? ⟨b, o, none⟩ = some u → ∀ d os, (grow (redrawn wr d) os).cell? ⟨b, o, none⟩ = some u := fun {o u} h d os => ((below_regrown wr d os).cell (p := ⟨b, o, none⟩) hbW).trans h
      have x0 := lift t0
      have x1 := lift t1
      have x2 := lift t2
      have x3 := lift t3
      have x4 := lift t4
      have y0 := lift u0
      have y1 := lift u1
      have y2 := lift u2
      have y3 := lift u3
      have y4 := lift u4
      have k1 := seOk_in (HO.out (i + 1) (by rw [← HN.out]; exact hlt))
      have k2 := seOk_in (HO.out i (by rw [← HN.out]; omega))
      have cA : ∀ d os, Calls Tryz.prog 224 #[.agg #[.int .i64 (atSe xs (i + 1)).region, .int .i64 (atSe xs (i + 1)).slot, .int .i64 (atSe xs (i + 1)).value, .bool (atSe xs (i + 1)).used, .int .i64 (atSe xs (i + 1)).version]] (grow (redrawn wr d) os) fun e w'' => e = .returned (.int .i64 (rk (atSe xs (i + 1)).region (atSe xs (i + 1)).slot)) ∧ ∃ p : Regrown, w'' = grow (redrawn wr p.d) p.os := fun d os => Calls.regrown_of (seRank_any _ _ k1.1 k1.2)
      have cB : ∀ d os, Calls Tryz.prog 224 #[.agg #[.int .i64 (atSe xs i).region, .int .i64 (atSe xs i).slot, .int .i64 (atSe xs i).value, .bool (atSe xs i).used, .int .i64 (atSe xs i).version]] (grow (redrawn wr d) os) fun e w'' => e = .returned (.int .i64 (rk (atSe xs i).region (atSe xs i).slot)) ∧ ∃ p : Regrown, w'' = grow (redrawn wr p.d) p.os := fun d os => Calls.regrown_of (seRank_any _ _ k2.1 k2.2)
      have K : Hid (Below w.heap.size w wr ∧ (List.range (i + 1)).all (seUp xs) = true) := ⟨hbl, hall⟩
      have hi : (i : Int) < (n : Int) := by omega
      clear lift t0 t1 t2 t3 t4 u0 u1 u2 u3 u4 k1 k2 h1 hbl hall
      have U : Hid (seUp xs (i + 1) = decide (rk (atSe xs i).region (atSe xs i).slot < rk (atSe xs (i + 1)).region (atSe xs (i + 1)).slot)) := by unfold Hid; simp [seUp]
      have HL : Hid (i + 1 < n) := hlt
      have hi1 : ((i + 1 : Nat) : Int) < (n : Int) := by omega
      clear hlt
      generalize rk (atSe xs (i + 1)).region (atSe xs (i + 1)).slot = x at *
      generalize rk (atSe xs i).region (atSe xs i).slot = y at *
      generalize (atSe xs (i + 1)).region = a0 at *
      generalize (atSe xs (i + 1)).slot = a1 at *
      generalize (atSe xs (i + 1)).value = a2 at *
      generalize (atSe xs (i + 1)).used = a3 at *
      generalize (atSe xs (i + 1)).version = a4 at *
      generalize (atSe xs i).region = e0 at *
      generalize (atSe xs i).slot = e1 at *
      generalize (atSe xs i).value = e2 at *
      generalize (atSe xs i).used = e3 at *
      generalize (atSe xs i).version = e4 at *
      by_cases hq : x ≤ y
      · have KU : Hid (seUp xs (i + 1) = false) := by unfold Hid; rw [U.out]; simp; omega
        have dq : decide (x ≤ y) = true := by simpa using hq
        clear hq U
        go_wp2_with fail
        refine wp_region_quiet_below (by kernel_rfl) (by kernel_rfl) ?_
        repeat (go_big_quiet_step (first | (go_at_call_of 224 (Value.agg #[.int .i64 a0, .int .i64 a1, .int .i64 a2, .bool a3, .int .i64 a4]); exact cA _ _) | (go_at_call_of 224 (Value.agg #[.int .i64 e0, .int .i64 e1, .int .i64 e2, .bool e3, .int .i64 e4]); exact cB _ _)))
        refine wpQuiet_nil ?_
        intro _ hw'
        obtain ⟨⟨dq', osq⟩, hw''⟩ := hw'
        subst hw''
        have bq := below_regrown wr dq' osq
        go_wp2
        go_ret
        exact ⟨by rw [alls_fail HL.out KU.out]; rfl, K.out.1.trans (bq.mono K.out.1.size)⟩
      · have KU : Hid (seUp xs (i + 1) = true) := by unfold Hid; rw [U.out]; simp; omega
        have dq : decide (x ≤ y) = false := by simpa using hq
        clear hq U
        go_wp2_with fail
        refine wp_region_quiet_below (by kernel_rfl) (by kernel_rfl) ?_
        repeat (go_big_quiet_step (first | (go_at_call_of 224 (Value.agg #[.int .i64 a0, .int .i64 a1, .int .i64 a2, .bool a3, .int .i64 a4]); exact cA _ _) | (go_at_call_of 224 (Value.agg #[.int .i64 e0, .int .i64 e1, .int .i64 e2, .bool e3, .int .i64 e4]); exact cB _ _)))
        refine wpQuiet_nil ?_
        intro _ hw'
        obtain ⟨⟨dq', osq⟩, hw''⟩ := hw'
        subst hw''
        have bq := below_regrown wr dq' osq
        go_wp2
        exact ⟨⟨i + 1 + 1, .inl HL.out, by omega, by simp, K.out.1.trans (bq.mono K.out.1.size), alls_step K.out.2 KU.out⟩, by have := HL.out; simp [intOf]; omega⟩
    · have hd : decide ((j : Int) < (n : Int)) = false := by simp; omega
      have KA : Hid ((List.range n).all (seUp xs) = true) := by
        unfold Hid
        rw [List.all_eq_true] at hall ⊢
        exact fun x hx => hall x (List.mem_range.2 (by have := List.mem_range.1 hx; omega))
      clear hs hall
      go_wp2
      go_ret
      exact ⟨by rw [KA.out]; rfl, hbl⟩
theorem seAt_all {xs : List S5} : (List.range xs.length).all (seAt xs) = ((List.range xs.length).all (fun i => setOkB (atSe xs i)) && (List.range xs.length).all (seUp xs)) := by
  rw [Bool.eq_iff_iff, Bool.and_eq_true, List.all_eq_true, List.all_eq_true, List.all_eq_true]
  constructor
  · intro h
    have h1 : ∀ i, i < xs.length → setOkB (atSe xs i) = true := fun i hi => by
      have := h i (List.mem_range.2 hi)
      simp only [seAt, Bool.and_eq_true] at this
      exact this.1
    refine ⟨fun i hi => h1 i (List.mem_range.1 hi), fun i hi => ?_⟩
    have hi' := List.mem_range.1 hi
    have := h i hi
    simp only [seAt, Bool.and_eq_true, Bool.or_eq_true, decide_eq_true_eq] at this
    simp only [seUp, Bool.or_eq_true, decide_eq_true_eq]
    by_cases e : i = 0
    · exact .inl e
    · rcases this.2 with e' | e'
      · exact .inl e'
      · rw [less_rk (seOk_in (h1 (i - 1) (by omega))).2 (seOk_in (h1 i hi')).2] at e'
        exact .inr (by simpa using e')
  · rintro ⟨h1, h2⟩ i hi
    have hi' := List.mem_range.1 hi
    have g1 := h1 i hi
    have g2 := h2 i hi
    simp only [seUp, Bool.or_eq_true, decide_eq_true_eq] at g2
    simp only [seAt, Bool.and_eq_true, Bool.or_eq_true, decide_eq_true_eq]
    refine ⟨g1, ?_⟩
    by_cases e : i = 0
    · exact .inl e
    · rcases g2 with e' | e'
      · exact .inl e'
      · refine .inr ?_
        rw [less_rk (seOk_in (h1 (i - 1) (List.mem_range.2 (by omega)))).2 (seOk_in g1).2]
        simpa using e'
set_option maxHeartbeats 2000000 in
theorem seEach_any (w : World) (a : Option Addr) (cap : Nat) (xs : List S5) (hn : xs.length ≤ maxLen) (hs : Sl w w.heap.size a xs.length xs) :
    Calls Tryz.prog 199 #[.slice a xs.length cap, .func (.func 200) #[] #[]] w fun e w' => e = .returned (.bool (decide (xs.length ≤ 12) && (List.range xs.length).all (seAt xs))) ∧ Below w.heap.size w w' := by
  obtain ⟨W, hW⟩ : ∃ W, W = w.alloc (.cells #[.func (.func 200) #[] #[]] 146) := ⟨_, rfl⟩
  have b0 : Below w.heap.size w W := by rw [hW]; exact (Below.refl _ _).alloc (Nat.le_refl _) _
  have g0 : W.cell? ⟨w.heap.size, 0, none⟩ = some (.func (.func 200) #[] #[]) := by rw [hW]; go_simp
  have s0 : w.heap.size < W.heap.size := by rw [hW]; simp
  have c1 := seHas W a cap xs w.heap.size hn (hs.later b0) g0 s0
  have H : Hid (Sl w w.heap.size a xs.length xs ∧ xs.length ≤ maxLen ∧ Below w.heap.size w W) := ⟨hs, hn, b0⟩
  have HA := hidOf (@seAt_all xs)
  clear hs b0 g0 s0
  unfold maxLen at hn
  by_cases h12 : xs.length ≤ 12
  case neg =>
    have d12 : decide ((xs.length : Int) ≤ 12) = false := by simp; omega
    have KN : Hid (decide (xs.length ≤ 12) = false) := by unfold Hid; simp; omega
    rw [hW] at H
    clear c1 hW h12
    go_enter Tryz.func199, Tryz.ntmps199
    go_wp2
    go_ret
    exact ⟨by rw [KN.out]; rfl, H.out.2.2⟩
  have d12 : decide ((xs.length : Int) ≤ 12) = true := by simp; omega
  have KN : Hid (decide (xs.length ≤ 12) = true) := by unfold Hid; simp; omega
  cases hal : (List.range xs.length).all (fun i => setOkB (atSe xs i)) with
  | false =>
    rw [hal] at c1
    clear h12
    go_enter Tryz.func199, Tryz.ntmps199
    go_wp2_with fail
    rw [← hW]
    clear hW
    refine c1.mono ?_
    clear c1
    rintro e w1 ⟨rfl, b1⟩
    go_wp2
    go_ret
    exact ⟨by rw [KN.out, HA.out, hal]; rfl, H.out.2.2.trans (b1.mono H.out.2.2.size)⟩
  | true =>
    rw [hal] at c1
    have HO : Hid (∀ i, i < xs.length → setOkB (atSe xs i) = true) := fun i hi => List.all_eq_true.1 hal i (List.mem_range.2 hi)
    clear h12
    go_enter Tryz.func199, Tryz.ntmps199
    go_wp2_with fail
    rw [← hW]
    clear hW
    refine c1.mono ?_
    clear c1
    rintro e w1 ⟨rfl, b1⟩
    have bw : Below w.heap.size w w1 := H.out.2.2.trans (b1.mono H.out.2.2.size)
    have c2 := seRises_any w1 a cap xs H.out.2.1 (H.out.1.later bw) HO.out
    have KB : Hid (Below w.heap.size w w1) := bw
    clear b1 bw
    go_wp2_with fail
    refine c2.mono ?_
    clear c2
    rintro e w2 ⟨rfl, b2⟩
    go_wp2
    go_ret
    exact ⟨by rw [KN.out, HA.out, hal]; rfl, KB.out.trans (b2.mono KB.out.size)⟩
end Go.Proofs.YtdmpobegobfpjaaGreat.tx
namespace Go.Proofs.YtdmpobegobfpjaaGreat.tx
open Go.RowKit
set_option maxHeartbeats 4000000 in
theorem implTxOk_any (w : World) (v : TV) (t : T7) (hl : TL t) (hs : SlT w v t) :
    Calls Tryz.prog 162 #[v.val t] w fun e w' => e = .returned (.bool (txB t)) ∧ Below w.heap.size w w' := by
  obtain ⟨ar, cr, ah, ch⟩ := v
  simp only [TV.val]
  obtain ⟨W, hW⟩ : ∃ W, W = w.alloc (.cells #[.int .i64 t.id, .int .i64 t.home, .int .i64 t.phase, .int .i64 t.count, .slice ar t.reads.length cr, .slice ah t.sets.length ch, .int .i64 t.stamp] 55) := ⟨_, rfl⟩
  have b0 : Below w.heap.size w W := by rw [hW]; exact (Below.refl _ _).alloc (Nat.le_refl _) _
  have x0 : BT W w.heap.size ⟨ar, cr, ah, ch⟩ t := by rw [hW]; exact BT.box w ⟨ar, cr, ah, ch⟩ t _
  have H : Hid (SlT W ⟨ar, cr, ah, ch⟩ t ∧ BT W w.heap.size ⟨ar, cr, ah, ch⟩ t ∧ TL t) := ⟨hs.later b0, x0, hl⟩
  have BW : Hid (Below w.heap.size w W) := b0
  clear hs b0 x0 hl
  by_cases g0 : inB 1 1000000 t.id = true
  case neg =>
    have d0 : inB 1 1000000 t.id = false := by simpa using g0
    have hb : txB t = false := by simp [txB, headB, d0]
    rw [hb]
    rw [hW] at BW
    clear H hW
    go_enter Tryz.func162, Tryz.ntmps162
    go_wp2_with (first | (go_at_call 110; refine (implId _ _).mono ?_; rintro e w' ⟨rfl, rfl⟩) | (go_at_call 159; refine (implMachine _ _).mono ?_; rintro e w' ⟨rfl, rfl⟩) | (go_at_call 195; refine (implPhase _ _).mono ?_; rintro e w' ⟨rfl, rfl⟩) | (go_at_call 196; refine (implDone _ _).mono ?_; rintro e w' ⟨rfl, rfl⟩) | (go_at_call 63; refine (implStamp _ _).mono ?_; rintro e w' ⟨rfl, rfl⟩))
    go_ret
    exact ⟨rfl, BW.out⟩
  by_cases g1 : inB 0 7 t.home = true
  case neg =>
    have d1 : inB 0 7 t.home = false := by simpa using g1
    have hb : txB t = false := by simp [txB, headB, d1]
    rw [hb]
    rw [hW] at BW
    clear H hW
    go_enter Tryz.func162, Tryz.ntmps162
    go_wp2_with (first | (go_at_call 110; refine (implId _ _).mono ?_; rintro e w' ⟨rfl, rfl⟩) | (go_at_call 159; refine (implMachine _ _).mono ?_; rintro e w' ⟨rfl, rfl⟩) | (go_at_call 195; refine (implPhase _ _).mono ?_; rintro e w' ⟨rfl, rfl⟩) | (go_at_call 196; refine (implDone _ _).mono ?_; rintro e w' ⟨rfl, rfl⟩) | (go_at_call 63; refine (implStamp _ _).mono ?_; rintro e w' ⟨rfl, rfl⟩))
    go_ret
    exact ⟨rfl, BW.out⟩
  by_cases g2 : inB 1 9 t.phase = true
  case neg =>
    have d2 : inB 1 9 t.phase = false := by simpa using g2
    have hb : txB t = false := by simp [txB, headB, d2]
    rw [hb]
    rw [hW] at BW
    clear H hW
    go_enter Tryz.func162, Tryz.ntmps162
    go_wp2_with (first | (go_at_call 110; refine (implId _ _).mono ?_; rintro e w' ⟨rfl, rfl⟩) | (go_at_call 159; refine (implMachine _ _).mono ?_; rintro e w' ⟨rfl, rfl⟩) | (go_at_call 195; refine (implPhase _ _).mono ?_; rintro e w' ⟨rfl, rfl⟩) | (go_at_call 196; refine (implDone _ _).mono ?_; rintro e w' ⟨rfl, rfl⟩) | (go_at_call 63; refine (implStamp _ _).mono ?_; rintro e w' ⟨rfl, rfl⟩))
    go_ret
    exact ⟨rfl, BW.out⟩
  by_cases g3 : inB 0 1000 t.count = true
  case neg =>
    have d3 : inB 0 1000 t.count = false := by simpa using g3
    have hb : txB t = false := by simp [txB, headB, d3]
    rw [hb]
    rw [hW] at BW
    clear H hW
    go_enter Tryz.func162, Tryz.ntmps162
    go_wp2_with (first | (go_at_call 110; refine (implId _ _).mono ?_; rintro e w' ⟨rfl, rfl⟩) | (go_at_call 159; refine (implMachine _ _).mono ?_; rintro e w' ⟨rfl, rfl⟩) | (go_at_call 195; refine (implPhase _ _).mono ?_; rintro e w' ⟨rfl, rfl⟩) | (go_at_call 196; refine (implDone _ _).mono ?_; rintro e w' ⟨rfl, rfl⟩) | (go_at_call 63; refine (implStamp _ _).mono ?_; rintro e w' ⟨rfl, rfl⟩))
    go_ret
    exact ⟨rfl, BW.out⟩
  by_cases g4 : inB 0 1000000 t.stamp = true
  case neg =>
    have d4 : inB 0 1000000 t.stamp = false := by simpa using g4
    have hb : txB t = false := by simp [txB, headB, d4]
    rw [hb]
    rw [hW] at BW
    clear H hW
    go_enter Tryz.func162, Tryz.ntmps162
    go_wp2_with (first | (go_at_call 110; refine (implId _ _).mono ?_; rintro e w' ⟨rfl, rfl⟩) | (go_at_call 159; refine (implMachine _ _).mono ?_; rintro e w' ⟨rfl, rfl⟩) | (go_at_call 195; refine (implPhase _ _).mono ?_; rintro e w' ⟨rfl, rfl⟩) | (go_at_call 196; refine (implDone _ _).mono ?_; rintro e w' ⟨rfl, rfl⟩) | (go_at_call 63; refine (implStamp _ _).mono ?_; rintro e w' ⟨rfl, rfl⟩))
    go_ret
    exact ⟨rfl, BW.out⟩
  have HM : Hid (txB t = ((decide (t.reads.length ≤ 12) && (List.range t.reads.length).all (noAt t.reads)) && (decide (t.sets.length ≤ 12) && (List.range t.sets.length).all (seAt t.sets)))) := by
    unfold Hid
    simp only [txB, headB, g0, g1, g2, g3, g4, Bool.true_and]
    cases decide (t.reads.length ≤ 12) <;> cases decide (t.sets.length ≤ 12) <;> simp
  have c1 := noEach_any W ar cr t.reads H.out.2.2.r H.out.1.r
  generalize hR : (decide (t.reads.length ≤ 12) && (List.range t.reads.length).all (noAt t.reads)) = R at *
  go_enter Tryz.func162, Tryz.ntmps162
  go_wp2_with (first | (go_at_call 110; refine (implId _ _).mono ?_; rintro e w' ⟨rfl, rfl⟩) | (go_at_call 159; refine (implMachine _ _).mono ?_; rintro e w' ⟨rfl, rfl⟩) | (go_at_call 195; refine (implPhase _ _).mono ?_; rintro e w' ⟨rfl, rfl⟩) | (go_at_call 196; refine (implDone _ _).mono ?_; rintro e w' ⟨rfl, rfl⟩) | (go_at_call 63; refine (implStamp _ _).mono ?_; rintro e w' ⟨rfl, rfl⟩) | fail)
  rw [← hW]
  clear hW g0 g1 g2 g3 g4
  refine c1.mono ?_
  clear c1
  rintro e w1 ⟨rfl, b1⟩
  have a5 := (H.out.2.1.later b1).c5
  have KB : Hid (Below w.heap.size w w1) := BW.out.trans (b1.mono BW.out.size)
  have c2 := seEach_any w1 ah ch t.sets H.out.2.2.s (H.out.1.later b1).s
  clear b1
  cases R with
  | false =>
    clear c2
    go_wp2
    go_ret
    exact ⟨by rw [HM.out]; rfl, KB.out⟩
  | true =>
    go_wp2_with fail
    refine c2.mono ?_
    clear c2
    rintro e w2 ⟨rfl, b2⟩
    go_wp2
    go_ret
    exact ⟨by rw [HM.out]; rfl, KB.out.trans (b2.mono KB.out.size)⟩
def toldP (phase count : Int) : Int := if phase = 5 then (if 0 < count then 1 else 0) else if phase = 6 ∨ phase = 7 then 1 else if phase = 8 ∨ phase = 9 then 2 else 0
def toldR (t : T7) : Int := if txB t = true then toldP t.phase t.count else -1
theorem txB_head {t : T7} (h : txB t = true) : 1 ≤ t.phase ∧ t.phase ≤ 9 ∧ 0 ≤ t.count := by
  simp only [txB, headB, Bool.and_eq_true] at h
  obtain ⟨⟨⟨⟨⟨⟨⟨⟨-, -⟩, h3⟩, h4⟩, -⟩, -⟩, -⟩, -⟩, -⟩ := h
  rw [inB_iff] at h3 h4
  omega
theorem nine {x : Int} (h : 1 ≤ x ∧ x ≤ 9) : x = 1 ∨ x = 2 ∨ x = 3 ∨ x = 4 ∨ x = 5 ∨ x = 6 ∨ x = 7 ∨ x = 8 ∨ x = 9 := by omega
set_option maxHeartbeats 4000000 in
theorem specTold_any (w : World) (v : TV) (t : T7) (hl : TL t) (hs : SlT w v t) :
    Calls Tryz.prog 58 #[v.val t] w fun e w' => e = .returned (.int .i64 (toldR t)) ∧ Below w.heap.size w w' := by
  obtain ⟨ar, cr, ah, ch⟩ := v
  obtain ⟨W, hW⟩ : ∃ W, W = w.alloc (.cells #[.int .i64 t.id, .int .i64 t.home, .int .i64 t.phase, .int .i64 t.count, .slice ar t.reads.length cr, .slice ah t.sets.length ch, .int .i64 t.stamp] 55) := ⟨_, rfl⟩
  have b0 : Below w.heap.size w W := by rw [hW]; exact (Below.refl _ _).alloc (Nat.le_refl _) _
  have x0 : BT W w.heap.size ⟨ar, cr, ah, ch⟩ t := by rw [hW]; exact BT.box w ⟨ar, cr, ah, ch⟩ t _
  have c1 := specTxOk_any W ⟨ar, cr, ah, ch⟩ t hl (hs.later b0)
  simp only [TV.val] at c1 ⊢
  have H : Hid (Below w.heap.size w W ∧ BT W w.heap.size ⟨ar, cr, ah, ch⟩ t) := ⟨b0, x0⟩
  clear hs hl b0 x0
  go_enter Tryz.func58, Tryz.ntmps58
  go_wp2_with fail
  rw [← hW]
  clear hW
  refine c1.mono ?_
  clear c1
  rintro e w1 ⟨rfl, b1⟩
  have BW : Hid (Below w.heap.size w w1) := H.out.1.trans (b1.mono H.out.1.size)
  obtain ⟨p0, p1, p2, p3, p4, p5, p6, -, -⟩ := H.out.2.later b1
  clear b1 H p0 p1 p4 p5 p6
  cases hb : txB t
  case false =>
    go_wp2
    go_ret
    exact ⟨by simp [toldR, hb], BW.out⟩
  case true =>
    have hr : toldR t = toldP t.phase t.count := by simp [toldR, hb]
    have HR : Hid (toldR t = toldP t.phase t.count) := hr
    clear hr
    obtain ⟨h1, h2, h3⟩ := txB_head hb
    clear hb
    have h9 := nine ⟨h1, h2⟩
    clear h1 h2
    generalize t.count = n at *
    generalize t.phase = f at *
    by_cases hn : n = 0
    all_goals (
      rcases h9 with rfl | rfl | rfl | rfl | rfl | rfl | rfl | rfl | rfl
      all_goals (
        go_wp2
        all_goals (go_ret; refine ⟨?_, BW.out⟩; rw [HR.out]; first | (simp [toldP]; done) | (simp [toldP]; omega) | (exfalso; omega))))
set_option maxHeartbeats 4000000 in
theorem implTold_any (w : World) (v : TV) (t : T7) (hl : TL t) (hs : SlT w v t) :
    Calls Tryz.prog 123 #[v.val t] w fun e w' => e = .returned (.int .i64 (toldR t)) ∧ Below w.heap.size w w' := by
  obtain ⟨ar, cr, ah, ch⟩ := v
  obtain ⟨W, hW⟩ : ∃ W, W = w.alloc (.cells #[.int .i64 t.id, .int .i64 t.home, .int .i64 t.phase, .int .i64 t.count, .slice ar t.reads.length cr, .slice ah t.sets.length ch, .int .i64 t.stamp] 55) := ⟨_, rfl⟩
  have b0 : Below w.heap.size w W := by rw [hW]; exact (Below.refl _ _).alloc (Nat.le_refl _) _
  have x0 : BT W w.heap.size ⟨ar, cr, ah, ch⟩ t := by rw [hW]; exact BT.box w ⟨ar, cr, ah, ch⟩ t _
  have c1 := implTxOk_any W ⟨ar, cr, ah, ch⟩ t hl (hs.later b0)
  simp only [TV.val] at c1 ⊢
  have H : Hid (Below w.heap.size w W ∧ BT W w.heap.size ⟨ar, cr, ah, ch⟩ t) := ⟨b0, x0⟩
  clear hs hl b0 x0
  go_enter Tryz.func123, Tryz.ntmps123
  go_wp2_with fail
  rw [← hW]
  clear hW
  refine c1.mono ?_
  clear c1
  rintro e w1 ⟨rfl, b1⟩
  have BW : Hid (Below w.heap.size w w1) := H.out.1.trans (b1.mono H.out.1.size)
  obtain ⟨p0, p1, p2, p3, p4, p5, p6, -, -⟩ := H.out.2.later b1
  clear b1 H p0 p1 p4 p5 p6
  cases hb : txB t
  case false =>
    go_wp2
    go_ret
    exact ⟨by simp [toldR, hb], BW.out⟩
  case true =>
    have hr : toldR t = toldP t.phase t.count := by simp [toldR, hb]
    have HR : Hid (toldR t = toldP t.phase t.count) := hr
    clear hr
    obtain ⟨h1, h2, h3⟩ := txB_head hb
    clear hb
    have h9 := nine ⟨h1, h2⟩
    clear h1 h2
    generalize t.count = n at *
    generalize t.phase = f at *
    by_cases hn : n = 0
    all_goals (
      rcases h9 with rfl | rfl | rfl | rfl | rfl | rfl | rfl | rfl | rfl
      all_goals (
        go_wp2
        all_goals (go_ret; refine ⟨?_, BW.out⟩; rw [HR.out]; first | (simp [toldP]; done) | (simp [toldP]; omega) | (exfalso; omega))))
end Go.Proofs.YtdmpobegobfpjaaGreat.tx
namespace Go.Proofs.YtdmpobegobfpjaaGreat
open Go.RowKit
theorem room_blk {w w' : World} {b m : Nat} (h : Room w b m) (e : w'.heap[b]? = w.heap[b]?) : Room w' b m := fun j hj => by
  obtain ⟨v, h1, h2⟩ := h j hj
  exact ⟨v, (World.cell?_of_block (a := ⟨b, j, none⟩) e).trans h1, (World.frozen?_of_block (a := ⟨b, j, none⟩) e).trans h2⟩
def At (X : World) (b o : Nat) (cs : List Value) : Prop := ∀ j u, cs[j]? = some u → X.cell? ⟨b, o + j, none⟩ = some u
theorem At.of_block {X Y : World} {b o : Nat} {cs : List Value} (h : At X b o cs) (e : Y.heap[b]? = X.heap[b]?) : At Y b o cs := fun j u hu => (World.cell?_of_block (a := ⟨b, o + j, none⟩) e).trans (h j u hu)
structure Kd (D V : Type) where
  n : Nat
  cells : V → D → List Value
  len : ∀ v d, (cells v d).length = n
  Rd : World → V → D → Prop
  Ow : World → Nat → V → D → (Nat → Prop) → Prop
  later : ∀ {w w' : World} {v : V} {d : D}, Rd w v d → Below w.heap.size w w' → Rd w' v d
  sl : ∀ {w : World} {B : Nat} {v : V} {d : D} {P : Nat → Prop}, Ow w B v d P → Rd w v d
  of : ∀ {w : World} {B : Nat} {v : V} {d : D} {P : Nat → Prop} {q : Nat}, Ow w B v d P → P q → B ≤ q ∧ q < w.heap.size
  keep : ∀ {w w' : World} {B : Nat} {v : V} {d : D} {P : Nat → Prop}, Ow w B v d P → w.heap.size ≤ w'.heap.size → (∀ q, P q → w'.heap[q]? = w.heap[q]?) → Ow w' B v d P
  low : ∀ {w : World} {B B' : Nat} {v : V} {d : D} {P : Nat → Prop}, Ow w B v d P → B' ≤ B → Ow w B' v d P
def Kd.RdS {D V : Type} (K : Kd D V) (X : World) (a : Option Addr) (xs : List D) : Prop := xs = [] ∨ ∃ b off, a = some ⟨b, off, none⟩ ∧ b < X.heap.size ∧ ∀ i d, xs[i]? = some d → ∃ v, At X b (off + i * K.n) (K.cells v d) ∧ K.Rd X v d
theorem Kd.RdS.later {D V : Type} {K : Kd D V} {X Y : World} {a : Option Addr} {xs : List D} (h : K.RdS X a xs) (hb : Below X.heap.size X Y) : K.RdS Y a xs := by
  rcases h with h | ⟨b, off, e, hl, h⟩
  · exact .inl h
  · refine .inr ⟨b, off, e, Nat.lt_of_lt_of_le hl hb.size, fun i d hi => ?_⟩
    obtain ⟨v, h1, h2⟩ := h i d hi
    exact ⟨v, h1.of_block (hb.block b hl), K.later h2 hb⟩
structure Kd.Part {D V : Type} (K : Kd D V) (X : World) (B b n : Nat) (ys : List D) (g : Nat → Nat → Prop) : Prop where
  rm : Room X b (n * K.n)
  at_ : ∀ i d, ys[i]? = some d → ∃ v, At X b (i * K.n) (K.cells v d) ∧ K.Ow X B v d (g i)
  ne : ∀ i q, i < ys.length → g i q → q ≠ b
  ap : ∀ i j q, i < ys.length → j < ys.length → i ≠ j → g i q → ¬ g j q
theorem Kd.Part.gq {D V : Type} {K : Kd D V} {X : World} {B b n : Nat} {ys : List D} {g : Nat → Nat → Prop} (h : K.Part X B b n ys g) {i q : Nat} (hi : i < ys.length) (hq : g i q) : B ≤ q ∧ q < X.heap.size := by
  obtain ⟨v, _, ho⟩ := h.at_ i _ (List.getElem?_eq_getElem hi)
  exact K.of ho hq
theorem Kd.Part.keep {D V : Type} {K : Kd D V} {X Y : World} {B b n : Nat} {ys : List D} {g : Nat → Nat → Prop} (h : K.Part X B b n ys g) (hs : X.heap.size ≤ Y.heap.size) (hb : Y.heap[b]? = X.heap[b]?) (hk : ∀ i q, i < ys.length → g i q → Y.heap[q]? = X.heap[q]?) : K.Part Y B b n ys g := by
  refine ⟨room_blk h.rm hb, fun i d hi => ?_, h.ne, h.ap⟩
  obtain ⟨v, h1, h2⟩ := h.at_ i d hi
  exact ⟨v, h1.of_block hb, K.keep h2 hs (fun q hq => hk i q (List.getElem?_eq_some_iff.1 hi).1 hq)⟩
theorem Kd.Part.later {D V : Type} {K : Kd D V} {X Y : World} {B b n : Nat} {ys : List D} {g : Nat → Nat → Prop} (h : K.Part X B b n ys g) (hb : Below X.heap.size X Y) (hl : b < X.heap.size) : K.Part Y B b n ys g := h.keep hb.size (hb.block b hl) (fun _ q hi hq => hb.block q (h.gq hi hq).2)
theorem Kd.Part.nil {D V : Type} (K : Kd D V) {X : World} {B b n : Nat} (g : Nat → Nat → Prop) (h : Room X b (n * K.n)) : K.Part X B b n [] g := ⟨h, fun i d hi => by simp at hi, fun i q hi => by simp at hi, fun i j q hi => by simp at hi⟩
theorem putB_out {s j : Nat} (cs : List Value) : ∀ (X : World) (i : Nat), (j < i ∨ i + cs.length ≤ j) → (putB X s i cs).cell? ⟨s, j, none⟩ = X.cell? ⟨s, j, none⟩ := by
  induction cs with
  | nil => intro X i _; rfl
  | cons c cs ih => intro X i h; simp only [List.length_cons] at h; rw [putB, ih _ _ (by omega)]; exact cell_set_other (by omega)
theorem putB_room {b m : Nat} (cs : List Value) : ∀ (X : World) (i : Nat), Room X b m → Room (putB X b i cs) b m := by
  induction cs with
  | nil => intro X i h; exact h
  | cons c cs ih => intro X i h; exact ih _ _ (h.set _)
theorem Kd.Part.push {D V : Type} {K : Kd D V} {X : World} {B b n : Nat} {ys : List D} {g : Nat → Nat → Prop} (h : K.Part X B b n ys g) (hn : ys.length < n) (v : V) (d : D) (P : Nat → Prop) (ho : K.Ow X B v d P) (hne : ∀ q, P q → q ≠ b) (hap : ∀ i q, i < ys.length → g i q → ¬ P q) :
    K.Part (putB X b (ys.length * K.n) (K.cells v d)) B b n (ys ++ [d]) (fun i => if i = ys.length then P else g i) := by
  have hc : ys.length * K.n + K.n ≤ n * K.n := by rw [← Nat.succ_mul]; exact Nat.mul_le_mul_right _ hn
  have hs : (putB X b (ys.length * K.n) (K.cells v d)).heap.size = X.heap.size := putB_size _ _ _ _
  have hk : ∀ q, q ≠ b → (putB X b (ys.length * K.n) (K.cells v d)).heap[q]? = X.heap[q]? := fun q hq => putB_block hq _ _ _
  refine ⟨putB_room _ _ _ h.rm, fun i e hi => ?_, fun i q hi hq => ?_, fun i j q hi hj hij h1 h2 => ?_⟩
  · by_cases hl : i < ys.length
    · rw [List.getElem?_append_left hl] at hi
      obtain ⟨v', h1, h2⟩ := h.at_ i e hi
      have e0 : i ≠ ys.length := by omega
      refine ⟨v', fun j u hu => ?_, by simp only [if_neg e0]; exact K.keep h2 (Nat.le_of_eq hs.symm) (fun q hq => hk q (h.ne i q hl hq))⟩
      have hj : j < K.n := by have := (List.getElem?_eq_some_iff.1 hu).1; rwa [K.len] at this
      have hm : i * K.n + K.n ≤ ys.length * K.n := by rw [← Nat.succ_mul]; exact Nat.mul_le_mul_right _ hl
      exact (putB_out _ _ _ (by omega)).trans (h1 j u hu)
    · have he : i = ys.length := by
        have := (List.getElem?_eq_some_iff.1 hi).1
        simp at this; omega
      subst he
      rw [List.getElem?_append_right (Nat.le_refl _)] at hi
      simp at hi
      subst hi
      refine ⟨v, fun j u hu => ?_, by simp only [if_pos]; exact K.keep ho (Nat.le_of_eq hs.symm) (fun q hq => hk q (hne q hq))⟩
      refine putB_cell _ _ _ (fun j h1 h2 => ?_) j u hu
      rw [K.len] at h2
      obtain ⟨z, hz, _⟩ := h.rm j (by omega)
      exact ⟨z, hz⟩
  · by_cases e : i = ys.length
    · simp only [if_pos e] at hq; exact hne q hq
    · simp only [if_neg e] at hq; simp at hi; exact h.ne i q (by omega) hq
  · simp only [List.length_append, List.length_cons, List.length_nil] at hi hj
    by_cases e1 : i = ys.length
    · by_cases e2 : j = ys.length
      · omega
      · simp only [if_pos e1] at h1; simp only [if_neg e2] at h2; exact hap j q (by omega) h2 h1
    · by_cases e2 : j = ys.length
      · simp only [if_neg e1] at h1; simp only [if_pos e2] at h2; exact hap i q (by omega) h1 h2
      · simp only [if_neg e1] at h1; simp only [if_neg e2] at h2; exact h.ap i j q (by omega) (by omega) hij h1 h2
def Kd.OwS {D V : Type} (K : Kd D V) (X : World) (B : Nat) (a : Option Addr) (xs : List D) (P : Nat → Prop) : Prop := (xs = [] ∨ ∃ b g, a = some ⟨b, 0, none⟩ ∧ P b ∧ K.Part X B b xs.length xs g ∧ (∀ i q, i < xs.length → g i q → P q)) ∧ (∀ q, P q → B ≤ q ∧ q < X.heap.size)
theorem Kd.OwS.of {D V : Type} {K : Kd D V} {X : World} {B : Nat} {a : Option Addr} {xs : List D} {P : Nat → Prop} (h : K.OwS X B a xs P) {q : Nat} (hq : P q) : B ≤ q ∧ q < X.heap.size := h.2 q hq
theorem Kd.OwS.sl {D V : Type} {K : Kd D V} {X : World} {B : Nat} {a : Option Addr} {xs : List D} {P : Nat → Prop} (h : K.OwS X B a xs P) : K.RdS X a xs := by
  rcases h with ⟨h | ⟨b, g, e, hp, h, _⟩, hb⟩
  · exact .inl h
  · refine .inr ⟨b, 0, e, (hb b hp).2, fun i d hi => ?_⟩
    obtain ⟨v, h1, h2⟩ := h.at_ i d hi
    exact ⟨v, by rw [Nat.zero_add]; exact h1, K.sl h2⟩
theorem Kd.OwS.keep {D V : Type} {K : Kd D V} {X Y : World} {B : Nat} {a : Option Addr} {xs : List D} {P : Nat → Prop} (h : K.OwS X B a xs P) (hs : X.heap.size ≤ Y.heap.size) (hk : ∀ q, P q → Y.heap[q]? = X.heap[q]?) : K.OwS Y B a xs P := by
  rcases h with ⟨h | ⟨b, g, e, hp, h, hg⟩, hb⟩
  · exact ⟨.inl h, fun q hq => ⟨(hb q hq).1, Nat.lt_of_lt_of_le (hb q hq).2 hs⟩⟩
  · exact ⟨.inr ⟨b, g, e, hp, h.keep hs (hk b hp) (fun i q hi hq => hk q (hg i q hi hq)), hg⟩, fun q hq => ⟨(hb q hq).1, Nat.lt_of_lt_of_le (hb q hq).2 hs⟩⟩
theorem Kd.OwS.later {D V : Type} {K : Kd D V} {X Y : World} {B : Nat} {a : Option Addr} {xs : List D} {P : Nat → Prop} (h : K.OwS X B a xs P) (hb : Below X.heap.size X Y) : K.OwS Y B a xs P := h.keep hb.size (fun q hq => hb.block q (h.of hq).2)
theorem Kd.OwS.low {D V : Type} {K : Kd D V} {X : World} {B B' : Nat} {a : Option Addr} {xs : List D} {P : Nat → Prop} (h : K.OwS X B a xs P) (hb : B' ≤ B) : K.OwS X B' a xs P := by
  rcases h with ⟨h | ⟨b, g, e, hp, h, hg⟩, hq⟩
  · exact ⟨.inl h, fun q h' => ⟨Nat.le_trans hb (hq q h').1, (hq q h').2⟩⟩
  · refine ⟨.inr ⟨b, g, e, hp, ⟨h.rm, fun i d hi => ?_, h.ne, h.ap⟩, hg⟩, fun q h' => ⟨Nat.le_trans hb (hq q h').1, (hq q h').2⟩⟩
    obtain ⟨v, h1, h2⟩ := h.at_ i d hi
    exact ⟨v, h1, K.low h2 hb⟩
theorem Kd.Part.own {D V : Type} {K : Kd D V} {X : World} {B b : Nat} {xs : List D} {g : Nat → Nat → Prop} (h : K.Part X B b xs.length xs g) (hB : B ≤ b) (hb : b < X.heap.size) : K.OwS X B (some ⟨b, 0, none⟩) xs (fun q => q = b ∨ ∃ i, i < xs.length ∧ g i q) :=
  ⟨.inr ⟨b, g, rfl, .inl rfl, h, fun i q hi hq => .inr ⟨i, hi, hq⟩⟩, fun q hq => by rcases hq with rfl | ⟨i, hi, hq⟩; exact ⟨hB, hb⟩; exact h.gq hi hq⟩
structure OwnG {α : Type} (sz : Nat) (hd : α → List Int) (ln : α → Nat) (At : World → Nat → α → Prop) (w : World) (base b n : Nat) (rs : List α) (g : Nat → Nat) : Prop where
  len : rs.length = n
  head : ∀ i r, rs[i]? = some r → ∀ t z, (hd r)[t]? = some z → w.cell? ⟨b, i * sz + t, none⟩ = some (.int .i64 z)
  tail : ∀ i r, rs[i]? = some r → ∃ cap, w.cell? ⟨b, i * sz + (sz - 1), none⟩ = some (.slice (some ⟨g i, 0, none⟩) (ln r) cap) ∧ ln r ≤ cap
  low : ∀ i, i < n → base ≤ g i
  lt : ∀ i, i < n → g i < w.heap.size
  ne : ∀ i, i < n → g i ≠ b
  sub : ∀ i r, rs[i]? = some r → At w (g i) r
  inj : ∀ i j, i < n → j < n → g i = g j → i = j
theorem OwnG.idx {α : Type} {sz : Nat} {hd : α → List Int} {ln : α → Nat} {At : World → Nat → α → Prop} {w : World} {base b n : Nat} {rs : List α} {g : Nat → Nat} (h : OwnG sz hd ln At w base b n rs g) {i : Nat} {r : α} (e : rs[i]? = some r) : i < n := by
  have := (List.getElem?_eq_some_iff.1 e).1; have := h.len; omega
theorem OwnG.nil {α : Type} {sz : Nat} {hd : α → List Int} {ln : α → Nat} {At : World → Nat → α → Prop} (w : World) (base b : Nat) (g : Nat → Nat) : OwnG sz hd ln At w base b 0 [] g :=
  ⟨rfl, fun i r e => by simp at e, fun i r e => by simp at e, fun i h => by omega, fun i h => by omega, fun i h => by omega, fun i r e => by simp at e, fun i j h => by omega⟩
theorem OwnG.of_blocks {α : Type} {sz : Nat} {hd : α → List Int} {ln : α → Nat} {At : World → Nat → α → Prop} (hAt : ∀ (w w' : World) (b : Nat) (r : α), w'.heap[b]? = w.heap[b]? → At w b r → At w' b r) {w w' : World} {base b n : Nat} {rs : List α} {g : Nat → Nat} (h : OwnG sz hd ln At w base b n rs g) (hs : w.heap.size ≤ w'.heap.size) (eb : w'.heap[b]? = w.heap[b]?) (eg : ∀ i, i < n → w'.heap[g i]? = w.heap[g i]?) : OwnG sz hd ln At w' base b n rs g := by
  refine ⟨h.len, fun i r e t z ht => (World.cell?_of_block (a := ⟨b, i * sz + t, none⟩) eb).trans (h.head i r e t z ht), fun i r e => ?_, h.low, fun i hi => Nat.lt_of_lt_of_le (h.lt i hi) hs, h.ne, fun i r e => hAt _ _ _ _ (eg i (h.idx e)) (h.sub i r e), h.inj⟩
  obtain ⟨cap, h1, h2⟩ := h.tail i r e
  exact ⟨cap, (World.cell?_of_block (a := ⟨b, i * sz + (sz - 1), none⟩) eb).trans h1, h2⟩
theorem OwnG.later {α : Type} {sz : Nat} {hd : α → List Int} {ln : α → Nat} {At : World → Nat → α → Prop} (hAt : ∀ (w w' : World) (b : Nat) (r : α), w'.heap[b]? = w.heap[b]? → At w b r → At w' b r) {w w' : World} {base b n : Nat} {rs : List α} {g : Nat → Nat} (h : OwnG sz hd ln At w base b n rs g) (hb : Below w.heap.size w w') (hlt : b < w.heap.size) : OwnG sz hd ln At w' base b n rs g :=
  h.of_blocks hAt hb.size (hb.block b hlt) (fun i hi => hb.block _ (h.lt i hi))
theorem OwnG.next {α : Type} {sz : Nat} {hd : α → List Int} {ln : α → Nat} {At : World → Nat → α → Prop} (hAt : ∀ (w w' : World) (b : Nat) (r : α), w'.heap[b]? = w.heap[b]? → At w b r → At w' b r) {w V : World} {base b j : Nat} {rs : List α} {g : Nat → Nat} {r : α} {q cap : Nat} (h : OwnG sz hd ln At w base b j rs g) (hz : 0 < sz) (hh : ∀ r : α, (hd r).length < sz)
    (hs : w.heap.size ≤ V.heap.size) (hb : ∀ x, x ≠ b → V.heap[x]? = w.heap[x]?) (hold : ∀ o, o < j * sz → V.cell? ⟨b, o, none⟩ = w.cell? ⟨b, o, none⟩) (hhd : ∀ t z, (hd r)[t]? = some z → V.cell? ⟨b, j * sz + t, none⟩ = some (.int .i64 z)) (htl : V.cell? ⟨b, j * sz + (sz - 1), none⟩ = some (.slice (some ⟨q, 0, none⟩) (ln r) cap)) (hcp : ln r ≤ cap)
    (hq : base ≤ q) (hl : q < V.heap.size) (hn : q ≠ b) (hat : At V q r) (hf : ∀ i, i < j → g i ≠ q) : OwnG sz hd ln At V base b (j + 1) (rs ++ [r]) (fun i => if i = j then q else g i) := by
  have hlen := h.len
  have lo : ∀ i t, i < j → t < sz → i * sz + t < j * sz := fun i t hi ht => by
    have : (i + 1) * sz ≤ j * sz := Nat.mul_le_mul_right sz (by omega)
    rw [Nat.add_mul] at this; omega
  have split : ∀ i y, (rs ++ [r])[i]? = some y → (i < j ∧ rs[i]? = some y) ∨ (i = j ∧ y = r) := fun i y e => by
    by_cases hi : i < rs.length
    · rw [List.getElem?_append_left hi] at e
      exact .inl ⟨by omega, e⟩
    · rw [List.getElem?_append_right (by omega)] at e
      have h0 : i - rs.length = 0 := by
        rcases Nat.eq_zero_or_pos (i - rs.length) with h | h
        · exact h
        · rw [List.getElem?_eq_none (by simp; omega)] at e; cases e
      rw [h0] at e
      simp at e
      exact .inr ⟨by omega, e.symm⟩
  refine ⟨by simp [hlen], fun i y e t z ht => ?_, fun i y e => ?_, fun i hi => ?_, fun i hi => ?_, fun i hi => ?_, fun i y e => ?_, fun i k hi hk e => ?_⟩
  · rcases split i y e with ⟨hi, e⟩ | ⟨rfl, rfl⟩
    · rw [hold _ (lo i t hi (Nat.lt_trans (List.getElem?_eq_some_iff.1 ht).1 (hh y)))]; exact h.head i y e t z ht
    · exact hhd t z ht
  · rcases split i y e with ⟨hi, e⟩ | ⟨rfl, rfl⟩
    · rw [if_neg (by omega), hold _ (lo i _ hi (by omega))]; exact h.tail i y e
    · rw [if_pos rfl]; exact ⟨cap, htl, hcp⟩
  · by_cases e : i = j
    · rw [if_pos e]; exact hq
    · rw [if_neg e]; exact h.low i (by omega)
  · by_cases e : i = j
    · rw [if_pos e]; exact hl
    · rw [if_neg e]; exact Nat.lt_of_lt_of_le (h.lt i (by omega)) hs
  · by_cases e : i = j
    · rw [if_pos e]; exact hn
    · rw [if_neg e]; exact h.ne i (by omega)
  · rcases split i y e with ⟨hi, e⟩ | ⟨rfl, rfl⟩
    · rw [if_neg (by omega)]; exact hAt _ _ _ _ (hb _ (h.ne i hi)) (h.sub i y e)
    · rw [if_pos rfl]; exact hat
  · by_cases ei : i = j <;> by_cases ek : k = j
    · omega
    · simp only [if_pos ei, if_neg ek] at e; exact absurd e.symm (hf k (by omega))
    · simp only [if_neg ei, if_pos ek] at e; exact absurd e (hf i (by omega))
    · simp only [if_neg ei, if_neg ek] at e; exact h.inj i k (by omega) (by omega) e
end Go.Proofs.YtdmpobegobfpjaaGreat
namespace Go.Proofs.YtdmpobegobfpjaaGreat
open Go.RowKit
open Go.Sort (grow)
set_option maxHeartbeats 1000000 in
theorem toSetS_someR (w : World) (b off n cap : Nat) (xs : List S5) (hx : xs.length = n) (hn : n ≤ 1048576) (hb : b < w.heap.size) (hs : SetsAt w b off xs) : Calls Tryz.prog 109 #[.slice (some ⟨b, off, none⟩) n cap] w fun e w' =>
    e = .returned (.slice (some ⟨w.heap.size, 0, none⟩) n n) ∧ Below w.heap.size w w' ∧ w.heap.size < w'.heap.size ∧ SetsAt w' w.heap.size 0 xs ∧ Room w' w.heap.size (n * 5) := by
  have hmk := make_sets n hn
  go_enter Tryz.func109, Tryz.ntmps109
  go_wp2
  go_loopw [4] (fun i wr => ∃ k : Nat, k ≤ n ∧ i = .int .i64 k ∧ Below w.heap.size w wr ∧ w.heap.size < wr.heap.size ∧ Room wr w.heap.size (n * 5) ∧ SetsAt wr w.heap.size 0 (xs.take k))
     (fun i _ => n - (intOf i).toNat)
  case atStart => exact ⟨0, Nat.zero_le _, rfl, (Below.refl _ _).alloc (Nat.le_refl _) _, by simp, room_made _ _ _ _, fun i s e => by simp at e⟩
  case round =>
    obtain ⟨k, hk, rfl, hbl, hsz, hro, hdo⟩ := hrel
    by_cases hlt : k < n
    · have hs' := hs.below hbl hb
      obtain ⟨s, hsk⟩ : ∃ s, xs[k]? = some s := ⟨xs[k]'(by omega), by simp⟩
      obtain ⟨c0, c1, c2, c3, c4⟩ := hs' k s hsk
      clear hs' hmk
      have K : Hid (Room wr w.heap.size (n * 5) ∧ SetsAt wr w.heap.size 0 (xs.take k) ∧ xs[k]? = some s ∧ Below w.heap.size w wr) := ⟨hro, hdo, hsk, hbl⟩
      clear hro hdo hsk hbl
      go_wp2_with fail
      refine (toSet_any _ s).mono ?_
      rintro e w1 ⟨rfl, b1⟩
      obtain ⟨hro, hdo, hsk, hbl⟩ := K.out
      have hro1 := hro.below b1 hsz
      have hdo1 := hdo.below b1 hsz
      obtain ⟨v0, d0, f0⟩ := hro1 (k * 5) (by omega)
      obtain ⟨v1, d1, f1⟩ := hro1 (k * 5 + 1) (by omega)
      obtain ⟨v2, d2, f2⟩ := hro1 (k * 5 + 2) (by omega)
      obtain ⟨v3, d3, f3⟩ := hro1 (k * 5 + 3) (by omega)
      obtain ⟨v4, d4, f4⟩ := hro1 (k * 5 + 4) (by omega)
      clear hro hdo hsk hbl
      have K2 : Hid (Room w1 w.heap.size (n * 5) ∧ SetsAt w1 w.heap.size 0 (xs.take k)) := ⟨hro1, hdo1⟩
      clear hro1 hdo1
      go_wp2
      obtain ⟨hro, hdo, hsk, hbl⟩ := K.out
      obtain ⟨hro1, hdo1⟩ := K2.out
      have hbl1 := hbl.trans (b1.mono (Nat.le_of_lt hsz))
      refine ⟨⟨k + 1, by omega, by simp, ((((hbl1.setCell (p := ⟨w.heap.size, k * 5, none⟩) (Nat.le_refl _) _).setCell (p := ⟨w.heap.size, k * 5 + 1, none⟩) (Nat.le_refl _) _).setCell (p := ⟨w.heap.size, k * 5 + 2, none⟩) (Nat.le_refl _) _).setCell (p := ⟨w.heap.size, k * 5 + 3, none⟩) (Nat.le_refl _) _).setCell (p := ⟨w.heap.size, k * 5 + 4, none⟩) (Nat.le_refl _) _,
        by have := b1.size; simp [World.setCell]; omega, ((((hro1.set _).set _).set _).set _).set _, hdo1.put hsk hro1 (by omega)⟩, by simp [intOf]; omega⟩
    · have : k = n := by omega
      subst this
      have hd : decide (k < k) = false := by simp
      go_wp2
      go_ret
      refine ⟨rfl, hbl, hsz, ?_, hro⟩
      rw [← hx, List.take_length] at hdo
      exact hdo
theorem toSetS_anyR (w : World) (a : Option Addr) (n cap : Nat) (xs : List S5) (hn : n ≤ 1048576) (hs : Sl w w.heap.size a n xs) : Calls Tryz.prog 109 #[.slice a n cap] w fun e w' =>
    e = .returned (.slice (some ⟨w.heap.size, 0, none⟩) n n) ∧ Below w.heap.size w w' ∧ w.heap.size < w'.heap.size ∧ SetsAt w' w.heap.size 0 xs ∧ Room w' w.heap.size (n * 5) := by
  obtain ⟨h1, h2⟩ := hs
  rcases h2 with rfl | ⟨b, off, rfl, hb, hx⟩
  · refine (toSetS_none w a cap).mono ?_
    rintro e w' ⟨rfl, h, h'⟩
    exact ⟨rfl, h, h', (fun i s e => by rw [List.eq_nil_of_length_eq_zero h1] at e; simp at e), fun j hj => by omega⟩
  · exact toSetS_someR w b off n cap xs h1 hn hb hx
set_option maxHeartbeats 1000000 in
theorem toCellS_someR (w : World) (b off n cap : Nat) (xs : List C2) (hx : xs.length = n) (hn : n ≤ 1048576) (hb : b < w.heap.size) (hs : CellsAt w b off xs) : Calls Tryz.prog 180 #[.slice (some ⟨b, off, none⟩) n cap] w fun e w' =>
    e = .returned (.slice (some ⟨w.heap.size, 0, none⟩) n n) ∧ Below w.heap.size w w' ∧ w.heap.size < w'.heap.size ∧ CellsAt w' w.heap.size 0 xs ∧ Room w' w.heap.size (n * 2) := by
  have hmk := make_cells n hn
  go_enter Tryz.func180, Tryz.ntmps180
  go_wp2
  go_loopw [4] (fun i wr => ∃ k : Nat, k ≤ n ∧ i = .int .i64 k ∧ Below w.heap.size w wr ∧ w.heap.size < wr.heap.size ∧ Room wr w.heap.size (n * 2) ∧ CellsAt wr w.heap.size 0 (xs.take k))
     (fun i _ => n - (intOf i).toNat)
  case atStart => exact ⟨0, Nat.zero_le _, rfl, (Below.refl _ _).alloc (Nat.le_refl _) _, by simp, room_made _ _ _ _, fun i s e => by simp at e⟩
  case round =>
    obtain ⟨k, hk, rfl, hbl, hsz, hro, hdo⟩ := hrel
    by_cases hlt : k < n
    · have hs' := hs.below hbl hb
      obtain ⟨s, hsk⟩ : ∃ s, xs[k]? = some s := ⟨xs[k]'(by omega), by simp⟩
      obtain ⟨c0, c1⟩ := hs' k s hsk
      clear hs' hmk
      have K : Hid (Room wr w.heap.size (n * 2) ∧ CellsAt wr w.heap.size 0 (xs.take k) ∧ xs[k]? = some s ∧ Below w.heap.size w wr) := ⟨hro, hdo, hsk, hbl⟩
      clear hro hdo hsk hbl
      go_wp2_with fail
      refine (toCell_any _ s).mono ?_
      rintro e w1 ⟨rfl, b1⟩
      obtain ⟨hro, hdo, hsk, hbl⟩ := K.out
      have hro1 := hro.below b1 hsz
      have hdo1 := hdo.below b1 hsz
      obtain ⟨v0, d0, f0⟩ := hro1 (k * 2) (by omega)
      obtain ⟨v1, d1, f1⟩ := hro1 (k * 2 + 1) (by omega)
      clear hro hdo hsk hbl
      have K2 : Hid (Room w1 w.heap.size (n * 2) ∧ CellsAt w1 w.heap.size 0 (xs.take k)) := ⟨hro1, hdo1⟩
      clear hro1 hdo1
      go_wp2
      obtain ⟨hro, hdo, hsk, hbl⟩ := K.out
      obtain ⟨hro1, hdo1⟩ := K2.out
      have hbl1 := hbl.trans (b1.mono (Nat.le_of_lt hsz))
      refine ⟨⟨k + 1, by omega, by simp, (hbl1.setCell (p := ⟨w.heap.size, k * 2, none⟩) (Nat.le_refl _) _).setCell (p := ⟨w.heap.size, k * 2 + 1, none⟩) (Nat.le_refl _) _,
        by have := b1.size; simp [World.setCell]; omega, (hro1.set _).set _, hdo1.put hsk hro1 (by omega)⟩, by simp [intOf]; omega⟩
    · have : k = n := by omega
      subst this
      have hd : decide (k < k) = false := by simp
      go_wp2
      go_ret
      refine ⟨rfl, hbl, hsz, ?_, hro⟩
      rw [← hx, List.take_length] at hdo
      exact hdo
theorem toCellS_anyR (w : World) (a : Option Addr) (n cap : Nat) (xs : List C2) (hn : n ≤ 1048576) (hs : SlC w w.heap.size a n xs) : Calls Tryz.prog 180 #[.slice a n cap] w fun e w' =>
    e = .returned (.slice (some ⟨w.heap.size, 0, none⟩) n n) ∧ Below w.heap.size w w' ∧ w.heap.size < w'.heap.size ∧ CellsAt w' w.heap.size 0 xs ∧ Room w' w.heap.size (n * 2) := by
  obtain ⟨h1, h2⟩ := hs
  rcases h2 with rfl | ⟨b, off, rfl, hb, hx⟩
  · refine (toCellS_none w a cap).mono ?_
    rintro e w' ⟨rfl, h, h'⟩
    exact ⟨rfl, h, h', (fun i s e => by rw [List.eq_nil_of_length_eq_zero h1] at e; simp at e), fun j hj => by omega⟩
  · exact toCellS_someR w b off n cap xs h1 hn hb hx
set_option maxHeartbeats 1000000 in
theorem toRecord_anyR (w : World) (k t r : Int) (a : Option Addr) (n cap : Nat) (xs : List S5) (hn : n ≤ 1048576) (hs : Sl w w.heap.size a n xs) : Calls Tryz.prog 152 #[.agg #[.int .i64 k, .int .i64 t, .int .i64 r, .slice a n cap]] w fun e w' =>
    ∃ g, e = .returned (.agg #[.int .i64 k, .int .i64 t, .int .i64 r, .slice (some ⟨g, 0, none⟩) n n]) ∧ Below w.heap.size w w' ∧ w.heap.size ≤ g ∧ g < w'.heap.size ∧ SetsAt w' g 0 xs ∧ Room w' g (n * 5) := by
  go_enter Tryz.func152, Tryz.ntmps152
  go_wp2_with fail
  generalize hW : ((w.alloc (.cells #[.int .i64 k, .int .i64 t, .int .i64 r, .slice a n cap] 193)).alloc (.cells #[.int .i64 0, .int .i64 0, .int .i64 0, .slice none 0 0] 143)).alloc (.cells #[.int .i64 k, .int .i64 t, .int .i64 r, .slice none 0 0] 143) = W
  have hsz : W.heap.size = w.heap.size + 3 := by subst hW; simp
  have bW : Below w.heap.size w W := by subst hW; exact (((Below.refl _ _).alloc (Nat.le_refl _) _).alloc (by simp) _).alloc (by simp; omega) _
  have d0 : W.cell? ⟨w.heap.size + 1 + 1, 0, none⟩ = some (.int .i64 k) := by subst hW; go_simp
  have d1 : W.cell? ⟨w.heap.size + 1 + 1, 1, none⟩ = some (.int .i64 t) := by subst hW; go_simp
  have d2 : W.cell? ⟨w.heap.size + 1 + 1, 2, none⟩ = some (.int .i64 r) := by subst hW; go_simp
  have d3 : W.cell? ⟨w.heap.size + 1 + 1, 3, none⟩ = some (.slice none 0 0) := by subst hW; go_simp
  have e0 : W.cell? ⟨w.heap.size + 1, 0, none⟩ = some (.int .i64 0) := by subst hW; go_simp
  have e1 : W.cell? ⟨w.heap.size + 1, 1, none⟩ = some (.int .i64 0) := by subst hW; go_simp
  have e2 : W.cell? ⟨w.heap.size + 1, 2, none⟩ = some (.int .i64 0) := by subst hW; go_simp
  have e3 : W.cell? ⟨w.heap.size + 1, 3, none⟩ = some (.slice none 0 0) := by subst hW; go_simp
  have f3 : W.frozen? ⟨w.heap.size + 1 + 1, 3, none⟩ = false := by subst hW; go_simp
  have g0 : ∀ j, W.frozen? ⟨w.heap.size + 1, j, none⟩ = false := by intro j; subst hW; go_simp
  clear hW
  have hs3 : Sl W W.heap.size a n xs := (hs.below bW).mono (by omega)
  refine (toSetS_anyR _ a n cap xs hn hs3).mono ?_
  rintro e w1 ⟨rfl, b1, l1, s1, r1⟩
  rw [← b1.cell (p := ⟨w.heap.size + 1 + 1, 0, none⟩) (by simp; omega)] at d0
  rw [← b1.cell (p := ⟨w.heap.size + 1 + 1, 1, none⟩) (by simp; omega)] at d1
  rw [← b1.cell (p := ⟨w.heap.size + 1 + 1, 2, none⟩) (by simp; omega)] at d2
  rw [← b1.cell (p := ⟨w.heap.size + 1 + 1, 3, none⟩) (by simp; omega)] at d3
  rw [← b1.cell (p := ⟨w.heap.size + 1, 0, none⟩) (by simp; omega)] at e0
  rw [← b1.cell (p := ⟨w.heap.size + 1, 1, none⟩) (by simp; omega)] at e1
  rw [← b1.cell (p := ⟨w.heap.size + 1, 2, none⟩) (by simp; omega)] at e2
  rw [← b1.cell (p := ⟨w.heap.size + 1, 3, none⟩) (by simp; omega)] at e3
  rw [← b1.frozen (p := ⟨w.heap.size + 1 + 1, 3, none⟩) (by simp; omega)] at f3
  have g0' := (b1.frozen (p := ⟨w.heap.size + 1, 0, none⟩) (by simp; omega)).trans (g0 0)
  have g1' := (b1.frozen (p := ⟨w.heap.size + 1, 1, none⟩) (by simp; omega)).trans (g0 1)
  have g2' := (b1.frozen (p := ⟨w.heap.size + 1, 2, none⟩) (by simp; omega)).trans (g0 2)
  have g3' := (b1.frozen (p := ⟨w.heap.size + 1, 3, none⟩) (by simp; omega)).trans (g0 3)
  have K : Hid (SetsAt w1 W.heap.size 0 xs ∧ Room w1 W.heap.size (n * 5)) := ⟨s1, r1⟩
  have K2 : Hid (W.heap.size = w.heap.size + 3) := hsz
  clear s1 r1 g0 hs3 hsz
  go_wp2
  have hsz := K2.out
  refine bodyPost_ret (v := .agg #[.int .i64 k, .int .i64 t, .int .i64 r, .slice (some ⟨W.heap.size, 0, none⟩) n n]) (by simp [results, Tryz.results152, go_sem, e0, e1, e2, e3]) rfl ⟨W.heap.size, rfl, ?_, by omega, ?_, ?_, ?_⟩
  · exact (((((bW.trans (b1.mono (by omega))).setCell (p := ⟨_, _, none⟩) (by simp; omega) _).setCell (p := ⟨_, _, none⟩) (by simp) _).setCell (p := ⟨_, _, none⟩) (by simp) _).setCell (p := ⟨_, _, none⟩) (by simp) _).setCell (p := ⟨_, _, none⟩) (by simp) _
  · simpa [World.setCell] using l1
  · exact ((((K.out.1.far (by simp; omega) _).far (by simp; omega) _).far (by simp; omega) _).far (by simp; omega) _).far (by simp; omega) _
  · exact K.out.2.of_block ((Below.heap_setCell _ _ _ _ (by simp; omega)).trans ((Below.heap_setCell _ _ _ _ (by simp; omega)).trans ((Below.heap_setCell _ _ _ _ (by simp; omega)).trans ((Below.heap_setCell _ _ _ _ (by simp; omega)).trans (Below.heap_setCell _ _ _ _ (by simp; omega))))))
end Go.Proofs.YtdmpobegobfpjaaGreat
namespace Go.Proofs.YtdmpobegobfpjaaGreat
open Go.RowKit
set_option maxHeartbeats 1000000 in
theorem toCopy_anyR (w : World) (r : Int) (a : Option Addr) (n cap : Nat) (xs : List C2) (hn : n ≤ 1048576) (hs : SlC w w.heap.size a n xs) : Calls Tryz.prog 151 #[.agg #[.int .i64 r, .slice a n cap]] w fun e w' =>
    ∃ g, e = .returned (.agg #[.int .i64 r, .slice (some ⟨g, 0, none⟩) n n]) ∧ Below w.heap.size w w' ∧ w.heap.size ≤ g ∧ g < w'.heap.size ∧ CellsAt w' g 0 xs ∧ Room w' g (n * 2) := by
  go_enter Tryz.func151, Tryz.ntmps151
  go_wp2_with fail
  generalize hW : ((w.alloc (.cells #[.int .i64 r, .slice a n cap] 190)).alloc (.cells #[.int .i64 0, .slice none 0 0] 79)).alloc (.cells #[.int .i64 r, .slice none 0 0] 79) = W
  have hsz : W.heap.size = w.heap.size + 3 := by subst hW; simp
  have bW : Below w.heap.size w W := by subst hW; exact (((Below.refl _ _).alloc (Nat.le_refl _) _).alloc (by simp) _).alloc (by simp; omega) _
  have d0 : W.cell? ⟨w.heap.size + 1 + 1, 0, none⟩ = some (.int .i64 r) := by subst hW; go_simp
  have d1 : W.cell? ⟨w.heap.size + 1 + 1, 1, none⟩ = some (.slice none 0 0) := by subst hW; go_simp
  have e0 : W.cell? ⟨w.heap.size + 1, 0, none⟩ = some (.int .i64 0) := by subst hW; go_simp
  have e1 : W.cell? ⟨w.heap.size + 1, 1, none⟩ = some (.slice none 0 0) := by subst hW; go_simp
  have f1 : W.frozen? ⟨w.heap.size + 1 + 1, 1, none⟩ = false := by subst hW; go_simp
  have g0 : ∀ j, W.frozen? ⟨w.heap.size + 1, j, none⟩ = false := by intro j; subst hW; go_simp
  clear hW
  have hs3 : SlC W W.heap.size a n xs := (hs.below bW).mono (by omega)
  refine (toCellS_anyR _ a n cap xs hn hs3).mono ?_
  rintro e w1 ⟨rfl, b1, l1, s1, r1⟩
  rw [← b1.cell (p := ⟨w.heap.size + 1 + 1, 0, none⟩) (by simp; omega)] at d0
  rw [← b1.cell (p := ⟨w.heap.size + 1 + 1, 1, none⟩) (by simp; omega)] at d1
  rw [← b1.cell (p := ⟨w.heap.size + 1, 0, none⟩) (by simp; omega)] at e0
  rw [← b1.cell (p := ⟨w.heap.size + 1, 1, none⟩) (by simp; omega)] at e1
  rw [← b1.frozen (p := ⟨w.heap.size + 1 + 1, 1, none⟩) (by simp; omega)] at f1
  have g0' := (b1.frozen (p := ⟨w.heap.size + 1, 0, none⟩) (by simp; omega)).trans (g0 0)
  have g1' := (b1.frozen (p := ⟨w.heap.size + 1, 1, none⟩) (by simp; omega)).trans (g0 1)
  have K : Hid (CellsAt w1 W.heap.size 0 xs ∧ Room w1 W.heap.size (n * 2)) := ⟨s1, r1⟩
  have K2 : Hid (W.heap.size = w.heap.size + 3) := hsz
  clear s1 r1 g0 hs3 hsz
  go_wp2
  have hsz := K2.out
  refine bodyPost_ret (v := .agg #[.int .i64 r, .slice (some ⟨W.heap.size, 0, none⟩) n n]) (by simp [results, Tryz.results151, go_sem, e0, e1]) rfl ⟨W.heap.size, rfl, ?_, by omega, ?_, ?_, ?_⟩
  · exact (((bW.trans (b1.mono (by omega))).setCell (p := ⟨_, _, none⟩) (by simp; omega) _).setCell (p := ⟨_, _, none⟩) (by simp) _).setCell (p := ⟨_, _, none⟩) (by simp) _
  · simpa [World.setCell] using l1
  · exact ((K.out.1.far (by simp; omega) _).far (by simp; omega) _).far (by simp; omega) _
  · exact K.out.2.of_block ((Below.heap_setCell _ _ _ _ (by simp; omega)).trans ((Below.heap_setCell _ _ _ _ (by simp; omega)).trans (Below.heap_setCell _ _ _ _ (by simp; omega))))
def hdR (r : R4) : List Int := [r.kind, r.tx, r.region]
def lnR (r : R4) : Nat := r.sets.length
def AtR (w : World) (b : Nat) (r : R4) : Prop := SetsAt w b 0 r.sets ∧ Room w b (r.sets.length * 5)
theorem SetsAt.of_block {w w' : World} {b off : Nat} {xs : List S5} (h : SetsAt w b off xs) (e : w'.heap[b]? = w.heap[b]?) : SetsAt w' b off xs := fun i s hs => by
  obtain ⟨c0, c1, c2, c3, c4⟩ := h i s hs
  exact ⟨(World.cell?_of_block (a := ⟨b, _, none⟩) e).trans c0, (World.cell?_of_block (a := ⟨b, _, none⟩) e).trans c1, (World.cell?_of_block (a := ⟨b, _, none⟩) e).trans c2, (World.cell?_of_block (a := ⟨b, _, none⟩) e).trans c3, (World.cell?_of_block (a := ⟨b, _, none⟩) e).trans c4⟩
theorem CellsAt.of_block {w w' : World} {b off : Nat} {xs : List C2} (h : CellsAt w b off xs) (e : w'.heap[b]? = w.heap[b]?) : CellsAt w' b off xs := fun i s hs => by
  obtain ⟨c0, c1⟩ := h i s hs
  exact ⟨(World.cell?_of_block (a := ⟨b, _, none⟩) e).trans c0, (World.cell?_of_block (a := ⟨b, _, none⟩) e).trans c1⟩
theorem AtR.of_block (w w' : World) (b : Nat) (r : R4) (e : w'.heap[b]? = w.heap[b]?) (h : AtR w b r) : AtR w' b r := ⟨h.1.of_block e, h.2.of_block e⟩
def hdK (k : K2) : List Int := [k.region]
def lnK (k : K2) : Nat := k.cells.length
def AtK (w : World) (b : Nat) (k : K2) : Prop := CellsAt w b 0 k.cells ∧ Room w b (k.cells.length * 2)
theorem AtK.of_block (w w' : World) (b : Nat) (r : K2) (e : w'.heap[b]? = w.heap[b]?) (h : AtK w b r) : AtK w' b r := ⟨h.1.of_block e, h.2.of_block e⟩
theorem ownR_sl {w : World} {base b n : Nat} {rs : List R4} {g : Nat → Nat} (h : OwnG 4 hdR lnR AtR w base b n rs g) (hb : b < w.heap.size) : SlR w w.heap.size (some ⟨b, 0, none⟩) n rs :=
  ⟨h.len, .inr ⟨b, 0, rfl, hb, fun i r e => by
    rw [Nat.zero_add]
    obtain ⟨cap, h1, h2⟩ := h.tail i r e
    exact ⟨h.head i r e 0 _ rfl, h.head i r e 1 _ rfl, h.head i r e 2 _ rfl, _, cap, h1, ⟨rfl, .inr ⟨_, 0, rfl, h.lt i (h.idx e), (h.sub i r e).1⟩⟩, h2⟩⟩⟩
theorem ownK_sl {w : World} {base b n : Nat} {rs : List K2} {g : Nat → Nat} (h : OwnG 2 hdK lnK AtK w base b n rs g) (hb : b < w.heap.size) : SlK w w.heap.size (some ⟨b, 0, none⟩) n rs :=
  ⟨h.len, .inr ⟨b, 0, rfl, hb, fun i r e => by
    rw [Nat.zero_add]
    obtain ⟨cap, h1, h2⟩ := h.tail i r e
    exact ⟨h.head i r e 0 _ rfl, _, cap, h1, ⟨rfl, .inr ⟨_, 0, rfl, h.lt i (h.idx e), (h.sub i r e).1⟩⟩, h2⟩⟩⟩
theorem info_recs : (Tryz.prog.info? 143).map (fun i => (i.zero, i.size, i.bytes)) = some (some (.agg #[.int .i64 0, .int .i64 0, .int .i64 0, .slice none 0 0]), 4, 48) := by kernel_rfl
theorem make_recs (n : Nat) (hn : n ≤ 1048576) (w : World) : (Instr.makeSlice 81 (.int .i64 (n : Int)) (.int .i64 (n : Int))).run Tryz.prog w = .ok (.slice (some ⟨w.heap.size, 0, none⟩) n n) (w.alloc (.cells (madeCells #[.int .i64 0, .int .i64 0, .int .i64 0, .slice none 0 0] (n * 4)) 143)) := by
  obtain ⟨i, hi, hzz⟩ := Option.map_eq_some_iff.1 info_recs
  simp only [Prod.mk.injEq] at hzz
  obtain ⟨hz, hs, hb⟩ := hzz
  have := run_make (P := Tryz.prog) w 81 143 i _ Tryz.underlying81 hi hz .i64 .i64 (n : Int) (n : Int) (by omega) (by omega) (by rw [hb]; omega) (by omega)
  rw [hs] at this
  simpa [Value.cells] using this
set_option maxHeartbeats 4000000 in
theorem toRecordS_any (w : World) (a : Option Addr) (n cap : Nat) (rs : List R4) (hn : n ≤ 1048576) (hl : ∀ r ∈ rs, r.sets.length ≤ 1048576) (hs : SlR w w.heap.size a n rs) : Calls Tryz.prog 107 #[.slice a n cap] w fun e w' =>
    ∃ g, e = .returned (.slice (some ⟨w.heap.size, 0, none⟩) n n) ∧ Below w.heap.size w w' ∧ w.heap.size < w'.heap.size ∧ OwnG 4 hdR lnR AtR w' w.heap.size w.heap.size n rs g ∧ Room w' w.heap.size (n * 4) := by
  obtain ⟨hx, hs⟩ := hs
  have hmk := make_recs n hn
  go_enter Tryz.func107, Tryz.ntmps107
  go_wp2
  go_loopw [4] (fun i wr => ∃ (j : Nat) (g : Nat → Nat), j ≤ n ∧ i = .int .i64 j ∧ Below w.heap.size w wr ∧ w.heap.size < wr.heap.size ∧ Room wr w.heap.size (n * 4) ∧ OwnG 4 hdR lnR AtR wr w.heap.size w.heap.size j (rs.take j) g) (fun i _ => n - (intOf i).toNat)
  case atStart => exact ⟨0, fun _ => 0, Nat.zero_le _, rfl, (Below.refl _ _).alloc (Nat.le_refl _) _, by simp, room_made _ _ _ _, by rw [List.take_zero]; exact OwnG.nil _ _ _ _⟩
  case round =>
    obtain ⟨j, g, hj, rfl, hbl, hsz, hro, hown⟩ := hrel
    by_cases hlt : j < n
    · rcases hs with hs | ⟨b, off, rfl, hb, h1⟩
      · omega
      · have hat := h1 j _ (atR_of (by omega))
        obtain ⟨a', cap', hc, hsl, _⟩ := hat.c3
        have e0 := (hbl.cell (p := ⟨b, off + j * 4, none⟩) hb).trans hat.c0
        have e1 := (hbl.cell (p := ⟨b, off + j * 4 + 1, none⟩) hb).trans hat.c1
        have e2 := (hbl.cell (p := ⟨b, off + j * 4 + 2, none⟩) hb).trans hat.c2
        have e3 := (hbl.cell (p := ⟨b, off + j * 4 + 3, none⟩) hb).trans hc
        have hcl := toRecord_anyR wr (atR rs j).kind (atR rs j).tx (atR rs j).region a' (atR rs j).sets.length cap' (atR rs j).sets (hl _ (List.mem_of_getElem? (atR_of (by omega)))) ((hsl.below hbl).mono hbl.size)
        have K : Hid (Room wr w.heap.size (n * 4) ∧ OwnG 4 hdR lnR AtR wr w.heap.size w.heap.size j (rs.take j) g ∧ Below w.heap.size w wr ∧ w.heap.size < wr.heap.size ∧ rs.take (j + 1) = rs.take j ++ [atR rs j]) := ⟨hro, hown, hbl, hsz, by rw [List.take_add_one, atR_of (by omega)]; rfl⟩
        clear hro hown hbl hmk h1 hx hl hsl hc hat
        generalize atR rs j = r at *
        go_wp2_with fail
        refine hcl.mono ?_
        clear hcl
        rintro e w1 ⟨q, rfl, b1, lq, hq, hnu, hrm⟩
        have hr1 := K.out.1.below b1 K.out.2.2.2.1
        obtain ⟨z0, d0, f0⟩ := hr1 (j * 4) (by omega)
        obtain ⟨z1, d1, f1⟩ := hr1 (j * 4 + 1) (by omega)
        obtain ⟨z2, d2, f2⟩ := hr1 (j * 4 + 2) (by omega)
        obtain ⟨z3, d3, f3⟩ := hr1 (j * 4 + 3) (by omega)
        have K1 : Hid (Below wr.heap.size wr w1 ∧ wr.heap.size ≤ q ∧ q < w1.heap.size ∧ AtR w1 q r ∧ Room w1 w.heap.size (n * 4)) := ⟨b1, lq, hq, ⟨hnu, hrm⟩, hr1⟩
        clear b1 lq hq hnu hrm hr1
        go_wp2
        obtain ⟨hro, hown, hbl, hsz, htk⟩ := K.out
        obtain ⟨b1, lq, hq, hat, hr1⟩ := K1.out
        have h1 := hown.later AtR.of_block b1 hsz
        obtain ⟨V, hV⟩ : ∃ V, ((((w1.setCell ⟨w.heap.size, j * 4, none⟩ (.int .i64 r.kind)).setCell ⟨w.heap.size, j * 4 + 1, none⟩ (.int .i64 r.tx)).setCell ⟨w.heap.size, j * 4 + 2, none⟩ (.int .i64 r.region)).setCell ⟨w.heap.size, j * 4 + 3, none⟩ (.slice (some ⟨q, 0, none⟩) r.sets.length r.sets.length)) = V := ⟨_, rfl⟩
        have sV : V.heap.size = w1.heap.size := by rw [← hV]; simp [World.setCell]
        have oV : ∀ x, x ≠ w.heap.size → V.heap[x]? = w1.heap[x]? := fun x hx => by
          rw [← hV]; exact ((Below.heap_setCell _ _ _ _ (fun e => hx e)).trans ((Below.heap_setCell _ _ _ _ (fun e => hx e)).trans ((Below.heap_setCell _ _ _ _ (fun e => hx e)).trans (Below.heap_setCell _ _ _ _ (fun e => hx e)))))
        have cV : ∀ o, o < j * 4 → V.cell? ⟨w.heap.size, o, none⟩ = w1.cell? ⟨w.heap.size, o, none⟩ := fun o ho => by
          rw [← hV]; rw [cell_set_other (by omega), cell_set_other (by omega), cell_set_other (by omega), cell_set_other (by omega)]
        have n0 : V.cell? ⟨w.heap.size, j * 4, none⟩ = some (.int .i64 r.kind) := by
          rw [← hV]
          rw [cell_set_other (by omega), cell_set_other (by omega), cell_set_other (by omega)]
          exact cell_set_same (by exact d0)
        have n1 : V.cell? ⟨w.heap.size, j * 4 + 1, none⟩ = some (.int .i64 r.tx) := by
          rw [← hV]
          rw [cell_set_other (by omega), cell_set_other (by omega)]
          exact cell_set_same (by rw [cell_set_other (by omega)]; exact d1)
        have n2 : V.cell? ⟨w.heap.size, j * 4 + 2, none⟩ = some (.int .i64 r.region) := by
          rw [← hV]
          rw [cell_set_other (by omega)]
          exact cell_set_same (by rw [cell_set_other (by omega), cell_set_other (by omega)]; exact d2)
        have nT : V.cell? ⟨w.heap.size, j * 4 + (4 - 1), none⟩ = some (.slice (some ⟨q, 0, none⟩) r.sets.length r.sets.length) := by
          rw [← hV]
          exact cell_set_same (by rw [cell_set_other (by omega), cell_set_other (by omega), cell_set_other (by omega)]; exact d3)
        have rV : Room V w.heap.size (n * 4) := by rw [← hV]; exact ((((hr1.set _).set _).set _).set _)
        have bV : Below w.heap.size w V := by rw [← hV]; exact (((((hbl.trans (b1.mono hbl.size)).setCell (p := ⟨w.heap.size, j * 4, none⟩) (Nat.le_refl _) _).setCell (p := ⟨w.heap.size, j * 4 + 1, none⟩) (Nat.le_refl _) _).setCell (p := ⟨w.heap.size, j * 4 + 2, none⟩) (Nat.le_refl _) _).setCell (p := ⟨w.heap.size, j * 4 + 3, none⟩) (Nat.le_refl _) _)
        have ho2 := h1.next AtR.of_block (r := r) (q := q) (cap := r.sets.length) (V := V) (by omega) (fun r => by simp [hdR]) (by omega) oV cV (fun t z ht => by
          match t, ht with
          | 0, ht => cases ht; exact n0
          | 1, ht => cases ht; exact n1
          | 2, ht => cases ht; exact n2
          | t + 3, ht => simp [hdR] at ht) nT (Nat.le_refl _) (by omega) (by omega) (by omega) (AtR.of_block _ _ _ _ (oV q (by omega)) hat) (fun i hi e => by have := hown.lt i hi; omega)
        rw [← htk] at ho2
        rw [hV]
        exact ⟨⟨j + 1, _, by omega, by simp, bV, by have := b1.size; omega, rV, ho2⟩, by simp [intOf]; omega⟩
    · have : j = n := by omega
      subst this
      have hd : decide (j < j) = false := by simp
      rw [← hx, List.take_length, hx] at hown
      have K : Hid (OwnG 4 hdR lnR AtR wr w.heap.size w.heap.size j rs g ∧ Room wr w.heap.size (j * 4)) := ⟨hown, hro⟩
      clear hown hs hro
      go_wp2
      go_ret
      exact ⟨g, rfl, hbl, hsz, K.out.1, K.out.2⟩
theorem info_cops : (Tryz.prog.info? 79).map (fun i => (i.zero, i.size, i.bytes)) = some (some (.agg #[.int .i64 0, .slice none 0 0]), 2, 32) := by kernel_rfl
theorem make_cops (n : Nat) (hn : n ≤ 1048576) (w : World) : (Instr.makeSlice 80 (.int .i64 (n : Int)) (.int .i64 (n : Int))).run Tryz.prog w = .ok (.slice (some ⟨w.heap.size, 0, none⟩) n n) (w.alloc (.cells (madeCells #[.int .i64 0, .slice none 0 0] (n * 2)) 79)) := by
  obtain ⟨i, hi, hzz⟩ := Option.map_eq_some_iff.1 info_cops
  simp only [Prod.mk.injEq] at hzz
  obtain ⟨hz, hs, hb⟩ := hzz
  have := run_make (P := Tryz.prog) w 80 79 i _ Tryz.underlying80 hi hz .i64 .i64 (n : Int) (n : Int) (by omega) (by omega) (by rw [hb]; omega) (by omega)
  rw [hs] at this
  simpa [Value.cells] using this
set_option maxHeartbeats 4000000 in
theorem toCopyS_any (w : World) (a : Option Addr) (n cap : Nat) (rs : List K2) (hn : n ≤ 1048576) (hl : ∀ r ∈ rs, r.cells.length ≤ 1048576) (hs : SlK w w.heap.size a n rs) : Calls Tryz.prog 106 #[.slice a n cap] w fun e w' =>
    ∃ g, e = .returned (.slice (some ⟨w.heap.size, 0, none⟩) n n) ∧ Below w.heap.size w w' ∧ w.heap.size < w'.heap.size ∧ OwnG 2 hdK lnK AtK w' w.heap.size w.heap.size n rs g ∧ Room w' w.heap.size (n * 2) := by
  obtain ⟨hx, hs⟩ := hs
  have hmk := make_cops n hn
  go_enter Tryz.func106, Tryz.ntmps106
  go_wp2
  go_loopw [4] (fun i wr => ∃ (j : Nat) (g : Nat → Nat), j ≤ n ∧ i = .int .i64 j ∧ Below w.heap.size w wr ∧ w.heap.size < wr.heap.size ∧ Room wr w.heap.size (n * 2) ∧ OwnG 2 hdK lnK AtK wr w.heap.size w.heap.size j (rs.take j) g) (fun i _ => n - (intOf i).toNat)
  case atStart => exact ⟨0, fun _ => 0, Nat.zero_le _, rfl, (Below.refl _ _).alloc (Nat.le_refl _) _, by simp, room_made _ _ _ _, by rw [List.take_zero]; exact OwnG.nil _ _ _ _⟩
  case round =>
    obtain ⟨j, g, hj, rfl, hbl, hsz, hro, hown⟩ := hrel
    by_cases hlt : j < n
    · rcases hs with hs | ⟨b, off, rfl, hb, h1⟩
      · omega
      · have hat := h1 j _ (atK_of (by omega))
        obtain ⟨a', cap', hc, hsl, _⟩ := hat.c1
        have e0 := (hbl.cell (p := ⟨b, off + j * 2, none⟩) hb).trans hat.c0
        have e1 := (hbl.cell (p := ⟨b, off + j * 2 + 1, none⟩) hb).trans hc
        have hcl := toCopy_anyR wr (atK rs j).region a' (atK rs j).cells.length cap' (atK rs j).cells (hl _ (List.mem_of_getElem? (atK_of (by omega)))) ((hsl.below hbl).mono hbl.size)
        have K : Hid (Room wr w.heap.size (n * 2) ∧ OwnG 2 hdK lnK AtK wr w.heap.size w.heap.size j (rs.take j) g ∧ Below w.heap.size w wr ∧ w.heap.size < wr.heap.size ∧ rs.take (j + 1) = rs.take j ++ [atK rs j]) := ⟨hro, hown, hbl, hsz, by rw [List.take_add_one, atK_of (by omega)]; rfl⟩
        clear hro hown hbl hmk h1 hx hl hsl hc hat
        generalize atK rs j = r at *
        go_wp2_with fail
        refine hcl.mono ?_
        clear hcl
        rintro e w1 ⟨q, rfl, b1, lq, hq, hnu, hrm⟩
        have hr1 := K.out.1.below b1 K.out.2.2.2.1
        obtain ⟨z0, d0, f0⟩ := hr1 (j * 2) (by omega)
        obtain ⟨z1, d1, f1⟩ := hr1 (j * 2 + 1) (by omega)
        have K1 : Hid (Below wr.heap.size wr w1 ∧ wr.heap.size ≤ q ∧ q < w1.heap.size ∧ AtK w1 q r ∧ Room w1 w.heap.size (n * 2)) := ⟨b1, lq, hq, ⟨hnu, hrm⟩, hr1⟩
        clear b1 lq hq hnu hrm hr1
        go_wp2
        obtain ⟨hro, hown, hbl, hsz, htk⟩ := K.out
        obtain ⟨b1, lq, hq, hat, hr1⟩ := K1.out
        have h1 := hown.later AtK.of_block b1 hsz
        obtain ⟨V, hV⟩ : ∃ V, ((w1.setCell ⟨w.heap.size, j * 2, none⟩ (.int .i64 r.region)).setCell ⟨w.heap.size, j * 2 + 1, none⟩ (.slice (some ⟨q, 0, none⟩) r.cells.length r.cells.length)) = V := ⟨_, rfl⟩
        have sV : V.heap.size = w1.heap.size := by rw [← hV]; simp [World.setCell]
        have oV : ∀ x, x ≠ w.heap.size → V.heap[x]? = w1.heap[x]? := fun x hx => by
          rw [← hV]; exact ((Below.heap_setCell _ _ _ _ (fun e => hx e)).trans (Below.heap_setCell _ _ _ _ (fun e => hx e)))
        have cV : ∀ o, o < j * 2 → V.cell? ⟨w.heap.size, o, none⟩ = w1.cell? ⟨w.heap.size, o, none⟩ := fun o ho => by
          rw [← hV]; rw [cell_set_other (by omega), cell_set_other (by omega)]
        have n0 : V.cell? ⟨w.heap.size, j * 2, none⟩ = some (.int .i64 r.region) := by
          rw [← hV]
          rw [cell_set_other (by omega)]
          exact cell_set_same (by exact d0)
        have nT : V.cell? ⟨w.heap.size, j * 2 + (2 - 1), none⟩ = some (.slice (some ⟨q, 0, none⟩) r.cells.length r.cells.length) := by
          rw [← hV]
          exact cell_set_same (by rw [cell_set_other (by omega)]; exact d1)
        have rV : Room V w.heap.size (n * 2) := by rw [← hV]; exact ((hr1.set _).set _)
        have bV : Below w.heap.size w V := by rw [← hV]; exact (((hbl.trans (b1.mono hbl.size)).setCell (p := ⟨w.heap.size, j * 2, none⟩) (Nat.le_refl _) _).setCell (p := ⟨w.heap.size, j * 2 + 1, none⟩) (Nat.le_refl _) _)
        have ho2 := h1.next AtK.of_block (r := r) (q := q) (cap := r.cells.length) (V := V) (by omega) (fun r => by simp [hdK]) (by omega) oV cV (fun t z ht => by
          match t, ht with
          | 0, ht => cases ht; exact n0
          | t + 1, ht => simp [hdK] at ht) nT (Nat.le_refl _) (by omega) (by omega) (by omega) (AtK.of_block _ _ _ _ (oV q (by omega)) hat) (fun i hi e => by have := hown.lt i hi; omega)
        rw [← htk] at ho2
        rw [hV]
        exact ⟨⟨j + 1, _, by omega, by simp, bV, by have := b1.size; omega, rV, ho2⟩, by simp [intOf]; omega⟩
    · have : j = n := by omega
      subst this
      have hd : decide (j < j) = false := by simp
      rw [← hx, List.take_length, hx] at hown
      have K : Hid (OwnG 2 hdK lnK AtK wr w.heap.size w.heap.size j rs g ∧ Room wr w.heap.size (j * 2)) := ⟨hown, hro⟩
      clear hown hs hro
      go_wp2
      go_ret
      exact ⟨g, rfl, hbl, hsz, K.out.1, K.out.2⟩
structure OwnM (w : World) (B0 B1 B2 B3 : Nat) (v : MV) (m : M4) (gk gr : Nat → Nat) : Prop where
  k : ∃ b, v.ac = some ⟨b, 0, none⟩ ∧ B0 ≤ b ∧ b < B1 ∧ OwnG 2 hdK lnK AtK w B0 b m.copies.length m.copies gk ∧ (∀ i, i < m.copies.length → gk i < B1) ∧ Room w b (m.copies.length * 2)
  r : ∃ b, v.al = some ⟨b, 0, none⟩ ∧ B1 ≤ b ∧ b < B2 ∧ OwnG 4 hdR lnR AtR w B1 b m.log.length m.log gr ∧ (∀ i, i < m.log.length → gr i < B2) ∧ Room w b (m.log.length * 4)
  n : ∃ b, v.ad = some ⟨b, 0, none⟩ ∧ B2 ≤ b ∧ b < B3 ∧ NumsAt w b 0 m.cleared ∧ Room w b m.cleared.length
  o1 : B0 ≤ B1
  o2 : B1 ≤ B2
  o3 : B2 ≤ B3
  sz : B3 ≤ w.heap.size
theorem OwnM.sl {w : World} {B0 B1 B2 B3 : Nat} {v : MV} {m : M4} {gk gr : Nat → Nat} (h : OwnM w B0 B1 B2 B3 v m gk gr) : SlM w v m := by
  have h1 := h.o1; have h2 := h.o2; have h3 := h.o3; have h4 := h.sz
  obtain ⟨b, e, _, l, o, _, _⟩ := h.k
  obtain ⟨b', e', _, l', o', _, _⟩ := h.r
  obtain ⟨b'', e'', _, l'', o'', _⟩ := h.n
  exact ⟨by rw [e]; exact ownK_sl o (by omega), by rw [e']; exact ownR_sl o' (by omega), by rw [e'']; exact ⟨rfl, .inr ⟨b'', 0, rfl, by omega, o''⟩⟩⟩
theorem OwnM.kept {w w' : World} {B0 B1 B2 B3 : Nat} {v : MV} {m : M4} {gk gr : Nat → Nat} (h : OwnM w B0 B1 B2 B3 v m gk gr) (hs : w.heap.size ≤ w'.heap.size) (hk : ∀ q, B0 ≤ q → q < B3 → w'.heap[q]? = w.heap[q]?) : OwnM w' B0 B1 B2 B3 v m gk gr := by
  have h1 := h.o1; have h2 := h.o2; have h3 := h.o3; have h4 := h.sz
  obtain ⟨b, e, l1, l, o, og, rm⟩ := h.k
  obtain ⟨b', e', l1', l', o', og', rm'⟩ := h.r
  obtain ⟨b'', e'', l1'', l'', o'', rm''⟩ := h.n
  have hb := hk b (by omega) (by omega)
  have hb' := hk b' (by omega) (by omega)
  have hb'' := hk b'' (by omega) (by omega)
  exact ⟨⟨b, e, l1, l, o.of_blocks AtK.of_block hs hb (fun i hi => hk _ (o.low i hi) (by have := og i hi; omega)), og, rm.of_block hb⟩,
    ⟨b', e', l1', l', o'.of_blocks AtR.of_block hs hb' (fun i hi => hk _ (by have := o'.low i hi; omega) (by have := og' i hi; omega)), og', rm'.of_block hb'⟩,
    ⟨b'', e'', l1'', l'', o''.of_block hb'', rm''.of_block hb''⟩, h1, h2, h3, by omega⟩
structure TP (s : Nat) (alive : Bool) (al ad : Value) (X : World) (s1 s2 s3 : Value) : Prop where
  a2 : X.cell? ⟨s, 2, none⟩ = some al
  a3 : X.cell? ⟨s, 3, none⟩ = some ad
  o0 : X.cell? ⟨s + 1 + 1, 0, none⟩ = some (.bool alive)
  o1 : X.cell? ⟨s + 1 + 1, 1, none⟩ = some s1
  o2 : X.cell? ⟨s + 1 + 1, 2, none⟩ = some s2
  o3 : X.cell? ⟨s + 1 + 1, 3, none⟩ = some s3
  fo : ∀ j, X.frozen? ⟨s + 1 + 1, j, none⟩ = false
  r0 : X.cell? ⟨s + 1, 0, none⟩ = some (.bool false)
  r1 : X.cell? ⟨s + 1, 1, none⟩ = some (.slice none 0 0)
  r2 : X.cell? ⟨s + 1, 2, none⟩ = some (.slice none 0 0)
  r3 : X.cell? ⟨s + 1, 3, none⟩ = some (.slice none 0 0)
  fr : ∀ j, X.frozen? ⟨s + 1, j, none⟩ = false
  lt : s + 2 < X.heap.size
theorem TP.below {s : Nat} {alive : Bool} {al ad : Value} {X Y : World} {s1 s2 s3 : Value} (h : TP s alive al ad X s1 s2 s3) (hb : Below X.heap.size X Y) : TP s alive al ad Y s1 s2 s3 := by
  have l := h.lt
  have ea := hb.block s (by omega)
  have er := hb.block (s + 1) (by omega)
  have eo := hb.block (s + 1 + 1) (by omega)
  have c : ∀ {b j : Nat} {u : Value}, Y.heap[b]? = X.heap[b]? → X.cell? ⟨b, j, none⟩ = some u → Y.cell? ⟨b, j, none⟩ = some u := fun {b j u} e h => (World.cell?_of_block (a := ⟨b, j, none⟩) e).trans h
  exact ⟨c ea h.a2, c ea h.a3, c eo h.o0, c eo h.o1, c eo h.o2, c eo h.o3, fun j => (World.frozen?_of_block (a := ⟨s + 1 + 1, j, none⟩) eo).trans (h.fo j), c er h.r0, c er h.r1, c er h.r2, c er h.r3, fun j => (World.frozen?_of_block (a := ⟨s + 1, j, none⟩) er).trans (h.fr j), Nat.lt_of_lt_of_le l hb.size⟩
theorem TP.set1 {s : Nat} {alive : Bool} {al ad : Value} {X : World} {s1 s2 s3 : Value} (h : TP s alive al ad X s1 s2 s3) (v : Value) : TP s alive al ad (X.setCell ⟨s + 1 + 1, 1, none⟩ v) v s2 s3 :=
  ⟨(cell_set_far (by show s + 1 + 1 ≠ s; omega) v).trans h.a2, (cell_set_far (by show s + 1 + 1 ≠ s; omega) v).trans h.a3, (cell_set_other (by omega)).trans h.o0, cell_set_same h.o1, (cell_set_other (by omega)).trans h.o2, (cell_set_other (by omega)).trans h.o3, fun j => by rw [World.frozen?_setCell]; exact h.fo j, (cell_set_far (by simp) v).trans h.r0, (cell_set_far (by simp) v).trans h.r1, (cell_set_far (by simp) v).trans h.r2, (cell_set_far (by simp) v).trans h.r3, fun j => by rw [World.frozen?_setCell]; exact h.fr j, by simpa [World.setCell] using h.lt⟩
theorem TP.set2 {s : Nat} {alive : Bool} {al ad : Value} {X : World} {s1 s2 s3 : Value} (h : TP s alive al ad X s1 s2 s3) (v : Value) : TP s alive al ad (X.setCell ⟨s + 1 + 1, 2, none⟩ v) s1 v s3 :=
  ⟨(cell_set_far (by show s + 1 + 1 ≠ s; omega) v).trans h.a2, (cell_set_far (by show s + 1 + 1 ≠ s; omega) v).trans h.a3, (cell_set_other (by omega)).trans h.o0, (cell_set_other (by omega)).trans h.o1, cell_set_same h.o2, (cell_set_other (by omega)).trans h.o3, fun j => by rw [World.frozen?_setCell]; exact h.fo j, (cell_set_far (by simp) v).trans h.r0, (cell_set_far (by simp) v).trans h.r1, (cell_set_far (by simp) v).trans h.r2, (cell_set_far (by simp) v).trans h.r3, fun j => by rw [World.frozen?_setCell]; exact h.fr j, by simpa [World.setCell] using h.lt⟩
theorem TP.set3 {s : Nat} {alive : Bool} {al ad : Value} {X : World} {s1 s2 s3 : Value} (h : TP s alive al ad X s1 s2 s3) (v : Value) : TP s alive al ad (X.setCell ⟨s + 1 + 1, 3, none⟩ v) s1 s2 v :=
  ⟨(cell_set_far (by show s + 1 + 1 ≠ s; omega) v).trans h.a2, (cell_set_far (by show s + 1 + 1 ≠ s; omega) v).trans h.a3, (cell_set_other (by omega)).trans h.o0, (cell_set_other (by omega)).trans h.o1, (cell_set_other (by omega)).trans h.o2, cell_set_same h.o3, fun j => by rw [World.frozen?_setCell]; exact h.fo j, (cell_set_far (by simp) v).trans h.r0, (cell_set_far (by simp) v).trans h.r1, (cell_set_far (by simp) v).trans h.r2, (cell_set_far (by simp) v).trans h.r3, fun j => by rw [World.frozen?_setCell]; exact h.fr j, by simpa [World.setCell] using h.lt⟩
set_option maxHeartbeats 4000000 in
theorem toMachine_any (w : World) (v : MV) (m : M4) (hk : m.copies.length ≤ 1048576) (hks : ∀ r ∈ m.copies, r.cells.length ≤ 1048576) (hr : m.log.length ≤ 1048576) (hrs : ∀ r ∈ m.log, r.sets.length ≤ 1048576) (hn : m.cleared.length ≤ 1048576) (hs : SlM w v m) : Calls Tryz.prog 60 #[v.val m] w fun e w' =>
    ∃ u B1 B2 B3 gk gr, e = .returned (u.val m) ∧ OwnM w' (w.heap.size + 3) B1 B2 B3 u m gk gr ∧ Below w.heap.size w w' := by
  obtain ⟨ac, cc, al, cl, ad, cd⟩ := v
  have H : Hid (SlM w ⟨ac, cc, al, cl, ad, cd⟩ m ∧ (∀ r ∈ m.copies, r.cells.length ≤ 1048576) ∧ (∀ r ∈ m.log, r.sets.length ≤ 1048576)) := ⟨hs, hks, hrs⟩
  clear hs hks hrs
  simp only [MV.val]
  have tp : TP w.heap.size m.alive (.slice al m.log.length cl) (.slice ad m.cleared.length cd) (((w.alloc (.cells #[.bool m.alive, .slice ac m.copies.length cc, .slice al m.log.length cl, .slice ad m.cleared.length cd] 92)).alloc (.cells #[.bool false, .slice none 0 0, .slice none 0 0, .slice none 0 0] 83)).alloc (.cells #[.bool m.alive, .slice none 0 0, .slice none 0 0, .slice none 0 0] 83)) (.slice none 0 0) (.slice none 0 0) (.slice none 0 0) := by
    refine ⟨?_, ?_, ?_, ?_, ?_, ?_, ?_, ?_, ?_, ?_, ?_, ?_, ?_⟩
    all_goals first | (intro j; go_simp; done) | (go_simp; done) | (simp; done)
  have bW : Below w.heap.size w (((w.alloc (.cells #[.bool m.alive, .slice ac m.copies.length cc, .slice al m.log.length cl, .slice ad m.cleared.length cd] 92)).alloc (.cells #[.bool false, .slice none 0 0, .slice none 0 0, .slice none 0 0] 83)).alloc (.cells #[.bool m.alive, .slice none 0 0, .slice none 0 0, .slice none 0 0] 83)) := (((Below.refl _ _).alloc (Nat.le_refl _) _).alloc (by simp) _).alloc (by simp; omega) _
  have hsz : (((w.alloc (.cells #[.bool m.alive, .slice ac m.copies.length cc, .slice al m.log.length cl, .slice ad m.cleared.length cd] 92)).alloc (.cells #[.bool false, .slice none 0 0, .slice none 0 0, .slice none 0 0] 83)).alloc (.cells #[.bool m.alive, .slice none 0 0, .slice none 0 0, .slice none 0 0] 83)).heap.size = w.heap.size + 3 := by simp
  have TW : Hid (TP w.heap.size m.alive (.slice al m.log.length cl) (.slice ad m.cleared.length cd) (((w.alloc (.cells #[.bool m.alive, .slice ac m.copies.length cc, .slice al m.log.length cl, .slice ad m.cleared.length cd] 92)).alloc (.cells #[.bool false, .slice none 0 0, .slice none 0 0, .slice none 0 0] 83)).alloc (.cells #[.bool m.alive, .slice none 0 0, .slice none 0 0, .slice none 0 0] 83)) (.slice none 0 0) (.slice none 0 0) (.slice none 0 0) ∧ Below w.heap.size w (((w.alloc (.cells #[.bool m.alive, .slice ac m.copies.length cc, .slice al m.log.length cl, .slice ad m.cleared.length cd] 92)).alloc (.cells #[.bool false, .slice none 0 0, .slice none 0 0, .slice none 0 0] 83)).alloc (.cells #[.bool m.alive, .slice none 0 0, .slice none 0 0, .slice none 0 0] 83)) ∧ (((w.alloc (.cells #[.bool m.alive, .slice ac m.copies.length cc, .slice al m.log.length cl, .slice ad m.cleared.length cd] 92)).alloc (.cells #[.bool false, .slice none 0 0, .slice none 0 0, .slice none 0 0] 83)).alloc (.cells #[.bool m.alive, .slice none 0 0, .slice none 0 0, .slice none 0 0] 83)).heap.size = w.heap.size + 3) := ⟨tp, bW, hsz⟩
  clear tp bW hsz
  go_enter Tryz.func60, Tryz.ntmps60
  go_wp2_with fail
  generalize ((w.alloc (.cells #[.bool m.alive, .slice ac m.copies.length cc, .slice al m.log.length cl, .slice ad m.cleared.length cd] 92)).alloc (.cells #[.bool false, .slice none 0 0, .slice none 0 0, .slice none 0 0] 83)).alloc (.cells #[.bool m.alive, .slice none 0 0, .slice none 0 0, .slice none 0 0] 83) = W at *
  refine (toCopyS_any W ac m.copies.length cc m.copies hk H.out.2.1 (H.out.1.later TW.out.2.1).k).mono ?_
  rintro e w1 ⟨gk, rfl, b1, l1, o1, rm1⟩
  have t1 := TW.out.1.below b1
  have B1 : Hid (Below w.heap.size w w1 ∧ W.heap.size < w1.heap.size ∧ OwnG 2 hdK lnK AtK w1 W.heap.size W.heap.size m.copies.length m.copies gk ∧ Room w1 W.heap.size (m.copies.length * 2)) := ⟨TW.out.2.1.trans (b1.mono TW.out.2.1.size), l1, o1, rm1⟩
  clear b1 l1 o1 rm1
  have T1 : Hid (TP w.heap.size m.alive (.slice al m.log.length cl) (.slice ad m.cleared.length cd) (w1.setCell ⟨w.heap.size + 1 + 1, 1, none⟩ (.slice (some ⟨W.heap.size, 0, none⟩) m.copies.length m.copies.length)) (.slice (some ⟨W.heap.size, 0, none⟩) m.copies.length m.copies.length) (.slice none 0 0) (.slice none 0 0)) := t1.set1 _
  have a2 := t1.a2
  have p1 := t1.o1
  have f1 := t1.fo 1
  clear t1
  have far : ∀ (V : World) (x o : Nat) (u : Value), x ≠ w.heap.size + 1 + 1 → (V.setCell ⟨w.heap.size + 1 + 1, o, none⟩ u).heap[x]? = V.heap[x]? := fun V x o u h => Below.heap_setCell _ _ _ _ (fun e => h e)
  have ssz : ∀ (V : World) (p : Addr) (u : Value), (V.setCell p u).heap.size = V.heap.size := fun V p u => by simp [World.setCell]
  have FAR : Hid (∀ (V : World) (x o : Nat) (u : Value), x ≠ w.heap.size + 1 + 1 → (V.setCell ⟨w.heap.size + 1 + 1, o, none⟩ u).heap[x]? = V.heap[x]?) := far
  have SSZ : Hid (∀ (V : World) (p : Addr) (u : Value), (V.setCell p u).heap.size = V.heap.size) := ssz
  clear far ssz
  go_wp2_with fail
  have hW := TW.out.2.2
  have K1 : Hid (Below w.heap.size w (w1.setCell ⟨w.heap.size + 1 + 1, 1, none⟩ (.slice (some ⟨W.heap.size, 0, none⟩) m.copies.length m.copies.length)) ∧ W.heap.size < (w1.setCell ⟨w.heap.size + 1 + 1, 1, none⟩ (.slice (some ⟨W.heap.size, 0, none⟩) m.copies.length m.copies.length)).heap.size ∧ OwnG 2 hdK lnK AtK (w1.setCell ⟨w.heap.size + 1 + 1, 1, none⟩ (.slice (some ⟨W.heap.size, 0, none⟩) m.copies.length m.copies.length)) W.heap.size W.heap.size m.copies.length m.copies gk ∧ Room (w1.setCell ⟨w.heap.size + 1 + 1, 1, none⟩ (.slice (some ⟨W.heap.size, 0, none⟩) m.copies.length m.copies.length)) W.heap.size (m.copies.length * 2)) :=
    ⟨B1.out.1.setCell (p := ⟨w.heap.size + 1 + 1, 1, none⟩) (by show w.heap.size ≤ w.heap.size + 1 + 1; omega) _, by rw [SSZ.out]; exact B1.out.2.1, B1.out.2.2.1.of_blocks AtK.of_block (by rw [SSZ.out]; exact Nat.le_refl _) (FAR.out _ _ _ _ (by omega)) (fun i hi => FAR.out _ _ _ _ (by have := B1.out.2.2.1.low i hi; omega)), B1.out.2.2.2.of_block (FAR.out _ _ _ _ (by omega))⟩
  clear hW B1 a2 p1 f1
  generalize w1.setCell ⟨w.heap.size + 1 + 1, 1, none⟩ (.slice (some ⟨W.heap.size, 0, none⟩) m.copies.length m.copies.length) = X1 at *
  refine (toRecordS_any X1 al m.log.length cl m.log hr H.out.2.2 (H.out.1.later K1.out.1).r).mono ?_
  rintro e w2 ⟨gr, rfl, b2, l2, o2, rm2⟩
  have t2 := T1.out.below b2
  have B2 : Hid (Below w.heap.size w w2 ∧ X1.heap.size < w2.heap.size ∧ OwnG 4 hdR lnR AtR w2 X1.heap.size X1.heap.size m.log.length m.log gr ∧ Room w2 X1.heap.size (m.log.length * 4) ∧ OwnG 2 hdK lnK AtK w2 W.heap.size W.heap.size m.copies.length m.copies gk ∧ Room w2 W.heap.size (m.copies.length * 2) ∧ W.heap.size < X1.heap.size ∧ (∀ i, i < m.copies.length → gk i < X1.heap.size)) :=
    ⟨K1.out.1.trans (b2.mono K1.out.1.size), l2, o2, rm2, K1.out.2.2.1.later AtK.of_block b2 K1.out.2.1, K1.out.2.2.2.below b2 K1.out.2.1, K1.out.2.1, K1.out.2.2.1.lt⟩
  clear b2 l2 o2 rm2 K1
  have T2 : Hid (TP w.heap.size m.alive (.slice al m.log.length cl) (.slice ad m.cleared.length cd) (w2.setCell ⟨w.heap.size + 1 + 1, 2, none⟩ (.slice (some ⟨X1.heap.size, 0, none⟩) m.log.length m.log.length)) (.slice (some ⟨W.heap.size, 0, none⟩) m.copies.length m.copies.length) (.slice (some ⟨X1.heap.size, 0, none⟩) m.log.length m.log.length) (.slice none 0 0)) := t2.set2 _
  have a3 := t2.a3
  have p2 := t2.o2
  have f2 := t2.fo 2
  clear t2 T1
  go_wp2_with fail
  have hW := TW.out.2.2
  have K2 : Hid (Below w.heap.size w (w2.setCell ⟨w.heap.size + 1 + 1, 2, none⟩ (.slice (some ⟨X1.heap.size, 0, none⟩) m.log.length m.log.length)) ∧ X1.heap.size < (w2.setCell ⟨w.heap.size + 1 + 1, 2, none⟩ (.slice (some ⟨X1.heap.size, 0, none⟩) m.log.length m.log.length)).heap.size ∧ OwnG 4 hdR lnR AtR (w2.setCell ⟨w.heap.size + 1 + 1, 2, none⟩ (.slice (some ⟨X1.heap.size, 0, none⟩) m.log.length m.log.length)) X1.heap.size X1.heap.size m.log.length m.log gr ∧ Room (w2.setCell ⟨w.heap.size + 1 + 1, 2, none⟩ (.slice (some ⟨X1.heap.size, 0, none⟩) m.log.length m.log.length)) X1.heap.size (m.log.length * 4) ∧ OwnG 2 hdK lnK AtK (w2.setCell ⟨w.heap.size + 1 + 1, 2, none⟩ (.slice (some ⟨X1.heap.size, 0, none⟩) m.log.length m.log.length)) W.heap.size W.heap.size m.copies.length m.copies gk ∧ Room (w2.setCell ⟨w.heap.size + 1 + 1, 2, none⟩ (.slice (some ⟨X1.heap.size, 0, none⟩) m.log.length m.log.length)) W.heap.size (m.copies.length * 2) ∧ W.heap.size < X1.heap.size ∧ (∀ i, i < m.copies.length → gk i < X1.heap.size)) := by
    obtain ⟨q1, q2, q3, q4, q5, q6, q7, q8⟩ := B2.out
    exact ⟨q1.setCell (p := ⟨w.heap.size + 1 + 1, 2, none⟩) (by show w.heap.size ≤ w.heap.size + 1 + 1; omega) _, by rw [SSZ.out]; exact q2, q3.of_blocks AtR.of_block (by rw [SSZ.out]; exact Nat.le_refl _) (FAR.out _ _ _ _ (by omega)) (fun i hi => FAR.out _ _ _ _ (by have := q3.low i hi; omega)), q4.of_block (FAR.out _ _ _ _ (by omega)), q5.of_blocks AtK.of_block (by rw [SSZ.out]; exact Nat.le_refl _) (FAR.out _ _ _ _ (by omega)) (fun i hi => FAR.out _ _ _ _ (by have := q5.low i hi; omega)), q6.of_block (FAR.out _ _ _ _ (by omega)), q7, q8⟩
  clear hW B2 a3 p2 f2
  generalize w2.setCell ⟨w.heap.size + 1 + 1, 2, none⟩ (.slice (some ⟨X1.heap.size, 0, none⟩) m.log.length m.log.length) = X2 at *
  refine (toInt64S_any X2 ad m.cleared.length cd m.cleared hn (H.out.1.later K2.out.1).n).mono ?_
  rintro e w3 ⟨rfl, b3, l3, o3, rm3⟩
  have t3 := T2.out.below b3
  have B3 : Hid (Below w.heap.size w w3 ∧ X2.heap.size < w3.heap.size ∧ NumsAt w3 X2.heap.size 0 m.cleared ∧ Room w3 X2.heap.size m.cleared.length ∧ Below X2.heap.size X2 w3) := ⟨K2.out.1.trans (b3.mono K2.out.1.size), l3, o3, rm3, b3⟩
  clear b3 l3 o3 rm3 T2
  have p0 := t3.o0
  have p1 := t3.o1
  have p2 := t3.o2
  have p3 := t3.o3
  have f3 := t3.fo 3
  have x0 := t3.r0
  have x1 := t3.r1
  have x2 := t3.r2
  have x3 := t3.r3
  have y0 := t3.fr 0
  have y1 := t3.fr 1
  have y2 := t3.fr 2
  have y3 := t3.fr 3
  clear t3
  go_wp2
  obtain ⟨F, hF⟩ : ∃ F, (((((w3.setCell ⟨w.heap.size + 1 + 1, 3, none⟩ (.slice (some ⟨X2.heap.size, 0, none⟩) m.cleared.length m.cleared.length)).setCell ⟨w.heap.size + 1, 0, none⟩ (.bool m.alive)).setCell ⟨w.heap.size + 1, 1, none⟩ (.slice (some ⟨W.heap.size, 0, none⟩) m.copies.length m.copies.length)).setCell ⟨w.heap.size + 1, 2, none⟩ (.slice (some ⟨X1.heap.size, 0, none⟩) m.log.length m.log.length)).setCell ⟨w.heap.size + 1, 3, none⟩ (.slice (some ⟨X2.heap.size, 0, none⟩) m.cleared.length m.cleared.length)) = F := ⟨_, rfl⟩
  have g0 : F.cell? ⟨w.heap.size + 1, 0, none⟩ = some (.bool m.alive) := by
    rw [← hF, cell_set_other (by omega), cell_set_other (by omega), cell_set_other (by omega)]
    exact cell_set_same (by rw [cell_set_far (by simp)]; exact x0)
  have g1 : F.cell? ⟨w.heap.size + 1, 1, none⟩ = some (.slice (some ⟨W.heap.size, 0, none⟩) m.copies.length m.copies.length) := by
    rw [← hF, cell_set_other (by omega), cell_set_other (by omega)]
    exact cell_set_same (by rw [cell_set_other (by omega), cell_set_far (by simp)]; exact x1)
  have g2 : F.cell? ⟨w.heap.size + 1, 2, none⟩ = some (.slice (some ⟨X1.heap.size, 0, none⟩) m.log.length m.log.length) := by
    rw [← hF, cell_set_other (by omega)]
    exact cell_set_same (by rw [cell_set_other (by omega), cell_set_other (by omega), cell_set_far (by simp)]; exact x2)
  have g3 : F.cell? ⟨w.heap.size + 1, 3, none⟩ = some (.slice (some ⟨X2.heap.size, 0, none⟩) m.cleared.length m.cleared.length) := by
    rw [← hF]
    exact cell_set_same (by rw [cell_set_other (by omega), cell_set_other (by omega), cell_set_other (by omega), cell_set_far (by simp)]; exact x3)
  have sF : F.heap.size = w3.heap.size := by rw [← hF]; simp [World.setCell]
  have eF : ∀ x, x ≠ w.heap.size + 1 → x ≠ w.heap.size + 1 + 1 → F.heap[x]? = w3.heap[x]? := fun x h1 h2 => by
    rw [← hF]
    exact (Below.heap_setCell _ _ _ _ (fun e => h1 e)).trans ((Below.heap_setCell _ _ _ _ (fun e => h1 e)).trans ((Below.heap_setCell _ _ _ _ (fun e => h1 e)).trans ((Below.heap_setCell _ _ _ _ (fun e => h1 e)).trans (Below.heap_setCell _ _ _ _ (fun e => h2 e)))))
  have bF : Below w.heap.size w F := by
    rw [← hF]
    exact ((((B3.out.1.setCell (p := ⟨w.heap.size + 1 + 1, 3, none⟩) (by show w.heap.size ≤ w.heap.size + 1 + 1; omega) _).setCell (p := ⟨w.heap.size + 1, 0, none⟩) (by show w.heap.size ≤ w.heap.size + 1; omega) _).setCell (p := ⟨w.heap.size + 1, 1, none⟩) (by show w.heap.size ≤ w.heap.size + 1; omega) _).setCell (p := ⟨w.heap.size + 1, 2, none⟩) (by show w.heap.size ≤ w.heap.size + 1; omega) _).setCell (p := ⟨w.heap.size + 1, 3, none⟩) (by show w.heap.size ≤ w.heap.size + 1; omega) _
  rw [hF]
  refine bodyPost_ret (v := .agg #[.bool m.alive, .slice (some ⟨W.heap.size, 0, none⟩) m.copies.length m.copies.length, .slice (some ⟨X1.heap.size, 0, none⟩) m.log.length m.log.length, .slice (some ⟨X2.heap.size, 0, none⟩) m.cleared.length m.cleared.length]) (by simp [results, Tryz.results60, go_sem, g0, g1, g2, g3]) rfl ?_
  have hW := TW.out.2.2
  obtain ⟨q1, q2, q3, q4, q5, q6, q7, q8⟩ := K2.out
  obtain ⟨z1, z2, z3, z4, z5⟩ := B3.out
  have m1 : OwnM w3 (w.heap.size + 3) X1.heap.size X2.heap.size w3.heap.size ⟨some ⟨W.heap.size, 0, none⟩, m.copies.length, some ⟨X1.heap.size, 0, none⟩, m.log.length, some ⟨X2.heap.size, 0, none⟩, m.cleared.length⟩ m gk gr :=
    ⟨⟨W.heap.size, rfl, by omega, q7, by rw [← hW]; exact q5.later AtK.of_block z5 (by omega), q8, q6.below z5 (by omega)⟩, ⟨X1.heap.size, rfl, Nat.le_refl _, q2, q3.later AtR.of_block z5 q2, q3.lt, q4.below z5 q2⟩, ⟨X2.heap.size, rfl, Nat.le_refl _, z2, z3, z4⟩, by omega, Nat.le_of_lt q2, Nat.le_of_lt z2, Nat.le_refl _⟩
  exact ⟨⟨some ⟨W.heap.size, 0, none⟩, m.copies.length, some ⟨X1.heap.size, 0, none⟩, m.log.length, some ⟨X2.heap.size, 0, none⟩, m.cleared.length⟩, X1.heap.size, X2.heap.size, w3.heap.size, gk, gr, rfl, m1.kept (by omega) (fun q h1 h2 => eF q (by omega) (by omega)), bF⟩
end Go.Proofs.YtdmpobegobfpjaaGreat