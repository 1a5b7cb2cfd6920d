/- YTxR; YTxK; YTxI; UntZ; CluI2; CluI3; CluI4; CluI5; CluI6; CluI1: joined. -/
import Derived.Test.YtnhjgomfkfehgaaGreatDoorRows
import Derived.Test.YtnhjgomfkfehgaaGreatDoorJ7ExactBegin
import Derived.WalkKit
import Derived.WalkSpells
import Derived.WalkLawsBesides
import Derived.Below
import Derived.Lib.QuietBelow
import Derived.BigQuiet
import Derived.Deep.RegionWith
import Derived.OrdersHeld
import Derived.Deep.RegionHeld
import Derived.Deep.CutRange
import Derived.Test.YtnhjgomfkfehgaaGreatDoorJ6ExactBegin
import Derived.Stop.Asserts
namespace Go.Proofs.YtnhjgomfkfehgaaGreatDoor.tx
open Go.RowKit
open Go.Sort (grow)
def FirstAt (f : Nat → Bool) (n : Nat) (i : Int) : Prop := (i = -1 ∧ ∀ j, j < n → f j = false) ∨ ∃ k : Nat, i = (k : Int) ∧ k < n ∧ f k = true ∧ ∀ j, j < k → f j = false
theorem first_has {f : Nat → Bool} {n : Nat} {i : Int} (h : FirstAt f n i) : decide (0 ≤ i) = !((List.range n).all fun j => !f j) := by
  rcases h with ⟨rfl, h⟩ | ⟨k, rfl, hk, hf, _⟩
  · have : ((List.range n).all fun j => !f j) = true := by rw [List.all_eq_true]; intro j hj; simp [h j (List.mem_range.1 hj)]
    rw [this]; rfl
  · have : ((List.range n).all fun j => !f j) = false := by rw [List.all_eq_false]; exact ⟨k, List.mem_range.2 hk, by simp [hf]⟩
    rw [this]; simp
theorem implId (w : World) (x : Int) : Calls Tryz.prog 152 #[.int .i64 x] w fun e w' => e = .returned (.bool (inB 1 1000000 x)) ∧ w' = w := by
  go_enter Tryz.func152, Tryz.ntmps152
  go_wp2
  all_goals (go_ret; refine ⟨ret_bool ?_, rfl⟩; simp [inB_iff]; try omega)
theorem implMachine (w : World) (x : Int) : Calls Tryz.prog 153 #[.int .i64 x] w fun e w' => e = .returned (.bool (inB 0 7 x)) ∧ w' = w := by
  go_enter Tryz.func153, Tryz.ntmps153
  go_wp2
  all_goals (go_ret; refine ⟨ret_bool ?_, rfl⟩; simp [inB_iff]; try omega)
theorem implPhase (w : World) (x : Int) : Calls Tryz.prog 247 #[.int .i64 x] w fun e w' => e = .returned (.bool (inB 1 9 x)) ∧ w' = w := by
  go_enter Tryz.func247, Tryz.ntmps247
  go_wp2
  all_goals (go_ret; refine ⟨ret_bool ?_, rfl⟩; simp [inB_iff]; try omega)
theorem implDone (w : World) (x : Int) : Calls Tryz.prog 248 #[.int .i64 x] w fun e w' => e = .returned (.bool (inB 0 1000 x)) ∧ w' = w := by
  go_enter Tryz.func248, Tryz.ntmps248
  go_wp2
  all_goals (go_ret; refine ⟨ret_bool ?_, rfl⟩; simp [inB_iff]; try omega)
theorem implStamp (w : World) (x : Int) : Calls Tryz.prog 190 #[.int .i64 x] w fun e w' => e = .returned (.bool (inB 0 1000000 x)) ∧ w' = w := by
  go_enter Tryz.func190, Tryz.ntmps190
  go_wp2
  all_goals (go_ret; refine ⟨ret_bool ?_, rfl⟩; simp [inB_iff]; try omega)
theorem implVersion (w : World) (x : Int) : Calls Tryz.prog 276 #[.int .i64 x] w fun e w' => e = .returned (.bool (inB 0 1000000 x)) ∧ w' = w := by
  go_enter Tryz.func276, Tryz.ntmps276
  go_wp2
  all_goals (go_ret; refine ⟨ret_bool ?_, rfl⟩; simp [inB_iff]; try omega)
theorem implNoteOk (w : World) (s : N5) : Calls Tryz.prog 250 #[.agg #[.int .i64 s.region, .int .i64 s.slot, .int .i64 s.version, .int .i64 s.value, .bool s.used]] w fun e w' => e = .returned (.bool (noteOkB s)) ∧ Below w.heap.size w w' := by
  obtain ⟨r, l, v, u, x⟩ := s
  go_enter Tryz.func250, Tryz.ntmps250
  cases h1 : inB 0 5 r <;> cases h2 : inB 0 5 l <;> cases h3 : inB 0 1000000 v
  all_goals go_wp2_with (first | (go_at_call 276; refine (implVersion _ _).mono ?_; rintro e w' ⟨rfl, rfl⟩) | (go_at_call 252; refine (implRegion _ _).mono ?_; rintro e w' ⟨rfl, rfl⟩) | (go_at_call 117; refine (implSlot _ _).mono ?_; rintro e w' ⟨rfl, rfl⟩) | (go_at_call 61; refine (implValue _ _).mono ?_; rintro e w' ⟨rfl, rfl⟩))
  all_goals (go_ret; refine ⟨ret_bool ?_, (Below.refl _ _).alloc (Nat.le_refl _) _⟩; simp only [noteOkB, h1, h2, h3, Bool.and_true, Bool.and_false, Bool.false_and, Bool.true_and]; try simp [inB_iff]; try omega)
def rk (r s : Int) : Int := r * 6 + s
theorem rank_any (w : World) (r s : Int) (h1 : inB 0 5 r = true) (h2 : inB 0 5 s = true) : Calls Tryz.prog 295 #[.agg #[.int .i64 r, .int .i64 s]] w fun e w' => e = .returned (.int .i64 (rk r s)) ∧ Below w.heap.size w w' := by
  rw [inB_iff] at h1 h2
  have e1 : IntKind.i64.wrap (r * 6) = r * 6 := by simp [IntKind.wrap, IntKind.bits, IntKind.signed]; omega
  have e2 : IntKind.i64.wrap (r * 6 + s) = r * 6 + s := by simp [IntKind.wrap, IntKind.bits, IntKind.signed]; omega
  go_enter Tryz.func295, Tryz.ntmps295
  go_wp2
  go_ret
  exact ⟨by simp [rk], (Below.refl _ _).alloc (Nat.le_refl _) _⟩
theorem less_rk {r s q t : Int} (h1 : inB 0 5 s = true) (h2 : inB 0 5 t = true) : lessB r s q t = decide (rk r s < rk q t) := by
  rw [inB_iff] at h1 h2
  have hk : ∀ a b, rk a b = a * 6 + b := fun _ _ => rfl
  have hd : (r < q ∨ r = q ∧ s < t) ↔ rk r s < rk q t := by
    rw [hk, hk]
    constructor
    · rintro (h | ⟨h, h'⟩) <;> omega
    · intro h
      by_cases hr : r < q
      · exact .inl hr
      · exact .inr ⟨by omega, by omega⟩
  rw [Bool.eq_iff_iff]
  simp [lessB, hd]
set_option maxHeartbeats 1000000 in
theorem noCell_any (w : World) (s : N5) : Calls Tryz.prog 258 #[.agg #[.int .i64 s.region, .int .i64 s.slot, .int .i64 s.version, .int .i64 s.value, .bool s.used]] w fun e w' => e = .returned (.agg #[.int .i64 s.region, .int .i64 s.slot]) ∧ Below w.heap.size w w' := by
  obtain ⟨f0, f1, f2, f3, f4⟩ := s
  go_enter Tryz.func258, Tryz.ntmps258
  go_wp2
  refine bodyPost_ret (v := .agg #[.int .i64 f0, .int .i64 f1]) (by simp [results, Tryz.results258, go_sem]) rfl ⟨rfl, ?_⟩
  exact ((Below.refl _ _).alloc (Nat.le_refl _) _).alloc (by simp) _
set_option maxHeartbeats 1000000 in
theorem noRank_any (w : World) (s : N5) (h1 : inB 0 5 s.region = true) (h2 : inB 0 5 s.slot = true) : Calls Tryz.prog 272 #[.agg #[.int .i64 s.region, .int .i64 s.slot, .int .i64 s.version, .int .i64 s.value, .bool s.used]] w fun e w' => e = .returned (.int .i64 (rk s.region s.slot)) ∧ Below w.heap.size w w' := by
  have b0 : Below w.heap.size w (w.alloc (.cells #[.int .i64 s.region, .int .i64 s.slot, .int .i64 s.version, .int .i64 s.value, .bool s.used] 106)) := (Below.refl _ _).alloc (Nat.le_refl _) _
  have c1 := noCell_any (w.alloc (.cells #[.int .i64 s.region, .int .i64 s.slot, .int .i64 s.version, .int .i64 s.value, .bool s.used] 106)) s
  have hm : ∀ w : World, (method 470 106 (.agg #[.int .i64 s.region, .int .i64 s.slot, .int .i64 s.version, .int .i64 s.value, .bool s.used]) "loop.example/g00153/impl.cell").run Tryz.prog w = .ok (258, .agg #[.int .i64 s.region, .int .i64 s.slot, .int .i64 s.version, .int .i64 s.value, .bool s.used]) w := fun _ => by kernel_rfl
  go_enter Tryz.func272, Tryz.ntmps272
  go_wp2_with (first | (go_at_call 258; refine c1.mono ?_; rintro e w1 ⟨rfl, b1⟩) | (go_at_call 295; refine (rank_any _ _ _ h1 h2).mono ?_; rintro e w2 ⟨rfl, b2⟩))
  go_ret
  exact ⟨rfl, b0.trans ((b1.trans (b2.mono b1.size)).mono b0.size)⟩
set_option maxHeartbeats 1000000 in
theorem seCell_any (w : World) (s : S5) : Calls Tryz.prog 209 #[.agg #[.int .i64 s.region, .int .i64 s.slot, .int .i64 s.value, .bool s.used, .int .i64 s.version]] w fun e w' => e = .returned (.agg #[.int .i64 s.region, .int .i64 s.slot]) ∧ Below w.heap.size w w' := by
  obtain ⟨f0, f1, f2, f3, f4⟩ := s
  go_enter Tryz.func209, Tryz.ntmps209
  go_wp2
  refine bodyPost_ret (v := .agg #[.int .i64 f0, .int .i64 f1]) (by simp [results, Tryz.results209, go_sem]) rfl ⟨rfl, ?_⟩
  exact ((Below.refl _ _).alloc (Nat.le_refl _) _).alloc (by simp) _
set_option maxHeartbeats 1000000 in
theorem seRank_any (w : World) (s : S5) (h1 : inB 0 5 s.region = true) (h2 : inB 0 5 s.slot = true) : Calls Tryz.prog 271 #[.agg #[.int .i64 s.region, .int .i64 s.slot, .int .i64 s.value, .bool s.used, .int .i64 s.version]] w fun e w' => e = .returned (.int .i64 (rk s.region s.slot)) ∧ Below w.heap.size w w' := by
  have b0 : Below w.heap.size w (w.alloc (.cells #[.int .i64 s.region, .int .i64 s.slot, .int .i64 s.value, .bool s.used, .int .i64 s.version] 109)) := (Below.refl _ _).alloc (Nat.le_refl _) _
  have c1 := seCell_any (w.alloc (.cells #[.int .i64 s.region, .int .i64 s.slot, .int .i64 s.value, .bool s.used, .int .i64 s.version] 109)) s
  have hm : ∀ w : World, (method 470 109 (.agg #[.int .i64 s.region, .int .i64 s.slot, .int .i64 s.value, .bool s.used, .int .i64 s.version]) "loop.example/g00153/impl.cell").run Tryz.prog w = .ok (209, .agg #[.int .i64 s.region, .int .i64 s.slot, .int .i64 s.value, .bool s.used, .int .i64 s.version]) w := fun _ => by kernel_rfl
  go_enter Tryz.func271, Tryz.ntmps271
  go_wp2_with (first | (go_at_call 209; refine c1.mono ?_; rintro e w1 ⟨rfl, b1⟩) | (go_at_call 295; refine (rank_any _ _ _ h1 h2).mono ?_; rintro e w2 ⟨rfl, b2⟩))
  go_ret
  exact ⟨rfl, b0.trans ((b1.trans (b2.mono b1.size)).mono b0.size)⟩
theorem noOk_in {s : N5} (h : noteOkB s = true) : inB 0 5 s.region = true ∧ inB 0 5 s.slot = true := by simp only [noteOkB, Bool.and_eq_true] at h; exact ⟨h.1.1.1, h.1.1.2⟩
set_option maxHeartbeats 1000000 in
theorem noWrong_any (w : World) (s : N5) (g : Nat) (hg : w.cell? ⟨g, 0, none⟩ = some (.func (.func 250) #[] #[])) (hl : g < w.heap.size) : Calls Tryz.prog 273 #[.agg #[.int .i64 s.region, .int .i64 s.slot, .int .i64 s.version, .int .i64 s.value, .bool s.used], .pointer (some ⟨g, 0, none⟩)] w fun e w' => e = .returned (.bool (!noteOkB s)) ∧ Below w.heap.size w w' := by
  obtain ⟨W, hW⟩ : ∃ W, W = w.alloc (.cells #[.int .i64 s.region, .int .i64 s.slot, .int .i64 s.version, .int .i64 s.value, .bool s.used] 106) := ⟨_, rfl⟩
  have b0 : Below w.heap.size w W := by rw [hW]; exact (Below.refl _ _).alloc (Nat.le_refl _) _
  have d := (b0.cell (p := ⟨g, 0, none⟩) hl).trans hg
  have c1 := implNoteOk W s
  have KB : Hid (Below w.heap.size w W) := b0
  clear hg hl b0
  rw [hW] at d
  go_enter Tryz.func273, Tryz.ntmps273
  go_wp2_with fail
  rw [← hW]
  refine c1.mono ?_
  clear c1 hW d
  rintro e w1 ⟨rfl, b1⟩
  go_wp2
  go_ret
  exact ⟨rfl, KB.out.trans (b1.mono KB.out.size)⟩
set_option maxHeartbeats 2000000 in
theorem noIdx (w : World) (a : Option Addr) (cap : Nat) (xs : List N5) (g : Nat) (hn : xs.length ≤ maxLen) (hs : SlNo w w.heap.size a xs.length xs) (hg : w.cell? ⟨g, 0, none⟩ = some (.func (.func 250) #[] #[])) (hgl : g < w.heap.size) :
    Calls Tryz.prog 296 #[.slice a xs.length cap, .func (.func 273) #[] #[.pointer (some ⟨g, 0, none⟩)]] w fun e w' => (∃ i : Int, e = .returned (.int .i64 i) ∧ FirstAt (fun i => !noteOkB (atNo xs i)) xs.length i) ∧ Below w.heap.size w w' := by
  unfold maxLen at hn
  obtain ⟨hx, hs⟩ := hs
  clear hx
  obtain ⟨f, hf⟩ : ∃ f : Nat → Bool, f = fun i => !noteOkB (atNo xs i) := ⟨_, rfl⟩
  have HF : Hid (∀ (X : World) (i : Nat), Below w.heap.size w X → Calls Tryz.prog 273 #[.agg #[.int .i64 (atNo xs i).region, .int .i64 (atNo xs i).slot, .int .i64 (atNo xs i).version, .int .i64 (atNo xs i).value, .bool (atNo xs i).used], .pointer (some ⟨g, 0, none⟩)] X fun e w' => e = .returned (.bool (f i)) ∧ Below X.heap.size X w') := fun X i hX => by
    rw [hf]; exact noWrong_any X (atNo xs i) g ((hX.cell (p := ⟨g, 0, none⟩) hgl).trans hg) (Nat.lt_of_lt_of_le hgl hX.size)
  rw [← hf]
  clear hf hg
  obtain ⟨n, hN⟩ : ∃ n, n = xs.length := ⟨_, rfl⟩
  rw [← hN] at hn hs ⊢
  have HN : Hid (n = xs.length) := hN
  clear hN
  go_enter Tryz.func296, Tryz.ntmps296
  go_wp2
  go_loopw [8] (fun v wr => ∃ j : Nat, j ≤ n ∧ v = .int .i64 j ∧ Below w.heap.size w wr ∧ ∀ i, i < j → f i = false) (fun v _ => n - (intOf v).toNat)
  case atStart => exact ⟨0, Nat.zero_le _, rfl, Below.refl _ _, fun i h => absurd h (by omega)⟩
  case round =>
    obtain ⟨j, hj, rfl, hbl, hall⟩ := hrel
    by_cases hlt : j < n
    · rcases hs with hs | ⟨b, off, rfl, hb, h1⟩
      · omega
      · obtain ⟨c0, c1, c2, c3, c4⟩ := (h1.below hbl hb) j _ (atNo_of (by rw [← HN.out]; exact hlt))
        have KA : Hid ((∀ i, i < j → f i = false) ∧ Below w.heap.size w wr) := ⟨hall, hbl⟩
        have hw := HF.out wr j hbl
        clear h1 hall hbl
        cases hp : f j with
        | true =>
          rw [hp] at hw
          go_wp2_with fail
          refine hw.mono ?_
          clear hw
          rintro e w1 ⟨rfl, b1⟩
          go_wp2
          go_ret
          exact ⟨⟨_, rfl, .inr ⟨j, rfl, hlt, hp, KA.out.1⟩⟩, KA.out.2.trans (b1.mono KA.out.2.size)⟩
        | false =>
          rw [hp] at hw
          go_wp2_with fail
          refine hw.mono ?_
          clear hw
          rintro e w1 ⟨rfl, b1⟩
          go_wp2
          exact ⟨⟨j + 1, by omega, by simp, KA.out.2.trans (b1.mono KA.out.2.size), fun i hi => by
            by_cases e : i = j
            · rw [e]; exact hp
            · exact KA.out.1 i (by omega)⟩, by simp [intOf]; omega⟩
    · have : j = n := by omega
      subst this
      have hd : decide ((j : Int) < (j : Int)) = false := by simp
      have KA : Hid (∀ i, i < j → f i = false) := hall
      clear hs hall
      go_wp2
      go_ret
      exact ⟨⟨_, rfl, .inl ⟨rfl, KA.out⟩⟩, hbl⟩
set_option maxHeartbeats 1000000 in
theorem noHas (w : World) (a : Option Addr) (cap : Nat) (xs : List N5) (g : Nat) (hn : xs.length ≤ maxLen) (hs : SlNo w w.heap.size a xs.length xs) (hg : w.cell? ⟨g, 0, none⟩ = some (.func (.func 250) #[] #[])) (hgl : g < w.heap.size) :
    Calls Tryz.prog 274 #[.slice a xs.length cap, .func (.func 273) #[] #[.pointer (some ⟨g, 0, none⟩)]] w fun e w' => e = .returned (.bool (!((List.range xs.length).all fun i => noteOkB (atNo xs i)))) ∧ Below w.heap.size w w' := by
  have c1 := noIdx w a cap xs g hn hs hg hgl
  have HE : Hid (∀ i : Int, FirstAt (fun i => !noteOkB (atNo xs i)) xs.length i → decide (0 ≤ i) = !((List.range xs.length).all fun i => noteOkB (atNo xs i))) := fun i h => by
    rw [first_has h]; simp
  clear hn hs hg hgl
  go_enter Tryz.func274, Tryz.ntmps274
  go_wp2_with fail
  refine c1.mono ?_
  clear c1
  rintro e w1 ⟨⟨i, rfl, hi⟩, b1⟩
  have KE : Hid (decide (0 ≤ i) = !((List.range xs.length).all fun i => noteOkB (atNo xs i))) := HE.out i hi
  clear hi HE
  go_wp2
  go_ret
  exact ⟨by rw [← KE.out]; rfl, b1⟩
def noUp (xs : List N5) (i : Nat) : Bool := decide (i = 0) || decide (rk (atNo xs (i - 1)).region (atNo xs (i - 1)).slot < rk (atNo xs i).region (atNo xs i).slot)
set_option maxHeartbeats 4000000 in
theorem noRises_any (w : World) (a : Option Addr) (cap : Nat) (xs : List N5) (hn : xs.length ≤ maxLen) (hs : SlNo w w.heap.size a xs.length xs) (hok : ∀ i, i < xs.length → noteOkB (atNo xs i) = true) :
    Calls Tryz.prog 275 #[.slice a xs.length cap, .func (.func 272) #[] #[]] w fun e w' => e = .returned (.bool ((List.range xs.length).all (noUp xs))) ∧ Below w.heap.size w w' := by
  unfold maxLen at hn
  obtain ⟨_, hs⟩ := hs
  have HO := hidOf hok
  clear hok
  obtain ⟨n, hN⟩ : ∃ n, n = xs.length := ⟨_, rfl⟩
  have HN : Hid (n = xs.length) := hN
  rw [← hN] at hn hs ⊢
  clear hN
  go_enter Tryz.func275, Tryz.ntmps275
  go_wp2
  go_loopw [5] (fun v wr => ∃ j : Nat, (j ≤ n ∨ n = 0 ∧ j = 1) ∧ 0 < j ∧ v = .int .i64 j ∧ Below w.heap.size w wr ∧ (List.range j).all (noUp xs) = true) (fun v _ => n - (intOf v).toNat)
  case atStart => exact ⟨1, by omega, by omega, rfl, Below.refl _ _, by simp [noUp]⟩
  case round =>
    obtain ⟨j, hj, hj0, rfl, hbl, hall⟩ := hrel
    by_cases hlt : j < n
    · rcases hs with hs | ⟨b, off, rfl, hb, h1⟩
      · omega
      obtain ⟨i, rfl⟩ : ∃ i, j = i + 1 := ⟨j - 1, by omega⟩
      obtain ⟨t0, t1, t2, t3, t4⟩ := (h1.below hbl hb) (i + 1) _ (atNo_of (by rw [← HN.out]; exact hlt))
      obtain ⟨u0, u1, u2, u3, u4⟩ := (h1.below hbl hb) i _ (atNo_of (by rw [← HN.out]; omega))
      have hbW : b < wr.heap.size := Nat.lt_of_lt_of_le hb hbl.size
      have lift : ∀ {o : Nat} {u : Value}, wr.cell? ⟨b, o, none⟩ = some u → ∀ d os, (grow (redrawn wr d) os).cell? ⟨b, o, none⟩ = some u := fun {o u} h d os => ((below_regrown wr d os).cell (p := ⟨b, o, none⟩) hbW).trans h
      have x0 := lift t0
      have x1 := lift t1
      have x2 := lift t2
      have x3 := lift t3
      have x4 := lift t4
      have y0 := lift u0
      have y1 := lift u1
      have y2 := lift u2
      have y3 := lift u3
      have y4 := lift u4
      have k1 := noOk_in (HO.out (i + 1) (by rw [← HN.out]; exact hlt))
      have k2 := noOk_in (HO.out i (by rw [← HN.out]; omega))
      have cA : ∀ d os, Calls Tryz.prog 272 #[.agg #[.int .i64 (atNo xs (i + 1)).region, .int .i64 (atNo xs (i + 1)).slot, .int .i64 (atNo xs (i + 1)).version, .int .i64 (atNo xs (i + 1)).value, .bool (atNo xs (i + 1)).used]] (grow (redrawn wr d) os) fun e w'' => e = .returned (.int .i64 (rk (atNo xs (i + 1)).region (atNo xs (i + 1)).slot)) ∧ ∃ p : Regrown, w'' = grow (redrawn wr p.d) p.os := fun d os => Calls.regrown_of (noRank_any _ _ k1.1 k1.2)
      have cB : ∀ d os, Calls Tryz.prog 272 #[.agg #[.int .i64 (atNo xs i).region, .int .i64 (atNo xs i).slot, .int .i64 (atNo xs i).version, .int .i64 (atNo xs i).value, .bool (atNo xs i).used]] (grow (redrawn wr d) os) fun e w'' => e = .returned (.int .i64 (rk (atNo xs i).region (atNo xs i).slot)) ∧ ∃ p : Regrown, w'' = grow (redrawn wr p.d) p.os := fun d os => Calls.regrown_of (noRank_any _ _ k2.1 k2.2)
      have K : Hid (Below w.heap.size w wr ∧ (List.range (i + 1)).all (noUp xs) = true) := ⟨hbl, hall⟩
      have hi : (i : Int) < (n : Int) := by omega
      clear lift t0 t1 t2 t3 t4 u0 u1 u2 u3 u4 k1 k2 h1 hbl hall
      have U : Hid (noUp xs (i + 1) = decide (rk (atNo xs i).region (atNo xs i).slot < rk (atNo xs (i + 1)).region (atNo xs (i + 1)).slot)) := by unfold Hid; simp [noUp]
      have HL : Hid (i + 1 < n) := hlt
      have hi1 : ((i + 1 : Nat) : Int) < (n : Int) := by omega
      clear hlt
      generalize rk (atNo xs (i + 1)).region (atNo xs (i + 1)).slot = x at *
      generalize rk (atNo xs i).region (atNo xs i).slot = y at *
      generalize (atNo xs (i + 1)).region = a0 at *
      generalize (atNo xs (i + 1)).slot = a1 at *
      generalize (atNo xs (i + 1)).value = a2 at *
      generalize (atNo xs (i + 1)).used = a3 at *
      generalize (atNo xs (i + 1)).version = a4 at *
      generalize (atNo xs i).region = e0 at *
      generalize (atNo xs i).slot = e1 at *
      generalize (atNo xs i).value = e2 at *
      generalize (atNo xs i).used = e3 at *
      generalize (atNo xs i).version = e4 at *
      by_cases hq : x ≤ y
      · have KU : Hid (noUp xs (i + 1) = false) := by unfold Hid; rw [U.out]; simp; omega
        have dq : decide (x ≤ y) = true := by simpa using hq
        clear hq U
        go_wp2_with fail
        refine wp_region_quiet_below (by kernel_rfl) (by kernel_rfl) ?_
        repeat (go_big_quiet_step (first | (go_at_call_of 272 (Value.agg #[.int .i64 a0, .int .i64 a1, .int .i64 a4, .int .i64 a2, .bool a3]); exact cA _ _) | (go_at_call_of 272 (Value.agg #[.int .i64 e0, .int .i64 e1, .int .i64 e4, .int .i64 e2, .bool e3]); exact cB _ _)))
        refine wpQuiet_nil ?_
        intro _ hw'
        obtain ⟨⟨dq', osq⟩, hw''⟩ := hw'
        subst hw''
        have bq := below_regrown wr dq' osq
        go_wp2
        go_ret
        exact ⟨by rw [alls_fail HL.out KU.out]; rfl, K.out.1.trans (bq.mono K.out.1.size)⟩
      · have KU : Hid (noUp xs (i + 1) = true) := by unfold Hid; rw [U.out]; simp; omega
        have dq : decide (x ≤ y) = false := by simpa using hq
        clear hq U
        go_wp2_with fail
        refine wp_region_quiet_below (by kernel_rfl) (by kernel_rfl) ?_
        repeat (go_big_quiet_step (first | (go_at_call_of 272 (Value.agg #[.int .i64 a0, .int .i64 a1, .int .i64 a4, .int .i64 a2, .bool a3]); exact cA _ _) | (go_at_call_of 272 (Value.agg #[.int .i64 e0, .int .i64 e1, .int .i64 e4, .int .i64 e2, .bool e3]); exact cB _ _)))
        refine wpQuiet_nil ?_
        intro _ hw'
        obtain ⟨⟨dq', osq⟩, hw''⟩ := hw'
        subst hw''
        have bq := below_regrown wr dq' osq
        go_wp2
        exact ⟨⟨i + 1 + 1, .inl HL.out, by omega, by simp, K.out.1.trans (bq.mono K.out.1.size), alls_step K.out.2 KU.out⟩, by have := HL.out; simp [intOf]; omega⟩
    · have hd : decide ((j : Int) < (n : Int)) = false := by simp; omega
      have KA : Hid ((List.range n).all (noUp xs) = true) := by
        unfold Hid
        rw [List.all_eq_true] at hall ⊢
        exact fun x hx => hall x (List.mem_range.2 (by have := List.mem_range.1 hx; omega))
      clear hs hall
      go_wp2
      go_ret
      exact ⟨by rw [KA.out]; rfl, hbl⟩
theorem noAt_all {xs : List N5} : (List.range xs.length).all (noAt xs) = ((List.range xs.length).all (fun i => noteOkB (atNo xs i)) && (List.range xs.length).all (noUp xs)) := by
  rw [Bool.eq_iff_iff, Bool.and_eq_true, List.all_eq_true, List.all_eq_true, List.all_eq_true]
  constructor
  · intro h
    have h1 : ∀ i, i < xs.length → noteOkB (atNo xs i) = true := fun i hi => by
      have := h i (List.mem_range.2 hi)
      simp only [noAt, Bool.and_eq_true] at this
      exact this.1
    refine ⟨fun i hi => h1 i (List.mem_range.1 hi), fun i hi => ?_⟩
    have hi' := List.mem_range.1 hi
    have := h i hi
    simp only [noAt, Bool.and_eq_true, Bool.or_eq_true, decide_eq_true_eq] at this
    simp only [noUp, Bool.or_eq_true, decide_eq_true_eq]
    by_cases e : i = 0
    · exact .inl e
    · rcases this.2 with e' | e'
      · exact .inl e'
      · rw [less_rk (noOk_in (h1 (i - 1) (by omega))).2 (noOk_in (h1 i hi')).2] at e'
        exact .inr (by simpa using e')
  · rintro ⟨h1, h2⟩ i hi
    have hi' := List.mem_range.1 hi
    have g1 := h1 i hi
    have g2 := h2 i hi
    simp only [noUp, Bool.or_eq_true, decide_eq_true_eq] at g2
    simp only [noAt, Bool.and_eq_true, Bool.or_eq_true, decide_eq_true_eq]
    refine ⟨g1, ?_⟩
    by_cases e : i = 0
    · exact .inl e
    · rcases g2 with e' | e'
      · exact .inl e'
      · refine .inr ?_
        rw [less_rk (noOk_in (h1 (i - 1) (List.mem_range.2 (by omega)))).2 (noOk_in g1).2]
        simpa using e'
set_option maxHeartbeats 2000000 in
theorem noEach_any (w : World) (a : Option Addr) (cap : Nat) (xs : List N5) (hn : xs.length ≤ maxLen) (hs : SlNo w w.heap.size a xs.length xs) :
    Calls Tryz.prog 249 #[.slice a xs.length cap, .func (.func 250) #[] #[]] w fun e w' => e = .returned (.bool (decide (xs.length ≤ 12) && (List.range xs.length).all (noAt xs))) ∧ Below w.heap.size w w' := by
  obtain ⟨W, hW⟩ : ∃ W, W = w.alloc (.cells #[.func (.func 250) #[] #[]] 165) := ⟨_, rfl⟩
  have b0 : Below w.heap.size w W := by rw [hW]; exact (Below.refl _ _).alloc (Nat.le_refl _) _
  have g0 : W.cell? ⟨w.heap.size, 0, none⟩ = some (.func (.func 250) #[] #[]) := by rw [hW]; go_simp
  have s0 : w.heap.size < W.heap.size := by rw [hW]; simp
  have c1 := noHas W a cap xs w.heap.size hn (hs.later b0) g0 s0
  have H : Hid (SlNo w w.heap.size a xs.length xs ∧ xs.length ≤ maxLen ∧ Below w.heap.size w W) := ⟨hs, hn, b0⟩
  have HA := hidOf (@noAt_all xs)
  clear hs b0 g0 s0
  unfold maxLen at hn
  by_cases h12 : xs.length ≤ 12
  case neg =>
    have d12 : decide ((xs.length : Int) ≤ 12) = false := by simp; omega
    have KN : Hid (decide (xs.length ≤ 12) = false) := by unfold Hid; simp; omega
    rw [hW] at H
    clear c1 hW h12
    go_enter Tryz.func249, Tryz.ntmps249
    go_wp2
    go_ret
    exact ⟨by rw [KN.out]; rfl, H.out.2.2⟩
  have d12 : decide ((xs.length : Int) ≤ 12) = true := by simp; omega
  have KN : Hid (decide (xs.length ≤ 12) = true) := by unfold Hid; simp; omega
  cases hal : (List.range xs.length).all (fun i => noteOkB (atNo xs i)) with
  | false =>
    rw [hal] at c1
    clear h12
    go_enter Tryz.func249, Tryz.ntmps249
    go_wp2_with fail
    rw [← hW]
    clear hW
    refine c1.mono ?_
    clear c1
    rintro e w1 ⟨rfl, b1⟩
    go_wp2
    go_ret
    exact ⟨by rw [KN.out, HA.out, hal]; rfl, H.out.2.2.trans (b1.mono H.out.2.2.size)⟩
  | true =>
    rw [hal] at c1
    have HO : Hid (∀ i, i < xs.length → noteOkB (atNo xs i) = true) := fun i hi => List.all_eq_true.1 hal i (List.mem_range.2 hi)
    clear h12
    go_enter Tryz.func249, Tryz.ntmps249
    go_wp2_with fail
    rw [← hW]
    clear hW
    refine c1.mono ?_
    clear c1
    rintro e w1 ⟨rfl, b1⟩
    have bw : Below w.heap.size w w1 := H.out.2.2.trans (b1.mono H.out.2.2.size)
    have c2 := noRises_any w1 a cap xs H.out.2.1 (H.out.1.later bw) HO.out
    have KB : Hid (Below w.heap.size w w1) := bw
    clear b1 bw
    go_wp2_with fail
    refine c2.mono ?_
    clear c2
    rintro e w2 ⟨rfl, b2⟩
    go_wp2
    go_ret
    exact ⟨by rw [KN.out, HA.out, hal]; rfl, KB.out.trans (b2.mono KB.out.size)⟩
theorem seOk_in {s : S5} (h : setOkB s = true) : inB 0 5 s.region = true ∧ inB 0 5 s.slot = true := by simp only [setOkB, Bool.and_eq_true] at h; exact ⟨h.1.1.1, h.1.1.2⟩
set_option maxHeartbeats 1000000 in
theorem seWrong_any (w : World) (s : S5) (g : Nat) (hg : w.cell? ⟨g, 0, none⟩ = some (.func (.func 208) #[] #[])) (hl : g < w.heap.size) : Calls Tryz.prog 277 #[.agg #[.int .i64 s.region, .int .i64 s.slot, .int .i64 s.value, .bool s.used, .int .i64 s.version], .pointer (some ⟨g, 0, none⟩)] w fun e w' => e = .returned (.bool (!setOkB s)) ∧ Below w.heap.size w w' := by
  obtain ⟨W, hW⟩ : ∃ W, W = w.alloc (.cells #[.int .i64 s.region, .int .i64 s.slot, .int .i64 s.value, .bool s.used, .int .i64 s.version] 109) := ⟨_, rfl⟩
  have b0 : Below w.heap.size w W := by rw [hW]; exact (Below.refl _ _).alloc (Nat.le_refl _) _
  have d := (b0.cell (p := ⟨g, 0, none⟩) hl).trans hg
  have c1 := implSetOk W s
  have KB : Hid (Below w.heap.size w W) := b0
  clear hg hl b0
  rw [hW] at d
  go_enter Tryz.func277, Tryz.ntmps277
  go_wp2_with fail
  rw [← hW]
  refine c1.mono ?_
  clear c1 hW d
  rintro e w1 ⟨rfl, b1⟩
  go_wp2
  go_ret
  exact ⟨rfl, KB.out.trans (b1.mono KB.out.size)⟩
set_option maxHeartbeats 2000000 in
theorem seIdx (w : World) (a : Option Addr) (cap : Nat) (xs : List S5) (g : Nat) (hn : xs.length ≤ maxLen) (hs : Sl w w.heap.size a xs.length xs) (hg : w.cell? ⟨g, 0, none⟩ = some (.func (.func 208) #[] #[])) (hgl : g < w.heap.size) :
    Calls Tryz.prog 297 #[.slice a xs.length cap, .func (.func 277) #[] #[.pointer (some ⟨g, 0, none⟩)]] w fun e w' => (∃ i : Int, e = .returned (.int .i64 i) ∧ FirstAt (fun i => !setOkB (atSe xs i)) xs.length i) ∧ Below w.heap.size w w' := by
  unfold maxLen at hn
  obtain ⟨hx, hs⟩ := hs
  clear hx
  obtain ⟨f, hf⟩ : ∃ f : Nat → Bool, f = fun i => !setOkB (atSe xs i) := ⟨_, rfl⟩
  have HF : Hid (∀ (X : World) (i : Nat), Below w.heap.size w X → Calls Tryz.prog 277 #[.agg #[.int .i64 (atSe xs i).region, .int .i64 (atSe xs i).slot, .int .i64 (atSe xs i).value, .bool (atSe xs i).used, .int .i64 (atSe xs i).version], .pointer (some ⟨g, 0, none⟩)] X fun e w' => e = .returned (.bool (f i)) ∧ Below X.heap.size X w') := fun X i hX => by
    rw [hf]; exact seWrong_any X (atSe xs i) g ((hX.cell (p := ⟨g, 0, none⟩) hgl).trans hg) (Nat.lt_of_lt_of_le hgl hX.size)
  rw [← hf]
  clear hf hg
  obtain ⟨n, hN⟩ : ∃ n, n = xs.length := ⟨_, rfl⟩
  rw [← hN] at hn hs ⊢
  have HN : Hid (n = xs.length) := hN
  clear hN
  go_enter Tryz.func297, Tryz.ntmps297
  go_wp2
  go_loopw [8] (fun v wr => ∃ j : Nat, j ≤ n ∧ v = .int .i64 j ∧ Below w.heap.size w wr ∧ ∀ i, i < j → f i = false) (fun v _ => n - (intOf v).toNat)
  case atStart => exact ⟨0, Nat.zero_le _, rfl, Below.refl _ _, fun i h => absurd h (by omega)⟩
  case round =>
    obtain ⟨j, hj, rfl, hbl, hall⟩ := hrel
    by_cases hlt : j < n
    · rcases hs with hs | ⟨b, off, rfl, hb, h1⟩
      · omega
      · obtain ⟨c0, c1, c2, c3, c4⟩ := (h1.below hbl hb) j _ (atSe_of (by rw [← HN.out]; exact hlt))
        have KA : Hid ((∀ i, i < j → f i = false) ∧ Below w.heap.size w wr) := ⟨hall, hbl⟩
        have hw := HF.out wr j hbl
        clear h1 hall hbl
        cases hp : f j with
        | true =>
          rw [hp] at hw
          go_wp2_with fail
          refine hw.mono ?_
          clear hw
          rintro e w1 ⟨rfl, b1⟩
          go_wp2
          go_ret
          exact ⟨⟨_, rfl, .inr ⟨j, rfl, hlt, hp, KA.out.1⟩⟩, KA.out.2.trans (b1.mono KA.out.2.size)⟩
        | false =>
          rw [hp] at hw
          go_wp2_with fail
          refine hw.mono ?_
          clear hw
          rintro e w1 ⟨rfl, b1⟩
          go_wp2
          exact ⟨⟨j + 1, by omega, by simp, KA.out.2.trans (b1.mono KA.out.2.size), fun i hi => by
            by_cases e : i = j
            · rw [e]; exact hp
            · exact KA.out.1 i (by omega)⟩, by simp [intOf]; omega⟩
    · have : j = n := by omega
      subst this
      have hd : decide ((j : Int) < (j : Int)) = false := by simp
      have KA : Hid (∀ i, i < j → f i = false) := hall
      clear hs hall
      go_wp2
      go_ret
      exact ⟨⟨_, rfl, .inl ⟨rfl, KA.out⟩⟩, hbl⟩
set_option maxHeartbeats 1000000 in
theorem seHas (w : World) (a : Option Addr) (cap : Nat) (xs : List S5) (g : Nat) (hn : xs.length ≤ maxLen) (hs : Sl w w.heap.size a xs.length xs) (hg : w.cell? ⟨g, 0, none⟩ = some (.func (.func 208) #[] #[])) (hgl : g < w.heap.size) :
    Calls Tryz.prog 278 #[.slice a xs.length cap, .func (.func 277) #[] #[.pointer (some ⟨g, 0, none⟩)]] w fun e w' => e = .returned (.bool (!((List.range xs.length).all fun i => setOkB (atSe xs i)))) ∧ Below w.heap.size w w' := by
  have c1 := seIdx w a cap xs g hn hs hg hgl
  have HE : Hid (∀ i : Int, FirstAt (fun i => !setOkB (atSe xs i)) xs.length i → decide (0 ≤ i) = !((List.range xs.length).all fun i => setOkB (atSe xs i))) := fun i h => by
    rw [first_has h]; simp
  clear hn hs hg hgl
  go_enter Tryz.func278, Tryz.ntmps278
  go_wp2_with fail
  refine c1.mono ?_
  clear c1
  rintro e w1 ⟨⟨i, rfl, hi⟩, b1⟩
  have KE : Hid (decide (0 ≤ i) = !((List.range xs.length).all fun i => setOkB (atSe xs i))) := HE.out i hi
  clear hi HE
  go_wp2
  go_ret
  exact ⟨by rw [← KE.out]; rfl, b1⟩
def seUp (xs : List S5) (i : Nat) : Bool := decide (i = 0) || decide (rk (atSe xs (i - 1)).region (atSe xs (i - 1)).slot < rk (atSe xs i).region (atSe xs i).slot)
set_option maxHeartbeats 4000000 in
theorem seRises_any (w : World) (a : Option Addr) (cap : Nat) (xs : List S5) (hn : xs.length ≤ maxLen) (hs : Sl w w.heap.size a xs.length xs) (hok : ∀ i, i < xs.length → setOkB (atSe xs i) = true) :
    Calls Tryz.prog 279 #[.slice a xs.length cap, .func (.func 271) #[] #[]] w fun e w' => e = .returned (.bool ((List.range xs.length).all (seUp xs))) ∧ Below w.heap.size w w' := by
  unfold maxLen at hn
  obtain ⟨_, hs⟩ := hs
  have HO := hidOf hok
  clear hok
  obtain ⟨n, hN⟩ : ∃ n, n = xs.length := ⟨_, rfl⟩
  have HN : Hid (n = xs.length) := hN
  rw [← hN] at hn hs ⊢
  clear hN
  go_enter Tryz.func279, Tryz.ntmps279
  go_wp2
  go_loopw [5] (fun v wr => ∃ j : Nat, (j ≤ n ∨ n = 0 ∧ j = 1) ∧ 0 < j ∧ v = .int .i64 j ∧ Below w.heap.size w wr ∧ (List.range j).all (seUp xs) = true) (fun v _ => n - (intOf v).toNat)
  case atStart => exact ⟨1, by omega, by omega, rfl, Below.refl _ _, by simp [seUp]⟩
  case round =>
    obtain ⟨j, hj, hj0, rfl, hbl, hall⟩ := hrel
    by_cases hlt : j < n
    · rcases hs with hs | ⟨b, off, rfl, hb, h1⟩
      · omega
      obtain ⟨i, rfl⟩ : ∃ i, j = i + 1 := ⟨j - 1, by omega⟩
      obtain ⟨t0, t1, t2, t3, t4⟩ := (h1.below hbl hb) (i + 1) _ (atSe_of (by rw [← HN.out]; exact hlt))
      obtain ⟨u0, u1, u2, u3, u4⟩ := (h1.below hbl hb) i _ (atSe_of (by rw [← HN.out]; omega))
      have hbW : b < wr.heap.size := Nat.lt_of_lt_of_le hb hbl.size
      have lift : ∀ {o : Nat} {u : Value}, wr.cell? ⟨b, o, none⟩ = some u → ∀ d os, (grow (redrawn wr d) os).cell? ⟨b, o, none⟩ = some u := fun {o u} h d os => ((below_regrown wr d os).cell (p := ⟨b, o, none⟩) hbW).trans h
      have x0 := lift t0
      have x1 := lift t1
      have x2 := lift t2
      have x3 := lift t3
      have x4 := lift t4
      have y0 := lift u0
      have y1 := lift u1
      have y2 := lift u2
      have y3 := lift u3
      have y4 := lift u4
      have k1 := seOk_in (HO.out (i + 1) (by rw [← HN.out]; exact hlt))
      have k2 := seOk_in (HO.out i (by rw [← HN.out]; omega))
      have cA : ∀ d os, Calls Tryz.prog 271 #[.agg #[.int .i64 (atSe xs (i + 1)).region, .int .i64 (atSe xs (i + 1)).slot, .int .i64 (atSe xs (i + 1)).value, .bool (atSe xs (i + 1)).used, .int .i64 (atSe xs (i + 1)).version]] (grow (redrawn wr d) os) fun e w'' => e = .returned (.int .i64 (rk (atSe xs (i + 1)).region (atSe xs (i + 1)).slot)) ∧ ∃ p : Regrown, w'' = grow (redrawn wr p.d) p.os := fun d os => Calls.regrown_of (seRank_any _ _ k1.1 k1.2)
      have cB : ∀ d os, Calls Tryz.prog 271 #[.agg #[.int .i64 (atSe xs i).region, .int .i64 (atSe xs i).slot, .int .i64 (atSe xs i).value, .bool (atSe xs i).used, .int .i64 (atSe xs i).version]] (grow (redrawn wr d) os) fun e w'' => e = .returned (.int .i64 (rk (atSe xs i).region (atSe xs i).slot)) ∧ ∃ p : Regrown, w'' = grow (redrawn wr p.d) p.os := fun d os => Calls.regrown_of (seRank_any _ _ k2.1 k2.2)
      have K : Hid (Below w.heap.size w wr ∧ (List.range (i + 1)).all (seUp xs) = true) := ⟨hbl, hall⟩
      have hi : (i : Int) < (n : Int) := by omega
      clear lift t0 t1 t2 t3 t4 u0 u1 u2 u3 u4 k1 k2 h1 hbl hall
      have U : Hid (seUp xs (i + 1) = decide (rk (atSe xs i).region (atSe xs i).slot < rk (atSe xs (i + 1)).region (atSe xs (i + 1)).slot)) := by unfold Hid; simp [seUp]
      have HL : Hid (i + 1 < n) := hlt
      have hi1 : ((i + 1 : Nat) : Int) < (n : Int) := by omega
      clear hlt
      generalize rk (atSe xs (i + 1)).region (atSe xs (i + 1)).slot = x at *
      generalize rk (atSe xs i).region (atSe xs i).slot = y at *
      generalize (atSe xs (i + 1)).region = a0 at *
      generalize (atSe xs (i + 1)).slot = a1 at *
      generalize (atSe xs (i + 1)).value = a2 at *
      generalize (atSe xs (i + 1)).used = a3 at *
      generalize (atSe xs (i + 1)).version = a4 at *
      generalize (atSe xs i).region = e0 at *
      generalize (atSe xs i).slot = e1 at *
      generalize (atSe xs i).value = e2 at *
      generalize (atSe xs i).used = e3 at *
      generalize (atSe xs i).version = e4 at *
      by_cases hq : x ≤ y
      · have KU : Hid (seUp xs (i + 1) = false) := by unfold Hid; rw [U.out]; simp; omega
        have dq : decide (x ≤ y) = true := by simpa using hq
        clear hq U
        go_wp2_with fail
        refine wp_region_quiet_below (by kernel_rfl) (by kernel_rfl) ?_
        repeat (go_big_quiet_step (first | (go_at_call_of 271 (Value.agg #[.int .i64 a0, .int .i64 a1, .int .i64 a2, .bool a3, .int .i64 a4]); exact cA _ _) | (go_at_call_of 271 (Value.agg #[.int .i64 e0, .int .i64 e1, .int .i64 e2, .bool e3, .int .i64 e4]); exact cB _ _)))
        refine wpQuiet_nil ?_
        intro _ hw'
        obtain ⟨⟨dq', osq⟩, hw''⟩ := hw'
        subst hw''
        have bq := below_regrown wr dq' osq
        go_wp2
        go_ret
        exact ⟨by rw [alls_fail HL.out KU.out]; rfl, K.out.1.trans (bq.mono K.out.1.size)⟩
      · have KU : Hid (seUp xs (i + 1) = true) := by unfold Hid; rw [U.out]; simp; omega
        have dq : decide (x ≤ y) = false := by simpa using hq
        clear hq U
        go_wp2_with fail
        refine wp_region_quiet_below (by kernel_rfl) (by kernel_rfl) ?_
        repeat (go_big_quiet_step (first | (go_at_call_of 271 (Value.agg #[.int .i64 a0, .int .i64 a1, .int .i64 a2, .bool a3, .int .i64 a4]); exact cA _ _) | (go_at_call_of 271 (Value.agg #[.int .i64 e0, .int .i64 e1, .int .i64 e2, .bool e3, .int .i64 e4]); exact cB _ _)))
        refine wpQuiet_nil ?_
        intro _ hw'
        obtain ⟨⟨dq', osq⟩, hw''⟩ := hw'
        subst hw''
        have bq := below_regrown wr dq' osq
        go_wp2
        exact ⟨⟨i + 1 + 1, .inl HL.out, by omega, by simp, K.out.1.trans (bq.mono K.out.1.size), alls_step K.out.2 KU.out⟩, by have := HL.out; simp [intOf]; omega⟩
    · have hd : decide ((j : Int) < (n : Int)) = false := by simp; omega
      have KA : Hid ((List.range n).all (seUp xs) = true) := by
        unfold Hid
        rw [List.all_eq_true] at hall ⊢
        exact fun x hx => hall x (List.mem_range.2 (by have := List.mem_range.1 hx; omega))
      clear hs hall
      go_wp2
      go_ret
      exact ⟨by rw [KA.out]; rfl, hbl⟩
theorem seAt_all {xs : List S5} : (List.range xs.length).all (seAt xs) = ((List.range xs.length).all (fun i => setOkB (atSe xs i)) && (List.range xs.length).all (seUp xs)) := by
  rw [Bool.eq_iff_iff, Bool.and_eq_true, List.all_eq_true, List.all_eq_true, List.all_eq_true]
  constructor
  · intro h
    have h1 : ∀ i, i < xs.length → setOkB (atSe xs i) = true := fun i hi => by
      have := h i (List.mem_range.2 hi)
      simp only [seAt, Bool.and_eq_true] at this
      exact this.1
    refine ⟨fun i hi => h1 i (List.mem_range.1 hi), fun i hi => ?_⟩
    have hi' := List.mem_range.1 hi
    have := h i hi
    simp only [seAt, Bool.and_eq_true, Bool.or_eq_true, decide_eq_true_eq] at this
    simp only [seUp, Bool.or_eq_true, decide_eq_true_eq]
    by_cases e : i = 0
    · exact .inl e
    · rcases this.2 with e' | e'
      · exact .inl e'
      · rw [less_rk (seOk_in (h1 (i - 1) (by omega))).2 (seOk_in (h1 i hi')).2] at e'
        exact .inr (by simpa using e')
  · rintro ⟨h1, h2⟩ i hi
    have hi' := List.mem_range.1 hi
    have g1 := h1 i hi
    have g2 := h2 i hi
    simp only [seUp, Bool.or_eq_true, decide_eq_true_eq] at g2
    simp only [seAt, Bool.and_eq_true, Bool.or_eq_true, decide_eq_true_eq]
    refine ⟨g1, ?_⟩
    by_cases e : i = 0
    · exact .inl e
    · rcases g2 with e' | e'
      · exact .inl e'
      · refine .inr ?_
        rw [less_rk (seOk_in (h1 (i - 1) (List.mem_range.2 (by omega)))).2 (seOk_in g1).2]
        simpa using e'
set_option maxHeartbeats 2000000 in
theorem seEach_any (w : World) (a : Option Addr) (cap : Nat) (xs : List S5) (hn : xs.length ≤ maxLen) (hs : Sl w w.heap.size a xs.length xs) :
    Calls Tryz.prog 251 #[.slice a xs.length cap, .func (.func 208) #[] #[]] w fun e w' => e = .returned (.bool (decide (xs.length ≤ 12) && (List.range xs.length).all (seAt xs))) ∧ Below w.heap.size w w' := by
  obtain ⟨W, hW⟩ : ∃ W, W = w.alloc (.cells #[.func (.func 208) #[] #[]] 167) := ⟨_, rfl⟩
  have b0 : Below w.heap.size w W := by rw [hW]; exact (Below.refl _ _).alloc (Nat.le_refl _) _
  have g0 : W.cell? ⟨w.heap.size, 0, none⟩ = some (.func (.func 208) #[] #[]) := by rw [hW]; go_simp
  have s0 : w.heap.size < W.heap.size := by rw [hW]; simp
  have c1 := seHas W a cap xs w.heap.size hn (hs.later b0) g0 s0
  have H : Hid (Sl w w.heap.size a xs.length xs ∧ xs.length ≤ maxLen ∧ Below w.heap.size w W) := ⟨hs, hn, b0⟩
  have HA := hidOf (@seAt_all xs)
  clear hs b0 g0 s0
  unfold maxLen at hn
  by_cases h12 : xs.length ≤ 12
  case neg =>
    have d12 : decide ((xs.length : Int) ≤ 12) = false := by simp; omega
    have KN : Hid (decide (xs.length ≤ 12) = false) := by unfold Hid; simp; omega
    rw [hW] at H
    clear c1 hW h12
    go_enter Tryz.func251, Tryz.ntmps251
    go_wp2
    go_ret
    exact ⟨by rw [KN.out]; rfl, H.out.2.2⟩
  have d12 : decide ((xs.length : Int) ≤ 12) = true := by simp; omega
  have KN : Hid (decide (xs.length ≤ 12) = true) := by unfold Hid; simp; omega
  cases hal : (List.range xs.length).all (fun i => setOkB (atSe xs i)) with
  | false =>
    rw [hal] at c1
    clear h12
    go_enter Tryz.func251, Tryz.ntmps251
    go_wp2_with fail
    rw [← hW]
    clear hW
    refine c1.mono ?_
    clear c1
    rintro e w1 ⟨rfl, b1⟩
    go_wp2
    go_ret
    exact ⟨by rw [KN.out, HA.out, hal]; rfl, H.out.2.2.trans (b1.mono H.out.2.2.size)⟩
  | true =>
    rw [hal] at c1
    have HO : Hid (∀ i, i < xs.length → setOkB (atSe xs i) = true) := fun i hi => List.all_eq_true.1 hal i (List.mem_range.2 hi)
    clear h12
    go_enter Tryz.func251, Tryz.ntmps251
    go_wp2_with fail
    rw [← hW]
    clear hW
    refine c1.mono ?_
    clear c1
    rintro e w1 ⟨rfl, b1⟩
    have bw : Below w.heap.size w w1 := H.out.2.2.trans (b1.mono H.out.2.2.size)
    have c2 := seRises_any w1 a cap xs H.out.2.1 (H.out.1.later bw) HO.out
    have KB : Hid (Below w.heap.size w w1) := bw
    clear b1 bw
    go_wp2_with fail
    refine c2.mono ?_
    clear c2
    rintro e w2 ⟨rfl, b2⟩
    go_wp2
    go_ret
    exact ⟨by rw [KN.out, HA.out, hal]; rfl, KB.out.trans (b2.mono KB.out.size)⟩
end Go.Proofs.YtnhjgomfkfehgaaGreatDoor.tx
namespace Go.Proofs.YtnhjgomfkfehgaaGreatDoor.tx
open Go.RowKit
set_option maxHeartbeats 4000000 in
theorem implTxOk_any (w : World) (v : TV) (t : T7) (hl : TL t) (hs : SlT w v t) :
    Calls Tryz.prog 207 #[v.val t] w fun e w' => e = .returned (.bool (txB t)) ∧ Below w.heap.size w w' := by
  obtain ⟨ar, cr, ah, ch⟩ := v
  simp only [TV.val]
  obtain ⟨W, hW⟩ : ∃ W, W = w.alloc (.cells #[.int .i64 t.id, .int .i64 t.home, .int .i64 t.phase, .int .i64 t.count, .slice ar t.reads.length cr, .slice ah t.sets.length ch, .int .i64 t.stamp] 56) := ⟨_, rfl⟩
  have b0 : Below w.heap.size w W := by rw [hW]; exact (Below.refl _ _).alloc (Nat.le_refl _) _
  have x0 : BT W w.heap.size ⟨ar, cr, ah, ch⟩ t := by rw [hW]; exact BT.box w ⟨ar, cr, ah, ch⟩ t _
  have H : Hid (SlT W ⟨ar, cr, ah, ch⟩ t ∧ BT W w.heap.size ⟨ar, cr, ah, ch⟩ t ∧ TL t) := ⟨hs.later b0, x0, hl⟩
  have BW : Hid (Below w.heap.size w W) := b0
  clear hs b0 x0 hl
  by_cases g0 : inB 1 1000000 t.id = true
  case neg =>
    have d0 : inB 1 1000000 t.id = false := by simpa using g0
    have hb : txB t = false := by simp [txB, headB, d0]
    rw [hb]
    rw [hW] at BW
    clear H hW
    go_enter Tryz.func207, Tryz.ntmps207
    go_wp2_with (first | (go_at_call 152; refine (implId _ _).mono ?_; rintro e w' ⟨rfl, rfl⟩) | (go_at_call 153; refine (implMachine _ _).mono ?_; rintro e w' ⟨rfl, rfl⟩) | (go_at_call 247; refine (implPhase _ _).mono ?_; rintro e w' ⟨rfl, rfl⟩) | (go_at_call 248; refine (implDone _ _).mono ?_; rintro e w' ⟨rfl, rfl⟩) | (go_at_call 190; refine (implStamp _ _).mono ?_; rintro e w' ⟨rfl, rfl⟩))
    go_ret
    exact ⟨rfl, BW.out⟩
  by_cases g1 : inB 0 7 t.home = true
  case neg =>
    have d1 : inB 0 7 t.home = false := by simpa using g1
    have hb : txB t = false := by simp [txB, headB, d1]
    rw [hb]
    rw [hW] at BW
    clear H hW
    go_enter Tryz.func207, Tryz.ntmps207
    go_wp2_with (first | (go_at_call 152; refine (implId _ _).mono ?_; rintro e w' ⟨rfl, rfl⟩) | (go_at_call 153; refine (implMachine _ _).mono ?_; rintro e w' ⟨rfl, rfl⟩) | (go_at_call 247; refine (implPhase _ _).mono ?_; rintro e w' ⟨rfl, rfl⟩) | (go_at_call 248; refine (implDone _ _).mono ?_; rintro e w' ⟨rfl, rfl⟩) | (go_at_call 190; refine (implStamp _ _).mono ?_; rintro e w' ⟨rfl, rfl⟩))
    go_ret
    exact ⟨rfl, BW.out⟩
  by_cases g2 : inB 1 9 t.phase = true
  case neg =>
    have d2 : inB 1 9 t.phase = false := by simpa using g2
    have hb : txB t = false := by simp [txB, headB, d2]
    rw [hb]
    rw [hW] at BW
    clear H hW
    go_enter Tryz.func207, Tryz.ntmps207
    go_wp2_with (first | (go_at_call 152; refine (implId _ _).mono ?_; rintro e w' ⟨rfl, rfl⟩) | (go_at_call 153; refine (implMachine _ _).mono ?_; rintro e w' ⟨rfl, rfl⟩) | (go_at_call 247; refine (implPhase _ _).mono ?_; rintro e w' ⟨rfl, rfl⟩) | (go_at_call 248; refine (implDone _ _).mono ?_; rintro e w' ⟨rfl, rfl⟩) | (go_at_call 190; refine (implStamp _ _).mono ?_; rintro e w' ⟨rfl, rfl⟩))
    go_ret
    exact ⟨rfl, BW.out⟩
  by_cases g3 : inB 0 1000 t.count = true
  case neg =>
    have d3 : inB 0 1000 t.count = false := by simpa using g3
    have hb : txB t = false := by simp [txB, headB, d3]
    rw [hb]
    rw [hW] at BW
    clear H hW
    go_enter Tryz.func207, Tryz.ntmps207
    go_wp2_with (first | (go_at_call 152; refine (implId _ _).mono ?_; rintro e w' ⟨rfl, rfl⟩) | (go_at_call 153; refine (implMachine _ _).mono ?_; rintro e w' ⟨rfl, rfl⟩) | (go_at_call 247; refine (implPhase _ _).mono ?_; rintro e w' ⟨rfl, rfl⟩) | (go_at_call 248; refine (implDone _ _).mono ?_; rintro e w' ⟨rfl, rfl⟩) | (go_at_call 190; refine (implStamp _ _).mono ?_; rintro e w' ⟨rfl, rfl⟩))
    go_ret
    exact ⟨rfl, BW.out⟩
  by_cases g4 : inB 0 1000000 t.stamp = true
  case neg =>
    have d4 : inB 0 1000000 t.stamp = false := by simpa using g4
    have hb : txB t = false := by simp [txB, headB, d4]
    rw [hb]
    rw [hW] at BW
    clear H hW
    go_enter Tryz.func207, Tryz.ntmps207
    go_wp2_with (first | (go_at_call 152; refine (implId _ _).mono ?_; rintro e w' ⟨rfl, rfl⟩) | (go_at_call 153; refine (implMachine _ _).mono ?_; rintro e w' ⟨rfl, rfl⟩) | (go_at_call 247; refine (implPhase _ _).mono ?_; rintro e w' ⟨rfl, rfl⟩) | (go_at_call 248; refine (implDone _ _).mono ?_; rintro e w' ⟨rfl, rfl⟩) | (go_at_call 190; refine (implStamp _ _).mono ?_; rintro e w' ⟨rfl, rfl⟩))
    go_ret
    exact ⟨rfl, BW.out⟩
  have HM : Hid (txB t = ((decide (t.reads.length ≤ 12) && (List.range t.reads.length).all (noAt t.reads)) && (decide (t.sets.length ≤ 12) && (List.range t.sets.length).all (seAt t.sets)))) := by
    unfold Hid
    simp only [txB, headB, g0, g1, g2, g3, g4, Bool.true_and]
    cases decide (t.reads.length ≤ 12) <;> cases decide (t.sets.length ≤ 12) <;> simp
  have c1 := noEach_any W ar cr t.reads H.out.2.2.r H.out.1.r
  generalize hR : (decide (t.reads.length ≤ 12) && (List.range t.reads.length).all (noAt t.reads)) = R at *
  go_enter Tryz.func207, Tryz.ntmps207
  go_wp2_with (first | (go_at_call 152; refine (implId _ _).mono ?_; rintro e w' ⟨rfl, rfl⟩) | (go_at_call 153; refine (implMachine _ _).mono ?_; rintro e w' ⟨rfl, rfl⟩) | (go_at_call 247; refine (implPhase _ _).mono ?_; rintro e w' ⟨rfl, rfl⟩) | (go_at_call 248; refine (implDone _ _).mono ?_; rintro e w' ⟨rfl, rfl⟩) | (go_at_call 190; refine (implStamp _ _).mono ?_; rintro e w' ⟨rfl, rfl⟩) | fail)
  rw [← hW]
  clear hW g0 g1 g2 g3 g4
  refine c1.mono ?_
  clear c1
  rintro e w1 ⟨rfl, b1⟩
  have a5 := (H.out.2.1.later b1).c5
  have KB : Hid (Below w.heap.size w w1) := BW.out.trans (b1.mono BW.out.size)
  have c2 := seEach_any w1 ah ch t.sets H.out.2.2.s (H.out.1.later b1).s
  clear b1
  cases R with
  | false =>
    clear c2
    go_wp2
    go_ret
    exact ⟨by rw [HM.out]; rfl, KB.out⟩
  | true =>
    go_wp2_with fail
    refine c2.mono ?_
    clear c2
    rintro e w2 ⟨rfl, b2⟩
    go_wp2
    go_ret
    exact ⟨by rw [HM.out]; rfl, KB.out.trans (b2.mono KB.out.size)⟩
end Go.Proofs.YtnhjgomfkfehgaaGreatDoor.tx
namespace Go.Proofs.YtnhjgomfkfehgaaGreatDoor
def lateB (n : Nat) (Z : Nat → Bool) (L : Array Bool) : Bool := (List.range n).any fun z => Z z && L.getD z false
theorem lateB_set {n : Nat} {Z : Nat → Bool} {L : Array Bool} {i : Nat} (hz : Z i = false) : lateB n Z (L.setIfInBounds i true) = lateB n Z L := by
  unfold lateB
  congr 1
  funext z
  by_cases e : i = z
  · subst e; simp [hz]
  · rw [getD_set_ne false e]
def wpZ (P : Program) (md : Region.Mode) (ops : Array Oper) (Q : Exit → Act → World → Prop) (S : World → Prop) (Z : Nat → Bool) : Nat → Array Bool → Act → World → Prop
  | 0, L, a, w => Region.ready md ops L = [] ∧ Q .normal a w
  | f + 1, L, a, w => (Region.ready md ops L = [] → Q .normal a w) ∧ ∀ i ∈ Region.ready md ops L, wpOp P ops Q i (fun a' w' => (lateB ops.size Z (L.setIfInBounds i true) = false → S w') ∧ wpZ P md ops Q S Z f (L.setIfInBounds i true) a' w') a w
theorem wpAny_of_z {P : Program} {ops : Array Oper} {Q : Exit → Act → World → Prop} {md : Region.Mode} {S : World → Prop} {Z : Nat → Bool} : ∀ (f : Nat) (L : Array Bool) (a : Act) (w : World), wpZ P md ops Q S Z f L a w → wpAny P md ops Q f L a w := by
  intro f
  induction f with
  | zero => exact fun _ _ _ h => h
  | succ f ih => exact fun L a w h => ⟨h.1, fun i hi => wpOp_mono (fun a' w' k => ih _ a' w' k.2) (h.2 i hi)⟩
def waitsZ (md : Region.Mode) (ops : Array Oper) (s i : Nat) : Bool := match ops[s]? with
  | some o => o.after.any fun e => Region.binds md e && e.on == i
  | none => false
theorem not_readyZ {md : Region.Mode} {ops : Array Oper} {i j : Nat} {oj : Oper} {L : Array Bool} (hr : i ∈ Region.ready md ops L) (hall : ∀ e ∈ oj.after, Region.binds md e = true → L.getD e.on false = true) (hj : ops[j]? = some oj) (hw : waitsZ md ops j i = true) : False := by
  simp only [waitsZ, hj, Array.any_eq_true, Bool.and_eq_true, beq_iff_eq] at hw
  obtain ⟨k, hk, hb, he⟩ := hw
  have h1 := hall _ (Array.getElem_mem hk) hb
  have h0 := (mem_ready.1 hr).1
  rw [he] at h1
  rcases Nat.lt_or_ge i L.size with h | h
  · simp [h] at h0 h1; rw [h0] at h1; cases h1
  · simp [Array.getElem?_eq_none h] at h1
def waitAll (md : Region.Mode) (ops : Array Oper) (Z : Nat → Bool) (i : Nat) : Bool := (List.range ops.size).all fun z => !Z z || waitsZ md ops z i
theorem waitAll_spec {md : Region.Mode} {ops : Array Oper} {Z : Nat → Bool} {i : Nat} (h : waitAll md ops Z i = true) {z : Nat} {o : Oper} (ho : ops[z]? = some o) (hz : Z z = true) : waitsZ md ops z i = true := by
  have hlt : z < ops.size := by
    rcases Nat.lt_or_ge z ops.size with h | h
    · exact h
    · rw [Array.getElem?_eq_none h] at ho; cases ho
  have := List.all_eq_true.1 h z (List.mem_range.2 hlt)
  simpa [hz] using this
theorem noWait {md : Region.Mode} {ops : Array Oper} {i j : Nat} {oj : Oper} {L : Array Bool} (hr : i ∈ Region.ready md ops L) (hall : ∀ e ∈ oj.after, Region.binds md e = true → L.getD e.on false = true) (hoj : ops[j]? = some oj) : ∀ x ∈ oj.after, Region.binds md x = true → x.on ≠ i := fun x hx hb he => not_readyZ hr hall hoj (by
  simp only [waitsZ, hoj, Array.any_eq_true, Bool.and_eq_true, beq_iff_eq]
  obtain ⟨k, hk, rfl⟩ := Array.getElem_of_mem hx
  exact ⟨k, hk, hb, he⟩)
theorem wpZ_first {P : Program} {ops : Array Oper} {Q : Exit → Act → World → Prop} {md : Region.Mode} {S : World → Prop} {Z : Nat → Bool} {i : Nat} {o : Oper} {v : Value} (ho : ops[i]? = some o) (hzi : Z i = false) (hw : waitAll md ops Z i = true) (hsel : ∀ (j : Nat) (o : Oper) cs b, ops[j]? = some o → o.op ≠ .select cs b) (hQ : ∀ c a w, Q (.panic c) (a.put o.dst v) w → Q (.panic c) a w) :
    ∀ (f : Nat) (L : Array Bool) (a : Act) (w : World), lateB ops.size Z L = false →
      (∀ j oj, ops[j]? = some oj → j ≠ i → L.getD j true = false → (∀ e ∈ oj.after, Region.binds md e = true → e.on ≠ i) → o.apart ops oj = true) →
      i ∈ Region.ready md ops L → YieldsIf P ops S o v a → S w → wpZ P md ops Q S Z f (L.setIfInBounds i true) (a.put o.dst v) w → wpZ P md ops Q S Z (f + 1) L a w := by
  intro f
  induction f with
  | zero =>
    intro L a w hL _ hr hy hS H
    refine ⟨fun h => absurd hr (by rw [h]; simp), fun j hj => ?_⟩
    by_cases e : j = i
    · rw [e]; exact hy.wpOp ho hS ⟨fun _ => hS, H⟩
    · have := ready_mono hj e
      rw [H.1] at this
      cases this
  | succ f ih =>
    intro L a w hL hfree hr hy hS H
    refine ⟨fun h => absurd hr (by rw [h]; simp), fun j hj => ?_⟩
    by_cases e : j = i
    · rw [e]; exact hy.wpOp ho hS ⟨fun _ => hS, H⟩
    · obtain ⟨hun, oj, hoj, hall⟩ := mem_ready.1 hj
      have hjs : Z j = false := by
        cases hz : Z j with
        | false => rfl
        | true => exact (not_readyZ hr hall hoj (waitAll_spec hw hoj hz)).elim
      have step := wpOp_putIf hoj (hfree j oj hoj e hun (noWait hr hall hoj)) (fun cs b => hsel i o cs b ho) (fun cs b => hsel j oj cs b hoj) hQ hy (H.2 j (ready_mono hj e))
      refine wpOp_mono (fun a' w' k => ?_) step
      have hS' : S w' := k.2.1 (by rw [lateB_set hjs, lateB_set hzi]; exact hL)
      refine ⟨fun _ => hS', ih _ a' w' (by rw [lateB_set hjs]; exact hL) (fun x ox hx hxi hxu hxn => hfree x ox hx hxi ?_ hxn) (ready_mono hr (Ne.symm e)) k.1 hS' ?_⟩
      · by_cases h : j = x
        · rw [← h]; exact hun
        · rw [getD_set_ne true h] at hxu; exact hxu
      · rw [Array.setIfInBounds_comm _ _ e]; exact k.2.2
theorem wpZ_pure {P : Program} {ops : Array Oper} {Q : Exit → Act → World → Prop} {md : Region.Mode} {S : World → Prop} {Z : Nat → Bool} {i : Nat} {o : Oper} {v : Value} (ho : ops[i]? = some o) (hzi : Z i = false) (hsel : ∀ (j : Nat) (o : Oper) cs b, ops[j]? = some o → o.op ≠ .select cs b) (hQ : ∀ c a w, Q (.panic c) (a.put o.dst v) w → Q (.panic c) a w) :
    ∀ (f : Nat) (L : Array Bool) (a : Act) (w : World),
      (∀ j oj, ops[j]? = some oj → j ≠ i → L.getD j true = false → (∀ e ∈ oj.after, Region.binds md e = true → e.on ≠ i) → o.apart ops oj = true) →
      i ∈ Region.ready md ops L → YieldsIf P ops (fun _ => True) o v a → (lateB ops.size Z L = false → S w) → wpZ P md ops Q S Z f (L.setIfInBounds i true) (a.put o.dst v) w → wpZ P md ops Q S Z (f + 1) L a w := by
  intro f
  induction f with
  | zero =>
    intro L a w _ hr hy hS H
    refine ⟨fun h => absurd hr (by rw [h]; simp), fun j hj => ?_⟩
    by_cases e : j = i
    · rw [e]; exact hy.wpOp ho trivial ⟨fun h => hS (by rw [← lateB_set hzi]; exact h), H⟩
    · have := ready_mono hj e
      rw [H.1] at this
      cases this
  | succ f ih =>
    intro L a w hfree hr hy hS H
    refine ⟨fun h => absurd hr (by rw [h]; simp), fun j hj => ?_⟩
    by_cases e : j = i
    · rw [e]; exact hy.wpOp ho trivial ⟨fun h => hS (by rw [← lateB_set hzi]; exact h), H⟩
    · obtain ⟨hun, oj, hoj, hall⟩ := mem_ready.1 hj
      have step := wpOp_putIf hoj (hfree j oj hoj e hun (noWait hr hall hoj)) (fun cs b => hsel i o cs b ho) (fun cs b => hsel j oj cs b hoj) hQ hy (H.2 j (ready_mono hj e))
      refine wpOp_mono (fun a' w' k => ?_) step
      have hS' : lateB ops.size Z (L.setIfInBounds j true) = false → S w' := fun h => k.2.1 (by rw [Array.setIfInBounds_comm _ _ (Ne.symm e), lateB_set hzi]; exact h)
      refine ⟨hS', ih _ a' w' (fun x ox hx hxi hxu hxn => hfree x ox hx hxi ?_ hxn) (ready_mono hr (Ne.symm e)) k.1 hS' ?_⟩
      · by_cases h : j = x
        · rw [← h]; exact hun
        · rw [getD_set_ne true h] at hxu; exact hxu
      · rw [Array.setIfInBounds_comm _ _ e]; exact k.2.2
theorem wpZ_take {P : Program} {ops : Array Oper} {Q : Exit → Act → World → Prop} {md : Region.Mode} {S : World → Prop} {Z : Nat → Bool} {i : Nat} {o : Oper} {v : Value} {f : Nat} {L : Array Bool} {a : Act} {w : World} (ho : ops[i]? = some o) (hc : (!Z i && !lateB ops.size Z L && waitAll md ops Z i && Region.noSelect ops && Region.free md ops L i && (Region.ready md ops L).contains i) = true)
    (hQ : ∀ c a w, Q (.panic c) (a.put o.dst v) w → Q (.panic c) a w) (hy : YieldsIf P ops S o v a) (hS : S w) (h : wpZ P md ops Q S Z f (L.setIfInBounds i true) (a.put o.dst v) w) : wpZ P md ops Q S Z (f + 1) L a w := by
  simp only [Bool.and_eq_true, Bool.not_eq_true'] at hc
  obtain ⟨⟨⟨⟨⟨h0, hl⟩, h1⟩, h2⟩, h3⟩, h4⟩ := hc
  exact wpZ_first ho h0 h1 (Region.noSelect_spec h2) hQ f L a w hl (Region.free_spec ho h3) (by simpa using h4) hy hS h
theorem wpZ_takeP {P : Program} {ops : Array Oper} {Q : Exit → Act → World → Prop} {md : Region.Mode} {S : World → Prop} {Z : Nat → Bool} {i : Nat} {o : Oper} {v : Value} {f : Nat} {L : Array Bool} {a : Act} {w : World} (ho : ops[i]? = some o) (hc : (!Z i && Region.noSelect ops && Region.free md ops L i && (Region.ready md ops L).contains i) = true)
    (hQ : ∀ c a w, Q (.panic c) (a.put o.dst v) w → Q (.panic c) a w) (hy : YieldsIf P ops (fun _ => True) o v a) (hS : S w) (h : wpZ P md ops Q S Z f (L.setIfInBounds i true) (a.put o.dst v) w) : wpZ P md ops Q S Z (f + 1) L a w := by
  simp only [Bool.and_eq_true, Bool.not_eq_true'] at hc
  obtain ⟨⟨⟨h0, h2⟩, h3⟩, h4⟩ := hc
  exact wpZ_pure ho h0 (Region.noSelect_spec h2) hQ f L a w (Region.free_spec ho h3) (by simpa using h4) hy (fun _ => hS) h
def AllZ (P : Program) (md : Region.Mode) (ops : Array Oper) (Q : Exit → Act → World → Prop) (S : World → Prop) (Z : Nat → Bool) (f : Nat) (L : Array Bool) (a : Act) (w : World) (rs : List Nat) : Prop :=
  ∀ i ∈ rs, wpOp P ops Q i (fun a' w' => (lateB ops.size Z (L.setIfInBounds i true) = false → S w') ∧ wpZ P md ops Q S Z f (L.setIfInBounds i true) a' w') a w
theorem AllZ.nil {P : Program} {ops : Array Oper} {Q : Exit → Act → World → Prop} {md : Region.Mode} {S : World → Prop} {Z : Nat → Bool} {f : Nat} {L : Array Bool} {a : Act} {w : World} : AllZ P md ops Q S Z f L a w [] := fun _ h => by cases h
theorem AllZ.cons {P : Program} {ops : Array Oper} {Q : Exit → Act → World → Prop} {md : Region.Mode} {S : World → Prop} {Z : Nat → Bool} {f : Nat} {L : Array Bool} {a : Act} {w : World} {i : Nat} {o : Oper} {rs : List Nat} (ho : ops[i]? = some o)
    (h : ∀ K' : Act → World → Prop, Shut (∀ a w, (lateB ops.size Z (L.setIfInBounds i true) = false → S w) → wpZ P md ops Q S Z f (L.setIfInBounds i true) a w → K' a w) → if Region.wanted o (yielded ops a.tmps) = true then Oper.wp P o a w K' Q else K' (a.put o.dst undef) w)
    (hs : AllZ P md ops Q S Z f L a w rs) : AllZ P md ops Q S Z f L a w (i :: rs) := fun j hj => by
  rcases List.mem_cons.1 hj with rfl | hj
  · exact wpOp_step ho (fun K' hK => h K' (fun a w hS hW => hK a w ⟨hS, hW⟩))
  · exact hs j hj
theorem wpZ_ready {P : Program} {ops : Array Oper} {Q : Exit → Act → World → Prop} {md : Region.Mode} {S : World → Prop} {Z : Nat → Bool} {rs : List Nat} {f : Nat} {L : Array Bool} {a : Act} {w : World} (hr : Region.ready md ops L = rs) (hne : rs ≠ []) (h : AllZ P md ops Q S Z f L a w rs) : wpZ P md ops Q S Z (f + 1) L a w :=
  ⟨fun h0 => absurd (hr.symm.trans h0) hne, fun i hi => h i (by rw [← hr]; exact hi)⟩
theorem wpZ_done {P : Program} {ops : Array Oper} {Q : Exit → Act → World → Prop} {md : Region.Mode} {S : World → Prop} {Z : Nat → Bool} {L : Array Bool} {a : Act} {w : World} (hr : Region.ready md ops L = []) (h : Q .normal a w) (f : Nat) : wpZ P md ops Q S Z f L a w := by
  cases f with
  | zero => exact ⟨hr, h⟩
  | succ f => exact ⟨fun _ => h, fun i hi => by rw [hr] at hi; cases hi⟩
theorem wp_region_z {P : Program} {ops : Array Oper} {Q : Exit → Act → World → Prop} {id : Nat} {a : Act} {w : World} (Z : Nat → Bool) (S : World → Prop) (hm : P.follows .mixedOrders = true) (h : wpZ P .any ops Q S Z ops.size (Array.replicate ops.size false) a w.drew) : (Code.region id ops true).wp P Q a w :=
  wp_region_any hm (wpAny_of_z _ _ _ _ h)
end Go.Proofs.YtnhjgomfkfehgaaGreatDoor
namespace Go.Proofs.YtnhjgomfkfehgaaGreatDoor
open Go.RowKit
open Go.Sort (grow)
set_option maxRecDepth 100000 in
set_option maxHeartbeats 2000000 in
theorem noBeyond (w : World) (s : tx.N5) (g n : Nat) (hg : w.cell? ⟨g, 0, none⟩ = some (.int .i64 (n : Int))) (hgl : g < w.heap.size) : Calls Tryz.prog 293 #[.agg #[.int .i64 s.region, .int .i64 s.slot, .int .i64 s.version, .int .i64 s.value, .bool s.used], .pointer (some ⟨g, 0, none⟩)] w fun e w' => e = .returned (.bool (decide ((n : Int) ≤ s.region))) ∧ Below w.heap.size w w' := by
  obtain ⟨wr, hW⟩ : ∃ Y, Y = w.alloc (.cells #[.int .i64 s.region, .int .i64 s.slot, .int .i64 s.version, .int .i64 s.value, .bool s.used] 106) := ⟨_, rfl⟩
  have b0 : Below w.heap.size w wr := by rw [hW]; exact (Below.refl _ _).alloc (Nat.le_refl _) _
  have FX : Hid (Bx wr w.heap.size [.int .i64 s.region, .int .i64 s.slot, .int .i64 s.version, .int .i64 s.value, .bool s.used]) := by rw [hW]; exact Bx.made w [.int .i64 s.region, .int .i64 s.slot, .int .i64 s.version, .int .i64 s.value, .bool s.used] _
  have hm : ∀ w : World, (method 470 106 (.agg #[.int .i64 s.region, .int .i64 s.slot, .int .i64 s.version, .int .i64 s.value, .bool s.used]) "loop.example/g00153/impl.cell").run Tryz.prog w = .ok (258, .agg #[.int .i64 s.region, .int .i64 s.slot, .int .i64 s.version, .int .i64 s.value, .bool s.used]) w := fun _ => by kernel_rfl
  have hfd : ∀ X : World, (Instr.field 87 (.agg #[.int .i64 s.region, .int .i64 s.slot]) 0).run Tryz.prog X = .ok (.int .i64 s.region) X := fun _ => by kernel_rfl
  have SF : Hid (∀ X, Below wr.heap.size wr X → (fun X : World => Bx X w.heap.size [.int .i64 s.region, .int .i64 s.slot, .int .i64 s.version, .int .i64 s.value, .bool s.used] ∧ X.cell? ⟨g, 0, none⟩ = some (.int .i64 (n : Int))) X) := fun X hX => ⟨FX.out.later hX, ((bstep b0 hX).cell (p := ⟨g, 0, none⟩) hgl).trans hg⟩
  have KB := hidOf b0
  clear b0 hg hgl
  go_enter Tryz.func293, Tryz.ntmps293
  go_wp2_with fail
  rw [← hW]
  clear hW
  have bd : Below wr.heap.size wr wr.drew := (Below.refl _ _).drew
  have hS := SF.out _ bd
  refine wp_region_z (fun z => z == 6) (fun X : World => Bx X w.heap.size [.int .i64 s.region, .int .i64 s.slot, .int .i64 s.version, .int .i64 s.value, .bool s.used] ∧ X.cell? ⟨g, 0, none⟩ = some (.int .i64 (n : Int))) (by kernel_rfl) ?_
  generalize wr.drew = Wd at *
  refine wpZ_take (i := 0) (v := ?_) rfl (by kernel_rfl) (fun _ _ _ h => h) (Or.inl ⟨by rfl, ?_⟩) hS ?_
  rotate_left
  · (intro X hSw; have c0 := hSw.1.1 0 _ rfl; have c1 := hSw.1.1 1 _ rfl; have c2 := hSw.1.1 2 _ rfl; have c3 := hSw.1.1 3 _ rfl; have c4 := hSw.1.1 4 _ rfl; go_simp; first | done | with_reducible rfl)
  simp only [Act.put]
  refine wpZ_take (i := 4) (v := ?_) rfl (by kernel_rfl) (fun _ _ _ h => h) (Or.inl ⟨by rfl, ?_⟩) hS ?_
  rotate_left
  · (intro X hSw; have c5 := hSw.2; go_simp; first | done | with_reducible rfl)
  simp only [Act.put]
  refine wpZ_takeP (i := 1) (v := ?_) rfl (by kernel_rfl) (fun _ _ _ h => h) (Or.inl ⟨by rfl, ?_⟩) hS ?_
  rotate_left
  · (intro X _; go_simp; first | done | with_reducible rfl)
  simp only [Act.put]
  refine wpZ_ready (rs := [2]) (by kernel_rfl) (by simp) ?_
  refine AllZ.cons rfl (fun K hK => ?_) AllZ.nil
  go_simp
  refine (tx.noCell_any Wd s).mono ?_
  rintro e X2 ⟨rfl, b2⟩
  have bX := bstep bd b2
  refine hK.out _ _ (fun _ => SF.out _ bX) ?_
  clear hK K
  have hS := SF.out _ bX
  refine wpZ_takeP (i := 3) (v := ?_) rfl (by kernel_rfl) (fun _ _ _ h => h) (Or.inl ⟨by rfl, ?_⟩) hS ?_
  rotate_left
  · (intro X _; go_simp; first | done | with_reducible rfl)
  simp only [Act.put]
  refine wpZ_takeP (i := 5) (v := ?_) rfl (by kernel_rfl) (fun _ _ _ h => h) (Or.inl ⟨by rfl, ?_⟩) hS ?_
  rotate_left
  · (intro X _; go_simp; first | done | with_reducible rfl)
  simp only [Act.put]
  refine wpZ_ready (rs := [6]) (by kernel_rfl) (by simp) ?_
  refine AllZ.cons rfl (fun K hK => ?_) AllZ.nil
  go_simp
  refine hK.out _ _ (fun h => absurd (show false = true from h.symm.trans (by kernel_rfl)) (by decide)) ?_
  clear hK K
  refine wpZ_done (by kernel_rfl) ?_ _
  go_wp2
  go_ret
  exact ⟨rfl, bstep KB.out bX⟩
set_option maxHeartbeats 2000000 in
theorem noBeyondIdx (w : World) (a : Option Addr) (cap : Nat) (xs : List tx.N5) (g n : Nat) (hn : xs.length ≤ maxLen) (hs : tx.SlNo w w.heap.size a xs.length xs) (hg : w.cell? ⟨g, 0, none⟩ = some (.int .i64 (n : Int))) (hgl : g < w.heap.size) :
    Calls Tryz.prog 296 #[.slice a xs.length cap, .func (.func 293) #[] #[.pointer (some ⟨g, 0, none⟩)]] w fun e w' => (∃ i : Int, e = .returned (.int .i64 i) ∧ FirstAt (fun i => decide ((n : Int) ≤ (tx.atNo xs i).region)) xs.length i) ∧ Below w.heap.size w w' := by
  unfold maxLen at hn
  obtain ⟨_, hs⟩ := hs
  obtain ⟨f, hf⟩ : ∃ f : Nat → Bool, f = fun i => decide ((n : Int) ≤ (tx.atNo xs i).region) := ⟨_, rfl⟩
  have HF : Hid (∀ (X : World) (i : Nat), Below w.heap.size w X → Calls Tryz.prog 293 #[.agg #[.int .i64 (tx.atNo xs i).region, .int .i64 (tx.atNo xs i).slot, .int .i64 (tx.atNo xs i).version, .int .i64 (tx.atNo xs i).value, .bool (tx.atNo xs i).used], .pointer (some ⟨g, 0, none⟩)] X fun e w' => e = .returned (.bool (f i)) ∧ Below X.heap.size X w') := fun X i hX => by
    rw [hf]; exact noBeyond X (tx.atNo xs i) g n ((hX.cell (p := ⟨g, 0, none⟩) hgl).trans hg) (Nat.lt_of_lt_of_le hgl hX.size)
  rw [← hf]
  clear hf hg
  go_enter Tryz.func296, Tryz.ntmps296
  go_wp2
  go_loopw [8] (fun v wr => ∃ j : Nat, j ≤ xs.length ∧ v = .int .i64 j ∧ Below w.heap.size w wr ∧ ∀ i, i < j → f i = false) (fun v _ => xs.length - (intOf v).toNat)
  case atStart => exact ⟨0, Nat.zero_le _, rfl, Below.refl _ _, fun i h => absurd h (by omega)⟩
  case round =>
    obtain ⟨j, hj, rfl, hbl, hall⟩ := hrel
    by_cases hlt : j < xs.length
    · rcases hs with hs | ⟨b, off, rfl, hb, h1⟩
      · omega
      · obtain ⟨c0, c1, c2, c3, c4⟩ := (h1.below hbl hb) j _ (tx.atNo_of hlt)
        have KA : Hid ((∀ i, i < j → f i = false) ∧ Below w.heap.size w wr) := ⟨hall, hbl⟩
        have hw := HF.out wr j hbl
        have jn : (j : Int) < (xs.length : Int) := by omega
        clear h1 hall hbl
        cases hp : f j with
        | true =>
          rw [hp] at hw
          go_wp2_with fail
          refine hw.mono ?_
          clear hw
          rintro e w1 ⟨rfl, b1⟩
          go_wp2
          go_ret
          exact ⟨⟨_, rfl, .inr ⟨j, rfl, hlt, hp, KA.out.1⟩⟩, KA.out.2.trans (b1.mono KA.out.2.size)⟩
        | false =>
          rw [hp] at hw
          go_wp2_with fail
          refine hw.mono ?_
          clear hw
          rintro e w1 ⟨rfl, b1⟩
          go_wp2
          exact ⟨⟨j + 1, by omega, by simp, KA.out.2.trans (b1.mono KA.out.2.size), fun i hi => by
            by_cases e : i = j
            · rw [e]; exact hp
            · exact KA.out.1 i (by omega)⟩, by simp [intOf]; omega⟩
    · obtain rfl : j = xs.length := by omega
      have hd : decide ((xs.length : Int) < (xs.length : Int)) = false := by simp
      have KA : Hid ((∀ i, i < xs.length → f i = false) ∧ Below w.heap.size w wr) := ⟨hall, hbl⟩
      clear hs hall hbl
      go_wp2
      go_ret
      exact ⟨⟨_, rfl, .inl ⟨rfl, KA.out.1⟩⟩, KA.out.2⟩
set_option maxHeartbeats 1000000 in
theorem noWithin (w : World) (a : Option Addr) (cap : Nat) (xs : List tx.N5) (n : Nat) (hn : xs.length ≤ maxLen) (hs : tx.SlNo w w.heap.size a xs.length xs) :
    Calls Tryz.prog 267 #[.slice a xs.length cap, .int .i64 (n : Int)] w fun e w' => e = .returned (.bool (readsB n xs)) ∧ Below w.heap.size w w' := by
  obtain ⟨W, hW⟩ : ∃ Y, Y = w.alloc (.cells #[.int .i64 (n : Int)] 3) := ⟨_, rfl⟩
  have b0 : Below w.heap.size w W := by rw [hW]; exact (Below.refl _ _).alloc (Nat.le_refl _) _
  have g0 : W.cell? ⟨w.heap.size, 0, none⟩ = some (.int .i64 (n : Int)) := by rw [hW]; go_simp
  have gl : w.heap.size < W.heap.size := by rw [hW]; simp
  have c1 := noBeyondIdx W a cap xs w.heap.size n hn ((hs.below b0).mono b0.size) g0 gl
  have HE : Hid (∀ i : Int, FirstAt (fun i => decide ((n : Int) ≤ (tx.atNo xs i).region)) xs.length i → (!decide (0 ≤ i)) = readsB n xs) := fun i h => by
    rw [first_has h, readsB]
    simp only [Bool.not_not]
    congr 1
    funext j
    rw [Bool.eq_iff_iff]
    simp
  have KB := hidOf b0
  clear b0 g0 gl hs hn
  have hcf : Calls Tryz.prog 274 #[.slice a xs.length cap, .func (.func 293) #[] #[.pointer (some ⟨w.heap.size, 0, none⟩)]] W fun e w' => e = .returned (.bool (!readsB n xs)) ∧ Below W.heap.size W w' := by
    clear hW KB
    go_enter Tryz.func274, Tryz.ntmps274
    go_wp2_with fail
    refine c1.mono ?_
    clear c1
    rintro e w1 ⟨⟨i, rfl, hi⟩, b1⟩
    have KE := hidOf (HE.out i hi)
    have K1 := hidOf b1
    clear hi HE b1
    go_wp2
    go_ret
    exact ⟨by rw [← KE.out]; simp, K1.out⟩
  clear c1 HE
  go_enter Tryz.func267, Tryz.ntmps267
  go_wp2_with fail
  rw [← hW]
  clear hW
  refine hcf.mono ?_
  clear hcf
  rintro e w1 ⟨rfl, b1⟩
  have K1 := hidOf b1
  clear b1
  go_wp2
  go_ret
  exact ⟨by simp, bstep KB.out K1.out⟩
set_option maxRecDepth 100000 in
set_option maxHeartbeats 2000000 in
theorem seBeyond (w : World) (s : S5) (g n : Nat) (hg : w.cell? ⟨g, 0, none⟩ = some (.int .i64 (n : Int))) (hgl : g < w.heap.size) : Calls Tryz.prog 294 #[.agg #[.int .i64 s.region, .int .i64 s.slot, .int .i64 s.value, .bool s.used, .int .i64 s.version], .pointer (some ⟨g, 0, none⟩)] w fun e w' => e = .returned (.bool (decide ((n : Int) ≤ s.region))) ∧ Below w.heap.size w w' := by
  obtain ⟨wr, hW⟩ : ∃ Y, Y = w.alloc (.cells #[.int .i64 s.region, .int .i64 s.slot, .int .i64 s.value, .bool s.used, .int .i64 s.version] 109) := ⟨_, rfl⟩
  have b0 : Below w.heap.size w wr := by rw [hW]; exact (Below.refl _ _).alloc (Nat.le_refl _) _
  have FX : Hid (Bx wr w.heap.size [.int .i64 s.region, .int .i64 s.slot, .int .i64 s.value, .bool s.used, .int .i64 s.version]) := by rw [hW]; exact Bx.made w [.int .i64 s.region, .int .i64 s.slot, .int .i64 s.value, .bool s.used, .int .i64 s.version] _
  have hm : ∀ w : World, (method 470 109 (.agg #[.int .i64 s.region, .int .i64 s.slot, .int .i64 s.value, .bool s.used, .int .i64 s.version]) "loop.example/g00153/impl.cell").run Tryz.prog w = .ok (209, .agg #[.int .i64 s.region, .int .i64 s.slot, .int .i64 s.value, .bool s.used, .int .i64 s.version]) w := fun _ => by kernel_rfl
  have hfd : ∀ X : World, (Instr.field 87 (.agg #[.int .i64 s.region, .int .i64 s.slot]) 0).run Tryz.prog X = .ok (.int .i64 s.region) X := fun _ => by kernel_rfl
  have SF : Hid (∀ X, Below wr.heap.size wr X → (fun X : World => Bx X w.heap.size [.int .i64 s.region, .int .i64 s.slot, .int .i64 s.value, .bool s.used, .int .i64 s.version] ∧ X.cell? ⟨g, 0, none⟩ = some (.int .i64 (n : Int))) X) := fun X hX => ⟨FX.out.later hX, ((bstep b0 hX).cell (p := ⟨g, 0, none⟩) hgl).trans hg⟩
  have KB := hidOf b0
  clear b0 hg hgl
  go_enter Tryz.func294, Tryz.ntmps294
  go_wp2_with fail
  rw [← hW]
  clear hW
  have bd : Below wr.heap.size wr wr.drew := (Below.refl _ _).drew
  have hS := SF.out _ bd
  refine wp_region_z (fun z => z == 6) (fun X : World => Bx X w.heap.size [.int .i64 s.region, .int .i64 s.slot, .int .i64 s.value, .bool s.used, .int .i64 s.version] ∧ X.cell? ⟨g, 0, none⟩ = some (.int .i64 (n : Int))) (by kernel_rfl) ?_
  generalize wr.drew = Wd at *
  refine wpZ_take (i := 0) (v := ?_) rfl (by kernel_rfl) (fun _ _ _ h => h) (Or.inl ⟨by rfl, ?_⟩) hS ?_
  rotate_left
  · (intro X hSw; have c0 := hSw.1.1 0 _ rfl; have c1 := hSw.1.1 1 _ rfl; have c2 := hSw.1.1 2 _ rfl; have c3 := hSw.1.1 3 _ rfl; have c4 := hSw.1.1 4 _ rfl; go_simp; first | done | with_reducible rfl)
  simp only [Act.put]
  refine wpZ_take (i := 4) (v := ?_) rfl (by kernel_rfl) (fun _ _ _ h => h) (Or.inl ⟨by rfl, ?_⟩) hS ?_
  rotate_left
  · (intro X hSw; have c5 := hSw.2; go_simp; first | done | with_reducible rfl)
  simp only [Act.put]
  refine wpZ_takeP (i := 1) (v := ?_) rfl (by kernel_rfl) (fun _ _ _ h => h) (Or.inl ⟨by rfl, ?_⟩) hS ?_
  rotate_left
  · (intro X _; go_simp; first | done | with_reducible rfl)
  simp only [Act.put]
  refine wpZ_ready (rs := [2]) (by kernel_rfl) (by simp) ?_
  refine AllZ.cons rfl (fun K hK => ?_) AllZ.nil
  go_simp
  refine (tx.seCell_any Wd s).mono ?_
  rintro e X2 ⟨rfl, b2⟩
  have bX := bstep bd b2
  refine hK.out _ _ (fun _ => SF.out _ bX) ?_
  clear hK K
  have hS := SF.out _ bX
  refine wpZ_takeP (i := 3) (v := ?_) rfl (by kernel_rfl) (fun _ _ _ h => h) (Or.inl ⟨by rfl, ?_⟩) hS ?_
  rotate_left
  · (intro X _; go_simp; first | done | with_reducible rfl)
  simp only [Act.put]
  refine wpZ_takeP (i := 5) (v := ?_) rfl (by kernel_rfl) (fun _ _ _ h => h) (Or.inl ⟨by rfl, ?_⟩) hS ?_
  rotate_left
  · (intro X _; go_simp; first | done | with_reducible rfl)
  simp only [Act.put]
  refine wpZ_ready (rs := [6]) (by kernel_rfl) (by simp) ?_
  refine AllZ.cons rfl (fun K hK => ?_) AllZ.nil
  go_simp
  refine hK.out _ _ (fun h => absurd (show false = true from h.symm.trans (by kernel_rfl)) (by decide)) ?_
  clear hK K
  refine wpZ_done (by kernel_rfl) ?_ _
  go_wp2
  go_ret
  exact ⟨rfl, bstep KB.out bX⟩
set_option maxHeartbeats 2000000 in
theorem seBeyondIdx (w : World) (a : Option Addr) (cap : Nat) (xs : List S5) (g n : Nat) (hn : xs.length ≤ maxLen) (hs : tx.Sl w w.heap.size a xs.length xs) (hg : w.cell? ⟨g, 0, none⟩ = some (.int .i64 (n : Int))) (hgl : g < w.heap.size) :
    Calls Tryz.prog 297 #[.slice a xs.length cap, .func (.func 294) #[] #[.pointer (some ⟨g, 0, none⟩)]] w fun e w' => (∃ i : Int, e = .returned (.int .i64 i) ∧ FirstAt (fun i => decide ((n : Int) ≤ (tx.atSe xs i).region)) xs.length i) ∧ Below w.heap.size w w' := by
  unfold maxLen at hn
  obtain ⟨_, hs⟩ := hs
  obtain ⟨f, hf⟩ : ∃ f : Nat → Bool, f = fun i => decide ((n : Int) ≤ (tx.atSe xs i).region) := ⟨_, rfl⟩
  have HF : Hid (∀ (X : World) (i : Nat), Below w.heap.size w X → Calls Tryz.prog 294 #[.agg #[.int .i64 (tx.atSe xs i).region, .int .i64 (tx.atSe xs i).slot, .int .i64 (tx.atSe xs i).value, .bool (tx.atSe xs i).used, .int .i64 (tx.atSe xs i).version], .pointer (some ⟨g, 0, none⟩)] X fun e w' => e = .returned (.bool (f i)) ∧ Below X.heap.size X w') := fun X i hX => by
    rw [hf]; exact seBeyond X (tx.atSe xs i) g n ((hX.cell (p := ⟨g, 0, none⟩) hgl).trans hg) (Nat.lt_of_lt_of_le hgl hX.size)
  rw [← hf]
  clear hf hg
  go_enter Tryz.func297, Tryz.ntmps297
  go_wp2
  go_loopw [8] (fun v wr => ∃ j : Nat, j ≤ xs.length ∧ v = .int .i64 j ∧ Below w.heap.size w wr ∧ ∀ i, i < j → f i = false) (fun v _ => xs.length - (intOf v).toNat)
  case atStart => exact ⟨0, Nat.zero_le _, rfl, Below.refl _ _, fun i h => absurd h (by omega)⟩
  case round =>
    obtain ⟨j, hj, rfl, hbl, hall⟩ := hrel
    by_cases hlt : j < xs.length
    · rcases hs with hs | ⟨b, off, rfl, hb, h1⟩
      · omega
      · obtain ⟨c0, c1, c2, c3, c4⟩ := (h1.below hbl hb) j _ (tx.atSe_of hlt)
        have KA : Hid ((∀ i, i < j → f i = false) ∧ Below w.heap.size w wr) := ⟨hall, hbl⟩
        have hw := HF.out wr j hbl
        have jn : (j : Int) < (xs.length : Int) := by omega
        clear h1 hall hbl
        cases hp : f j with
        | true =>
          rw [hp] at hw
          go_wp2_with fail
          refine hw.mono ?_
          clear hw
          rintro e w1 ⟨rfl, b1⟩
          go_wp2
          go_ret
          exact ⟨⟨_, rfl, .inr ⟨j, rfl, hlt, hp, KA.out.1⟩⟩, KA.out.2.trans (b1.mono KA.out.2.size)⟩
        | false =>
          rw [hp] at hw
          go_wp2_with fail
          refine hw.mono ?_
          clear hw
          rintro e w1 ⟨rfl, b1⟩
          go_wp2
          exact ⟨⟨j + 1, by omega, by simp, KA.out.2.trans (b1.mono KA.out.2.size), fun i hi => by
            by_cases e : i = j
            · rw [e]; exact hp
            · exact KA.out.1 i (by omega)⟩, by simp [intOf]; omega⟩
    · obtain rfl : j = xs.length := by omega
      have hd : decide ((xs.length : Int) < (xs.length : Int)) = false := by simp
      have KA : Hid ((∀ i, i < xs.length → f i = false) ∧ Below w.heap.size w wr) := ⟨hall, hbl⟩
      clear hs hall hbl
      go_wp2
      go_ret
      exact ⟨⟨_, rfl, .inl ⟨rfl, KA.out.1⟩⟩, KA.out.2⟩
set_option maxHeartbeats 1000000 in
theorem seWithin (w : World) (a : Option Addr) (cap : Nat) (xs : List S5) (n : Nat) (hn : xs.length ≤ maxLen) (hs : tx.Sl w w.heap.size a xs.length xs) :
    Calls Tryz.prog 268 #[.slice a xs.length cap, .int .i64 (n : Int)] w fun e w' => e = .returned (.bool (setsB n xs)) ∧ Below w.heap.size w w' := by
  obtain ⟨W, hW⟩ : ∃ Y, Y = w.alloc (.cells #[.int .i64 (n : Int)] 3) := ⟨_, rfl⟩
  have b0 : Below w.heap.size w W := by rw [hW]; exact (Below.refl _ _).alloc (Nat.le_refl _) _
  have g0 : W.cell? ⟨w.heap.size, 0, none⟩ = some (.int .i64 (n : Int)) := by rw [hW]; go_simp
  have gl : w.heap.size < W.heap.size := by rw [hW]; simp
  have c1 := seBeyondIdx W a cap xs w.heap.size n hn ((hs.below b0).mono b0.size) g0 gl
  have HE : Hid (∀ i : Int, FirstAt (fun i => decide ((n : Int) ≤ (tx.atSe xs i).region)) xs.length i → (!decide (0 ≤ i)) = setsB n xs) := fun i h => by
    rw [first_has h, setsB]
    simp only [Bool.not_not]
    congr 1
    funext j
    rw [Bool.eq_iff_iff]
    simp
  have KB := hidOf b0
  clear b0 g0 gl hs hn
  have hcf : Calls Tryz.prog 278 #[.slice a xs.length cap, .func (.func 294) #[] #[.pointer (some ⟨w.heap.size, 0, none⟩)]] W fun e w' => e = .returned (.bool (!setsB n xs)) ∧ Below W.heap.size W w' := by
    clear hW KB
    go_enter Tryz.func278, Tryz.ntmps278
    go_wp2_with fail
    refine c1.mono ?_
    clear c1
    rintro e w1 ⟨⟨i, rfl, hi⟩, b1⟩
    have KE := hidOf (HE.out i hi)
    have K1 := hidOf b1
    clear hi HE b1
    go_wp2
    go_ret
    exact ⟨by rw [← KE.out]; simp, K1.out⟩
  clear c1 HE
  go_enter Tryz.func268, Tryz.ntmps268
  go_wp2_with fail
  rw [← hW]
  clear hW
  refine hcf.mono ?_
  clear hcf
  rintro e w1 ⟨rfl, b1⟩
  have K1 := hidOf b1
  clear b1
  go_wp2
  go_ret
  exact ⟨by simp, bstep KB.out K1.out⟩
def fitB (k : C6) (t : tx.T7) : Bool := tx.txB t && decide (t.home < (k.machines.length : Int)) && decide (t.stamp ≤ k.clock) && readsB k.places.length t.reads && setsB k.places.length t.sets
set_option maxRecDepth 100000 in
set_option maxHeartbeats 4000000 in
theorem txFits_any (w : World) (t0 : Option Addr) (t1 : Nat) (t2 : Option Addr) (t3 : Nat) (t : tx.T7) (a1 : Option Addr) (c1 : Nat) (a2 : Option Addr) (c2 : Nat) (a3 : Option Addr) (c3 : Nat) (k : C6) (hl : tx.TL t) (h : tx.SlT w ⟨t0, t1, t2, t3⟩ t) : Calls Tryz.prog 237 #[.agg #[.int .i64 t.id, .int .i64 t.home, .int .i64 t.phase, .int .i64 t.count, .slice t0 t.reads.length t1, .slice t2 t.sets.length t3, .int .i64 t.stamp], .agg #[.int .i64 k.config, .int .i64 k.clock, .slice a1 k.places.length c1, .slice a2 k.machines.length c2, .slice a3 k.txs.length c3, .bool k.lost]] w fun e w' => e = .returned (.bool (fitB k t)) ∧ Below w.heap.size w w' := by
  obtain ⟨U0, hU0⟩ : ∃ Y, Y = w.alloc (.cells #[.int .i64 t.id, .int .i64 t.home, .int .i64 t.phase, .int .i64 t.count, .slice t0 t.reads.length t1, .slice t2 t.sets.length t3, .int .i64 t.stamp] 56) := ⟨_, rfl⟩
  have b0 : Below w.heap.size w U0 := by rw [hU0]; exact (Below.refl _ _).alloc (Nat.le_refl _) _
  have x0 : Bx U0 w.heap.size [.int .i64 t.id, .int .i64 t.home, .int .i64 t.phase, .int .i64 t.count, .slice t0 t.reads.length t1, .slice t2 t.sets.length t3, .int .i64 t.stamp] := by rw [hU0]; exact Bx.made w [.int .i64 t.id, .int .i64 t.home, .int .i64 t.phase, .int .i64 t.count, .slice t0 t.reads.length t1, .slice t2 t.sets.length t3, .int .i64 t.stamp] _
  have z0 : U0.heap.size = w.heap.size + 1 := by rw [hU0]; simp
  obtain ⟨U, hU⟩ : ∃ Y, Y = U0.alloc (.cells #[.int .i64 k.config, .int .i64 k.clock, .slice a1 k.places.length c1, .slice a2 k.machines.length c2, .slice a3 k.txs.length c3, .bool k.lost] 32) := ⟨_, rfl⟩
  have b1 : Below U0.heap.size U0 U := by rw [hU]; exact (Below.refl _ _).alloc (Nat.le_refl _) _
  have x1 : Bx U U0.heap.size [.int .i64 k.config, .int .i64 k.clock, .slice a1 k.places.length c1, .slice a2 k.machines.length c2, .slice a3 k.txs.length c3, .bool k.lost] := by rw [hU]; exact Bx.made U0 [.int .i64 k.config, .int .i64 k.clock, .slice a1 k.places.length c1, .slice a2 k.machines.length c2, .slice a3 k.txs.length c3, .bool k.lost] _
  rw [z0] at x1
  have bU : Below w.heap.size w U := bstep b0 b1
  have FA : Hid (Bx U w.heap.size [.int .i64 t.id, .int .i64 t.home, .int .i64 t.phase, .int .i64 t.count, .slice t0 t.reads.length t1, .slice t2 t.sets.length t3, .int .i64 t.stamp]) := x0.later b1
  have FB : Hid (Bx U (w.heap.size + 1) [.int .i64 k.config, .int .i64 k.clock, .slice a1 k.places.length c1, .slice a2 k.machines.length c2, .slice a3 k.txs.length c3, .bool k.lost]) := x1
  have HR : Hid (tx.SlT U ⟨t0, t1, t2, t3⟩ t ∧ tx.TL t ∧ Below w.heap.size w U) := ⟨h.later bU, hl, bU⟩
  have hc := tx.implTxOk_any U ⟨t0, t1, t2, t3⟩ t hl (h.later bU)
  simp only [tx.TV.val] at hc
  rw [hU0] at hU
  clear b0 x0 z0 b1 x1 bU hU0 h hl
  go_enter Tryz.func237, Tryz.ntmps237
  go_wp2_with fail
  rw [← hU]
  clear hU
  refine hc.mono ?_
  clear hc
  rintro e w1 ⟨rfl, b1⟩
  have B1 := hidOf b1
  clear b1
  cases hB : tx.txB t with
  | false =>
    have hb : Hid (fitB k t = false) := by unfold Hid; simp [fitB, hB]
    go_wp2
    go_ret
    exact ⟨by rw [hb.out]; rfl, bstep HR.out.2.2 B1.out⟩
  | true =>
  have q1 := (FA.out.later B1.out).1 1 _ rfl
  have q6 := (FA.out.later B1.out).1 6 _ rfl
  have q4 := (FA.out.later B1.out).1 4 _ rfl
  have r1 := (FB.out.later B1.out).1 1 _ rfl
  have r2 := (FB.out.later B1.out).1 2 _ rfl
  have r3 := (FB.out.later B1.out).1 3 _ rfl
  by_cases gh : t.home < (k.machines.length : Int)
  case neg =>
    have dh : decide ((k.machines.length : Int) ≤ t.home) = true := by simp <;> omega
    have hb : Hid (fitB k t = false) := by unfold Hid; simp [fitB, gh]
    go_wp2
    go_ret
    exact ⟨by rw [hb.out]; rfl, bstep HR.out.2.2 B1.out⟩
  have dh : decide ((k.machines.length : Int) ≤ t.home) = false := by simp <;> omega
  by_cases gs : t.stamp ≤ k.clock
  case neg =>
    have ds : decide (k.clock < t.stamp) = true := by simp <;> omega
    have hb : Hid (fitB k t = false) := by unfold Hid; simp [fitB, gs]
    go_wp2
    go_ret
    exact ⟨by rw [hb.out]; rfl, bstep HR.out.2.2 B1.out⟩
  have ds : decide (k.clock < t.stamp) = false := by simp <;> omega
  have HY : Hid (fitB k t = (readsB k.places.length t.reads && setsB k.places.length t.sets)) := by unfold Hid; simp [fitB, hB, gh, gs]
  have hc := noWithin w1 t0 t1 t.reads k.places.length HR.out.2.1.r (HR.out.1.later B1.out).r
  clear gh gs
  go_wp2_with fail
  refine hc.mono ?_
  clear hc q1 q6 q4 r1 r2 r3 dh ds
  rintro e w2 ⟨rfl, b2⟩
  have B2 : Hid (Below U.heap.size U w2) := bstep B1.out b2
  clear b2
  cases hR : readsB k.places.length t.reads with
  | false =>
    have hb : Hid (fitB k t = false) := by unfold Hid; rw [HY.out, hR]; rfl
    go_wp2
    go_ret
    exact ⟨by rw [hb.out]; rfl, bstep HR.out.2.2 B2.out⟩
  | true =>
  have q5 := (FA.out.later B2.out).1 5 _ rfl
  have r2 := (FB.out.later B2.out).1 2 _ rfl
  have hc := seWithin w2 t2 t3 t.sets k.places.length HR.out.2.1.s (HR.out.1.later B2.out).s
  have HZ : Hid (fitB k t = setsB k.places.length t.sets) := by unfold Hid; rw [HY.out, hR]; rfl
  go_wp2_with fail
  refine hc.mono ?_
  clear hc q5 r2
  rintro e w3 ⟨rfl, b3⟩
  have B3 : Hid (Below U.heap.size U w3) := bstep B2.out b3
  clear b3
  go_wp2
  go_ret
  exact ⟨by rw [HZ.out]; simp, bstep HR.out.2.2 B3.out⟩
set_option maxRecDepth 100000 in
set_option maxHeartbeats 2000000 in
theorem txWrong (w : World) (g : Nat) (t0 : Option Addr) (t1 : Nat) (t2 : Option Addr) (t3 : Nat) (t : tx.T7) (a1 : Option Addr) (c1 : Nat) (a2 : Option Addr) (c2 : Nat) (a3 : Option Addr) (c3 : Nat) (k : C6) (hl : tx.TL t) (h : tx.SlT w ⟨t0, t1, t2, t3⟩ t) (hg : Bx w g [.int .i64 k.config, .int .i64 k.clock, .slice a1 k.places.length c1, .slice a2 k.machines.length c2, .slice a3 k.txs.length c3, .bool k.lost]) : Calls Tryz.prog 236 #[.agg #[.int .i64 t.id, .int .i64 t.home, .int .i64 t.phase, .int .i64 t.count, .slice t0 t.reads.length t1, .slice t2 t.sets.length t3, .int .i64 t.stamp], .pointer (some ⟨g, 0, none⟩)] w fun e w' => e = .returned (.bool (!fitB k t)) ∧ Below w.heap.size w w' := by
  obtain ⟨U, hU⟩ : ∃ Y, Y = w.alloc (.cells #[.int .i64 t.id, .int .i64 t.home, .int .i64 t.phase, .int .i64 t.count, .slice t0 t.reads.length t1, .slice t2 t.sets.length t3, .int .i64 t.stamp] 56) := ⟨_, rfl⟩
  have b0 : Below w.heap.size w U := by rw [hU]; exact (Below.refl _ _).alloc (Nat.le_refl _) _
  have hc := txFits_any U t0 t1 t2 t3 t a1 c1 a2 c2 a3 c3 k hl (h.later b0)
  have hx := hg.later b0
  have p0 := hx.1 0 _ rfl
  have p1 := hx.1 1 _ rfl
  have p2 := hx.1 2 _ rfl
  have p3 := hx.1 3 _ rfl
  have p4 := hx.1 4 _ rfl
  have p5 := hx.1 5 _ rfl
  have KB := hidOf b0
  rw [hU] at p0 p1 p2 p3 p4 p5
  clear b0 hx hg h hl
  go_enter Tryz.func236, Tryz.ntmps236
  go_wp2_with fail
  rw [← hU]
  clear hU p0 p1 p2 p3 p4 p5
  refine hc.mono ?_
  clear hc
  rintro e w1 ⟨rfl, b1⟩
  have B1 := hidOf b1
  clear b1
  go_wp2
  go_ret
  exact ⟨rfl, bstep KB.out B1.out⟩
set_option maxHeartbeats 1000000 in
theorem idOf_any (w : World) (t0 : Option Addr) (t1 : Nat) (t2 : Option Addr) (t3 : Nat) (t : tx.T7) : Calls Tryz.prog 239 #[.agg #[.int .i64 t.id, .int .i64 t.home, .int .i64 t.phase, .int .i64 t.count, .slice t0 t.reads.length t1, .slice t2 t.sets.length t3, .int .i64 t.stamp]] w fun e w' => e = .returned (.int .i64 t.id) ∧ Below w.heap.size w w' := by
  go_enter Tryz.func239, Tryz.ntmps239
  go_wp2
  go_ret
  exact ⟨rfl, (Below.refl _ _).alloc (Nat.le_refl _) _⟩
def upT (ts : List tx.T7) (i : Nat) : Bool := decide (i = 0) || decide ((atT ts (i - 1)).id < (atT ts i).id)
theorem bstep' {A X Y : World} (h : Below A.heap.size A X) (b : Below X.heap.size X Y) : Below A.heap.size A Y := bstep h b
set_option maxRecDepth 100000 in
set_option maxHeartbeats 4000000 in
theorem risesT_any (w : World) (a : Option Addr) (cap : Nat) (ts : List tx.T7) (hn : ts.length ≤ maxLen) (hs : KTk.RdS w a ts) :
    Calls Tryz.prog 238 #[.slice a ts.length cap, .func (.func 239) #[] #[]] w fun e w' => e = .returned (.bool ((List.range ts.length).all (upT ts))) ∧ Below w.heap.size w w' := by
  unfold maxLen at hn
  go_enter Tryz.func238, Tryz.ntmps238
  go_wp2
  go_loopw [5] (fun i wr => ∃ j : Nat, (j + 1 ≤ ts.length ∨ j = 0) ∧ i = .int .i64 (((j + 1 : Nat)) : Int) ∧ Below w.heap.size w wr ∧ (List.range (j + 1)).all (upT ts) = true) (fun i _ => ts.length - (intOf i).toNat)
  case atStart => exact ⟨0, .inr rfl, rfl, Below.refl _ _, by simp [upT]⟩
  case round =>
    obtain ⟨j, hj, rfl, hbl, hall⟩ := hrel
    have K : Hid (Below w.heap.size w wr ∧ (List.range (j + 1)).all (upT ts) = true) := ⟨hbl, hall⟩
    by_cases hlt : j + 1 < ts.length
    · rcases hs with hs | ⟨b, off, rfl, hb, h1⟩
      · rw [hs] at hlt; simp at hlt
      obtain ⟨⟨x0', x1', x2', x3'⟩, hx, _⟩ := h1 (j + 1) _ (atT_of hlt)
      obtain ⟨⟨y0', y1', y2', y3'⟩, hy, _⟩ := h1 j _ (atT_of (by omega))
      have x0 : ∀ dd os, (grow (redrawn wr dd) os).cell? ⟨b, off + (j + 1) * 7, none⟩ = some (.int .i64 (atT ts (j + 1)).id) := fun dd os => ((bstep' K.out.1 (below_regrown wr dd os)).cell (p := ⟨b, off + (j + 1) * 7, none⟩) hb).trans (hx 0 _ rfl)
      have x1 : ∀ dd os, (grow (redrawn wr dd) os).cell? ⟨b, off + (j + 1) * 7 + 1, none⟩ = some (.int .i64 (atT ts (j + 1)).home) := fun dd os => ((bstep' K.out.1 (below_regrown wr dd os)).cell (p := ⟨b, off + (j + 1) * 7 + 1, none⟩) hb).trans (hx 1 _ rfl)
      have x2 : ∀ dd os, (grow (redrawn wr dd) os).cell? ⟨b, off + (j + 1) * 7 + 2, none⟩ = some (.int .i64 (atT ts (j + 1)).phase) := fun dd os => ((bstep' K.out.1 (below_regrown wr dd os)).cell (p := ⟨b, off + (j + 1) * 7 + 2, none⟩) hb).trans (hx 2 _ rfl)
      have x3 : ∀ dd os, (grow (redrawn wr dd) os).cell? ⟨b, off + (j + 1) * 7 + 3, none⟩ = some (.int .i64 (atT ts (j + 1)).count) := fun dd os => ((bstep' K.out.1 (below_regrown wr dd os)).cell (p := ⟨b, off + (j + 1) * 7 + 3, none⟩) hb).trans (hx 3 _ rfl)
      have x4 : ∀ dd os, (grow (redrawn wr dd) os).cell? ⟨b, off + (j + 1) * 7 + 4, none⟩ = some (.slice x0' (atT ts (j + 1)).reads.length x1') := fun dd os => ((bstep' K.out.1 (below_regrown wr dd os)).cell (p := ⟨b, off + (j + 1) * 7 + 4, none⟩) hb).trans (hx 4 _ rfl)
      have x5 : ∀ dd os, (grow (redrawn wr dd) os).cell? ⟨b, off + (j + 1) * 7 + 5, none⟩ = some (.slice x2' (atT ts (j + 1)).sets.length x3') := fun dd os => ((bstep' K.out.1 (below_regrown wr dd os)).cell (p := ⟨b, off + (j + 1) * 7 + 5, none⟩) hb).trans (hx 5 _ rfl)
      have x6 : ∀ dd os, (grow (redrawn wr dd) os).cell? ⟨b, off + (j + 1) * 7 + 6, none⟩ = some (.int .i64 (atT ts (j + 1)).stamp) := fun dd os => ((bstep' K.out.1 (below_regrown wr dd os)).cell (p := ⟨b, off + (j + 1) * 7 + 6, none⟩) hb).trans (hx 6 _ rfl)
      have y0 : ∀ dd os, (grow (redrawn wr dd) os).cell? ⟨b, off + j * 7, none⟩ = some (.int .i64 (atT ts j).id) := fun dd os => ((bstep' K.out.1 (below_regrown wr dd os)).cell (p := ⟨b, off + j * 7, none⟩) hb).trans (hy 0 _ rfl)
      have y1 : ∀ dd os, (grow (redrawn wr dd) os).cell? ⟨b, off + j * 7 + 1, none⟩ = some (.int .i64 (atT ts j).home) := fun dd os => ((bstep' K.out.1 (below_regrown wr dd os)).cell (p := ⟨b, off + j * 7 + 1, none⟩) hb).trans (hy 1 _ rfl)
      have y2 : ∀ dd os, (grow (redrawn wr dd) os).cell? ⟨b, off + j * 7 + 2, none⟩ = some (.int .i64 (atT ts j).phase) := fun dd os => ((bstep' K.out.1 (below_regrown wr dd os)).cell (p := ⟨b, off + j * 7 + 2, none⟩) hb).trans (hy 2 _ rfl)
      have y3 : ∀ dd os, (grow (redrawn wr dd) os).cell? ⟨b, off + j * 7 + 3, none⟩ = some (.int .i64 (atT ts j).count) := fun dd os => ((bstep' K.out.1 (below_regrown wr dd os)).cell (p := ⟨b, off + j * 7 + 3, none⟩) hb).trans (hy 3 _ rfl)
      have y4 : ∀ dd os, (grow (redrawn wr dd) os).cell? ⟨b, off + j * 7 + 4, none⟩ = some (.slice y0' (atT ts j).reads.length y1') := fun dd os => ((bstep' K.out.1 (below_regrown wr dd os)).cell (p := ⟨b, off + j * 7 + 4, none⟩) hb).trans (hy 4 _ rfl)
      have y5 : ∀ dd os, (grow (redrawn wr dd) os).cell? ⟨b, off + j * 7 + 5, none⟩ = some (.slice y2' (atT ts j).sets.length y3') := fun dd os => ((bstep' K.out.1 (below_regrown wr dd os)).cell (p := ⟨b, off + j * 7 + 5, none⟩) hb).trans (hy 5 _ rfl)
      have y6 : ∀ dd os, (grow (redrawn wr dd) os).cell? ⟨b, off + j * 7 + 6, none⟩ = some (.int .i64 (atT ts j).stamp) := fun dd os => ((bstep' K.out.1 (below_regrown wr dd os)).cell (p := ⟨b, off + j * 7 + 6, none⟩) hb).trans (hy 6 _ rfl)
      have cQ : ∀ d os, Calls Tryz.prog 239 #[.agg #[.int .i64 (atT ts (j + 1)).id, .int .i64 (atT ts (j + 1)).home, .int .i64 (atT ts (j + 1)).phase, .int .i64 (atT ts (j + 1)).count, .slice x0' (atT ts (j + 1)).reads.length x1', .slice x2' (atT ts (j + 1)).sets.length x3', .int .i64 (atT ts (j + 1)).stamp]] (grow (redrawn wr d) os) fun e w'' => e = .returned (.int .i64 (atT ts (j + 1)).id) ∧ ∃ p : Regrown, w'' = grow (redrawn wr p.d) p.os := fun d os => Calls.regrown_of (idOf_any _ _ _ _ _ _)
      have cR : ∀ d os, Calls Tryz.prog 239 #[.agg #[.int .i64 (atT ts j).id, .int .i64 (atT ts j).home, .int .i64 (atT ts j).phase, .int .i64 (atT ts j).count, .slice y0' (atT ts j).reads.length y1', .slice y2' (atT ts j).sets.length y3', .int .i64 (atT ts j).stamp]] (grow (redrawn wr d) os) fun e w'' => e = .returned (.int .i64 (atT ts j).id) ∧ ∃ p : Regrown, w'' = grow (redrawn wr p.d) p.os := fun d os => Calls.regrown_of (idOf_any _ _ _ _ _ _)
      have hj0 : (j : Int) < (ts.length : Int) := by omega
      have hj1 : ((j + 1 : Nat) : Int) < (ts.length : Int) := by omega
      have HL : Hid (j + 1 < ts.length) := hlt
      have U : Hid (upT ts (j + 1) = decide ((atT ts j).id < (atT ts (j + 1)).id)) := by unfold Hid; simp [upT]
      clear hx hy hbl hall h1 hlt
      generalize atT ts (j + 1) = tx1 at *
      generalize atT ts j = tx0 at *
      by_cases hq : tx1.id ≤ tx0.id
      · have hq1 : decide (tx1.id ≤ tx0.id) = true := by simp [hq]
        have hU : upT ts (j + 1) = false := by rw [U.out]; simp; omega
        clear hq
        go_wp2_with fail
        refine wp_region_quiet_below (by kernel_rfl) (by kernel_rfl) ?_
        repeat (go_big_quiet_step (first | (go_at_call_of 239 (Value.agg #[.int .i64 tx1.id, .int .i64 tx1.home, .int .i64 tx1.phase, .int .i64 tx1.count, .slice x0' tx1.reads.length x1', .slice x2' tx1.sets.length x3', .int .i64 tx1.stamp]); exact cQ _ _) | (go_at_call_of 239 (Value.agg #[.int .i64 tx0.id, .int .i64 tx0.home, .int .i64 tx0.phase, .int .i64 tx0.count, .slice y0' tx0.reads.length y1', .slice y2' tx0.sets.length y3', .int .i64 tx0.stamp]); exact cR _ _)))
        refine wpQuiet_nil ?_
        intro _ hw'
        obtain ⟨⟨dq, osq⟩, hw''⟩ := hw'
        subst hw''
        have bq := below_regrown wr dq osq
        go_wp2
        go_ret
        exact ⟨by rw [all_off (f := upT ts) HL.out hU]; rfl, K.out.1.trans (bq.mono K.out.1.size)⟩
      · have hq1 : decide (tx1.id ≤ tx0.id) = false := by simp; omega
        have hU : upT ts (j + 1) = true := by rw [U.out]; simp; omega
        clear hq
        go_wp2_with fail
        refine wp_region_quiet_below (by kernel_rfl) (by kernel_rfl) ?_
        repeat (go_big_quiet_step (first | (go_at_call_of 239 (Value.agg #[.int .i64 tx1.id, .int .i64 tx1.home, .int .i64 tx1.phase, .int .i64 tx1.count, .slice x0' tx1.reads.length x1', .slice x2' tx1.sets.length x3', .int .i64 tx1.stamp]); exact cQ _ _) | (go_at_call_of 239 (Value.agg #[.int .i64 tx0.id, .int .i64 tx0.home, .int .i64 tx0.phase, .int .i64 tx0.count, .slice y0' tx0.reads.length y1', .slice y2' tx0.sets.length y3', .int .i64 tx0.stamp]); exact cR _ _)))
        refine wpQuiet_nil ?_
        intro _ hw'
        obtain ⟨⟨dq, osq⟩, hw''⟩ := hw'
        subst hw''
        have bq := below_regrown wr dq osq
        go_wp2
        exact ⟨⟨j + 1, .inl (by have := HL.out; omega), by simp, K.out.1.trans (bq.mono K.out.1.size), all_on (f := upT ts) K.out.2 hU⟩, by have := HL.out; simp [intOf]; omega⟩
    · have hd : decide (((j + 1 : Nat) : Int) < (ts.length : Int)) = false := by simp; omega
      have hA : (List.range ts.length).all (upT ts) = true := by
        by_cases h0 : ts.length = 0
        · rw [h0]; rfl
        · have : ts.length = j + 1 := by omega
          rw [this]; exact hall
      have HA := hidOf hA
      clear hs hall hA
      go_wp2
      go_ret
      exact ⟨by rw [HA.out]; rfl, hbl⟩
def idxTF (w : World) (xs : List tx.T7) (g : Nat) (f : Nat → Bool) : Prop :=
  ∀ (X : World) (i : Nat) (t0 : Option Addr) (t1 : Nat) (t2 : Option Addr) (t3 : Nat), Below w.heap.size w X → i < xs.length → KTk.Rd X ⟨t0, t1, t2, t3⟩ (atT xs i) → Calls Tryz.prog 236 #[.agg #[.int .i64 (atT xs i).id, .int .i64 (atT xs i).home, .int .i64 (atT xs i).phase, .int .i64 (atT xs i).count, .slice t0 (atT xs i).reads.length t1, .slice t2 (atT xs i).sets.length t3, .int .i64 (atT xs i).stamp], .pointer (some ⟨g, 0, none⟩)] X fun e w' => e = .returned (.bool (f i)) ∧ Below X.heap.size X w'
set_option maxRecDepth 100000 in
set_option maxHeartbeats 2000000 in
theorem idxT (w : World) (a : Option Addr) (cap : Nat) (xs : List tx.T7) (g : Nat) (f : Nat → Bool) (hn : xs.length ≤ maxLen) (hs : KTk.RdS w a xs) (hf : idxTF w xs g f) :
    Calls Tryz.prog 269 #[.slice a xs.length cap, .func (.func 236) #[] #[.pointer (some ⟨g, 0, none⟩)]] w fun e w' => (∃ i : Int, e = .returned (.int .i64 i) ∧ FirstAt f xs.length i) ∧ Below w.heap.size w w' := by
  unfold maxLen at hn
  have HF := hidOf hf
  clear hf
  go_enter Tryz.func269, Tryz.ntmps269
  go_wp2
  go_loopw [8] (fun v wr => ∃ j : Nat, j ≤ xs.length ∧ v = .int .i64 j ∧ Below w.heap.size w wr ∧ ∀ i, i < j → f i = false) (fun v _ => xs.length - (intOf v).toNat)
  case atStart => exact ⟨0, Nat.zero_le _, rfl, Below.refl _ _, fun i h => absurd h (by omega)⟩
  case round =>
    obtain ⟨j, hj, rfl, hbl, hall⟩ := hrel
    by_cases hlt : j < xs.length
    · rcases hs with hs | ⟨b, off, rfl, hb, h1⟩
      · rw [hs] at hlt; simp at hlt
      obtain ⟨⟨t0, t1, t2, t3⟩, hat, hrd⟩ := h1 j _ (atT_of hlt)
      have e0 : wr.cell? ⟨b, off + j * 7, none⟩ = some (.int .i64 (atT xs j).id) := (hbl.cell (p := ⟨b, off + j * 7, none⟩) hb).trans (hat 0 _ rfl)
      have e1 : wr.cell? ⟨b, off + j * 7 + 1, none⟩ = some (.int .i64 (atT xs j).home) := (hbl.cell (p := ⟨b, off + j * 7 + 1, none⟩) hb).trans (hat 1 _ rfl)
      have e2 : wr.cell? ⟨b, off + j * 7 + 2, none⟩ = some (.int .i64 (atT xs j).phase) := (hbl.cell (p := ⟨b, off + j * 7 + 2, none⟩) hb).trans (hat 2 _ rfl)
      have e3 : wr.cell? ⟨b, off + j * 7 + 3, none⟩ = some (.int .i64 (atT xs j).count) := (hbl.cell (p := ⟨b, off + j * 7 + 3, none⟩) hb).trans (hat 3 _ rfl)
      have e4 : wr.cell? ⟨b, off + j * 7 + 4, none⟩ = some (.slice t0 (atT xs j).reads.length t1) := (hbl.cell (p := ⟨b, off + j * 7 + 4, none⟩) hb).trans (hat 4 _ rfl)
      have e5 : wr.cell? ⟨b, off + j * 7 + 5, none⟩ = some (.slice t2 (atT xs j).sets.length t3) := (hbl.cell (p := ⟨b, off + j * 7 + 5, none⟩) hb).trans (hat 5 _ rfl)
      have e6 : wr.cell? ⟨b, off + j * 7 + 6, none⟩ = some (.int .i64 (atT xs j).stamp) := (hbl.cell (p := ⟨b, off + j * 7 + 6, none⟩) hb).trans (hat 6 _ rfl)
      have hw := HF.out wr j t0 t1 t2 t3 hbl hlt (KTk.later hrd hbl)
      have KA : Hid ((∀ i, i < j → f i = false) ∧ Below w.heap.size w wr) := ⟨hall, hbl⟩
      have jn : (j : Int) < (xs.length : Int) := by omega
      clear h1 hat hrd hall hbl
      cases hp : f j with
      | true =>
        rw [hp] at hw
        go_wp2_with fail
        refine hw.mono ?_
        clear hw
        rintro e w1 ⟨rfl, b1⟩
        go_wp2
        go_ret
        exact ⟨⟨_, rfl, .inr ⟨j, rfl, hlt, hp, KA.out.1⟩⟩, KA.out.2.trans (b1.mono KA.out.2.size)⟩
      | false =>
        rw [hp] at hw
        go_wp2_with fail
        refine hw.mono ?_
        clear hw
        rintro e w1 ⟨rfl, b1⟩
        go_wp2
        exact ⟨⟨j + 1, by omega, by simp, KA.out.2.trans (b1.mono KA.out.2.size), fun i hi => by
          by_cases e : i = j
          · rw [e]; exact hp
          · exact KA.out.1 i (by omega)⟩, by simp [intOf]; omega⟩
    · obtain rfl : j = xs.length := by omega
      have hd : decide ((xs.length : Int) < (xs.length : Int)) = false := by simp
      have KA : Hid ((∀ i, i < xs.length → f i = false) ∧ Below w.heap.size w wr) := ⟨hall, hbl⟩
      clear hall hbl hs
      go_wp2
      go_ret
      exact ⟨⟨_, rfl, .inl ⟨rfl, KA.out.1⟩⟩, KA.out.2⟩
set_option maxHeartbeats 1000000 in
theorem idxT_has (w : World) (a : Option Addr) (cap : Nat) (xs : List tx.T7) (g : Nat) (f : Nat → Bool) (hn : xs.length ≤ maxLen) (hs : KTk.RdS w a xs) (hf : idxTF w xs g f) :
    Calls Tryz.prog 240 #[.slice a xs.length cap, .func (.func 236) #[] #[.pointer (some ⟨g, 0, none⟩)]] w fun e w' => e = .returned (.bool (!((List.range xs.length).all fun j => !f j))) ∧ Below w.heap.size w w' := by
  have hc := idxT w a cap xs g f hn hs hf
  clear hs hf
  go_enter Tryz.func240, Tryz.ntmps240
  go_wp2_with fail
  refine hc.mono ?_
  clear hc
  rintro e w1 ⟨⟨i, rfl, hi⟩, b1⟩
  have h := first_has hi
  have KB := hidOf b1
  clear b1 hi
  go_wp2
  go_ret
  exact ⟨by rw [← h]; rfl, KB.out⟩
theorem txsB_eq (k : C6) : txsB k = ((List.range k.txs.length).all (upT k.txs) && (List.range k.txs.length).all (fun i => fitB k (atT k.txs i))) := by
  unfold txsB
  rw [← all_and]
  apply all_congr
  intro i _
  unfold txAtB upT fitB
  cases tx.txB (atT k.txs i) <;> cases decide (i = 0) <;> cases decide ((atT k.txs (i - 1)).id < (atT k.txs i).id) <;> simp
set_option maxRecDepth 100000 in
set_option maxHeartbeats 2000000 in
theorem txsFit_any (w : World) (a1 : Option Addr) (c1 : Nat) (a2 : Option Addr) (c2 : Nat) (a3 : Option Addr) (c3 : Nat) (k : C6) (hl : KCl.L k) (h : KCl.Rd w a1 c1 a2 c2 a3 c3 k) : Calls Tryz.prog 195 #[.agg #[.int .i64 k.config, .int .i64 k.clock, .slice a1 k.places.length c1, .slice a2 k.machines.length c2, .slice a3 k.txs.length c3, .bool k.lost]] w fun e w' => e = .returned (.bool (decide (k.txs.length ≤ 60) && txsB k)) ∧ Below w.heap.size w w' := by
  obtain ⟨U, hU⟩ : ∃ Y, Y = w.alloc (.cells #[.int .i64 k.config, .int .i64 k.clock, .slice a1 k.places.length c1, .slice a2 k.machines.length c2, .slice a3 k.txs.length c3, .bool k.lost] 32) := ⟨_, rfl⟩
  have b0 : Below w.heap.size w U := by rw [hU]; exact (Below.refl _ _).alloc (Nat.le_refl _) _
  have FA : Hid (Bx U w.heap.size [.int .i64 k.config, .int .i64 k.clock, .slice a1 k.places.length c1, .slice a2 k.machines.length c2, .slice a3 k.txs.length c3, .bool k.lost]) := by rw [hU]; exact Bx.made w [.int .i64 k.config, .int .i64 k.clock, .slice a1 k.places.length c1, .slice a2 k.machines.length c2, .slice a3 k.txs.length c3, .bool k.lost] _
  have HR : Hid (KCl.Rd U a1 c1 a2 c2 a3 c3 k ∧ KCl.L k) := ⟨h.later b0, hl⟩
  have BW : Hid (Below w.heap.size w U) := b0
  have lt := hl.t
  unfold maxLen at lt
  have p4 := FA.out.1 4 _ rfl
  rw [hU] at p4
  clear b0 h hl
  by_cases g5 : k.txs.length ≤ 60
  case neg =>
    have d5 : decide ((k.txs.length : Int) ≤ 60) = false := by simp <;> omega
    have hb : (decide (k.txs.length ≤ 60) && txsB k) = false := by simp [g5]
    rw [hb]
    rw [hU] at BW
    clear FA HR hU hb
    go_enter Tryz.func195, Tryz.ntmps195
    go_wp2
    go_ret
    exact ⟨rfl, BW.out⟩
  have d5 : decide ((k.txs.length : Int) ≤ 60) = true := by simp <;> omega
  have HB : Hid ((decide (k.txs.length ≤ 60) && txsB k) = ((List.range k.txs.length).all (upT k.txs) && (List.range k.txs.length).all (fun i => fitB k (atT k.txs i)))) := by unfold Hid; rw [← txsB_eq]; simp [g5]
  have hc := risesT_any U a3 c3 k.txs HR.out.2.t HR.out.1.t
  go_enter Tryz.func195, Tryz.ntmps195
  go_wp2_with fail
  rw [← hU]
  clear hU p4
  refine hc.mono ?_
  clear hc
  rintro e w1 ⟨rfl, b1⟩
  have B1 := hidOf b1
  clear b1
  cases hR : (List.range k.txs.length).all (upT k.txs) with
  | false =>
    go_wp2
    go_ret
    exact ⟨by rw [HB.out, hR]; rfl, bstep BW.out B1.out⟩
  | true =>
  have p4 := (FA.out.later B1.out).1 4 _ rfl
  have hc := idxT_has w1 a3 c3 k.txs w.heap.size (fun i => !fitB k (atT k.txs i)) HR.out.2.t (HR.out.1.later B1.out).t (fun X i t0 t1 t2 t3 hb hi hr => txWrong X w.heap.size t0 t1 t2 t3 (atT k.txs i) a1 c1 a2 c2 a3 c3 k (HR.out.2.ts _ (List.mem_of_getElem? (atT_of hi))) hr (FA.out.later (bstep B1.out hb)))
  have he : (!((List.range k.txs.length).all fun j => !(fun i => !fitB k (atT k.txs i)) j)) = !((List.range k.txs.length).all fun i => fitB k (atT k.txs i)) := by simp
  rw [he] at hc
  clear he
  have HZ : Hid ((decide (k.txs.length ≤ 60) && txsB k) = (List.range k.txs.length).all (fun i => fitB k (atT k.txs i))) := by unfold Hid; rw [HB.out, hR]; rfl
  generalize ((List.range k.txs.length).all fun i => fitB k (atT k.txs i)) = BB at *
  go_wp2_with fail
  refine hc.mono ?_
  clear hc p4
  rintro e w2 ⟨rfl, b2⟩
  have B2 : Hid (Below U.heap.size U w2) := bstep B1.out b2
  clear b2
  go_wp2
  go_ret
  exact ⟨by rw [HZ.out]; simp, bstep BW.out B2.out⟩
def idxCelF (w : World) (n : Nat) (rs : List K2) (g : Nat) (f : Nat → Bool) : Prop :=
  ∀ (X : World) (i : Nat) (a' : Option Addr) (cap' : Nat), Below w.heap.size w X → i < n → SlC X X.heap.size a' (atK rs i).cells.length (atK rs i).cells → Calls Tryz.prog 331 #[(atK rs i).val a' cap', .pointer (some ⟨g, 0, none⟩)] X fun e w' => e = .returned (.bool (f i)) ∧ Below X.heap.size X w'
set_option maxHeartbeats 2000000 in
theorem idxCel (w : World) (a : Option Addr) (n cap : Nat) (rs : List K2) (g : Nat) (f : Nat → Bool) (hn : n ≤ maxLen) (hs : SlK w w.heap.size a n rs) (hf : idxCelF w n rs g f) :
    Calls Tryz.prog 299 #[.slice a n cap, .func (.func 331) #[] #[.pointer (some ⟨g, 0, none⟩)]] w fun e w' => (∃ i : Int, e = .returned (.int .i64 i) ∧ FirstAt f n i) ∧ Below w.heap.size w w' := by
  unfold maxLen at hn
  obtain ⟨hx, hs⟩ := hs
  have HF := hidOf hf
  clear hf
  go_enter Tryz.func299, Tryz.ntmps299
  go_wp2
  go_loopw [8] (fun v wr => ∃ j : Nat, j ≤ n ∧ v = .int .i64 j ∧ Below w.heap.size w wr ∧ ∀ i, i < j → f i = false) (fun v _ => n - (intOf v).toNat)
  case atStart => exact ⟨0, Nat.zero_le _, rfl, Below.refl _ _, fun i h => absurd h (by omega)⟩
  case round =>
    obtain ⟨j, hj, rfl, hbl, hall⟩ := hrel
    by_cases hlt : j < n
    · rcases hs with hs | ⟨b, off, rfl, hb, h1⟩
      · omega
      · have hr := (h1 j _ (atK_of (by omega))).below hbl hb
        have c0 := hr.c0
        obtain ⟨a', cap', c1, hsl, hcp⟩ := hr.c1
        have KA : Hid ((∀ i, i < j → f i = false) ∧ Below w.heap.size w wr) := ⟨hall, hbl⟩
        have hw := HF.out wr j a' cap' hbl hlt (hsl.mono hbl.size)
        simp only [K2.val] at hw
        clear h1 hr hall hsl hbl hcp
        generalize (atK rs j).cells.length = ln at *
        cases hp : f j with
        | true =>
          rw [hp] at hw
          go_wp2_with fail
          refine hw.mono ?_
          clear hw
          rintro e w1 ⟨rfl, b1⟩
          go_wp2
          go_ret
          exact ⟨⟨_, rfl, .inr ⟨j, rfl, hlt, hp, KA.out.1⟩⟩, KA.out.2.trans (b1.mono KA.out.2.size)⟩
        | false =>
          rw [hp] at hw
          go_wp2_with fail
          refine hw.mono ?_
          clear hw
          rintro e w1 ⟨rfl, b1⟩
          go_wp2
          exact ⟨⟨j + 1, by omega, by simp, KA.out.2.trans (b1.mono KA.out.2.size), fun i hi => by
            by_cases e : i = j
            · rw [e]; exact hp
            · exact KA.out.1 i (by omega)⟩, by simp [intOf]; omega⟩
    · have : j = n := by omega
      subst this
      have hd : decide ((j : Int) < (j : Int)) = false := by simp
      have KA : Hid (∀ i, i < j → f i = false) := hall
      clear hs hall
      go_wp2
      go_ret
      exact ⟨⟨_, rfl, .inl ⟨rfl, KA.out⟩⟩, hbl⟩
theorem mach_six {m : M4} (h : machB m = true) : ∀ c ∈ m.copies, c.cells.length = 6 := by
  simp only [machB, Bool.and_eq_true, decide_eq_true_eq] at h
  obtain ⟨⟨⟨⟨⟨h1, h2⟩, h3⟩, _⟩, h4⟩, h5⟩ := h
  intro c hc
  obtain ⟨i, hi, rfl⟩ := List.getElem_of_mem hc
  have := List.all_eq_true.1 h4 i (List.mem_range.2 hi)
  simp only [copB, atK, List.getElem?_eq_getElem hi, Option.getD_some, Bool.and_eq_true, cellsB, decide_eq_true_eq] at this
  exact this.1.2.1
def memV (m : M4) (a : Option Addr) (c : Nat) : Value := if m.alive then .iface 253 (.agg #[.slice a m.copies.length c]) else .iface 255 (.agg #[])
set_option maxHeartbeats 1000000 in
theorem memberOf_any (w : World) (m0 : Option Addr) (m1 : Nat) (m2 : Option Addr) (m3 : Nat) (m4 : Option Addr) (m5 : Nat) (m : M4) : Calls Tryz.prog 154 #[.agg #[.bool m.alive, .slice m0 m.copies.length m1, .slice m2 m.log.length m3, .slice m4 m.cleared.length m5]] w fun e w' => e = .returned (memV m m0 m1) ∧ Below w.heap.size w w' := by
  cases ha : m.alive with
  | true =>
    have hv : memV m m0 m1 = .iface 253 (.agg #[.slice m0 m.copies.length m1]) := by simp [memV, ha]
    rw [hv]
    clear hv
    go_enter Tryz.func154, Tryz.ntmps154
    go_wp2
    go_ret
    exact ⟨rfl, (Below.refl _ _).alloc (Nat.le_refl _) _⟩
  | false =>
    have hv : memV m m0 m1 = .iface 255 (.agg #[]) := by simp [memV, ha]
    rw [hv]
    clear hv
    go_enter Tryz.func154, Tryz.ntmps154
    go_wp2
    go_ret
    exact ⟨rfl, (Below.refl _ _).alloc (Nat.le_refl _) _⟩
set_option maxHeartbeats 1000000 in
theorem livesL_any (w : World) (a : Option Addr) (n c : Nat) : Calls Tryz.prog 330 #[.agg #[.slice a n c]] w fun e w' => e = .returned (.bool true) ∧ Below w.heap.size w w' := by
  go_enter Tryz.func330, Tryz.ntmps330
  go_wp2
  go_ret
  exact ⟨rfl, (Below.refl _ _).alloc (Nat.le_refl _) _⟩
set_option maxHeartbeats 1000000 in
theorem livesD_any (w : World) : Calls Tryz.prog 332 #[.agg #[]] w fun e w' => e = .returned (.bool false) ∧ Below w.heap.size w w' := by
  go_enter Tryz.func332, Tryz.ntmps332
  go_wp2
  go_ret
  exact ⟨rfl, (Below.refl _ _).alloc (Nat.le_refl _) _⟩
set_option maxHeartbeats 1000000 in
theorem such_any (w : World) (x y : Int) (a : Option Addr) (n c g : Nat) (hg : w.cell? ⟨g, 0, none⟩ = some (.int .i64 y)) (hgl : g < w.heap.size) : Calls Tryz.prog 331 #[.agg #[.int .i64 x, .slice a n c], .pointer (some ⟨g, 0, none⟩)] w fun e w' => e = .returned (.bool (decide (x = y))) ∧ Below w.heap.size w w' := by
  have b0 : Below w.heap.size w (w.alloc (.cells #[.int .i64 x, .slice a n c] 99)) := (Below.refl _ _).alloc (Nat.le_refl _) _
  have p0 := (b0.cell (p := ⟨g, 0, none⟩) hgl).trans hg
  have he : (x == y) = decide (x = y) := by by_cases h : x = y <;> simp [h]
  have KB := hidOf b0
  clear b0 hg hgl
  go_enter Tryz.func331, Tryz.ntmps331
  go_wp2
  go_ret
  exact ⟨by rw [← he]; rfl, KB.out⟩
def CelAns (w w' : World) (m : M4) (y : Int) (e : Ending) : Prop :=
  (hasC m y = false ∧ e = .returned (.tuple #[.slice none 0 0, .bool false])) ∨
  (hasC m y = true ∧ ∃ i q cp : Nat, idxC m y = (i : Int) ∧ i < m.copies.length ∧ e = .returned (.tuple #[.slice (some ⟨q, 0, none⟩) (atK m.copies i).cells.length cp, .bool true]) ∧ w.heap.size ≤ q ∧ q < w'.heap.size ∧ (atK m.copies i).cells.length ≤ cp ∧ CellsAt w' q 0 (atK m.copies i).cells ∧ Room w' q ((atK m.copies i).cells.length * 2))
theorem CelAns.up {A w w' : World} {m : M4} {y : Int} {e : Ending} (h : CelAns w w' m y e) (hA : A.heap.size ≤ w.heap.size) : CelAns A w' m y e := by
  rcases h with h | ⟨h, i, q, cp, h1, h2, h3, h4, h5⟩
  · exact .inl h
  · exact .inr ⟨h, i, q, cp, h1, h2, h3, Nat.le_trans hA h4, h5⟩
set_option maxRecDepth 100000 in
set_option maxHeartbeats 2000000 in
theorem cells_any (w : World) (a : Option Addr) (c : Nat) (m : M4) (y : Int) (hl : ML m) (hB : machB m = true) (hs : SlK w w.heap.size a m.copies.length m.copies) :
    Calls Tryz.prog 329 #[.agg #[.slice a m.copies.length c], .int .i64 y] w fun e w' => CelAns w w' m y e ∧ Below w.heap.size w w' := by
  have hn := hl.k
  obtain ⟨U, hU⟩ : ∃ Y, Y = (w.alloc (.cells #[.slice a m.copies.length c] 253)).alloc (.cells #[.int .i64 y] 2) := ⟨_, rfl⟩
  have b0 : Below w.heap.size w U := by rw [hU]; exact ((Below.refl _ _).alloc (Nat.le_refl _) _).alloc (by simp) _
  have z0 : U.heap.size = w.heap.size + 2 := by rw [hU]; simp
  have p0 : U.cell? ⟨w.heap.size, 0, none⟩ = some (.slice a m.copies.length c) := by rw [hU]; go_simp
  have p1 : U.cell? ⟨w.heap.size + 1, 0, none⟩ = some (.int .i64 y) := by rw [hU]; go_simp
  have hc := idxCel U a m.copies.length c m.copies (w.heap.size + 1) (fun j => decide ((atK m.copies j).region = y)) hn (hs.later b0)
    (fun X i a' c' hb hi hsl => such_any X (atK m.copies i).region y a' _ c' (w.heap.size + 1) ((hb.cell (p := ⟨w.heap.size + 1, 0, none⟩) (by simp; omega)).trans p1) (by have := hb.size; omega))
  have H : Hid (Below w.heap.size w U ∧ U.heap.size = w.heap.size + 2 ∧ SlK U U.heap.size a m.copies.length m.copies) := ⟨b0, z0, hs.later b0⟩
  have P0 := hidOf p0
  clear b0 z0 hs p1
  unfold maxLen at hn
  rw [hU] at p0
  go_enter Tryz.func329, Tryz.ntmps329
  go_wp2_with fail
  rw [← hU]
  clear hU p0
  refine hc.mono ?_
  clear hc
  rintro e w1 ⟨⟨i, rfl, hi⟩, b1⟩
  have hii := first_un hi (idxC_first m y)
  have hlt := idxC_lt m y
  rw [← hii] at hlt
  have B1 := hidOf b1
  cases hh : hasC m y with
  | false =>
    rw [hh] at hlt
    have d : decide (i < 0) = true := hlt
    clear hlt hi hii b1
    go_wp2
    refine bodyPost_ret (v := .tuple #[.slice none 0 0, .bool false]) (by simp [results, Tryz.results329, go_sem]) rfl ?_
    exact ⟨.inl ⟨hh, rfl⟩, bstep H.out.1 B1.out⟩
  | true =>
    rw [hh] at hlt
    have d : decide (i < 0) = false := hlt
    rcases hi with ⟨rfl, _⟩ | ⟨j, rfl, hj, _, _⟩
    · simp at d
    obtain ⟨_, hk⟩ := H.out.2.2
    rcases hk with hk | ⟨b, off, rfl, hb, h1⟩
    · omega
    have q0 := (b1.cell (p := ⟨w.heap.size, 0, none⟩) (by have := H.out.2.1; simp; omega)).trans P0.out
    have hr := (h1 j _ (atK_of hj)).below b1 hb
    obtain ⟨a', cap', c1, hsl, hcp⟩ := hr.c1
    have hlen : (atK m.copies j).cells.length = 6 := mach_six hB _ (List.mem_of_getElem? (atK_of hj))
    have ho := ownCells_any w1 a' cap' (atK m.copies j).cells (by omega) (by omega) (hsl.mono b1.size)
    have HJ : Hid (idxC m y = (j : Int) ∧ j < m.copies.length ∧ hasC m y = true) := ⟨hii.symm, hj, hh⟩
    clear hlt hii b1 h1 hr hsl hcp hlen hB
    go_wp2_with fail
    refine ho.mono ?_
    clear ho q0 c1
    rintro e w2 ⟨q, cp, rfl, h2, h3, h4, h5, h6, b2⟩
    have HF : Hid (w1.heap.size ≤ q ∧ q < w2.heap.size ∧ (atK m.copies j).cells.length ≤ cp ∧ CellsAt w2 q 0 (atK m.copies j).cells ∧ Room w2 q ((atK m.copies j).cells.length * 2)) := ⟨h2, h3, h4, h5, h6⟩
    have B2 : Hid (Below w.heap.size w w2) := bstep (bstep H.out.1 B1.out) b2
    have S1 : Hid (w.heap.size ≤ w1.heap.size) := (bstep H.out.1 B1.out).size
    clear b2 h2 h3 h4 h5 h6
    go_wp2
    refine bodyPost_ret (v := .tuple #[.slice (some ⟨q, 0, none⟩) (atK m.copies j).cells.length cp, .bool true]) (by simp [results, Tryz.results329, go_sem]) rfl ?_
    exact ⟨.inr ⟨HJ.out.2.2, j, q, cp, HJ.out.1, HJ.out.2.1, rfl, Nat.le_trans S1.out HF.out.1, HF.out.2⟩, B2.out⟩
theorem holderU : Tryz.prog.underlying 307 = some (.interface #[("loop.example/g00153/impl.cells", 309), ("loop.example/g00153/impl.lives", 199)]) := by kernel_rfl
set_option maxRecDepth 100000 in
set_option maxHeartbeats 2000000 in
theorem askCells_any (w : World) (a : Option Addr) (c : Nat) (m : M4) (y : Int) (hl : ML m) (hB : machB m = true) (hs : SlK w w.heap.size a m.copies.length m.copies) :
    Calls Tryz.prog 212 #[memV m a c, .int .i64 y] w fun e w' => ((m.alive = true ∧ CelAns w w' m y e) ∨ (m.alive = false ∧ e = .returned (.tuple #[.slice none 0 0, .bool false]))) ∧ Below w.heap.size w w' := by
  cases ha : m.alive with
  | true =>
    have hv : memV m a c = .iface 253 (.agg #[.slice a m.copies.length c]) := by simp [memV, ha]
    rw [hv]
    have ht : ∀ w : World, (Instr.typeAssert (.iface 253 (.agg #[.slice a m.copies.length c])) 197 307 true).run Tryz.prog w = .ok (.tuple #[.iface 253 (.agg #[.slice a m.copies.length c]), .bool true]) w := fun w => run_typeAssert_hasB holderU (by kernel_rfl) _ _ w
    have hm : ∀ w : World, (method 470 253 (.agg #[.slice a m.copies.length c]) "loop.example/g00153/impl.cells").run Tryz.prog w = .ok (329, .agg #[.slice a m.copies.length c]) w := fun _ => by kernel_rfl
    have hc := cells_any w a c m y hl hB hs
    clear hv hl hB hs ha
    go_enter Tryz.func212, Tryz.ntmps212
    go_wp2_with fail
    refine hc.mono ?_
    clear hc
    rintro e w1 ⟨h1, b1⟩
    have H1 := hidOf h1
    have B1 := hidOf b1
    clear b1
    rcases h1 with ⟨_, rfl⟩ | ⟨_, i, q, cp, _, _, rfl, _⟩
    · go_wp2
      refine bodyPost_ret (v := .tuple #[.slice none 0 0, .bool false]) (by simp [results, Tryz.results212, go_sem]) rfl ?_
      exact ⟨.inl ⟨trivial, H1.out⟩, B1.out⟩
    · go_wp2
      refine bodyPost_ret (v := .tuple #[.slice (some ⟨q, 0, none⟩) (atK m.copies i).cells.length cp, .bool true]) (by simp [results, Tryz.results212, go_sem]) rfl ?_
      exact ⟨.inl ⟨trivial, H1.out⟩, B1.out⟩
  | false =>
    have hv : memV m a c = .iface 255 (.agg #[]) := by simp [memV, ha]
    rw [hv]
    have ht : ∀ w : World, (Instr.typeAssert (.iface 255 (.agg #[])) 197 307 true).run Tryz.prog w = .ok (.tuple #[.nilIface, .bool false]) w := fun w => run_typeAssert_lacksB holderU (by kernel_rfl) (by kernel_rfl) _ _ w
    clear hv hl hB hs ha
    go_enter Tryz.func212, Tryz.ntmps212
    go_wp2
    refine bodyPost_ret (v := .tuple #[.slice none 0 0, .bool false]) (by simp [results, Tryz.results212, go_sem]) rfl ?_
    exact ⟨.inr ⟨trivial, rfl⟩, Below.refl _ _⟩
set_option maxRecDepth 100000 in
set_option maxHeartbeats 2000000 in
theorem serves_any (w : World) (a : Option Addr) (c : Nat) (m : M4) (y : Int) (hl : ML m) (hB : machB m = true) (hs : SlK w w.heap.size a m.copies.length m.copies) :
    Calls Tryz.prog 235 #[memV m a c, .int .i64 y] w fun e w' => e = .returned (.bool (!m.alive || hasC m y)) ∧ Below w.heap.size w w' := by
  have hc := askCells_any w a c m y hl hB hs
  clear hl hB hs
  cases ha : m.alive with
  | true =>
    have hv : memV m a c = .iface 253 (.agg #[.slice a m.copies.length c]) := by simp [memV, ha]
    rw [hv] at hc ⊢
    have hm : ∀ w : World, (method 470 253 (.agg #[.slice a m.copies.length c]) "loop.example/g00153/impl.lives").run Tryz.prog w = .ok (330, .agg #[.slice a m.copies.length c]) w := fun _ => by kernel_rfl
    have HA := hidOf ha
    clear hv ha
    go_enter Tryz.func235, Tryz.ntmps235
    go_wp2_with fail
    refine hc.mono ?_
    clear hc
    rintro e w1 ⟨h1, b1⟩
    have B1 := hidOf b1
    have hL := livesL_any w1 a m.copies.length c
    clear b1
    rcases h1 with ⟨_, h1⟩ | ⟨h1, _⟩
    case inr => rw [HA.out] at h1; cases h1
    rcases h1 with ⟨hh, rfl⟩ | ⟨hh, i, q, cp, _, _, rfl, _⟩
    · have HH := hidOf hh
      clear hh
      go_wp2_with fail
      refine hL.mono ?_
      clear hL
      rintro e w2 ⟨rfl, b2⟩
      have B2 : Hid (Below w.heap.size w w2) := bstep B1.out b2
      clear b2
      go_wp2
      go_ret
      exact ⟨by rw [HH.out]; rfl, B2.out⟩
    · have HH := hidOf hh
      clear hh hL
      go_wp2
      go_ret
      exact ⟨by rw [HH.out]; rfl, B1.out⟩
  | false =>
    have hv : memV m a c = .iface 255 (.agg #[]) := by simp [memV, ha]
    rw [hv] at hc ⊢
    have hm : ∀ w : World, (method 470 255 (.agg #[]) "loop.example/g00153/impl.lives").run Tryz.prog w = .ok (332, .agg #[]) w := fun _ => by kernel_rfl
    have HA := hidOf ha
    clear hv ha
    go_enter Tryz.func235, Tryz.ntmps235
    go_wp2_with fail
    refine hc.mono ?_
    clear hc
    rintro e w1 ⟨h1, b1⟩
    have B1 := hidOf b1
    have hL := livesD_any w1
    clear b1
    rcases h1 with ⟨h1, _⟩ | ⟨_, rfl⟩
    · rw [HA.out] at h1; cases h1
    go_wp2_with fail
    refine hL.mono ?_
    clear hL
    rintro e w2 ⟨rfl, b2⟩
    have B2 : Hid (Below w.heap.size w w2) := bstep B1.out b2
    clear b2
    go_wp2
    go_ret
    exact ⟨rfl, B2.out⟩
theorem info_Mem : (Tryz.prog.info? 197).map (fun i => (i.zero, i.size, i.bytes)) = some (some (.nilIface), 1, 16) := by kernel_rfl
theorem make_Mem (n : Nat) (hn : n ≤ 1048576) (w : World) : (Instr.makeSlice 249 (.int .i64 (n : Int)) (.int .i64 (n : Int))).run Tryz.prog w = .ok (.slice (some ⟨w.heap.size, 0, none⟩) n n) (w.alloc (.cells (madeCells #[.nilIface] n) 197)) := by
  obtain ⟨i, hi, hzz⟩ := Option.map_eq_some_iff.1 info_Mem
  simp only [Prod.mk.injEq] at hzz
  obtain ⟨hz, hs, hb⟩ := hzz
  have := run_make (P := Tryz.prog) w 249 197 i _ Tryz.underlying249 hi hz .i64 .i64 (n : Int) (n : Int) (by omega) (by omega) (by rw [hb]; omega) (by omega)
  rw [hs] at this
  simpa [Value.cells] using this
def MemAt (w X : World) (b j : Nat) (ms : List M4) : Prop := ∀ t, t < j → ∃ a c, X.cell? ⟨b, t, none⟩ = some (memV (atM ms t) a c) ∧ SlK w w.heap.size a (atM ms t).copies.length (atM ms t).copies
theorem MemAt.below {w X Y : World} {b j B : Nat} {ms : List M4} (h : MemAt w X b j ms) (hb : Below B X Y) (hB : b < B) : MemAt w Y b j ms := fun t ht => by
  obtain ⟨a, c, h1, h2⟩ := h t ht
  exact ⟨a, c, (hb.cell (p := ⟨b, t, none⟩) hB).trans h1, h2⟩
theorem MemAt.set {w X : World} {b j : Nat} {ms : List M4} (h : MemAt w X b j ms) {v : Value} (hv : X.cell? ⟨b, j, none⟩ = some v) {a : Option Addr} {c : Nat} (hs : SlK w w.heap.size a (atM ms j).copies.length (atM ms j).copies) : MemAt w (X.setCell ⟨b, j, none⟩ (memV (atM ms j) a c)) b (j + 1) ms := fun t ht => by
  by_cases e : t = j
  · subst e
    exact ⟨a, c, cell_set_same hv, hs⟩
  · obtain ⟨a', c', h1, h2⟩ := h t (by omega)
    exact ⟨a', c', (cell_set_other e).trans h1, h2⟩
theorem memV_eq (m : M4) (a : Option Addr) (c : Nat) : ∃ T u, memV m a c = .iface T u := by
  cases h : m.alive
  · exact ⟨_, _, by simp only [memV, h]; rfl⟩
  · exact ⟨_, _, by simp only [memV, h]; rfl⟩
set_option maxRecDepth 100000 in
set_option maxHeartbeats 4000000 in
theorem membersOf_any (w : World) (a : Option Addr) (cap : Nat) (ms : List M4) (hn : ms.length ≤ 8) (hs : KMk.RdS w a ms) :
    Calls Tryz.prog 194 #[.slice a ms.length cap] w fun e w' => e = .returned (.slice (some ⟨w.heap.size, 0, none⟩) ms.length ms.length) ∧ MemAt w w' w.heap.size ms.length ms ∧ w.heap.size < w'.heap.size ∧ Below w.heap.size w w' := by
  have hmk := make_Mem ms.length (by omega)
  go_enter Tryz.func194, Tryz.ntmps194
  go_wp2
  go_loopw [11] (fun v wr => ∃ j : Nat, j ≤ ms.length ∧ v = .int .i64 j ∧ Below w.heap.size w wr ∧ w.heap.size < wr.heap.size ∧ Room wr w.heap.size ms.length ∧ MemAt w wr w.heap.size j ms) (fun v _ => ms.length - (intOf v).toNat)
  case atStart => exact ⟨0, Nat.zero_le _, rfl, (Below.refl _ _).alloc (Nat.le_refl _) _, by simp, room_made _ _ _ _, fun t ht => by omega⟩
  case round =>
    obtain ⟨j, hj, rfl, hbl, hsz, hrm, hma⟩ := hrel
    by_cases hlt : j < ms.length
    · rcases hs with hs | ⟨b, off, rfl, hb, h1⟩
      · rw [hs] at hlt; simp at hlt
      obtain ⟨⟨m0, m1, m2, m3, m4, m5⟩, hat, hrd⟩ := h1 j _ (atM_of hlt)
      have e0 : wr.cell? ⟨b, off + j * 4, none⟩ = some (.bool (atM ms j).alive) := (hbl.cell (p := ⟨b, off + j * 4, none⟩) hb).trans (hat 0 _ rfl)
      have e1 : wr.cell? ⟨b, off + j * 4 + 1, none⟩ = some (.slice m0 (atM ms j).copies.length m1) := (hbl.cell (p := ⟨b, off + j * 4 + 1, none⟩) hb).trans (hat 1 _ rfl)
      have e2 : wr.cell? ⟨b, off + j * 4 + 2, none⟩ = some (.slice m2 (atM ms j).log.length m3) := (hbl.cell (p := ⟨b, off + j * 4 + 2, none⟩) hb).trans (hat 2 _ rfl)
      have e3 : wr.cell? ⟨b, off + j * 4 + 3, none⟩ = some (.slice m4 (atM ms j).cleared.length m5) := (hbl.cell (p := ⟨b, off + j * 4 + 3, none⟩) hb).trans (hat 3 _ rfl)
      have jn : (j : Int) < (ms.length : Int) := by omega
      have KH : Hid (Below w.heap.size w wr ∧ w.heap.size < wr.heap.size ∧ Room wr w.heap.size ms.length ∧ MemAt w wr w.heap.size j ms ∧ SlK w w.heap.size m0 (atM ms j).copies.length (atM ms j).copies) := ⟨hbl, hsz, hrm, hma, hrd.k⟩
      obtain ⟨V, hV⟩ : ∃ Y, Y = wr.alloc (.cells #[.bool (atM ms j).alive, .slice m0 (atM ms j).copies.length m1, .slice m2 (atM ms j).log.length m3, .slice m4 (atM ms j).cleared.length m5] 62) := ⟨_, rfl⟩
      have bV : Hid (Below wr.heap.size wr V) := by unfold Hid; rw [hV]; exact (Below.refl _ _).alloc (Nat.le_refl _) _
      have hc := memberOf_any V m0 m1 m2 m3 m4 m5 (atM ms j)
      clear hat hrd h1 hbl hsz hrm hma hmk
      go_wp2_with fail
      rw [← hV]
      clear hV e0 e1 e2 e3
      refine hc.mono ?_
      clear hc
      rintro e w1 ⟨rfl, b1⟩
      have KB : Hid (Below wr.heap.size wr w1) := bstep bV.out b1
      obtain ⟨z, hz, hf⟩ : ∃ v, w1.cell? ⟨w.heap.size, j, none⟩ = some v ∧ w1.frozen? ⟨w.heap.size, j, none⟩ = false := (KH.out.2.2.1.below KB.out KH.out.2.1) j hlt
      have Z := hidOf hz
      obtain ⟨T0, u0, hm0⟩ := memV_eq (atM ms j) m0 m1
      have HM := hidOf hm0
      rw [hm0]
      clear b1 hm0
      go_wp2
      have hma := (KH.out.2.2.2.1.below KB.out KH.out.2.1).set Z.out (c := m1) KH.out.2.2.2.2
      rw [HM.out] at hma
      exact ⟨⟨j + 1, by omega, by simp, ((KH.out.1.trans (KB.out.mono KH.out.1.size)).setCell (p := ⟨w.heap.size, j, none⟩) (Nat.le_refl _) _), by simp [World.setCell]; exact Nat.lt_of_lt_of_le KH.out.2.1 KB.out.size, (KH.out.2.2.1.below KB.out KH.out.2.1).set _, hma⟩, by simp [intOf]; omega⟩
    · obtain rfl : j = ms.length := by omega
      have hd : decide ((ms.length : Int) < (ms.length : Int)) = false := by simp
      have KH : Hid (Below w.heap.size w wr ∧ w.heap.size < wr.heap.size ∧ MemAt w wr w.heap.size ms.length ms) := ⟨hbl, hsz, hma⟩
      clear hbl hsz hrm hma hmk hs
      go_wp2
      go_ret
      exact ⟨rfl, KH.out.2.2, KH.out.2.1, KH.out.1⟩
set_option maxRecDepth 100000 in
set_option maxHeartbeats 4000000 in
theorem placed_any (w0 w : World) (a : Option Addr) (cap q : Nat) (zss : List (List Int)) (ms : List M4) (hl : ∀ m ∈ ms, ML m) (hB : machsB ms = true) (hP : placesB zss = true) (hpl : zss.length ≤ maxLen) (hps : ∀ zs ∈ zss, zs.length ≤ maxLen)
    (h0 : Below w0.heap.size w0 w) (hq : q < w.heap.size) (hm : MemAt w0 w q ms.length ms) (hs : SlP w w.heap.size a zss.length zss) :
    Calls Tryz.prog 193 #[.slice a zss.length cap, .slice (some ⟨q, 0, none⟩) ms.length ms.length] w fun e w' => e = .returned (.bool (placedB zss ms)) ∧ Below w.heap.size w w' := by
  have H : Hid ((∀ m ∈ ms, ML m) ∧ machsB ms = true ∧ (∀ zs ∈ zss, zs.length ≤ maxLen) ∧ MemAt w0 w q ms.length ms ∧ SlP w w.heap.size a zss.length zss ∧ Below w0.heap.size w0 w) := ⟨hl, hB, hps, hm, hs, h0⟩
  have HZ : Hid (∀ r j, r < zss.length → j < (atP zss r).length → 0 ≤ atN (atP zss r) j ∧ atN (atP zss r) j ≤ 7) := fun r j hr hj => places_z hP hr hj
  have HD : Hid (placedB zss ms = (List.range zss.length).all fun r => placB ms r (atP zss r)) := rfl
  unfold maxLen at hpl
  clear hl hB hP hps hm hs h0
  go_enter Tryz.func193, Tryz.ntmps193
  go_wp2
  go_loopw [11] (fun v wr => ∃ r : Nat, r ≤ zss.length ∧ v = .int .i64 r ∧ Below w.heap.size w wr ∧ (List.range r).all (fun r => placB ms r (atP zss r)) = true) (fun v _ => zss.length - (intOf v).toNat)
  case atStart => exact ⟨0, Nat.zero_le _, rfl, Below.refl _ _, rfl⟩
  case round =>
  obtain ⟨r, hr, rfl, hbl, hall⟩ := hrel
  have KC : Hid (Below w.heap.size w wr ∧ (List.range r).all (fun r => placB ms r (atP zss r)) = true) := ⟨hbl, hall⟩
  clear hbl hall
  by_cases hlr : r < zss.length
  case neg =>
    obtain rfl : r = zss.length := by omega
    have hd : decide ((zss.length : Int) < (zss.length : Int)) = false := by simp
    go_wp2
    go_ret
    exact ⟨by rw [HD.out, KC.out.2]; rfl, KC.out.1⟩
  obtain ⟨_, hsp⟩ := H.out.2.2.2.2.1
  rcases hsp with hsp | ⟨b, off, rfl, hb, hpp⟩
  · omega
  obtain ⟨a', cap', hc, hsl, hcp⟩ := hpp r _ (atP_of hlr)
  have c := (KC.out.1.cell (p := ⟨b, off + r, none⟩) hb).trans hc
  have HSL : Hid (SlN w w.heap.size a' (atP zss r).length (atP zss r)) := hsl
  have jr : (r : Int) < (zss.length : Int) := by omega
  have lz := H.out.2.2.1 _ (List.mem_of_getElem? (atP_of hlr))
  unfold maxLen at lz
  have HF : Hid (placB ms r (atP zss r) = false → placedB zss ms = false) := fun hh => by rw [HD.out]; exact all_off (f := fun r => placB ms r (atP zss r)) hlr hh
  have HZr : Hid (∀ j, j < (atP zss r).length → 0 ≤ atN (atP zss r) j ∧ atN (atP zss r) j ≤ 7) := fun j hj => HZ.out r j hlr hj
  have HPL : Hid (placB ms r (atP zss r) = (List.range (atP zss r).length).all fun j => servB ms r (atN (atP zss r) j)) := rfl
  have HON : Hid (placB ms r (atP zss r) = true → (List.range (r + 1)).all (fun r => placB ms r (atP zss r)) = true) := fun hh => all_on (f := fun r => placB ms r (atP zss r)) KC.out.2 hh
  clear hpp hc hsl
  generalize hzs : atP zss r = zs at *
  obtain ⟨V, hV⟩ : ∃ Y, Y = wr.alloc (.cells #[.slice a' zs.length cap'] 127) := ⟨_, rfl⟩
  have KV : Hid (Below w.heap.size w V) := bstep KC.out.1 (by rw [hV]; exact (Below.refl _ _).alloc (Nat.le_refl _) _)
  go_wp2
  rw [← hV]
  clear c jr hzs hV
  generalize wr = wC at *
  generalize V = wD at *
  go_loopw [19] (fun v wr => ∃ j : Nat, j ≤ zs.length ∧ v = .int .i64 j ∧ Below w.heap.size w wr ∧ (List.range j).all (fun j => servB ms r (atN zs j)) = true) (fun v _ => zs.length - (intOf v).toNat)
  case atStart => exact ⟨0, Nat.zero_le _, rfl, KV.out, rfl⟩
  case round =>
  obtain ⟨j, hj, rfl, hbl, hall⟩ := hrel
  have KD : Hid (Below w.heap.size w wr ∧ (List.range j).all (fun j => servB ms r (atN zs j)) = true) := ⟨hbl, hall⟩
  clear hbl hall
  by_cases hlj : j < zs.length
  case neg =>
    obtain rfl : j = zs.length := by omega
    have hd : decide ((zs.length : Int) < (zs.length : Int)) = false := by simp
    have hh := HON.out (by rw [HPL.out]; exact KD.out.2)
    go_wp2
    exact ⟨⟨r + 1, by omega, by simp, KD.out.1, hh⟩, by simp [intOf]; omega⟩
  obtain ⟨_, hsn⟩ := HSL.out
  rcases hsn with hsn | ⟨b', off', rfl, hb', h2⟩
  · omega
  have hz := HZr.out j hlj
  obtain ⟨i, hi⟩ : ∃ i : Nat, atN zs j = (i : Int) := ⟨(atN zs j).toNat, by omega⟩
  have hck := h2 j _ (atN_of hlj)
  rw [hi] at hck
  have xz := (KD.out.1.cell (p := ⟨b', off' + j, none⟩) hb').trans hck
  have jz : (j : Int) < (zs.length : Int) := by omega
  have HB : Hid (servB ms r (atN zs j) = (decide ((i : Int) < (ms.length : Int)) && (!(atM ms i).alive || hasC (atM ms i) (r : Int)))) := by unfold Hid servB; rw [hi]; rfl
  have HFF : Hid (servB ms r (atN zs j) = false → placedB zss ms = false) := fun hh => HF.out (by rw [HPL.out]; exact all_off (f := fun j => servB ms r (atN zs j)) hlj hh)
  clear hck h2 hz hi
  by_cases him : i < ms.length
  case neg =>
    have dz : decide ((ms.length : Int) ≤ (i : Int)) = true := by simp <;> omega
    have dz2 : decide (ms.length ≤ i) = true := by simp <;> omega
    have hb0 : Hid (placedB zss ms = false) := HFF.out (by rw [HB.out]; simp [him])
    go_wp2
    go_ret
    exact ⟨by rw [hb0.out]; rfl, KD.out.1⟩
  have dz : decide ((ms.length : Int) ≤ (i : Int)) = false := by simp <;> omega
  have dz2 : decide (ms.length ≤ i) = false := by simp <;> omega
  have im : (i : Int) < (ms.length : Int) := by omega
  obtain ⟨a2, c2, hmc, hmk⟩ := (H.out.2.2.2.1.below KD.out.1 hq) i him
  have hsv := serves_any wr a2 c2 (atM ms i) (r : Int) (H.out.1 _ (List.mem_of_getElem? (atM_of him))) (by have := H.out.2.1; exact List.all_eq_true.1 this i (List.mem_range.2 him)) (hmk.later (bstep H.out.2.2.2.2.2 KD.out.1))
  obtain ⟨T0, u0, hm0⟩ := memV_eq (atM ms i) a2 c2
  rw [hm0] at hmc hsv
  clear hmk hm0
  cases hh : (!(atM ms i).alive || hasC (atM ms i) (r : Int)) with
  | false =>
    rw [hh] at hsv
    have hb0 : Hid (placedB zss ms = false) := HFF.out (by rw [HB.out, hh]; simp)
    clear hh
    go_wp2_with fail
    refine hsv.mono ?_
    clear hsv
    rintro e w1 ⟨rfl, b1⟩
    have KB : Hid (Below w.heap.size w w1) := bstep KD.out.1 b1
    clear b1
    go_wp2
    go_ret
    exact ⟨by rw [hb0.out]; rfl, KB.out⟩
  | true =>
    rw [hh] at hsv
    have hon : Hid ((List.range (j + 1)).all (fun j => servB ms r (atN zs j)) = true) := all_on (f := fun j => servB ms r (atN zs j)) KD.out.2 (by rw [HB.out, hh]; simp [him])
    clear hh
    go_wp2_with fail
    refine hsv.mono ?_
    clear hsv
    rintro e w1 ⟨rfl, b1⟩
    have KB : Hid (Below w.heap.size w w1) := bstep KD.out.1 b1
    clear b1
    go_wp2
    exact ⟨⟨j + 1, by omega, by simp, KB.out, hon.out⟩, by simp [intOf]; omega⟩
def idxMF (w : World) (xs : List M4)  (f : Nat → Bool) : Prop :=
  ∀ (X : World) (i : Nat) (m0 : Option Addr) (m1 : Nat) (m2 : Option Addr) (m3 : Nat) (m4 : Option Addr) (m5 : Nat), Below w.heap.size w X → i < xs.length → KMk.Rd X ⟨m0, m1, m2, m3, m4, m5⟩ (atM xs i) → Calls Tryz.prog 229 #[.agg #[.bool (atM xs i).alive, .slice m0 (atM xs i).copies.length m1, .slice m2 (atM xs i).log.length m3, .slice m4 (atM xs i).cleared.length m5]] X fun e w' => e = .returned (.bool (f i)) ∧ Below X.heap.size X w'
set_option maxRecDepth 100000 in
set_option maxHeartbeats 2000000 in
theorem idxM (w : World) (a : Option Addr) (cap : Nat) (xs : List M4)  (f : Nat → Bool) (hn : xs.length ≤ maxLen) (hs : KMk.RdS w a xs) (hf : idxMF w xs  f) :
    Calls Tryz.prog 265 #[.slice a xs.length cap, .func (.func 229) #[] #[]] w fun e w' => (∃ i : Int, e = .returned (.int .i64 i) ∧ FirstAt f xs.length i) ∧ Below w.heap.size w w' := by
  unfold maxLen at hn
  have HF := hidOf hf
  clear hf
  go_enter Tryz.func265, Tryz.ntmps265
  go_wp2
  go_loopw [8] (fun v wr => ∃ j : Nat, j ≤ xs.length ∧ v = .int .i64 j ∧ Below w.heap.size w wr ∧ ∀ i, i < j → f i = false) (fun v _ => xs.length - (intOf v).toNat)
  case atStart => exact ⟨0, Nat.zero_le _, rfl, Below.refl _ _, fun i h => absurd h (by omega)⟩
  case round =>
    obtain ⟨j, hj, rfl, hbl, hall⟩ := hrel
    by_cases hlt : j < xs.length
    · rcases hs with hs | ⟨b, off, rfl, hb, h1⟩
      · rw [hs] at hlt; simp at hlt
      obtain ⟨⟨m0, m1, m2, m3, m4, m5⟩, hat, hrd⟩ := h1 j _ (atM_of hlt)
      have e0 : wr.cell? ⟨b, off + j * 4, none⟩ = some (.bool (atM xs j).alive) := (hbl.cell (p := ⟨b, off + j * 4, none⟩) hb).trans (hat 0 _ rfl)
      have e1 : wr.cell? ⟨b, off + j * 4 + 1, none⟩ = some (.slice m0 (atM xs j).copies.length m1) := (hbl.cell (p := ⟨b, off + j * 4 + 1, none⟩) hb).trans (hat 1 _ rfl)
      have e2 : wr.cell? ⟨b, off + j * 4 + 2, none⟩ = some (.slice m2 (atM xs j).log.length m3) := (hbl.cell (p := ⟨b, off + j * 4 + 2, none⟩) hb).trans (hat 2 _ rfl)
      have e3 : wr.cell? ⟨b, off + j * 4 + 3, none⟩ = some (.slice m4 (atM xs j).cleared.length m5) := (hbl.cell (p := ⟨b, off + j * 4 + 3, none⟩) hb).trans (hat 3 _ rfl)
      have hw := HF.out wr j m0 m1 m2 m3 m4 m5 hbl hlt (KMk.later hrd hbl)
      have KA : Hid ((∀ i, i < j → f i = false) ∧ Below w.heap.size w wr) := ⟨hall, hbl⟩
      have jn : (j : Int) < (xs.length : Int) := by omega
      clear h1 hat hrd hall hbl
      cases hp : f j with
      | true =>
        rw [hp] at hw
        go_wp2_with fail
        refine hw.mono ?_
        clear hw
        rintro e w1 ⟨rfl, b1⟩
        go_wp2
        go_ret
        exact ⟨⟨_, rfl, .inr ⟨j, rfl, hlt, hp, KA.out.1⟩⟩, KA.out.2.trans (b1.mono KA.out.2.size)⟩
      | false =>
        rw [hp] at hw
        go_wp2_with fail
        refine hw.mono ?_
        clear hw
        rintro e w1 ⟨rfl, b1⟩
        go_wp2
        exact ⟨⟨j + 1, by omega, by simp, KA.out.2.trans (b1.mono KA.out.2.size), fun i hi => by
          by_cases e : i = j
          · rw [e]; exact hp
          · exact KA.out.1 i (by omega)⟩, by simp [intOf]; omega⟩
    · obtain rfl : j = xs.length := by omega
      have hd : decide ((xs.length : Int) < (xs.length : Int)) = false := by simp
      have KA : Hid ((∀ i, i < xs.length → f i = false) ∧ Below w.heap.size w wr) := ⟨hall, hbl⟩
      clear hall hbl hs
      go_wp2
      go_ret
      exact ⟨⟨_, rfl, .inl ⟨rfl, KA.out.1⟩⟩, KA.out.2⟩
set_option maxHeartbeats 1000000 in
theorem idxM_has (w : World) (a : Option Addr) (cap : Nat) (xs : List M4)  (f : Nat → Bool) (hn : xs.length ≤ maxLen) (hs : KMk.RdS w a xs) (hf : idxMF w xs  f) :
    Calls Tryz.prog 231 #[.slice a xs.length cap, .func (.func 229) #[] #[]] w fun e w' => e = .returned (.bool (!((List.range xs.length).all fun j => !f j))) ∧ Below w.heap.size w w' := by
  have hc := idxM w a cap xs  f hn hs hf
  clear hs hf
  go_enter Tryz.func231, Tryz.ntmps231
  go_wp2_with fail
  refine hc.mono ?_
  clear hc
  rintro e w1 ⟨⟨i, rfl, hi⟩, b1⟩
  have h := first_has hi
  have KB := hidOf b1
  clear b1 hi
  go_wp2
  go_ret
  exact ⟨by rw [← h]; rfl, KB.out⟩
set_option maxHeartbeats 1000000 in
theorem machWrong (X : World) (m0 : Option Addr) (m1 : Nat) (m2 : Option Addr) (m3 : Nat) (m4 : Option Addr) (m5 : Nat) (m : M4) (hl : ML m) (h : SlM X ⟨m0, m1, m2, m3, m4, m5⟩ m) : Calls Tryz.prog 229 #[.agg #[.bool m.alive, .slice m0 m.copies.length m1, .slice m2 m.log.length m3, .slice m4 m.cleared.length m5]] X fun e w' => e = .returned (.bool (!machB m)) ∧ Below X.heap.size X w' := by
  obtain ⟨U, hU⟩ : ∃ Y, Y = X.alloc (.cells #[.bool m.alive, .slice m0 m.copies.length m1, .slice m2 m.log.length m3, .slice m4 m.cleared.length m5] 62) := ⟨_, rfl⟩
  have b0 : Below X.heap.size X U := by rw [hU]; exact (Below.refl _ _).alloc (Nat.le_refl _) _
  have hc := implMachineOk_any U ⟨m0, m1, m2, m3, m4, m5⟩ m hl (h.later b0)
  simp only [MV.val] at hc
  have KB := hidOf b0
  clear b0 hl h
  go_enter Tryz.func229, Tryz.ntmps229
  go_wp2_with fail
  rw [← hU]
  clear hU
  refine hc.mono ?_
  clear hc
  rintro e w1 ⟨rfl, b1⟩
  go_wp2
  go_ret
  exact ⟨rfl, bstep KB.out b1⟩
set_option maxHeartbeats 1000000 in
theorem machinesOk_any (w : World) (a : Option Addr) (cap : Nat) (ms : List M4) (hn : ms.length ≤ maxLen) (hl : ∀ m ∈ ms, ML m) (hs : KMk.RdS w a ms) :
    Calls Tryz.prog 191 #[.slice a ms.length cap] w fun e w' => e = .returned (.bool (decide (1 ≤ ms.length) && decide (ms.length ≤ 8) && machsB ms)) ∧ Below w.heap.size w w' := by
  have hc := idxM_has w a cap ms (fun i => !machB (atM ms i)) hn hs (fun X i m0 m1 m2 m3 m4 m5 hb hi hr => machWrong X m0 m1 m2 m3 m4 m5 (atM ms i) (hl _ (List.mem_of_getElem? (atM_of hi))) hr)
  have he : (!((List.range ms.length).all fun j => !(fun i => !machB (atM ms i)) j)) = !machsB ms := by simp [machsB]
  rw [he] at hc
  clear hs hl he
  unfold maxLen at hn
  by_cases g1 : 1 ≤ ms.length
  case neg =>
    have d1 : decide ((1 : Int) ≤ (ms.length : Int)) = false := by simp <;> omega
    have hb : (decide (1 ≤ ms.length) && decide (ms.length ≤ 8) && machsB ms) = false := by simp [g1]
    rw [hb]
    clear hc g1 hb
    go_enter Tryz.func191, Tryz.ntmps191
    go_wp2
    go_ret
    exact ⟨rfl, Below.refl _ _⟩
  have d1 : decide ((1 : Int) ≤ (ms.length : Int)) = true := by simp <;> omega
  by_cases g2 : ms.length ≤ 8
  case neg =>
    have d2 : decide ((ms.length : Int) ≤ 8) = false := by simp <;> omega
    have hb : (decide (1 ≤ ms.length) && decide (ms.length ≤ 8) && machsB ms) = false := by simp [g2]
    rw [hb]
    clear hc g2 hb g1
    go_enter Tryz.func191, Tryz.ntmps191
    go_wp2
    go_ret
    exact ⟨rfl, Below.refl _ _⟩
  have d2 : decide ((ms.length : Int) ≤ 8) = true := by simp <;> omega
  have hb : (decide (1 ≤ ms.length) && decide (ms.length ≤ 8) && machsB ms) = machsB ms := by simp [g1, g2]
  rw [hb]
  clear g1 g2 hb
  go_enter Tryz.func191, Tryz.ntmps191
  go_wp2_with fail
  refine hc.mono ?_
  clear hc
  rintro e w1 ⟨rfl, b1⟩
  have KB := hidOf b1
  clear b1
  go_wp2
  go_ret
  exact ⟨by simp, KB.out⟩
end Go.Proofs.YtnhjgomfkfehgaaGreatDoor