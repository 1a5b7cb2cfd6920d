/- CluI2; CluI3; CluI4; CluI5; CluI6; CluI1: joined. -/
import Derived.Test.YtdmpobegobfpjaaGreatRows
import Derived.Test.YtdmpobegobfpjaaGreatJ6ExactFinal
import Derived.Test.YtdmpobegobfpjaaGreatJ2ExactFinal
import Derived.Test.YtdmpobegobfpjaaGreatJ0ExactFinal
import Derived.WalkKit
import Derived.WalkSpells
import Derived.WalkLawsBesides
import Derived.Below
import Derived.Lib.QuietBelow
import Derived.BigQuiet
import Derived.Deep.CutRange
import Derived.Stop.Asserts
namespace Go.Proofs.YtdmpobegobfpjaaGreat
open Go.RowKit
open Go.Sort (grow)
set_option maxRecDepth 100000 in
set_option maxHeartbeats 2000000 in
theorem noBeyond (w : World) (s : tx.N5) (g n : Nat) (hg : w.cell? ⟨g, 0, none⟩ = some (.int .i64 (n : Int))) (hgl : g < w.heap.size) : Calls Tryz.prog 201 #[.agg #[.int .i64 s.region, .int .i64 s.slot, .int .i64 s.version, .int .i64 s.value, .bool s.used], .pointer (some ⟨g, 0, none⟩)] w fun e w' => e = .returned (.bool (decide ((n : Int) ≤ s.region))) ∧ Below w.heap.size w w' := by
  obtain ⟨wr, hW⟩ : ∃ Y, Y = w.alloc (.cells #[.int .i64 s.region, .int .i64 s.slot, .int .i64 s.version, .int .i64 s.value, .bool s.used] 104) := ⟨_, rfl⟩
  have b0 : Below w.heap.size w wr := by rw [hW]; exact (Below.refl _ _).alloc (Nat.le_refl _) _
  have FX : Hid (Bx wr w.heap.size [.int .i64 s.region, .int .i64 s.slot, .int .i64 s.version, .int .i64 s.value, .bool s.used]) := by rw [hW]; exact Bx.made w [.int .i64 s.region, .int .i64 s.slot, .int .i64 s.version, .int .i64 s.value, .bool s.used] _
  have hm : ∀ w : World, (method 366 104 (.agg #[.int .i64 s.region, .int .i64 s.slot, .int .i64 s.version, .int .i64 s.value, .bool s.used]) "loop.example/g00153/impl.cell").run Tryz.prog w = .ok (135, .agg #[.int .i64 s.region, .int .i64 s.slot, .int .i64 s.version, .int .i64 s.value, .bool s.used]) w := fun _ => by kernel_rfl
  have hfd : ∀ X : World, (Instr.field 169 (.agg #[.int .i64 s.region, .int .i64 s.slot]) 0).run Tryz.prog X = .ok (.int .i64 s.region) X := fun _ => by kernel_rfl
  have SF : Hid (∀ X, Below wr.heap.size wr X → (fun X : World => Bx X w.heap.size [.int .i64 s.region, .int .i64 s.slot, .int .i64 s.version, .int .i64 s.value, .bool s.used] ∧ X.cell? ⟨g, 0, none⟩ = some (.int .i64 (n : Int))) X) := fun X hX => ⟨FX.out.later hX, ((bstep b0 hX).cell (p := ⟨g, 0, none⟩) hgl).trans hg⟩
  have KB := hidOf b0
  clear b0 hg hgl
  go_enter Tryz.func201, Tryz.ntmps201
  go_wp2_with fail
  rw [← hW]
  clear hW
  have bd : Below wr.heap.size wr wr.drew := (Below.refl _ _).drew
  have hS := SF.out _ bd
  refine wp_region_z (fun z => z == 6) (fun X : World => Bx X w.heap.size [.int .i64 s.region, .int .i64 s.slot, .int .i64 s.version, .int .i64 s.value, .bool s.used] ∧ X.cell? ⟨g, 0, none⟩ = some (.int .i64 (n : Int))) (by kernel_rfl) ?_
  generalize wr.drew = Wd at *
  refine wpZ_take (i := 0) (v := ?_) rfl (by kernel_rfl) (fun _ _ _ h => h) (Or.inl ⟨by rfl, ?_⟩) hS ?_
  rotate_left
  · (intro X hSw; have c0 := hSw.1.1 0 _ rfl; have c1 := hSw.1.1 1 _ rfl; have c2 := hSw.1.1 2 _ rfl; have c3 := hSw.1.1 3 _ rfl; have c4 := hSw.1.1 4 _ rfl; go_simp; first | done | with_reducible rfl)
  simp only [Act.put]
  refine wpZ_take (i := 4) (v := ?_) rfl (by kernel_rfl) (fun _ _ _ h => h) (Or.inl ⟨by rfl, ?_⟩) hS ?_
  rotate_left
  · (intro X hSw; have c5 := hSw.2; go_simp; first | done | with_reducible rfl)
  simp only [Act.put]
  refine wpZ_takeP (i := 1) (v := ?_) rfl (by kernel_rfl) (fun _ _ _ h => h) (Or.inl ⟨by rfl, ?_⟩) hS ?_
  rotate_left
  · (intro X _; go_simp; first | done | with_reducible rfl)
  simp only [Act.put]
  refine wpZ_ready (rs := [2]) (by kernel_rfl) (by simp) ?_
  refine AllZ.cons rfl (fun K hK => ?_) AllZ.nil
  go_simp
  refine (tx.noCell_any Wd s).mono ?_
  rintro e X2 ⟨rfl, b2⟩
  have bX := bstep bd b2
  refine hK.out _ _ (fun _ => SF.out _ bX) ?_
  clear hK K
  have hS := SF.out _ bX
  refine wpZ_takeP (i := 3) (v := ?_) rfl (by kernel_rfl) (fun _ _ _ h => h) (Or.inl ⟨by rfl, ?_⟩) hS ?_
  rotate_left
  · (intro X _; go_simp; first | done | with_reducible rfl)
  simp only [Act.put]
  refine wpZ_takeP (i := 5) (v := ?_) rfl (by kernel_rfl) (fun _ _ _ h => h) (Or.inl ⟨by rfl, ?_⟩) hS ?_
  rotate_left
  · (intro X _; go_simp; first | done | with_reducible rfl)
  simp only [Act.put]
  refine wpZ_ready (rs := [6]) (by kernel_rfl) (by simp) ?_
  refine AllZ.cons rfl (fun K hK => ?_) AllZ.nil
  go_simp
  refine hK.out _ _ (fun h => absurd (show false = true from h.symm.trans (by kernel_rfl)) (by decide)) ?_
  clear hK K
  refine wpZ_done (by kernel_rfl) ?_ _
  go_wp2
  go_ret
  exact ⟨rfl, bstep KB.out bX⟩
set_option maxHeartbeats 2000000 in
theorem noBeyondIdx (w : World) (a : Option Addr) (cap : Nat) (xs : List tx.N5) (g n : Nat) (hn : xs.length ≤ maxLen) (hs : tx.SlNo w w.heap.size a xs.length xs) (hg : w.cell? ⟨g, 0, none⟩ = some (.int .i64 (n : Int))) (hgl : g < w.heap.size) :
    Calls Tryz.prog 173 #[.slice a xs.length cap, .func (.func 201) #[] #[.pointer (some ⟨g, 0, none⟩)]] w fun e w' => (∃ i : Int, e = .returned (.int .i64 i) ∧ FirstAt (fun i => decide ((n : Int) ≤ (tx.atNo xs i).region)) xs.length i) ∧ Below w.heap.size w w' := by
  unfold maxLen at hn
  obtain ⟨_, hs⟩ := hs
  obtain ⟨f, hf⟩ : ∃ f : Nat → Bool, f = fun i => decide ((n : Int) ≤ (tx.atNo xs i).region) := ⟨_, rfl⟩
  have HF : Hid (∀ (X : World) (i : Nat), Below w.heap.size w X → Calls Tryz.prog 201 #[.agg #[.int .i64 (tx.atNo xs i).region, .int .i64 (tx.atNo xs i).slot, .int .i64 (tx.atNo xs i).version, .int .i64 (tx.atNo xs i).value, .bool (tx.atNo xs i).used], .pointer (some ⟨g, 0, none⟩)] X fun e w' => e = .returned (.bool (f i)) ∧ Below X.heap.size X w') := fun X i hX => by
    rw [hf]; exact noBeyond X (tx.atNo xs i) g n ((hX.cell (p := ⟨g, 0, none⟩) hgl).trans hg) (Nat.lt_of_lt_of_le hgl hX.size)
  rw [← hf]
  clear hf hg
  go_enter Tryz.func173, Tryz.ntmps173
  go_wp2
  go_loopw [8] (fun v wr => ∃ j : Nat, j ≤ xs.length ∧ v = .int .i64 j ∧ Below w.heap.size w wr ∧ ∀ i, i < j → f i = false) (fun v _ => xs.length - (intOf v).toNat)
  case atStart => exact ⟨0, Nat.zero_le _, rfl, Below.refl _ _, fun i h => absurd h (by omega)⟩
  case round =>
    obtain ⟨j, hj, rfl, hbl, hall⟩ := hrel
    by_cases hlt : j < xs.length
    · rcases hs with hs | ⟨b, off, rfl, hb, h1⟩
      · omega
      · obtain ⟨c0, c1, c2, c3, c4⟩ := (h1.below hbl hb) j _ (tx.atNo_of hlt)
        have KA : Hid ((∀ i, i < j → f i = false) ∧ Below w.heap.size w wr) := ⟨hall, hbl⟩
        have hw := HF.out wr j hbl
        have jn : (j : Int) < (xs.length : Int) := by omega
        clear h1 hall hbl
        cases hp : f j with
        | true =>
          rw [hp] at hw
          go_wp2_with fail
          refine hw.mono ?_
          clear hw
          rintro e w1 ⟨rfl, b1⟩
          go_wp2
          go_ret
          exact ⟨⟨_, rfl, .inr ⟨j, rfl, hlt, hp, KA.out.1⟩⟩, KA.out.2.trans (b1.mono KA.out.2.size)⟩
        | false =>
          rw [hp] at hw
          go_wp2_with fail
          refine hw.mono ?_
          clear hw
          rintro e w1 ⟨rfl, b1⟩
          go_wp2
          exact ⟨⟨j + 1, by omega, by simp, KA.out.2.trans (b1.mono KA.out.2.size), fun i hi => by
            by_cases e : i = j
            · rw [e]; exact hp
            · exact KA.out.1 i (by omega)⟩, by simp [intOf]; omega⟩
    · obtain rfl : j = xs.length := by omega
      have hd : decide ((xs.length : Int) < (xs.length : Int)) = false := by simp
      have KA : Hid ((∀ i, i < xs.length → f i = false) ∧ Below w.heap.size w wr) := ⟨hall, hbl⟩
      clear hs hall hbl
      go_wp2
      go_ret
      exact ⟨⟨_, rfl, .inl ⟨rfl, KA.out.1⟩⟩, KA.out.2⟩
set_option maxHeartbeats 1000000 in
theorem noWithin (w : World) (a : Option Addr) (cap : Nat) (xs : List tx.N5) (n : Nat) (hn : xs.length ≤ maxLen) (hs : tx.SlNo w w.heap.size a xs.length xs) :
    Calls Tryz.prog 163 #[.slice a xs.length cap, .int .i64 (n : Int)] w fun e w' => e = .returned (.bool (readsB n xs)) ∧ Below w.heap.size w w' := by
  obtain ⟨W, hW⟩ : ∃ Y, Y = w.alloc (.cells #[.int .i64 (n : Int)] 3) := ⟨_, rfl⟩
  have b0 : Below w.heap.size w W := by rw [hW]; exact (Below.refl _ _).alloc (Nat.le_refl _) _
  have g0 : W.cell? ⟨w.heap.size, 0, none⟩ = some (.int .i64 (n : Int)) := by rw [hW]; go_simp
  have gl : w.heap.size < W.heap.size := by rw [hW]; simp
  have c1 := noBeyondIdx W a cap xs w.heap.size n hn ((hs.below b0).mono b0.size) g0 gl
  have HE : Hid (∀ i : Int, FirstAt (fun i => decide ((n : Int) ≤ (tx.atNo xs i).region)) xs.length i → (!decide (0 ≤ i)) = readsB n xs) := fun i h => by
    rw [first_has h, readsB]
    simp only [Bool.not_not]
    congr 1
    funext j
    rw [Bool.eq_iff_iff]
    simp
  have KB := hidOf b0
  clear b0 g0 gl hs hn
  have hcf : Calls Tryz.prog 138 #[.slice a xs.length cap, .func (.func 201) #[] #[.pointer (some ⟨w.heap.size, 0, none⟩)]] W fun e w' => e = .returned (.bool (!readsB n xs)) ∧ Below W.heap.size W w' := by
    clear hW KB
    go_enter Tryz.func138, Tryz.ntmps138
    go_wp2_with fail
    refine c1.mono ?_
    clear c1
    rintro e w1 ⟨⟨i, rfl, hi⟩, b1⟩
    have KE := hidOf (HE.out i hi)
    have K1 := hidOf b1
    clear hi HE b1
    go_wp2
    go_ret
    exact ⟨by rw [← KE.out]; simp, K1.out⟩
  clear c1 HE
  go_enter Tryz.func163, Tryz.ntmps163
  go_wp2_with fail
  rw [← hW]
  clear hW
  refine hcf.mono ?_
  clear hcf
  rintro e w1 ⟨rfl, b1⟩
  have K1 := hidOf b1
  clear b1
  go_wp2
  go_ret
  exact ⟨by simp, bstep KB.out K1.out⟩
set_option maxRecDepth 100000 in
set_option maxHeartbeats 2000000 in
theorem seBeyond (w : World) (s : S5) (g n : Nat) (hg : w.cell? ⟨g, 0, none⟩ = some (.int .i64 (n : Int))) (hgl : g < w.heap.size) : Calls Tryz.prog 202 #[.agg #[.int .i64 s.region, .int .i64 s.slot, .int .i64 s.value, .bool s.used, .int .i64 s.version], .pointer (some ⟨g, 0, none⟩)] w fun e w' => e = .returned (.bool (decide ((n : Int) ≤ s.region))) ∧ Below w.heap.size w w' := by
  obtain ⟨wr, hW⟩ : ∃ Y, Y = w.alloc (.cells #[.int .i64 s.region, .int .i64 s.slot, .int .i64 s.value, .bool s.used, .int .i64 s.version] 106) := ⟨_, rfl⟩
  have b0 : Below w.heap.size w wr := by rw [hW]; exact (Below.refl _ _).alloc (Nat.le_refl _) _
  have FX : Hid (Bx wr w.heap.size [.int .i64 s.region, .int .i64 s.slot, .int .i64 s.value, .bool s.used, .int .i64 s.version]) := by rw [hW]; exact Bx.made w [.int .i64 s.region, .int .i64 s.slot, .int .i64 s.value, .bool s.used, .int .i64 s.version] _
  have hm : ∀ w : World, (method 366 106 (.agg #[.int .i64 s.region, .int .i64 s.slot, .int .i64 s.value, .bool s.used, .int .i64 s.version]) "loop.example/g00153/impl.cell").run Tryz.prog w = .ok (137, .agg #[.int .i64 s.region, .int .i64 s.slot, .int .i64 s.value, .bool s.used, .int .i64 s.version]) w := fun _ => by kernel_rfl
  have hfd : ∀ X : World, (Instr.field 169 (.agg #[.int .i64 s.region, .int .i64 s.slot]) 0).run Tryz.prog X = .ok (.int .i64 s.region) X := fun _ => by kernel_rfl
  have SF : Hid (∀ X, Below wr.heap.size wr X → (fun X : World => Bx X w.heap.size [.int .i64 s.region, .int .i64 s.slot, .int .i64 s.value, .bool s.used, .int .i64 s.version] ∧ X.cell? ⟨g, 0, none⟩ = some (.int .i64 (n : Int))) X) := fun X hX => ⟨FX.out.later hX, ((bstep b0 hX).cell (p := ⟨g, 0, none⟩) hgl).trans hg⟩
  have KB := hidOf b0
  clear b0 hg hgl
  go_enter Tryz.func202, Tryz.ntmps202
  go_wp2_with fail
  rw [← hW]
  clear hW
  have bd : Below wr.heap.size wr wr.drew := (Below.refl _ _).drew
  have hS := SF.out _ bd
  refine wp_region_z (fun z => z == 6) (fun X : World => Bx X w.heap.size [.int .i64 s.region, .int .i64 s.slot, .int .i64 s.value, .bool s.used, .int .i64 s.version] ∧ X.cell? ⟨g, 0, none⟩ = some (.int .i64 (n : Int))) (by kernel_rfl) ?_
  generalize wr.drew = Wd at *
  refine wpZ_take (i := 0) (v := ?_) rfl (by kernel_rfl) (fun _ _ _ h => h) (Or.inl ⟨by rfl, ?_⟩) hS ?_
  rotate_left
  · (intro X hSw; have c0 := hSw.1.1 0 _ rfl; have c1 := hSw.1.1 1 _ rfl; have c2 := hSw.1.1 2 _ rfl; have c3 := hSw.1.1 3 _ rfl; have c4 := hSw.1.1 4 _ rfl; go_simp; first | done | with_reducible rfl)
  simp only [Act.put]
  refine wpZ_take (i := 4) (v := ?_) rfl (by kernel_rfl) (fun _ _ _ h => h) (Or.inl ⟨by rfl, ?_⟩) hS ?_
  rotate_left
  · (intro X hSw; have c5 := hSw.2; go_simp; first | done | with_reducible rfl)
  simp only [Act.put]
  refine wpZ_takeP (i := 1) (v := ?_) rfl (by kernel_rfl) (fun _ _ _ h => h) (Or.inl ⟨by rfl, ?_⟩) hS ?_
  rotate_left
  · (intro X _; go_simp; first | done | with_reducible rfl)
  simp only [Act.put]
  refine wpZ_ready (rs := [2]) (by kernel_rfl) (by simp) ?_
  refine AllZ.cons rfl (fun K hK => ?_) AllZ.nil
  go_simp
  refine (tx.seCell_any Wd s).mono ?_
  rintro e X2 ⟨rfl, b2⟩
  have bX := bstep bd b2
  refine hK.out _ _ (fun _ => SF.out _ bX) ?_
  clear hK K
  have hS := SF.out _ bX
  refine wpZ_takeP (i := 3) (v := ?_) rfl (by kernel_rfl) (fun _ _ _ h => h) (Or.inl ⟨by rfl, ?_⟩) hS ?_
  rotate_left
  · (intro X _; go_simp; first | done | with_reducible rfl)
  simp only [Act.put]
  refine wpZ_takeP (i := 5) (v := ?_) rfl (by kernel_rfl) (fun _ _ _ h => h) (Or.inl ⟨by rfl, ?_⟩) hS ?_
  rotate_left
  · (intro X _; go_simp; first | done | with_reducible rfl)
  simp only [Act.put]
  refine wpZ_ready (rs := [6]) (by kernel_rfl) (by simp) ?_
  refine AllZ.cons rfl (fun K hK => ?_) AllZ.nil
  go_simp
  refine hK.out _ _ (fun h => absurd (show false = true from h.symm.trans (by kernel_rfl)) (by decide)) ?_
  clear hK K
  refine wpZ_done (by kernel_rfl) ?_ _
  go_wp2
  go_ret
  exact ⟨rfl, bstep KB.out bX⟩
set_option maxHeartbeats 2000000 in
theorem seBeyondIdx (w : World) (a : Option Addr) (cap : Nat) (xs : List S5) (g n : Nat) (hn : xs.length ≤ maxLen) (hs : tx.Sl w w.heap.size a xs.length xs) (hg : w.cell? ⟨g, 0, none⟩ = some (.int .i64 (n : Int))) (hgl : g < w.heap.size) :
    Calls Tryz.prog 174 #[.slice a xs.length cap, .func (.func 202) #[] #[.pointer (some ⟨g, 0, none⟩)]] w fun e w' => (∃ i : Int, e = .returned (.int .i64 i) ∧ FirstAt (fun i => decide ((n : Int) ≤ (tx.atSe xs i).region)) xs.length i) ∧ Below w.heap.size w w' := by
  unfold maxLen at hn
  obtain ⟨_, hs⟩ := hs
  obtain ⟨f, hf⟩ : ∃ f : Nat → Bool, f = fun i => decide ((n : Int) ≤ (tx.atSe xs i).region) := ⟨_, rfl⟩
  have HF : Hid (∀ (X : World) (i : Nat), Below w.heap.size w X → Calls Tryz.prog 202 #[.agg #[.int .i64 (tx.atSe xs i).region, .int .i64 (tx.atSe xs i).slot, .int .i64 (tx.atSe xs i).value, .bool (tx.atSe xs i).used, .int .i64 (tx.atSe xs i).version], .pointer (some ⟨g, 0, none⟩)] X fun e w' => e = .returned (.bool (f i)) ∧ Below X.heap.size X w') := fun X i hX => by
    rw [hf]; exact seBeyond X (tx.atSe xs i) g n ((hX.cell (p := ⟨g, 0, none⟩) hgl).trans hg) (Nat.lt_of_lt_of_le hgl hX.size)
  rw [← hf]
  clear hf hg
  go_enter Tryz.func174, Tryz.ntmps174
  go_wp2
  go_loopw [8] (fun v wr => ∃ j : Nat, j ≤ xs.length ∧ v = .int .i64 j ∧ Below w.heap.size w wr ∧ ∀ i, i < j → f i = false) (fun v _ => xs.length - (intOf v).toNat)
  case atStart => exact ⟨0, Nat.zero_le _, rfl, Below.refl _ _, fun i h => absurd h (by omega)⟩
  case round =>
    obtain ⟨j, hj, rfl, hbl, hall⟩ := hrel
    by_cases hlt : j < xs.length
    · rcases hs with hs | ⟨b, off, rfl, hb, h1⟩
      · omega
      · obtain ⟨c0, c1, c2, c3, c4⟩ := (h1.below hbl hb) j _ (tx.atSe_of hlt)
        have KA : Hid ((∀ i, i < j → f i = false) ∧ Below w.heap.size w wr) := ⟨hall, hbl⟩
        have hw := HF.out wr j hbl
        have jn : (j : Int) < (xs.length : Int) := by omega
        clear h1 hall hbl
        cases hp : f j with
        | true =>
          rw [hp] at hw
          go_wp2_with fail
          refine hw.mono ?_
          clear hw
          rintro e w1 ⟨rfl, b1⟩
          go_wp2
          go_ret
          exact ⟨⟨_, rfl, .inr ⟨j, rfl, hlt, hp, KA.out.1⟩⟩, KA.out.2.trans (b1.mono KA.out.2.size)⟩
        | false =>
          rw [hp] at hw
          go_wp2_with fail
          refine hw.mono ?_
          clear hw
          rintro e w1 ⟨rfl, b1⟩
          go_wp2
          exact ⟨⟨j + 1, by omega, by simp, KA.out.2.trans (b1.mono KA.out.2.size), fun i hi => by
            by_cases e : i = j
            · rw [e]; exact hp
            · exact KA.out.1 i (by omega)⟩, by simp [intOf]; omega⟩
    · obtain rfl : j = xs.length := by omega
      have hd : decide ((xs.length : Int) < (xs.length : Int)) = false := by simp
      have KA : Hid ((∀ i, i < xs.length → f i = false) ∧ Below w.heap.size w wr) := ⟨hall, hbl⟩
      clear hs hall hbl
      go_wp2
      go_ret
      exact ⟨⟨_, rfl, .inl ⟨rfl, KA.out.1⟩⟩, KA.out.2⟩
set_option maxHeartbeats 1000000 in
theorem seWithin (w : World) (a : Option Addr) (cap : Nat) (xs : List S5) (n : Nat) (hn : xs.length ≤ maxLen) (hs : tx.Sl w w.heap.size a xs.length xs) :
    Calls Tryz.prog 164 #[.slice a xs.length cap, .int .i64 (n : Int)] w fun e w' => e = .returned (.bool (setsB n xs)) ∧ Below w.heap.size w w' := by
  obtain ⟨W, hW⟩ : ∃ Y, Y = w.alloc (.cells #[.int .i64 (n : Int)] 3) := ⟨_, rfl⟩
  have b0 : Below w.heap.size w W := by rw [hW]; exact (Below.refl _ _).alloc (Nat.le_refl _) _
  have g0 : W.cell? ⟨w.heap.size, 0, none⟩ = some (.int .i64 (n : Int)) := by rw [hW]; go_simp
  have gl : w.heap.size < W.heap.size := by rw [hW]; simp
  have c1 := seBeyondIdx W a cap xs w.heap.size n hn ((hs.below b0).mono b0.size) g0 gl
  have HE : Hid (∀ i : Int, FirstAt (fun i => decide ((n : Int) ≤ (tx.atSe xs i).region)) xs.length i → (!decide (0 ≤ i)) = setsB n xs) := fun i h => by
    rw [first_has h, setsB]
    simp only [Bool.not_not]
    congr 1
    funext j
    rw [Bool.eq_iff_iff]
    simp
  have KB := hidOf b0
  clear b0 g0 gl hs hn
  have hcf : Calls Tryz.prog 139 #[.slice a xs.length cap, .func (.func 202) #[] #[.pointer (some ⟨w.heap.size, 0, none⟩)]] W fun e w' => e = .returned (.bool (!setsB n xs)) ∧ Below W.heap.size W w' := by
    clear hW KB
    go_enter Tryz.func139, Tryz.ntmps139
    go_wp2_with fail
    refine c1.mono ?_
    clear c1
    rintro e w1 ⟨⟨i, rfl, hi⟩, b1⟩
    have KE := hidOf (HE.out i hi)
    have K1 := hidOf b1
    clear hi HE b1
    go_wp2
    go_ret
    exact ⟨by rw [← KE.out]; simp, K1.out⟩
  clear c1 HE
  go_enter Tryz.func164, Tryz.ntmps164
  go_wp2_with fail
  rw [← hW]
  clear hW
  refine hcf.mono ?_
  clear hcf
  rintro e w1 ⟨rfl, b1⟩
  have K1 := hidOf b1
  clear b1
  go_wp2
  go_ret
  exact ⟨by simp, bstep KB.out K1.out⟩
def fitB (k : C6) (t : tx.T7) : Bool := tx.txB t && decide (t.home < (k.machines.length : Int)) && decide (t.stamp ≤ k.clock) && readsB k.places.length t.reads && setsB k.places.length t.sets
set_option maxRecDepth 100000 in
set_option maxHeartbeats 4000000 in
theorem txFits_any (w : World) (t0 : Option Addr) (t1 : Nat) (t2 : Option Addr) (t3 : Nat) (t : tx.T7) (a1 : Option Addr) (c1 : Nat) (a2 : Option Addr) (c2 : Nat) (a3 : Option Addr) (c3 : Nat) (k : C6) (hl : tx.TL t) (h : tx.SlT w ⟨t0, t1, t2, t3⟩ t) : Calls Tryz.prog 119 #[.agg #[.int .i64 t.id, .int .i64 t.home, .int .i64 t.phase, .int .i64 t.count, .slice t0 t.reads.length t1, .slice t2 t.sets.length t3, .int .i64 t.stamp], .agg #[.int .i64 k.config, .int .i64 k.clock, .slice a1 k.places.length c1, .slice a2 k.machines.length c2, .slice a3 k.txs.length c3, .bool k.lost]] w fun e w' => e = .returned (.bool (fitB k t)) ∧ Below w.heap.size w w' := by
  obtain ⟨U0, hU0⟩ : ∃ Y, Y = w.alloc (.cells #[.int .i64 t.id, .int .i64 t.home, .int .i64 t.phase, .int .i64 t.count, .slice t0 t.reads.length t1, .slice t2 t.sets.length t3, .int .i64 t.stamp] 55) := ⟨_, rfl⟩
  have b0 : Below w.heap.size w U0 := by rw [hU0]; exact (Below.refl _ _).alloc (Nat.le_refl _) _
  have x0 : Bx U0 w.heap.size [.int .i64 t.id, .int .i64 t.home, .int .i64 t.phase, .int .i64 t.count, .slice t0 t.reads.length t1, .slice t2 t.sets.length t3, .int .i64 t.stamp] := by rw [hU0]; exact Bx.made w [.int .i64 t.id, .int .i64 t.home, .int .i64 t.phase, .int .i64 t.count, .slice t0 t.reads.length t1, .slice t2 t.sets.length t3, .int .i64 t.stamp] _
  have z0 : U0.heap.size = w.heap.size + 1 := by rw [hU0]; simp
  obtain ⟨U, hU⟩ : ∃ Y, Y = U0.alloc (.cells #[.int .i64 k.config, .int .i64 k.clock, .slice a1 k.places.length c1, .slice a2 k.machines.length c2, .slice a3 k.txs.length c3, .bool k.lost] 34) := ⟨_, rfl⟩
  have b1 : Below U0.heap.size U0 U := by rw [hU]; exact (Below.refl _ _).alloc (Nat.le_refl _) _
  have x1 : Bx U U0.heap.size [.int .i64 k.config, .int .i64 k.clock, .slice a1 k.places.length c1, .slice a2 k.machines.length c2, .slice a3 k.txs.length c3, .bool k.lost] := by rw [hU]; exact Bx.made U0 [.int .i64 k.config, .int .i64 k.clock, .slice a1 k.places.length c1, .slice a2 k.machines.length c2, .slice a3 k.txs.length c3, .bool k.lost] _
  rw [z0] at x1
  have bU : Below w.heap.size w U := bstep b0 b1
  have FA : Hid (Bx U w.heap.size [.int .i64 t.id, .int .i64 t.home, .int .i64 t.phase, .int .i64 t.count, .slice t0 t.reads.length t1, .slice t2 t.sets.length t3, .int .i64 t.stamp]) := x0.later b1
  have FB : Hid (Bx U (w.heap.size + 1) [.int .i64 k.config, .int .i64 k.clock, .slice a1 k.places.length c1, .slice a2 k.machines.length c2, .slice a3 k.txs.length c3, .bool k.lost]) := x1
  have HR : Hid (tx.SlT U ⟨t0, t1, t2, t3⟩ t ∧ tx.TL t ∧ Below w.heap.size w U) := ⟨h.later bU, hl, bU⟩
  have hc := tx.implTxOk_any U ⟨t0, t1, t2, t3⟩ t hl (h.later bU)
  simp only [tx.TV.val] at hc
  rw [hU0] at hU
  clear b0 x0 z0 b1 x1 bU hU0 h hl
  go_enter Tryz.func119, Tryz.ntmps119
  go_wp2_with fail
  rw [← hU]
  clear hU
  refine hc.mono ?_
  clear hc
  rintro e w1 ⟨rfl, b1⟩
  have B1 := hidOf b1
  clear b1
  cases hB : tx.txB t with
  | false =>
    have hb : Hid (fitB k t = false) := by unfold Hid; simp [fitB, hB]
    go_wp2
    go_ret
    exact ⟨by rw [hb.out]; rfl, bstep HR.out.2.2 B1.out⟩
  | true =>
  have q1 := (FA.out.later B1.out).1 1 _ rfl
  have q6 := (FA.out.later B1.out).1 6 _ rfl
  have q4 := (FA.out.later B1.out).1 4 _ rfl
  have r1 := (FB.out.later B1.out).1 1 _ rfl
  have r2 := (FB.out.later B1.out).1 2 _ rfl
  have r3 := (FB.out.later B1.out).1 3 _ rfl
  by_cases gh : t.home < (k.machines.length : Int)
  case neg =>
    have dh : decide ((k.machines.length : Int) ≤ t.home) = true := by simp <;> omega
    have hb : Hid (fitB k t = false) := by unfold Hid; simp [fitB, gh]
    go_wp2
    go_ret
    exact ⟨by rw [hb.out]; rfl, bstep HR.out.2.2 B1.out⟩
  have dh : decide ((k.machines.length : Int) ≤ t.home) = false := by simp <;> omega
  by_cases gs : t.stamp ≤ k.clock
  case neg =>
    have ds : decide (k.clock < t.stamp) = true := by simp <;> omega
    have hb : Hid (fitB k t = false) := by unfold Hid; simp [fitB, gs]
    go_wp2
    go_ret
    exact ⟨by rw [hb.out]; rfl, bstep HR.out.2.2 B1.out⟩
  have ds : decide (k.clock < t.stamp) = false := by simp <;> omega
  have HY : Hid (fitB k t = (readsB k.places.length t.reads && setsB k.places.length t.sets)) := by unfold Hid; simp [fitB, hB, gh, gs]
  have hc := noWithin w1 t0 t1 t.reads k.places.length HR.out.2.1.r (HR.out.1.later B1.out).r
  clear gh gs
  go_wp2_with fail
  refine hc.mono ?_
  clear hc q1 q6 q4 r1 r2 r3 dh ds
  rintro e w2 ⟨rfl, b2⟩
  have B2 : Hid (Below U.heap.size U w2) := bstep B1.out b2
  clear b2
  cases hR : readsB k.places.length t.reads with
  | false =>
    have hb : Hid (fitB k t = false) := by unfold Hid; rw [HY.out, hR]; rfl
    go_wp2
    go_ret
    exact ⟨by rw [hb.out]; rfl, bstep HR.out.2.2 B2.out⟩
  | true =>
  have q5 := (FA.out.later B2.out).1 5 _ rfl
  have r2 := (FB.out.later B2.out).1 2 _ rfl
  have hc := seWithin w2 t2 t3 t.sets k.places.length HR.out.2.1.s (HR.out.1.later B2.out).s
  have HZ : Hid (fitB k t = setsB k.places.length t.sets) := by unfold Hid; rw [HY.out, hR]; rfl
  go_wp2_with fail
  refine hc.mono ?_
  clear hc q5 r2
  rintro e w3 ⟨rfl, b3⟩
  have B3 : Hid (Below U.heap.size U w3) := bstep B2.out b3
  clear b3
  go_wp2
  go_ret
  exact ⟨by rw [HZ.out]; simp, bstep HR.out.2.2 B3.out⟩
set_option maxRecDepth 100000 in
set_option maxHeartbeats 2000000 in
theorem txWrong (w : World) (g : Nat) (t0 : Option Addr) (t1 : Nat) (t2 : Option Addr) (t3 : Nat) (t : tx.T7) (a1 : Option Addr) (c1 : Nat) (a2 : Option Addr) (c2 : Nat) (a3 : Option Addr) (c3 : Nat) (k : C6) (hl : tx.TL t) (h : tx.SlT w ⟨t0, t1, t2, t3⟩ t) (hg : Bx w g [.int .i64 k.config, .int .i64 k.clock, .slice a1 k.places.length c1, .slice a2 k.machines.length c2, .slice a3 k.txs.length c3, .bool k.lost]) : Calls Tryz.prog 118 #[.agg #[.int .i64 t.id, .int .i64 t.home, .int .i64 t.phase, .int .i64 t.count, .slice t0 t.reads.length t1, .slice t2 t.sets.length t3, .int .i64 t.stamp], .pointer (some ⟨g, 0, none⟩)] w fun e w' => e = .returned (.bool (!fitB k t)) ∧ Below w.heap.size w w' := by
  obtain ⟨U, hU⟩ : ∃ Y, Y = w.alloc (.cells #[.int .i64 t.id, .int .i64 t.home, .int .i64 t.phase, .int .i64 t.count, .slice t0 t.reads.length t1, .slice t2 t.sets.length t3, .int .i64 t.stamp] 55) := ⟨_, rfl⟩
  have b0 : Below w.heap.size w U := by rw [hU]; exact (Below.refl _ _).alloc (Nat.le_refl _) _
  have hc := txFits_any U t0 t1 t2 t3 t a1 c1 a2 c2 a3 c3 k hl (h.later b0)
  have hx := hg.later b0
  have p0 := hx.1 0 _ rfl
  have p1 := hx.1 1 _ rfl
  have p2 := hx.1 2 _ rfl
  have p3 := hx.1 3 _ rfl
  have p4 := hx.1 4 _ rfl
  have p5 := hx.1 5 _ rfl
  have KB := hidOf b0
  rw [hU] at p0 p1 p2 p3 p4 p5
  clear b0 hx hg h hl
  go_enter Tryz.func118, Tryz.ntmps118
  go_wp2_with fail
  rw [← hU]
  clear hU p0 p1 p2 p3 p4 p5
  refine hc.mono ?_
  clear hc
  rintro e w1 ⟨rfl, b1⟩
  have B1 := hidOf b1
  clear b1
  go_wp2
  go_ret
  exact ⟨rfl, bstep KB.out B1.out⟩
set_option maxHeartbeats 1000000 in
theorem idOf_any (w : World) (t0 : Option Addr) (t1 : Nat) (t2 : Option Addr) (t3 : Nat) (t : tx.T7) : Calls Tryz.prog 121 #[.agg #[.int .i64 t.id, .int .i64 t.home, .int .i64 t.phase, .int .i64 t.count, .slice t0 t.reads.length t1, .slice t2 t.sets.length t3, .int .i64 t.stamp]] w fun e w' => e = .returned (.int .i64 t.id) ∧ Below w.heap.size w w' := by
  go_enter Tryz.func121, Tryz.ntmps121
  go_wp2
  go_ret
  exact ⟨rfl, (Below.refl _ _).alloc (Nat.le_refl _) _⟩
def upT (ts : List tx.T7) (i : Nat) : Bool := decide (i = 0) || decide ((atT ts (i - 1)).id < (atT ts i).id)
theorem bstep' {A X Y : World} (h : Below A.heap.size A X) (b : Below X.heap.size X Y) : Below A.heap.size A Y := bstep h b
set_option maxRecDepth 100000 in
set_option maxHeartbeats 4000000 in
theorem risesT_any (w : World) (a : Option Addr) (cap : Nat) (ts : List tx.T7) (hn : ts.length ≤ maxLen) (hs : KTk.RdS w a ts) :
    Calls Tryz.prog 120 #[.slice a ts.length cap, .func (.func 121) #[] #[]] w fun e w' => e = .returned (.bool ((List.range ts.length).all (upT ts))) ∧ Below w.heap.size w w' := by
  unfold maxLen at hn
  go_enter Tryz.func120, Tryz.ntmps120
  go_wp2
  go_loopw [5] (fun i wr => ∃ j : Nat, (j + 1 ≤ ts.length ∨ j = 0) ∧ i = .int .i64 (((j + 1 : Nat)) : Int) ∧ Below w.heap.size w wr ∧ (List.range (j + 1)).all (upT ts) = true) (fun i _ => ts.length - (intOf i).toNat)
  case atStart => exact ⟨0, .inr rfl, rfl, Below.refl _ _, by simp [upT]⟩
  case round =>
    obtain ⟨j, hj, rfl, hbl, hall⟩ := hrel
    have K : Hid (Below w.heap.size w wr ∧ (List.range (j + 1)).all (upT ts) = true) := ⟨hbl, hall⟩
    by_cases hlt : j + 1 < ts.length
    · rcases hs with hs | ⟨b, off, rfl, hb, h1⟩
      · rw [hs] at hlt; simp at hlt
      obtain ⟨⟨x0', x1', x2', x3'⟩, hx, _⟩ := h1 (j + 1) _ (atT_of hlt)
      obtain ⟨⟨y0', y1', y2', y3'⟩, hy, _⟩ := h1 j _ (atT_of (by omega))
      have x0 : ∀ dd os, (grow (redrawn wr dd) os).cell? ⟨b, off + (j + 1) * 7, none⟩ = some (.int .i64 (atT ts (j + 1)).id) := fun dd os => ((bstep' K.out.1 (below_regrown wr dd os)).cell (p := ⟨b, off + (j + 1) * 7, none⟩) hb).trans (hx 0 _ rfl)
      have x1 : ∀ dd os, (grow (redrawn wr dd) os).cell? ⟨b, off + (j + 1) * 7 + 1, none⟩ = some (.int .i64 (atT ts (j + 1)).home) := fun dd os => ((bstep' K.out.1 (below_regrown wr dd os)).cell (p := ⟨b, off + (j + 1) * 7 + 1, none⟩) hb).trans (hx 1 _ rfl)
      have x2 : ∀ dd os, (grow (redrawn wr dd) os).cell? ⟨b, off + (j + 1) * 7 + 2, none⟩ = some (.int .i64 (atT ts (j + 1)).phase) := fun dd os => ((bstep' K.out.1 (below_regrown wr dd os)).cell (p := ⟨b, off + (j + 1) * 7 + 2, none⟩) hb).trans (hx 2 _ rfl)
      have x3 : ∀ dd os, (grow (redrawn wr dd) os).cell? ⟨b, off + (j + 1) * 7 + 3, none⟩ = some (.int .i64 (atT ts (j + 1)).count) := fun dd os => ((bstep' K.out.1 (below_regrown wr dd os)).cell (p := ⟨b, off + (j + 1) * 7 + 3, none⟩) hb).trans (hx 3 _ rfl)
      have x4 : ∀ dd os, (grow (redrawn wr dd) os).cell? ⟨b, off + (j + 1) * 7 + 4, none⟩ = some (.slice x0' (atT ts (j + 1)).reads.length x1') := fun dd os => ((bstep' K.out.1 (below_regrown wr dd os)).cell (p := ⟨b, off + (j + 1) * 7 + 4, none⟩) hb).trans (hx 4 _ rfl)
      have x5 : ∀ dd os, (grow (redrawn wr dd) os).cell? ⟨b, off + (j + 1) * 7 + 5, none⟩ = some (.slice x2' (atT ts (j + 1)).sets.length x3') := fun dd os => ((bstep' K.out.1 (below_regrown wr dd os)).cell (p := ⟨b, off + (j + 1) * 7 + 5, none⟩) hb).trans (hx 5 _ rfl)
      have x6 : ∀ dd os, (grow (redrawn wr dd) os).cell? ⟨b, off + (j + 1) * 7 + 6, none⟩ = some (.int .i64 (atT ts (j + 1)).stamp) := fun dd os => ((bstep' K.out.1 (below_regrown wr dd os)).cell (p := ⟨b, off + (j + 1) * 7 + 6, none⟩) hb).trans (hx 6 _ rfl)
      have y0 : ∀ dd os, (grow (redrawn wr dd) os).cell? ⟨b, off + j * 7, none⟩ = some (.int .i64 (atT ts j).id) := fun dd os => ((bstep' K.out.1 (below_regrown wr dd os)).cell (p := ⟨b, off + j * 7, none⟩) hb).trans (hy 0 _ rfl)
      have y1 : ∀ dd os, (grow (redrawn wr dd) os).cell? ⟨b, off + j * 7 + 1, none⟩ = some (.int .i64 (atT ts j).home) := fun dd os => ((bstep' K.out.1 (below_regrown wr dd os)).cell (p := ⟨b, off + j * 7 + 1, none⟩) hb).trans (hy 1 _ rfl)
      have y2 : ∀ dd os, (grow (redrawn wr dd) os).cell? ⟨b, off + j * 7 + 2, none⟩ = some (.int .i64 (atT ts j).phase) := fun dd os => ((bstep' K.out.1 (below_regrown wr dd os)).cell (p := ⟨b, off + j * 7 + 2, none⟩) hb).trans (hy 2 _ rfl)
      have y3 : ∀ dd os, (grow (redrawn wr dd) os).cell? ⟨b, off + j * 7 + 3, none⟩ = some (.int .i64 (atT ts j).count) := fun dd os => ((bstep' K.out.1 (below_regrown wr dd os)).cell (p := ⟨b, off + j * 7 + 3, none⟩) hb).trans (hy 3 _ rfl)
      have y4 : ∀ dd os, (grow (redrawn wr dd) os).cell? ⟨b, off + j * 7 + 4, none⟩ = some (.slice y0' (atT ts j).reads.length y1') := fun dd os => ((bstep' K.out.1 (below_regrown wr dd os)).cell (p := ⟨b, off + j * 7 + 4, none⟩) hb).trans (hy 4 _ rfl)
      have y5 : ∀ dd os, (grow (redrawn wr dd) os).cell? ⟨b, off + j * 7 + 5, none⟩ = some (.slice y2' (atT ts j).sets.length y3') := fun dd os => ((bstep' K.out.1 (below_regrown wr dd os)).cell (p := ⟨b, off + j * 7 + 5, none⟩) hb).trans (hy 5 _ rfl)
      have y6 : ∀ dd os, (grow (redrawn wr dd) os).cell? ⟨b, off + j * 7 + 6, none⟩ = some (.int .i64 (atT ts j).stamp) := fun dd os => ((bstep' K.out.1 (below_regrown wr dd os)).cell (p := ⟨b, off + j * 7 + 6, none⟩) hb).trans (hy 6 _ rfl)
      have cQ : ∀ d os, Calls Tryz.prog 121 #[.agg #[.int .i64 (atT ts (j + 1)).id, .int .i64 (atT ts (j + 1)).home, .int .i64 (atT ts (j + 1)).phase, .int .i64 (atT ts (j + 1)).count, .slice x0' (atT ts (j + 1)).reads.length x1', .slice x2' (atT ts (j + 1)).sets.length x3', .int .i64 (atT ts (j + 1)).stamp]] (grow (redrawn wr d) os) fun e w'' => e = .returned (.int .i64 (atT ts (j + 1)).id) ∧ ∃ p : Regrown, w'' = grow (redrawn wr p.d) p.os := fun d os => Calls.regrown_of (idOf_any _ _ _ _ _ _)
      have cR : ∀ d os, Calls Tryz.prog 121 #[.agg #[.int .i64 (atT ts j).id, .int .i64 (atT ts j).home, .int .i64 (atT ts j).phase, .int .i64 (atT ts j).count, .slice y0' (atT ts j).reads.length y1', .slice y2' (atT ts j).sets.length y3', .int .i64 (atT ts j).stamp]] (grow (redrawn wr d) os) fun e w'' => e = .returned (.int .i64 (atT ts j).id) ∧ ∃ p : Regrown, w'' = grow (redrawn wr p.d) p.os := fun d os => Calls.regrown_of (idOf_any _ _ _ _ _ _)
      have hj0 : (j : Int) < (ts.length : Int) := by omega
      have hj1 : ((j + 1 : Nat) : Int) < (ts.length : Int) := by omega
      have HL : Hid (j + 1 < ts.length) := hlt
      have U : Hid (upT ts (j + 1) = decide ((atT ts j).id < (atT ts (j + 1)).id)) := by unfold Hid; simp [upT]
      clear hx hy hbl hall h1 hlt
      generalize atT ts (j + 1) = tx1 at *
      generalize atT ts j = tx0 at *
      by_cases hq : tx1.id ≤ tx0.id
      · have hq1 : decide (tx1.id ≤ tx0.id) = true := by simp [hq]
        have hU : upT ts (j + 1) = false := by rw [U.out]; simp; omega
        clear hq
        go_wp2_with fail
        refine wp_region_quiet_below (by kernel_rfl) (by kernel_rfl) ?_
        repeat (go_big_quiet_step (first | (go_at_call_of 121 (Value.agg #[.int .i64 tx1.id, .int .i64 tx1.home, .int .i64 tx1.phase, .int .i64 tx1.count, .slice x0' tx1.reads.length x1', .slice x2' tx1.sets.length x3', .int .i64 tx1.stamp]); exact cQ _ _) | (go_at_call_of 121 (Value.agg #[.int .i64 tx0.id, .int .i64 tx0.home, .int .i64 tx0.phase, .int .i64 tx0.count, .slice y0' tx0.reads.length y1', .slice y2' tx0.sets.length y3', .int .i64 tx0.stamp]); exact cR _ _)))
        refine wpQuiet_nil ?_
        intro _ hw'
        obtain ⟨⟨dq, osq⟩, hw''⟩ := hw'
        subst hw''
        have bq := below_regrown wr dq osq
        go_wp2
        go_ret
        exact ⟨by rw [all_off (f := upT ts) HL.out hU]; rfl, K.out.1.trans (bq.mono K.out.1.size)⟩
      · have hq1 : decide (tx1.id ≤ tx0.id) = false := by simp; omega
        have hU : upT ts (j + 1) = true := by rw [U.out]; simp; omega
        clear hq
        go_wp2_with fail
        refine wp_region_quiet_below (by kernel_rfl) (by kernel_rfl) ?_
        repeat (go_big_quiet_step (first | (go_at_call_of 121 (Value.agg #[.int .i64 tx1.id, .int .i64 tx1.home, .int .i64 tx1.phase, .int .i64 tx1.count, .slice x0' tx1.reads.length x1', .slice x2' tx1.sets.length x3', .int .i64 tx1.stamp]); exact cQ _ _) | (go_at_call_of 121 (Value.agg #[.int .i64 tx0.id, .int .i64 tx0.home, .int .i64 tx0.phase, .int .i64 tx0.count, .slice y0' tx0.reads.length y1', .slice y2' tx0.sets.length y3', .int .i64 tx0.stamp]); exact cR _ _)))
        refine wpQuiet_nil ?_
        intro _ hw'
        obtain ⟨⟨dq, osq⟩, hw''⟩ := hw'
        subst hw''
        have bq := below_regrown wr dq osq
        go_wp2
        exact ⟨⟨j + 1, .inl (by have := HL.out; omega), by simp, K.out.1.trans (bq.mono K.out.1.size), all_on (f := upT ts) K.out.2 hU⟩, by have := HL.out; simp [intOf]; omega⟩
    · have hd : decide (((j + 1 : Nat) : Int) < (ts.length : Int)) = false := by simp; omega
      have hA : (List.range ts.length).all (upT ts) = true := by
        by_cases h0 : ts.length = 0
        · rw [h0]; rfl
        · have : ts.length = j + 1 := by omega
          rw [this]; exact hall
      have HA := hidOf hA
      clear hs hall hA
      go_wp2
      go_ret
      exact ⟨by rw [HA.out]; rfl, hbl⟩
def idxTF (w : World) (xs : List tx.T7) (g : Nat) (f : Nat → Bool) : Prop :=
  ∀ (X : World) (i : Nat) (t0 : Option Addr) (t1 : Nat) (t2 : Option Addr) (t3 : Nat), Below w.heap.size w X → i < xs.length → KTk.Rd X ⟨t0, t1, t2, t3⟩ (atT xs i) → Calls Tryz.prog 118 #[.agg #[.int .i64 (atT xs i).id, .int .i64 (atT xs i).home, .int .i64 (atT xs i).phase, .int .i64 (atT xs i).count, .slice t0 (atT xs i).reads.length t1, .slice t2 (atT xs i).sets.length t3, .int .i64 (atT xs i).stamp], .pointer (some ⟨g, 0, none⟩)] X fun e w' => e = .returned (.bool (f i)) ∧ Below X.heap.size X w'
set_option maxRecDepth 100000 in
set_option maxHeartbeats 2000000 in
theorem idxT (w : World) (a : Option Addr) (cap : Nat) (xs : List tx.T7) (g : Nat) (f : Nat → Bool) (hn : xs.length ≤ maxLen) (hs : KTk.RdS w a xs) (hf : idxTF w xs g f) :
    Calls Tryz.prog 165 #[.slice a xs.length cap, .func (.func 118) #[] #[.pointer (some ⟨g, 0, none⟩)]] w fun e w' => (∃ i : Int, e = .returned (.int .i64 i) ∧ FirstAt f xs.length i) ∧ Below w.heap.size w w' := by
  unfold maxLen at hn
  have HF := hidOf hf
  clear hf
  go_enter Tryz.func165, Tryz.ntmps165
  go_wp2
  go_loopw [8] (fun v wr => ∃ j : Nat, j ≤ xs.length ∧ v = .int .i64 j ∧ Below w.heap.size w wr ∧ ∀ i, i < j → f i = false) (fun v _ => xs.length - (intOf v).toNat)
  case atStart => exact ⟨0, Nat.zero_le _, rfl, Below.refl _ _, fun i h => absurd h (by omega)⟩
  case round =>
    obtain ⟨j, hj, rfl, hbl, hall⟩ := hrel
    by_cases hlt : j < xs.length
    · rcases hs with hs | ⟨b, off, rfl, hb, h1⟩
      · rw [hs] at hlt; simp at hlt
      obtain ⟨⟨t0, t1, t2, t3⟩, hat, hrd⟩ := h1 j _ (atT_of hlt)
      have e0 : wr.cell? ⟨b, off + j * 7, none⟩ = some (.int .i64 (atT xs j).id) := (hbl.cell (p := ⟨b, off + j * 7, none⟩) hb).trans (hat 0 _ rfl)
      have e1 : wr.cell? ⟨b, off + j * 7 + 1, none⟩ = some (.int .i64 (atT xs j).home) := (hbl.cell (p := ⟨b, off + j * 7 + 1, none⟩) hb).trans (hat 1 _ rfl)
      have e2 : wr.cell? ⟨b, off + j * 7 + 2, none⟩ = some (.int .i64 (atT xs j).phase) := (hbl.cell (p := ⟨b, off + j * 7 + 2, none⟩) hb).trans (hat 2 _ rfl)
      have e3 : wr.cell? ⟨b, off + j * 7 + 3, none⟩ = some (.int .i64 (atT xs j).count) := (hbl.cell (p := ⟨b, off + j * 7 + 3, none⟩) hb).trans (hat 3 _ rfl)
      have e4 : wr.cell? ⟨b, off + j * 7 + 4, none⟩ = some (.slice t0 (atT xs j).reads.length t1) := (hbl.cell (p := ⟨b, off + j * 7 + 4, none⟩) hb).trans (hat 4 _ rfl)
      have e5 : wr.cell? ⟨b, off + j * 7 + 5, none⟩ = some (.slice t2 (atT xs j).sets.length t3) := (hbl.cell (p := ⟨b, off + j * 7 + 5, none⟩) hb).trans (hat 5 _ rfl)
      have e6 : wr.cell? ⟨b, off + j * 7 + 6, none⟩ = some (.int .i64 (atT xs j).stamp) := (hbl.cell (p := ⟨b, off + j * 7 + 6, none⟩) hb).trans (hat 6 _ rfl)
      have hw := HF.out wr j t0 t1 t2 t3 hbl hlt (KTk.later hrd hbl)
      have KA : Hid ((∀ i, i < j → f i = false) ∧ Below w.heap.size w wr) := ⟨hall, hbl⟩
      have jn : (j : Int) < (xs.length : Int) := by omega
      clear h1 hat hrd hall hbl
      cases hp : f j with
      | true =>
        rw [hp] at hw
        go_wp2_with fail
        refine hw.mono ?_
        clear hw
        rintro e w1 ⟨rfl, b1⟩
        go_wp2
        go_ret
        exact ⟨⟨_, rfl, .inr ⟨j, rfl, hlt, hp, KA.out.1⟩⟩, KA.out.2.trans (b1.mono KA.out.2.size)⟩
      | false =>
        rw [hp] at hw
        go_wp2_with fail
        refine hw.mono ?_
        clear hw
        rintro e w1 ⟨rfl, b1⟩
        go_wp2
        exact ⟨⟨j + 1, by omega, by simp, KA.out.2.trans (b1.mono KA.out.2.size), fun i hi => by
          by_cases e : i = j
          · rw [e]; exact hp
          · exact KA.out.1 i (by omega)⟩, by simp [intOf]; omega⟩
    · obtain rfl : j = xs.length := by omega
      have hd : decide ((xs.length : Int) < (xs.length : Int)) = false := by simp
      have KA : Hid ((∀ i, i < xs.length → f i = false) ∧ Below w.heap.size w wr) := ⟨hall, hbl⟩
      clear hall hbl hs
      go_wp2
      go_ret
      exact ⟨⟨_, rfl, .inl ⟨rfl, KA.out.1⟩⟩, KA.out.2⟩
set_option maxHeartbeats 1000000 in
theorem idxT_has (w : World) (a : Option Addr) (cap : Nat) (xs : List tx.T7) (g : Nat) (f : Nat → Bool) (hn : xs.length ≤ maxLen) (hs : KTk.RdS w a xs) (hf : idxTF w xs g f) :
    Calls Tryz.prog 122 #[.slice a xs.length cap, .func (.func 118) #[] #[.pointer (some ⟨g, 0, none⟩)]] w fun e w' => e = .returned (.bool (!((List.range xs.length).all fun j => !f j))) ∧ Below w.heap.size w w' := by
  have hc := idxT w a cap xs g f hn hs hf
  clear hs hf
  go_enter Tryz.func122, Tryz.ntmps122
  go_wp2_with fail
  refine hc.mono ?_
  clear hc
  rintro e w1 ⟨⟨i, rfl, hi⟩, b1⟩
  have h := first_has hi
  have KB := hidOf b1
  clear b1 hi
  go_wp2
  go_ret
  exact ⟨by rw [← h]; rfl, KB.out⟩
theorem txsB_eq (k : C6) : txsB k = ((List.range k.txs.length).all (upT k.txs) && (List.range k.txs.length).all (fun i => fitB k (atT k.txs i))) := by
  unfold txsB
  rw [← all_and]
  apply all_congr
  intro i _
  unfold txAtB upT fitB
  cases tx.txB (atT k.txs i) <;> cases decide (i = 0) <;> cases decide ((atT k.txs (i - 1)).id < (atT k.txs i).id) <;> simp
set_option maxRecDepth 100000 in
set_option maxHeartbeats 2000000 in
theorem txsFit_any (w : World) (a1 : Option Addr) (c1 : Nat) (a2 : Option Addr) (c2 : Nat) (a3 : Option Addr) (c3 : Nat) (k : C6) (hl : KCl.L k) (h : KCl.Rd w a1 c1 a2 c2 a3 c3 k) : Calls Tryz.prog 68 #[.agg #[.int .i64 k.config, .int .i64 k.clock, .slice a1 k.places.length c1, .slice a2 k.machines.length c2, .slice a3 k.txs.length c3, .bool k.lost]] w fun e w' => e = .returned (.bool (decide (k.txs.length ≤ 60) && txsB k)) ∧ Below w.heap.size w w' := by
  obtain ⟨U, hU⟩ : ∃ Y, Y = w.alloc (.cells #[.int .i64 k.config, .int .i64 k.clock, .slice a1 k.places.length c1, .slice a2 k.machines.length c2, .slice a3 k.txs.length c3, .bool k.lost] 34) := ⟨_, rfl⟩
  have b0 : Below w.heap.size w U := by rw [hU]; exact (Below.refl _ _).alloc (Nat.le_refl _) _
  have FA : Hid (Bx U w.heap.size [.int .i64 k.config, .int .i64 k.clock, .slice a1 k.places.length c1, .slice a2 k.machines.length c2, .slice a3 k.txs.length c3, .bool k.lost]) := by rw [hU]; exact Bx.made w [.int .i64 k.config, .int .i64 k.clock, .slice a1 k.places.length c1, .slice a2 k.machines.length c2, .slice a3 k.txs.length c3, .bool k.lost] _
  have HR : Hid (KCl.Rd U a1 c1 a2 c2 a3 c3 k ∧ KCl.L k) := ⟨h.later b0, hl⟩
  have BW : Hid (Below w.heap.size w U) := b0
  have lt := hl.t
  unfold maxLen at lt
  have p4 := FA.out.1 4 _ rfl
  rw [hU] at p4
  clear b0 h hl
  by_cases g5 : k.txs.length ≤ 60
  case neg =>
    have d5 : decide ((k.txs.length : Int) ≤ 60) = false := by simp <;> omega
    have hb : (decide (k.txs.length ≤ 60) && txsB k) = false := by simp [g5]
    rw [hb]
    rw [hU] at BW
    clear FA HR hU hb
    go_enter Tryz.func68, Tryz.ntmps68
    go_wp2
    go_ret
    exact ⟨rfl, BW.out⟩
  have d5 : decide ((k.txs.length : Int) ≤ 60) = true := by simp <;> omega
  have HB : Hid ((decide (k.txs.length ≤ 60) && txsB k) = ((List.range k.txs.length).all (upT k.txs) && (List.range k.txs.length).all (fun i => fitB k (atT k.txs i)))) := by unfold Hid; rw [← txsB_eq]; simp [g5]
  have hc := risesT_any U a3 c3 k.txs HR.out.2.t HR.out.1.t
  go_enter Tryz.func68, Tryz.ntmps68
  go_wp2_with fail
  rw [← hU]
  clear hU p4
  refine hc.mono ?_
  clear hc
  rintro e w1 ⟨rfl, b1⟩
  have B1 := hidOf b1
  clear b1
  cases hR : (List.range k.txs.length).all (upT k.txs) with
  | false =>
    go_wp2
    go_ret
    exact ⟨by rw [HB.out, hR]; rfl, bstep BW.out B1.out⟩
  | true =>
  have p4 := (FA.out.later B1.out).1 4 _ rfl
  have hc := idxT_has w1 a3 c3 k.txs w.heap.size (fun i => !fitB k (atT k.txs i)) HR.out.2.t (HR.out.1.later B1.out).t (fun X i t0 t1 t2 t3 hb hi hr => txWrong X w.heap.size t0 t1 t2 t3 (atT k.txs i) a1 c1 a2 c2 a3 c3 k (HR.out.2.ts _ (List.mem_of_getElem? (atT_of hi))) hr (FA.out.later (bstep B1.out hb)))
  have he : (!((List.range k.txs.length).all fun j => !(fun i => !fitB k (atT k.txs i)) j)) = !((List.range k.txs.length).all fun i => fitB k (atT k.txs i)) := by simp
  rw [he] at hc
  clear he
  have HZ : Hid ((decide (k.txs.length ≤ 60) && txsB k) = (List.range k.txs.length).all (fun i => fitB k (atT k.txs i))) := by unfold Hid; rw [HB.out, hR]; rfl
  generalize ((List.range k.txs.length).all fun i => fitB k (atT k.txs i)) = BB at *
  go_wp2_with fail
  refine hc.mono ?_
  clear hc p4
  rintro e w2 ⟨rfl, b2⟩
  have B2 : Hid (Below U.heap.size U w2) := bstep B1.out b2
  clear b2
  go_wp2
  go_ret
  exact ⟨by rw [HZ.out]; simp, bstep BW.out B2.out⟩
def idxCelF (w : World) (n : Nat) (rs : List K2) (g : Nat) (f : Nat → Bool) : Prop :=
  ∀ (X : World) (i : Nat) (a' : Option Addr) (cap' : Nat), Below w.heap.size w X → i < n → SlC X X.heap.size a' (atK rs i).cells.length (atK rs i).cells → Calls Tryz.prog 248 #[(atK rs i).val a' cap', .pointer (some ⟨g, 0, none⟩)] X fun e w' => e = .returned (.bool (f i)) ∧ Below X.heap.size X w'
set_option maxHeartbeats 2000000 in
theorem idxCel (w : World) (a : Option Addr) (n cap : Nat) (rs : List K2) (g : Nat) (f : Nat → Bool) (hn : n ≤ maxLen) (hs : SlK w w.heap.size a n rs) (hf : idxCelF w n rs g f) :
    Calls Tryz.prog 212 #[.slice a n cap, .func (.func 248) #[] #[.pointer (some ⟨g, 0, none⟩)]] w fun e w' => (∃ i : Int, e = .returned (.int .i64 i) ∧ FirstAt f n i) ∧ Below w.heap.size w w' := by
  unfold maxLen at hn
  obtain ⟨hx, hs⟩ := hs
  have HF := hidOf hf
  clear hf
  go_enter Tryz.func212, Tryz.ntmps212
  go_wp2
  go_loopw [8] (fun v wr => ∃ j : Nat, j ≤ n ∧ v = .int .i64 j ∧ Below w.heap.size w wr ∧ ∀ i, i < j → f i = false) (fun v _ => n - (intOf v).toNat)
  case atStart => exact ⟨0, Nat.zero_le _, rfl, Below.refl _ _, fun i h => absurd h (by omega)⟩
  case round =>
    obtain ⟨j, hj, rfl, hbl, hall⟩ := hrel
    by_cases hlt : j < n
    · rcases hs with hs | ⟨b, off, rfl, hb, h1⟩
      · omega
      · have hr := (h1 j _ (atK_of (by omega))).below hbl hb
        have c0 := hr.c0
        obtain ⟨a', cap', c1, hsl, hcp⟩ := hr.c1
        have KA : Hid ((∀ i, i < j → f i = false) ∧ Below w.heap.size w wr) := ⟨hall, hbl⟩
        have hw := HF.out wr j a' cap' hbl hlt (hsl.mono hbl.size)
        simp only [K2.val] at hw
        clear h1 hr hall hsl hbl hcp
        generalize (atK rs j).cells.length = ln at *
        cases hp : f j with
        | true =>
          rw [hp] at hw
          go_wp2_with fail
          refine hw.mono ?_
          clear hw
          rintro e w1 ⟨rfl, b1⟩
          go_wp2
          go_ret
          exact ⟨⟨_, rfl, .inr ⟨j, rfl, hlt, hp, KA.out.1⟩⟩, KA.out.2.trans (b1.mono KA.out.2.size)⟩
        | false =>
          rw [hp] at hw
          go_wp2_with fail
          refine hw.mono ?_
          clear hw
          rintro e w1 ⟨rfl, b1⟩
          go_wp2
          exact ⟨⟨j + 1, by omega, by simp, KA.out.2.trans (b1.mono KA.out.2.size), fun i hi => by
            by_cases e : i = j
            · rw [e]; exact hp
            · exact KA.out.1 i (by omega)⟩, by simp [intOf]; omega⟩
    · have : j = n := by omega
      subst this
      have hd : decide ((j : Int) < (j : Int)) = false := by simp
      have KA : Hid (∀ i, i < j → f i = false) := hall
      clear hs hall
      go_wp2
      go_ret
      exact ⟨⟨_, rfl, .inl ⟨rfl, KA.out⟩⟩, hbl⟩
theorem mach_six {m : M4} (h : machB m = true) : ∀ c ∈ m.copies, c.cells.length = 6 := by
  simp only [machB, Bool.and_eq_true, decide_eq_true_eq] at h
  obtain ⟨⟨⟨⟨⟨h1, h2⟩, h3⟩, _⟩, h4⟩, h5⟩ := h
  intro c hc
  obtain ⟨i, hi, rfl⟩ := List.getElem_of_mem hc
  have := List.all_eq_true.1 h4 i (List.mem_range.2 hi)
  simp only [copB, atK, List.getElem?_eq_getElem hi, Option.getD_some, Bool.and_eq_true, cellsB, decide_eq_true_eq] at this
  exact this.1.2.1
def memV (m : M4) (a : Option Addr) (c : Nat) : Value := if m.alive then .iface 181 (.agg #[.slice a m.copies.length c]) else .iface 183 (.agg #[])
set_option maxHeartbeats 1000000 in
theorem memberOf_any (w : World) (m0 : Option Addr) (m1 : Nat) (m2 : Option Addr) (m3 : Nat) (m4 : Option Addr) (m5 : Nat) (m : M4) : Calls Tryz.prog 88 #[.agg #[.bool m.alive, .slice m0 m.copies.length m1, .slice m2 m.log.length m3, .slice m4 m.cleared.length m5]] w fun e w' => e = .returned (memV m m0 m1) ∧ Below w.heap.size w w' := by
  cases ha : m.alive with
  | true =>
    have hv : memV m m0 m1 = .iface 181 (.agg #[.slice m0 m.copies.length m1]) := by simp [memV, ha]
    rw [hv]
    clear hv
    go_enter Tryz.func88, Tryz.ntmps88
    go_wp2
    go_ret
    exact ⟨rfl, (Below.refl _ _).alloc (Nat.le_refl _) _⟩
  | false =>
    have hv : memV m m0 m1 = .iface 183 (.agg #[]) := by simp [memV, ha]
    rw [hv]
    clear hv
    go_enter Tryz.func88, Tryz.ntmps88
    go_wp2
    go_ret
    exact ⟨rfl, (Below.refl _ _).alloc (Nat.le_refl _) _⟩
set_option maxHeartbeats 1000000 in
theorem livesL_any (w : World) (a : Option Addr) (n c : Nat) : Calls Tryz.prog 247 #[.agg #[.slice a n c]] w fun e w' => e = .returned (.bool true) ∧ Below w.heap.size w w' := by
  go_enter Tryz.func247, Tryz.ntmps247
  go_wp2
  go_ret
  exact ⟨rfl, (Below.refl _ _).alloc (Nat.le_refl _) _⟩
set_option maxHeartbeats 1000000 in
theorem livesD_any (w : World) : Calls Tryz.prog 250 #[.agg #[]] w fun e w' => e = .returned (.bool false) ∧ Below w.heap.size w w' := by
  go_enter Tryz.func250, Tryz.ntmps250
  go_wp2
  go_ret
  exact ⟨rfl, (Below.refl _ _).alloc (Nat.le_refl _) _⟩
set_option maxHeartbeats 1000000 in
theorem such_any (w : World) (x y : Int) (a : Option Addr) (n c g : Nat) (hg : w.cell? ⟨g, 0, none⟩ = some (.int .i64 y)) (hgl : g < w.heap.size) : Calls Tryz.prog 248 #[.agg #[.int .i64 x, .slice a n c], .pointer (some ⟨g, 0, none⟩)] w fun e w' => e = .returned (.bool (decide (x = y))) ∧ Below w.heap.size w w' := by
  have b0 : Below w.heap.size w (w.alloc (.cells #[.int .i64 x, .slice a n c] 79)) := (Below.refl _ _).alloc (Nat.le_refl _) _
  have p0 := (b0.cell (p := ⟨g, 0, none⟩) hgl).trans hg
  have he : (x == y) = decide (x = y) := by by_cases h : x = y <;> simp [h]
  have KB := hidOf b0
  clear b0 hg hgl
  go_enter Tryz.func248, Tryz.ntmps248
  go_wp2
  go_ret
  exact ⟨by rw [← he]; rfl, KB.out⟩
def CelAns (w w' : World) (m : M4) (y : Int) (e : Ending) : Prop :=
  (hasC m y = false ∧ e = .returned (.tuple #[.slice none 0 0, .bool false])) ∨
  (hasC m y = true ∧ ∃ i q cp : Nat, idxC m y = (i : Int) ∧ i < m.copies.length ∧ e = .returned (.tuple #[.slice (some ⟨q, 0, none⟩) (atK m.copies i).cells.length cp, .bool true]) ∧ w.heap.size ≤ q ∧ q < w'.heap.size ∧ (atK m.copies i).cells.length ≤ cp ∧ CellsAt w' q 0 (atK m.copies i).cells ∧ Room w' q ((atK m.copies i).cells.length * 2))
theorem CelAns.up {A w w' : World} {m : M4} {y : Int} {e : Ending} (h : CelAns w w' m y e) (hA : A.heap.size ≤ w.heap.size) : CelAns A w' m y e := by
  rcases h with h | ⟨h, i, q, cp, h1, h2, h3, h4, h5⟩
  · exact .inl h
  · exact .inr ⟨h, i, q, cp, h1, h2, h3, Nat.le_trans hA h4, h5⟩
set_option maxRecDepth 100000 in
set_option maxHeartbeats 2000000 in
theorem cells_any (w : World) (a : Option Addr) (c : Nat) (m : M4) (y : Int) (hl : ML m) (hB : machB m = true) (hs : SlK w w.heap.size a m.copies.length m.copies) :
    Calls Tryz.prog 246 #[.agg #[.slice a m.copies.length c], .int .i64 y] w fun e w' => CelAns w w' m y e ∧ Below w.heap.size w w' := by
  have hn := hl.k
  obtain ⟨U, hU⟩ : ∃ Y, Y = (w.alloc (.cells #[.slice a m.copies.length c] 181)).alloc (.cells #[.int .i64 y] 2) := ⟨_, rfl⟩
  have b0 : Below w.heap.size w U := by rw [hU]; exact ((Below.refl _ _).alloc (Nat.le_refl _) _).alloc (by simp) _
  have z0 : U.heap.size = w.heap.size + 2 := by rw [hU]; simp
  have p0 : U.cell? ⟨w.heap.size, 0, none⟩ = some (.slice a m.copies.length c) := by rw [hU]; go_simp
  have p1 : U.cell? ⟨w.heap.size + 1, 0, none⟩ = some (.int .i64 y) := by rw [hU]; go_simp
  have hc := idxCel U a m.copies.length c m.copies (w.heap.size + 1) (fun j => decide ((atK m.copies j).region = y)) hn (hs.later b0)
    (fun X i a' c' hb hi hsl => such_any X (atK m.copies i).region y a' _ c' (w.heap.size + 1) ((hb.cell (p := ⟨w.heap.size + 1, 0, none⟩) (by simp; omega)).trans p1) (by have := hb.size; omega))
  have H : Hid (Below w.heap.size w U ∧ U.heap.size = w.heap.size + 2 ∧ SlK U U.heap.size a m.copies.length m.copies) := ⟨b0, z0, hs.later b0⟩
  have P0 := hidOf p0
  clear b0 z0 hs p1
  unfold maxLen at hn
  rw [hU] at p0
  go_enter Tryz.func246, Tryz.ntmps246
  go_wp2_with fail
  rw [← hU]
  clear hU p0
  refine hc.mono ?_
  clear hc
  rintro e w1 ⟨⟨i, rfl, hi⟩, b1⟩
  have hii := first_un hi (idxC_first m y)
  have hlt := idxC_lt m y
  rw [← hii] at hlt
  have B1 := hidOf b1
  cases hh : hasC m y with
  | false =>
    rw [hh] at hlt
    have d : decide (i < 0) = true := hlt
    clear hlt hi hii b1
    go_wp2
    refine bodyPost_ret (v := .tuple #[.slice none 0 0, .bool false]) (by simp [results, Tryz.results246, go_sem]) rfl ?_
    exact ⟨.inl ⟨hh, rfl⟩, bstep H.out.1 B1.out⟩
  | true =>
    rw [hh] at hlt
    have d : decide (i < 0) = false := hlt
    rcases hi with ⟨rfl, _⟩ | ⟨j, rfl, hj, _, _⟩
    · simp at d
    obtain ⟨_, hk⟩ := H.out.2.2
    rcases hk with hk | ⟨b, off, rfl, hb, h1⟩
    · omega
    have q0 := (b1.cell (p := ⟨w.heap.size, 0, none⟩) (by have := H.out.2.1; simp; omega)).trans P0.out
    have hr := (h1 j _ (atK_of hj)).below b1 hb
    obtain ⟨a', cap', c1, hsl, hcp⟩ := hr.c1
    have hlen : (atK m.copies j).cells.length = 6 := mach_six hB _ (List.mem_of_getElem? (atK_of hj))
    have ho := ownCells_any w1 a' cap' (atK m.copies j).cells (by omega) (by omega) (hsl.mono b1.size)
    have HJ : Hid (idxC m y = (j : Int) ∧ j < m.copies.length ∧ hasC m y = true) := ⟨hii.symm, hj, hh⟩
    clear hlt hii b1 h1 hr hsl hcp hlen hB
    go_wp2_with fail
    refine ho.mono ?_
    clear ho q0 c1
    rintro e w2 ⟨q, cp, rfl, h2, h3, h4, h5, h6, b2⟩
    have HF : Hid (w1.heap.size ≤ q ∧ q < w2.heap.size ∧ (atK m.copies j).cells.length ≤ cp ∧ CellsAt w2 q 0 (atK m.copies j).cells ∧ Room w2 q ((atK m.copies j).cells.length * 2)) := ⟨h2, h3, h4, h5, h6⟩
    have B2 : Hid (Below w.heap.size w w2) := bstep (bstep H.out.1 B1.out) b2
    have S1 : Hid (w.heap.size ≤ w1.heap.size) := (bstep H.out.1 B1.out).size
    clear b2 h2 h3 h4 h5 h6
    go_wp2
    refine bodyPost_ret (v := .tuple #[.slice (some ⟨q, 0, none⟩) (atK m.copies j).cells.length cp, .bool true]) (by simp [results, Tryz.results246, go_sem]) rfl ?_
    exact ⟨.inr ⟨HJ.out.2.2, j, q, cp, HJ.out.1, HJ.out.2.1, rfl, Nat.le_trans S1.out HF.out.1, HF.out.2⟩, B2.out⟩
theorem holderU : Tryz.prog.underlying 177 = some (.interface #[("loop.example/g00153/impl.cells", 179), ("loop.example/g00153/impl.lives", 186)]) := by kernel_rfl
set_option maxRecDepth 100000 in
set_option maxHeartbeats 2000000 in
theorem askCells_any (w : World) (a : Option Addr) (c : Nat) (m : M4) (y : Int) (hl : ML m) (hB : machB m = true) (hs : SlK w w.heap.size a m.copies.length m.copies) :
    Calls Tryz.prog 87 #[memV m a c, .int .i64 y] w fun e w' => ((m.alive = true ∧ CelAns w w' m y e) ∨ (m.alive = false ∧ e = .returned (.tuple #[.slice none 0 0, .bool false]))) ∧ Below w.heap.size w w' := by
  cases ha : m.alive with
  | true =>
    have hv : memV m a c = .iface 181 (.agg #[.slice a m.copies.length c]) := by simp [memV, ha]
    rw [hv]
    have ht : ∀ w : World, (Instr.typeAssert (.iface 181 (.agg #[.slice a m.copies.length c])) 131 177 true).run Tryz.prog w = .ok (.tuple #[.iface 181 (.agg #[.slice a m.copies.length c]), .bool true]) w := fun w => run_typeAssert_hasB holderU (by kernel_rfl) _ _ w
    have hm : ∀ w : World, (method 366 181 (.agg #[.slice a m.copies.length c]) "loop.example/g00153/impl.cells").run Tryz.prog w = .ok (246, .agg #[.slice a m.copies.length c]) w := fun _ => by kernel_rfl
    have hc := cells_any w a c m y hl hB hs
    clear hv hl hB hs ha
    go_enter Tryz.func87, Tryz.ntmps87
    go_wp2_with fail
    refine hc.mono ?_
    clear hc
    rintro e w1 ⟨h1, b1⟩
    have H1 := hidOf h1
    have B1 := hidOf b1
    clear b1
    rcases h1 with ⟨_, rfl⟩ | ⟨_, i, q, cp, _, _, rfl, _⟩
    · go_wp2
      refine bodyPost_ret (v := .tuple #[.slice none 0 0, .bool false]) (by simp [results, Tryz.results87, go_sem]) rfl ?_
      exact ⟨.inl ⟨trivial, H1.out⟩, B1.out⟩
    · go_wp2
      refine bodyPost_ret (v := .tuple #[.slice (some ⟨q, 0, none⟩) (atK m.copies i).cells.length cp, .bool true]) (by simp [results, Tryz.results87, go_sem]) rfl ?_
      exact ⟨.inl ⟨trivial, H1.out⟩, B1.out⟩
  | false =>
    have hv : memV m a c = .iface 183 (.agg #[]) := by simp [memV, ha]
    rw [hv]
    have ht : ∀ w : World, (Instr.typeAssert (.iface 183 (.agg #[])) 131 177 true).run Tryz.prog w = .ok (.tuple #[.nilIface, .bool false]) w := fun w => run_typeAssert_lacksB holderU (by kernel_rfl) (by kernel_rfl) _ _ w
    clear hv hl hB hs ha
    go_enter Tryz.func87, Tryz.ntmps87
    go_wp2
    refine bodyPost_ret (v := .tuple #[.slice none 0 0, .bool false]) (by simp [results, Tryz.results87, go_sem]) rfl ?_
    exact ⟨.inr ⟨trivial, rfl⟩, Below.refl _ _⟩
set_option maxRecDepth 100000 in
set_option maxHeartbeats 2000000 in
theorem serves_any (w : World) (a : Option Addr) (c : Nat) (m : M4) (y : Int) (hl : ML m) (hB : machB m = true) (hs : SlK w w.heap.size a m.copies.length m.copies) :
    Calls Tryz.prog 117 #[memV m a c, .int .i64 y] w fun e w' => e = .returned (.bool (!m.alive || hasC m y)) ∧ Below w.heap.size w w' := by
  have hc := askCells_any w a c m y hl hB hs
  clear hl hB hs
  cases ha : m.alive with
  | true =>
    have hv : memV m a c = .iface 181 (.agg #[.slice a m.copies.length c]) := by simp [memV, ha]
    rw [hv] at hc ⊢
    have hm : ∀ w : World, (method 366 181 (.agg #[.slice a m.copies.length c]) "loop.example/g00153/impl.lives").run Tryz.prog w = .ok (247, .agg #[.slice a m.copies.length c]) w := fun _ => by kernel_rfl
    have HA := hidOf ha
    clear hv ha
    go_enter Tryz.func117, Tryz.ntmps117
    go_wp2_with fail
    refine hc.mono ?_
    clear hc
    rintro e w1 ⟨h1, b1⟩
    have B1 := hidOf b1
    have hL := livesL_any w1 a m.copies.length c
    clear b1
    rcases h1 with ⟨_, h1⟩ | ⟨h1, _⟩
    case inr => rw [HA.out] at h1; cases h1
    rcases h1 with ⟨hh, rfl⟩ | ⟨hh, i, q, cp, _, _, rfl, _⟩
    · have HH := hidOf hh
      clear hh
      go_wp2_with fail
      refine hL.mono ?_
      clear hL
      rintro e w2 ⟨rfl, b2⟩
      have B2 : Hid (Below w.heap.size w w2) := bstep B1.out b2
      clear b2
      go_wp2
      go_ret
      exact ⟨by rw [HH.out]; rfl, B2.out⟩
    · have HH := hidOf hh
      clear hh hL
      go_wp2
      go_ret
      exact ⟨by rw [HH.out]; rfl, B1.out⟩
  | false =>
    have hv : memV m a c = .iface 183 (.agg #[]) := by simp [memV, ha]
    rw [hv] at hc ⊢
    have hm : ∀ w : World, (method 366 183 (.agg #[]) "loop.example/g00153/impl.lives").run Tryz.prog w = .ok (250, .agg #[]) w := fun _ => by kernel_rfl
    have HA := hidOf ha
    clear hv ha
    go_enter Tryz.func117, Tryz.ntmps117
    go_wp2_with fail
    refine hc.mono ?_
    clear hc
    rintro e w1 ⟨h1, b1⟩
    have B1 := hidOf b1
    have hL := livesD_any w1
    clear b1
    rcases h1 with ⟨h1, _⟩ | ⟨_, rfl⟩
    · rw [HA.out] at h1; cases h1
    go_wp2_with fail
    refine hL.mono ?_
    clear hL
    rintro e w2 ⟨rfl, b2⟩
    have B2 : Hid (Below w.heap.size w w2) := bstep B1.out b2
    clear b2
    go_wp2
    go_ret
    exact ⟨rfl, B2.out⟩
theorem info_Mem : (Tryz.prog.info? 131).map (fun i => (i.zero, i.size, i.bytes)) = some (some (.nilIface), 1, 16) := by kernel_rfl
theorem make_Mem (n : Nat) (hn : n ≤ 1048576) (w : World) : (Instr.makeSlice 113 (.int .i64 (n : Int)) (.int .i64 (n : Int))).run Tryz.prog w = .ok (.slice (some ⟨w.heap.size, 0, none⟩) n n) (w.alloc (.cells (madeCells #[.nilIface] n) 131)) := by
  obtain ⟨i, hi, hzz⟩ := Option.map_eq_some_iff.1 info_Mem
  simp only [Prod.mk.injEq] at hzz
  obtain ⟨hz, hs, hb⟩ := hzz
  have := run_make (P := Tryz.prog) w 113 131 i _ Tryz.underlying113 hi hz .i64 .i64 (n : Int) (n : Int) (by omega) (by omega) (by rw [hb]; omega) (by omega)
  rw [hs] at this
  simpa [Value.cells] using this
def MemAt (w X : World) (b j : Nat) (ms : List M4) : Prop := ∀ t, t < j → ∃ a c, X.cell? ⟨b, t, none⟩ = some (memV (atM ms t) a c) ∧ SlK w w.heap.size a (atM ms t).copies.length (atM ms t).copies
theorem MemAt.below {w X Y : World} {b j B : Nat} {ms : List M4} (h : MemAt w X b j ms) (hb : Below B X Y) (hB : b < B) : MemAt w Y b j ms := fun t ht => by
  obtain ⟨a, c, h1, h2⟩ := h t ht
  exact ⟨a, c, (hb.cell (p := ⟨b, t, none⟩) hB).trans h1, h2⟩
theorem MemAt.set {w X : World} {b j : Nat} {ms : List M4} (h : MemAt w X b j ms) {v : Value} (hv : X.cell? ⟨b, j, none⟩ = some v) {a : Option Addr} {c : Nat} (hs : SlK w w.heap.size a (atM ms j).copies.length (atM ms j).copies) : MemAt w (X.setCell ⟨b, j, none⟩ (memV (atM ms j) a c)) b (j + 1) ms := fun t ht => by
  by_cases e : t = j
  · subst e
    exact ⟨a, c, cell_set_same hv, hs⟩
  · obtain ⟨a', c', h1, h2⟩ := h t (by omega)
    exact ⟨a', c', (cell_set_other e).trans h1, h2⟩
theorem memV_eq (m : M4) (a : Option Addr) (c : Nat) : ∃ T u, memV m a c = .iface T u := by
  cases h : m.alive
  · exact ⟨_, _, by simp only [memV, h]; rfl⟩
  · exact ⟨_, _, by simp only [memV, h]; rfl⟩
set_option maxRecDepth 100000 in
set_option maxHeartbeats 4000000 in
theorem membersOf_any (w : World) (a : Option Addr) (cap : Nat) (ms : List M4) (hn : ms.length ≤ 8) (hs : KMk.RdS w a ms) :
    Calls Tryz.prog 67 #[.slice a ms.length cap] w fun e w' => e = .returned (.slice (some ⟨w.heap.size, 0, none⟩) ms.length ms.length) ∧ MemAt w w' w.heap.size ms.length ms ∧ w.heap.size < w'.heap.size ∧ Below w.heap.size w w' := by
  have hmk := make_Mem ms.length (by omega)
  go_enter Tryz.func67, Tryz.ntmps67
  go_wp2
  go_loopw [11] (fun v wr => ∃ j : Nat, j ≤ ms.length ∧ v = .int .i64 j ∧ Below w.heap.size w wr ∧ w.heap.size < wr.heap.size ∧ Room wr w.heap.size ms.length ∧ MemAt w wr w.heap.size j ms) (fun v _ => ms.length - (intOf v).toNat)
  case atStart => exact ⟨0, Nat.zero_le _, rfl, (Below.refl _ _).alloc (Nat.le_refl _) _, by simp, room_made _ _ _ _, fun t ht => by omega⟩
  case round =>
    obtain ⟨j, hj, rfl, hbl, hsz, hrm, hma⟩ := hrel
    by_cases hlt : j < ms.length
    · rcases hs with hs | ⟨b, off, rfl, hb, h1⟩
      · rw [hs] at hlt; simp at hlt
      obtain ⟨⟨m0, m1, m2, m3, m4, m5⟩, hat, hrd⟩ := h1 j _ (atM_of hlt)
      have e0 : wr.cell? ⟨b, off + j * 4, none⟩ = some (.bool (atM ms j).alive) := (hbl.cell (p := ⟨b, off + j * 4, none⟩) hb).trans (hat 0 _ rfl)
      have e1 : wr.cell? ⟨b, off + j * 4 + 1, none⟩ = some (.slice m0 (atM ms j).copies.length m1) := (hbl.cell (p := ⟨b, off + j * 4 + 1, none⟩) hb).trans (hat 1 _ rfl)
      have e2 : wr.cell? ⟨b, off + j * 4 + 2, none⟩ = some (.slice m2 (atM ms j).log.length m3) := (hbl.cell (p := ⟨b, off + j * 4 + 2, none⟩) hb).trans (hat 2 _ rfl)
      have e3 : wr.cell? ⟨b, off + j * 4 + 3, none⟩ = some (.slice m4 (atM ms j).cleared.length m5) := (hbl.cell (p := ⟨b, off + j * 4 + 3, none⟩) hb).trans (hat 3 _ rfl)
      have jn : (j : Int) < (ms.length : Int) := by omega
      have KH : Hid (Below w.heap.size w wr ∧ w.heap.size < wr.heap.size ∧ Room wr w.heap.size ms.length ∧ MemAt w wr w.heap.size j ms ∧ SlK w w.heap.size m0 (atM ms j).copies.length (atM ms j).copies) := ⟨hbl, hsz, hrm, hma, hrd.k⟩
      obtain ⟨V, hV⟩ : ∃ Y, Y = wr.alloc (.cells #[.bool (atM ms j).alive, .slice m0 (atM ms j).copies.length m1, .slice m2 (atM ms j).log.length m3, .slice m4 (atM ms j).cleared.length m5] 83) := ⟨_, rfl⟩
      have bV : Hid (Below wr.heap.size wr V) := by unfold Hid; rw [hV]; exact (Below.refl _ _).alloc (Nat.le_refl _) _
      have hc := memberOf_any V m0 m1 m2 m3 m4 m5 (atM ms j)
      clear hat hrd h1 hbl hsz hrm hma hmk
      go_wp2_with fail
      rw [← hV]
      clear hV e0 e1 e2 e3
      refine hc.mono ?_
      clear hc
      rintro e w1 ⟨rfl, b1⟩
      have KB : Hid (Below wr.heap.size wr w1) := bstep bV.out b1
      obtain ⟨z, hz, hf⟩ : ∃ v, w1.cell? ⟨w.heap.size, j, none⟩ = some v ∧ w1.frozen? ⟨w.heap.size, j, none⟩ = false := (KH.out.2.2.1.below KB.out KH.out.2.1) j hlt
      have Z := hidOf hz
      obtain ⟨T0, u0, hm0⟩ := memV_eq (atM ms j) m0 m1
      have HM := hidOf hm0
      rw [hm0]
      clear b1 hm0
      go_wp2
      have hma := (KH.out.2.2.2.1.below KB.out KH.out.2.1).set Z.out (c := m1) KH.out.2.2.2.2
      rw [HM.out] at hma
      exact ⟨⟨j + 1, by omega, by simp, ((KH.out.1.trans (KB.out.mono KH.out.1.size)).setCell (p := ⟨w.heap.size, j, none⟩) (Nat.le_refl _) _), by simp [World.setCell]; exact Nat.lt_of_lt_of_le KH.out.2.1 KB.out.size, (KH.out.2.2.1.below KB.out KH.out.2.1).set _, hma⟩, by simp [intOf]; omega⟩
    · obtain rfl : j = ms.length := by omega
      have hd : decide ((ms.length : Int) < (ms.length : Int)) = false := by simp
      have KH : Hid (Below w.heap.size w wr ∧ w.heap.size < wr.heap.size ∧ MemAt w wr w.heap.size ms.length ms) := ⟨hbl, hsz, hma⟩
      clear hbl hsz hrm hma hmk hs
      go_wp2
      go_ret
      exact ⟨rfl, KH.out.2.2, KH.out.2.1, KH.out.1⟩
set_option maxRecDepth 100000 in
set_option maxHeartbeats 4000000 in
theorem placed_any (w0 w : World) (a : Option Addr) (cap q : Nat) (zss : List (List Int)) (ms : List M4) (hl : ∀ m ∈ ms, ML m) (hB : machsB ms = true) (hP : placesB zss = true) (hpl : zss.length ≤ maxLen) (hps : ∀ zs ∈ zss, zs.length ≤ maxLen)
    (h0 : Below w0.heap.size w0 w) (hq : q < w.heap.size) (hm : MemAt w0 w q ms.length ms) (hs : SlP w w.heap.size a zss.length zss) :
    Calls Tryz.prog 66 #[.slice a zss.length cap, .slice (some ⟨q, 0, none⟩) ms.length ms.length] w fun e w' => e = .returned (.bool (placedB zss ms)) ∧ Below w.heap.size w w' := by
  have H : Hid ((∀ m ∈ ms, ML m) ∧ machsB ms = true ∧ (∀ zs ∈ zss, zs.length ≤ maxLen) ∧ MemAt w0 w q ms.length ms ∧ SlP w w.heap.size a zss.length zss ∧ Below w0.heap.size w0 w) := ⟨hl, hB, hps, hm, hs, h0⟩
  have HZ : Hid (∀ r j, r < zss.length → j < (atP zss r).length → 0 ≤ atN (atP zss r) j ∧ atN (atP zss r) j ≤ 7) := fun r j hr hj => places_z hP hr hj
  have HD : Hid (placedB zss ms = (List.range zss.length).all fun r => placB ms r (atP zss r)) := rfl
  unfold maxLen at hpl
  clear hl hB hP hps hm hs h0
  go_enter Tryz.func66, Tryz.ntmps66
  go_wp2
  go_loopw [11] (fun v wr => ∃ r : Nat, r ≤ zss.length ∧ v = .int .i64 r ∧ Below w.heap.size w wr ∧ (List.range r).all (fun r => placB ms r (atP zss r)) = true) (fun v _ => zss.length - (intOf v).toNat)
  case atStart => exact ⟨0, Nat.zero_le _, rfl, Below.refl _ _, rfl⟩
  case round =>
  obtain ⟨r, hr, rfl, hbl, hall⟩ := hrel
  have KC : Hid (Below w.heap.size w wr ∧ (List.range r).all (fun r => placB ms r (atP zss r)) = true) := ⟨hbl, hall⟩
  clear hbl hall
  by_cases hlr : r < zss.length
  case neg =>
    obtain rfl : r = zss.length := by omega
    have hd : decide ((zss.length : Int) < (zss.length : Int)) = false := by simp
    go_wp2
    go_ret
    exact ⟨by rw [HD.out, KC.out.2]; rfl, KC.out.1⟩
  obtain ⟨_, hsp⟩ := H.out.2.2.2.2.1
  rcases hsp with hsp | ⟨b, off, rfl, hb, hpp⟩
  · omega
  obtain ⟨a', cap', hc, hsl, hcp⟩ := hpp r _ (atP_of hlr)
  have c := (KC.out.1.cell (p := ⟨b, off + r, none⟩) hb).trans hc
  have HSL : Hid (SlN w w.heap.size a' (atP zss r).length (atP zss r)) := hsl
  have jr : (r : Int) < (zss.length : Int) := by omega
  have lz := H.out.2.2.1 _ (List.mem_of_getElem? (atP_of hlr))
  unfold maxLen at lz
  have HF : Hid (placB ms r (atP zss r) = false → placedB zss ms = false) := fun hh => by rw [HD.out]; exact all_off (f := fun r => placB ms r (atP zss r)) hlr hh
  have HZr : Hid (∀ j, j < (atP zss r).length → 0 ≤ atN (atP zss r) j ∧ atN (atP zss r) j ≤ 7) := fun j hj => HZ.out r j hlr hj
  have HPL : Hid (placB ms r (atP zss r) = (List.range (atP zss r).length).all fun j => servB ms r (atN (atP zss r) j)) := rfl
  have HON : Hid (placB ms r (atP zss r) = true → (List.range (r + 1)).all (fun r => placB ms r (atP zss r)) = true) := fun hh => all_on (f := fun r => placB ms r (atP zss r)) KC.out.2 hh
  clear hpp hc hsl
  generalize hzs : atP zss r = zs at *
  obtain ⟨V, hV⟩ : ∃ Y, Y = wr.alloc (.cells #[.slice a' zs.length cap'] 100) := ⟨_, rfl⟩
  have KV : Hid (Below w.heap.size w V) := bstep KC.out.1 (by rw [hV]; exact (Below.refl _ _).alloc (Nat.le_refl _) _)
  go_wp2
  rw [← hV]
  clear c jr hzs hV
  generalize wr = wC at *
  generalize V = wD at *
  go_loopw [19] (fun v wr => ∃ j : Nat, j ≤ zs.length ∧ v = .int .i64 j ∧ Below w.heap.size w wr ∧ (List.range j).all (fun j => servB ms r (atN zs j)) = true) (fun v _ => zs.length - (intOf v).toNat)
  case atStart => exact ⟨0, Nat.zero_le _, rfl, KV.out, rfl⟩
  case round =>
  obtain ⟨j, hj, rfl, hbl, hall⟩ := hrel
  have KD : Hid (Below w.heap.size w wr ∧ (List.range j).all (fun j => servB ms r (atN zs j)) = true) := ⟨hbl, hall⟩
  clear hbl hall
  by_cases hlj : j < zs.length
  case neg =>
    obtain rfl : j = zs.length := by omega
    have hd : decide ((zs.length : Int) < (zs.length : Int)) = false := by simp
    have hh := HON.out (by rw [HPL.out]; exact KD.out.2)
    go_wp2
    exact ⟨⟨r + 1, by omega, by simp, KD.out.1, hh⟩, by simp [intOf]; omega⟩
  obtain ⟨_, hsn⟩ := HSL.out
  rcases hsn with hsn | ⟨b', off', rfl, hb', h2⟩
  · omega
  have hz := HZr.out j hlj
  obtain ⟨i, hi⟩ : ∃ i : Nat, atN zs j = (i : Int) := ⟨(atN zs j).toNat, by omega⟩
  have hck := h2 j _ (atN_of hlj)
  rw [hi] at hck
  have xz := (KD.out.1.cell (p := ⟨b', off' + j, none⟩) hb').trans hck
  have jz : (j : Int) < (zs.length : Int) := by omega
  have HB : Hid (servB ms r (atN zs j) = (decide ((i : Int) < (ms.length : Int)) && (!(atM ms i).alive || hasC (atM ms i) (r : Int)))) := by unfold Hid servB; rw [hi]; rfl
  have HFF : Hid (servB ms r (atN zs j) = false → placedB zss ms = false) := fun hh => HF.out (by rw [HPL.out]; exact all_off (f := fun j => servB ms r (atN zs j)) hlj hh)
  clear hck h2 hz hi
  by_cases him : i < ms.length
  case neg =>
    have dz : decide ((ms.length : Int) ≤ (i : Int)) = true := by simp <;> omega
    have dz2 : decide (ms.length ≤ i) = true := by simp <;> omega
    have hb0 : Hid (placedB zss ms = false) := HFF.out (by rw [HB.out]; simp [him])
    go_wp2
    go_ret
    exact ⟨by rw [hb0.out]; rfl, KD.out.1⟩
  have dz : decide ((ms.length : Int) ≤ (i : Int)) = false := by simp <;> omega
  have dz2 : decide (ms.length ≤ i) = false := by simp <;> omega
  have im : (i : Int) < (ms.length : Int) := by omega
  obtain ⟨a2, c2, hmc, hmk⟩ := (H.out.2.2.2.1.below KD.out.1 hq) i him
  have hsv := serves_any wr a2 c2 (atM ms i) (r : Int) (H.out.1 _ (List.mem_of_getElem? (atM_of him))) (by have := H.out.2.1; exact List.all_eq_true.1 this i (List.mem_range.2 him)) (hmk.later (bstep H.out.2.2.2.2.2 KD.out.1))
  obtain ⟨T0, u0, hm0⟩ := memV_eq (atM ms i) a2 c2
  rw [hm0] at hmc hsv
  clear hmk hm0
  cases hh : (!(atM ms i).alive || hasC (atM ms i) (r : Int)) with
  | false =>
    rw [hh] at hsv
    have hb0 : Hid (placedB zss ms = false) := HFF.out (by rw [HB.out, hh]; simp)
    clear hh
    go_wp2_with fail
    refine hsv.mono ?_
    clear hsv
    rintro e w1 ⟨rfl, b1⟩
    have KB : Hid (Below w.heap.size w w1) := bstep KD.out.1 b1
    clear b1
    go_wp2
    go_ret
    exact ⟨by rw [hb0.out]; rfl, KB.out⟩
  | true =>
    rw [hh] at hsv
    have hon : Hid ((List.range (j + 1)).all (fun j => servB ms r (atN zs j)) = true) := all_on (f := fun j => servB ms r (atN zs j)) KD.out.2 (by rw [HB.out, hh]; simp [him])
    clear hh
    go_wp2_with fail
    refine hsv.mono ?_
    clear hsv
    rintro e w1 ⟨rfl, b1⟩
    have KB : Hid (Below w.heap.size w w1) := bstep KD.out.1 b1
    clear b1
    go_wp2
    exact ⟨⟨j + 1, by omega, by simp, KB.out, hon.out⟩, by simp [intOf]; omega⟩
def idxMF (w : World) (xs : List M4)  (f : Nat → Bool) : Prop :=
  ∀ (X : World) (i : Nat) (m0 : Option Addr) (m1 : Nat) (m2 : Option Addr) (m3 : Nat) (m4 : Option Addr) (m5 : Nat), Below w.heap.size w X → i < xs.length → KMk.Rd X ⟨m0, m1, m2, m3, m4, m5⟩ (atM xs i) → Calls Tryz.prog 111 #[.agg #[.bool (atM xs i).alive, .slice m0 (atM xs i).copies.length m1, .slice m2 (atM xs i).log.length m3, .slice m4 (atM xs i).cleared.length m5]] X fun e w' => e = .returned (.bool (f i)) ∧ Below X.heap.size X w'
set_option maxRecDepth 100000 in
set_option maxHeartbeats 2000000 in
theorem idxM (w : World) (a : Option Addr) (cap : Nat) (xs : List M4)  (f : Nat → Bool) (hn : xs.length ≤ maxLen) (hs : KMk.RdS w a xs) (hf : idxMF w xs  f) :
    Calls Tryz.prog 158 #[.slice a xs.length cap, .func (.func 111) #[] #[]] w fun e w' => (∃ i : Int, e = .returned (.int .i64 i) ∧ FirstAt f xs.length i) ∧ Below w.heap.size w w' := by
  unfold maxLen at hn
  have HF := hidOf hf
  clear hf
  go_enter Tryz.func158, Tryz.ntmps158
  go_wp2
  go_loopw [8] (fun v wr => ∃ j : Nat, j ≤ xs.length ∧ v = .int .i64 j ∧ Below w.heap.size w wr ∧ ∀ i, i < j → f i = false) (fun v _ => xs.length - (intOf v).toNat)
  case atStart => exact ⟨0, Nat.zero_le _, rfl, Below.refl _ _, fun i h => absurd h (by omega)⟩
  case round =>
    obtain ⟨j, hj, rfl, hbl, hall⟩ := hrel
    by_cases hlt : j < xs.length
    · rcases hs with hs | ⟨b, off, rfl, hb, h1⟩
      · rw [hs] at hlt; simp at hlt
      obtain ⟨⟨m0, m1, m2, m3, m4, m5⟩, hat, hrd⟩ := h1 j _ (atM_of hlt)
      have e0 : wr.cell? ⟨b, off + j * 4, none⟩ = some (.bool (atM xs j).alive) := (hbl.cell (p := ⟨b, off + j * 4, none⟩) hb).trans (hat 0 _ rfl)
      have e1 : wr.cell? ⟨b, off + j * 4 + 1, none⟩ = some (.slice m0 (atM xs j).copies.length m1) := (hbl.cell (p := ⟨b, off + j * 4 + 1, none⟩) hb).trans (hat 1 _ rfl)
      have e2 : wr.cell? ⟨b, off + j * 4 + 2, none⟩ = some (.slice m2 (atM xs j).log.length m3) := (hbl.cell (p := ⟨b, off + j * 4 + 2, none⟩) hb).trans (hat 2 _ rfl)
      have e3 : wr.cell? ⟨b, off + j * 4 + 3, none⟩ = some (.slice m4 (atM xs j).cleared.length m5) := (hbl.cell (p := ⟨b, off + j * 4 + 3, none⟩) hb).trans (hat 3 _ rfl)
      have hw := HF.out wr j m0 m1 m2 m3 m4 m5 hbl hlt (KMk.later hrd hbl)
      have KA : Hid ((∀ i, i < j → f i = false) ∧ Below w.heap.size w wr) := ⟨hall, hbl⟩
      have jn : (j : Int) < (xs.length : Int) := by omega
      clear h1 hat hrd hall hbl
      cases hp : f j with
      | true =>
        rw [hp] at hw
        go_wp2_with fail
        refine hw.mono ?_
        clear hw
        rintro e w1 ⟨rfl, b1⟩
        go_wp2
        go_ret
        exact ⟨⟨_, rfl, .inr ⟨j, rfl, hlt, hp, KA.out.1⟩⟩, KA.out.2.trans (b1.mono KA.out.2.size)⟩
      | false =>
        rw [hp] at hw
        go_wp2_with fail
        refine hw.mono ?_
        clear hw
        rintro e w1 ⟨rfl, b1⟩
        go_wp2
        exact ⟨⟨j + 1, by omega, by simp, KA.out.2.trans (b1.mono KA.out.2.size), fun i hi => by
          by_cases e : i = j
          · rw [e]; exact hp
          · exact KA.out.1 i (by omega)⟩, by simp [intOf]; omega⟩
    · obtain rfl : j = xs.length := by omega
      have hd : decide ((xs.length : Int) < (xs.length : Int)) = false := by simp
      have KA : Hid ((∀ i, i < xs.length → f i = false) ∧ Below w.heap.size w wr) := ⟨hall, hbl⟩
      clear hall hbl hs
      go_wp2
      go_ret
      exact ⟨⟨_, rfl, .inl ⟨rfl, KA.out.1⟩⟩, KA.out.2⟩
set_option maxHeartbeats 1000000 in
theorem idxM_has (w : World) (a : Option Addr) (cap : Nat) (xs : List M4)  (f : Nat → Bool) (hn : xs.length ≤ maxLen) (hs : KMk.RdS w a xs) (hf : idxMF w xs  f) :
    Calls Tryz.prog 113 #[.slice a xs.length cap, .func (.func 111) #[] #[]] w fun e w' => e = .returned (.bool (!((List.range xs.length).all fun j => !f j))) ∧ Below w.heap.size w w' := by
  have hc := idxM w a cap xs  f hn hs hf
  clear hs hf
  go_enter Tryz.func113, Tryz.ntmps113
  go_wp2_with fail
  refine hc.mono ?_
  clear hc
  rintro e w1 ⟨⟨i, rfl, hi⟩, b1⟩
  have h := first_has hi
  have KB := hidOf b1
  clear b1 hi
  go_wp2
  go_ret
  exact ⟨by rw [← h]; rfl, KB.out⟩
set_option maxHeartbeats 1000000 in
theorem machWrong (X : World) (m0 : Option Addr) (m1 : Nat) (m2 : Option Addr) (m3 : Nat) (m4 : Option Addr) (m5 : Nat) (m : M4) (hl : ML m) (h : SlM X ⟨m0, m1, m2, m3, m4, m5⟩ m) : Calls Tryz.prog 111 #[.agg #[.bool m.alive, .slice m0 m.copies.length m1, .slice m2 m.log.length m3, .slice m4 m.cleared.length m5]] X fun e w' => e = .returned (.bool (!machB m)) ∧ Below X.heap.size X w' := by
  obtain ⟨U, hU⟩ : ∃ Y, Y = X.alloc (.cells #[.bool m.alive, .slice m0 m.copies.length m1, .slice m2 m.log.length m3, .slice m4 m.cleared.length m5] 83) := ⟨_, rfl⟩
  have b0 : Below X.heap.size X U := by rw [hU]; exact (Below.refl _ _).alloc (Nat.le_refl _) _
  have hc := implMachineOk_any U ⟨m0, m1, m2, m3, m4, m5⟩ m hl (h.later b0)
  simp only [MV.val] at hc
  have KB := hidOf b0
  clear b0 hl h
  go_enter Tryz.func111, Tryz.ntmps111
  go_wp2_with fail
  rw [← hU]
  clear hU
  refine hc.mono ?_
  clear hc
  rintro e w1 ⟨rfl, b1⟩
  go_wp2
  go_ret
  exact ⟨rfl, bstep KB.out b1⟩
set_option maxHeartbeats 1000000 in
theorem machinesOk_any (w : World) (a : Option Addr) (cap : Nat) (ms : List M4) (hn : ms.length ≤ maxLen) (hl : ∀ m ∈ ms, ML m) (hs : KMk.RdS w a ms) :
    Calls Tryz.prog 64 #[.slice a ms.length cap] w fun e w' => e = .returned (.bool (decide (1 ≤ ms.length) && decide (ms.length ≤ 8) && machsB ms)) ∧ Below w.heap.size w w' := by
  have hc := idxM_has w a cap ms (fun i => !machB (atM ms i)) hn hs (fun X i m0 m1 m2 m3 m4 m5 hb hi hr => machWrong X m0 m1 m2 m3 m4 m5 (atM ms i) (hl _ (List.mem_of_getElem? (atM_of hi))) hr)
  have he : (!((List.range ms.length).all fun j => !(fun i => !machB (atM ms i)) j)) = !machsB ms := by simp [machsB]
  rw [he] at hc
  clear hs hl he
  unfold maxLen at hn
  by_cases g1 : 1 ≤ ms.length
  case neg =>
    have d1 : decide ((1 : Int) ≤ (ms.length : Int)) = false := by simp <;> omega
    have hb : (decide (1 ≤ ms.length) && decide (ms.length ≤ 8) && machsB ms) = false := by simp [g1]
    rw [hb]
    clear hc g1 hb
    go_enter Tryz.func64, Tryz.ntmps64
    go_wp2
    go_ret
    exact ⟨rfl, Below.refl _ _⟩
  have d1 : decide ((1 : Int) ≤ (ms.length : Int)) = true := by simp <;> omega
  by_cases g2 : ms.length ≤ 8
  case neg =>
    have d2 : decide ((ms.length : Int) ≤ 8) = false := by simp <;> omega
    have hb : (decide (1 ≤ ms.length) && decide (ms.length ≤ 8) && machsB ms) = false := by simp [g2]
    rw [hb]
    clear hc g2 hb g1
    go_enter Tryz.func64, Tryz.ntmps64
    go_wp2
    go_ret
    exact ⟨rfl, Below.refl _ _⟩
  have d2 : decide ((ms.length : Int) ≤ 8) = true := by simp <;> omega
  have hb : (decide (1 ≤ ms.length) && decide (ms.length ≤ 8) && machsB ms) = machsB ms := by simp [g1, g2]
  rw [hb]
  clear g1 g2 hb
  go_enter Tryz.func64, Tryz.ntmps64
  go_wp2_with fail
  refine hc.mono ?_
  clear hc
  rintro e w1 ⟨rfl, b1⟩
  have KB := hidOf b1
  clear b1
  go_wp2
  go_ret
  exact ⟨by simp, KB.out⟩
end Go.Proofs.YtdmpobegobfpjaaGreat