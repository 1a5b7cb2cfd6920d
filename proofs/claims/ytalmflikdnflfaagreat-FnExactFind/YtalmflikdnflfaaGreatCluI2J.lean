/- Whether cells are of the first so many regions, by the program. -/
import Derived.Test.YtalmflikdnflfaaGreatRows
import Derived.Test.YtalmflikdnflfaaGreatJ32ExactFind
import Derived.Test.YtalmflikdnflfaaGreatMacOkIJ
import Derived.Test.YtalmflikdnflfaaGreatJ34ExactFind
import Derived.WalkKit
import Derived.WalkSpells
import Derived.WalkLawsBesides
import Derived.Below
import Derived.Lib.QuietBelow
import Derived.BigQuiet
import Derived.Deep.CutRange
namespace Go.Proofs.YtalmflikdnflfaaGreat
open Go.RowKit
open Go.Sort (grow)
set_option maxRecDepth 100000 in
set_option maxHeartbeats 2000000 in
theorem noBeyond (w : World) (s : tx.N5) (g n : Nat) (hg : w.cell? ⟨g, 0, none⟩ = some (.int .i64 (n : Int))) (hgl : g < w.heap.size) : Calls Tryz.prog 195 #[.agg #[.int .i64 s.region, .int .i64 s.slot, .int .i64 s.version, .int .i64 s.value, .bool s.used], .pointer (some ⟨g, 0, none⟩)] w fun e w' => e = .returned (.bool (decide ((n : Int) ≤ s.region))) ∧ Below w.heap.size w w' := by
  obtain ⟨wr, hW⟩ : ∃ Y, Y = w.alloc (.cells #[.int .i64 s.region, .int .i64 s.slot, .int .i64 s.version, .int .i64 s.value, .bool s.used] 72) := ⟨_, rfl⟩
  have b0 : Below w.heap.size w wr := by rw [hW]; exact (Below.refl _ _).alloc (Nat.le_refl _) _
  have FX : Hid (Bx wr w.heap.size [.int .i64 s.region, .int .i64 s.slot, .int .i64 s.version, .int .i64 s.value, .bool s.used]) := by rw [hW]; exact Bx.made w [.int .i64 s.region, .int .i64 s.slot, .int .i64 s.version, .int .i64 s.value, .bool s.used] _
  have hm : ∀ w : World, (method 399 72 (.agg #[.int .i64 s.region, .int .i64 s.slot, .int .i64 s.version, .int .i64 s.value, .bool s.used]) "loop.example/g00153/impl.cell").run Tryz.prog w = .ok (264, .agg #[.int .i64 s.region, .int .i64 s.slot, .int .i64 s.version, .int .i64 s.value, .bool s.used]) w := fun _ => by kernel_rfl
  have hfd : ∀ X : World, (Instr.field 241 (.agg #[.int .i64 s.region, .int .i64 s.slot]) 0).run Tryz.prog X = .ok (.int .i64 s.region) X := fun _ => by kernel_rfl
  have SF : Hid (∀ X, Below wr.heap.size wr X → (fun X : World => Bx X w.heap.size [.int .i64 s.region, .int .i64 s.slot, .int .i64 s.version, .int .i64 s.value, .bool s.used] ∧ X.cell? ⟨g, 0, none⟩ = some (.int .i64 (n : Int))) X) := fun X hX => ⟨FX.out.later hX, ((bstep b0 hX).cell (p := ⟨g, 0, none⟩) hgl).trans hg⟩
  have KB := hidOf b0
  clear b0 hg hgl
  go_enter Tryz.func195, Tryz.ntmps195
  go_wp2_with fail
  rw [← hW]
  clear hW
  have bd : Below wr.heap.size wr wr.drew := (Below.refl _ _).drew
  have hS := SF.out _ bd
  refine wp_region_z (fun z => z == 6) (fun X : World => Bx X w.heap.size [.int .i64 s.region, .int .i64 s.slot, .int .i64 s.version, .int .i64 s.value, .bool s.used] ∧ X.cell? ⟨g, 0, none⟩ = some (.int .i64 (n : Int))) (by kernel_rfl) ?_
  generalize wr.drew = Wd at *
  refine wpZ_take (i := 0) (v := ?_) rfl (by kernel_rfl) (fun _ _ _ h => h) (Or.inl ⟨by rfl, ?_⟩) hS ?_
  rotate_left
  · (intro X hSw; have c0 := hSw.1.1 0 _ rfl; have c1 := hSw.1.1 1 _ rfl; have c2 := hSw.1.1 2 _ rfl; have c3 := hSw.1.1 3 _ rfl; have c4 := hSw.1.1 4 _ rfl; go_simp; first | done | with_reducible rfl)
  simp only [Act.put]
  refine wpZ_take (i := 4) (v := ?_) rfl (by kernel_rfl) (fun _ _ _ h => h) (Or.inl ⟨by rfl, ?_⟩) hS ?_
  rotate_left
  · (intro X hSw; have c5 := hSw.2; go_simp; first | done | with_reducible rfl)
  simp only [Act.put]
  refine wpZ_takeP (i := 1) (v := ?_) rfl (by kernel_rfl) (fun _ _ _ h => h) (Or.inl ⟨by rfl, ?_⟩) hS ?_
  rotate_left
  · (intro X _; go_simp; first | done | with_reducible rfl)
  simp only [Act.put]
  refine wpZ_ready (rs := [2]) (by kernel_rfl) (by simp) ?_
  refine AllZ.cons rfl (fun K hK => ?_) AllZ.nil
  go_simp
  refine (tx.noCell_any Wd s).mono ?_
  rintro e X2 ⟨rfl, b2⟩
  have bX := bstep bd b2
  refine hK.out _ _ (fun _ => SF.out _ bX) ?_
  clear hK K
  have hS := SF.out _ bX
  refine wpZ_takeP (i := 3) (v := ?_) rfl (by kernel_rfl) (fun _ _ _ h => h) (Or.inl ⟨by rfl, ?_⟩) hS ?_
  rotate_left
  · (intro X _; go_simp; first | done | with_reducible rfl)
  simp only [Act.put]
  refine wpZ_takeP (i := 5) (v := ?_) rfl (by kernel_rfl) (fun _ _ _ h => h) (Or.inl ⟨by rfl, ?_⟩) hS ?_
  rotate_left
  · (intro X _; go_simp; first | done | with_reducible rfl)
  simp only [Act.put]
  refine wpZ_ready (rs := [6]) (by kernel_rfl) (by simp) ?_
  refine AllZ.cons rfl (fun K hK => ?_) AllZ.nil
  go_simp
  refine hK.out _ _ (fun h => absurd (show false = true from h.symm.trans (by kernel_rfl)) (by decide)) ?_
  clear hK K
  refine wpZ_done (by kernel_rfl) ?_ _
  go_wp2
  go_ret
  exact ⟨rfl, bstep KB.out bX⟩
set_option maxHeartbeats 2000000 in
theorem noBeyondIdx (w : World) (a : Option Addr) (cap : Nat) (xs : List tx.N5) (g n : Nat) (hn : xs.length ≤ maxLen) (hs : tx.SlNo w w.heap.size a xs.length xs) (hg : w.cell? ⟨g, 0, none⟩ = some (.int .i64 (n : Int))) (hgl : g < w.heap.size) :
    Calls Tryz.prog 235 #[.slice a xs.length cap, .func (.func 195) #[] #[.pointer (some ⟨g, 0, none⟩)]] w fun e w' => (∃ i : Int, e = .returned (.int .i64 i) ∧ FirstAt (fun i => decide ((n : Int) ≤ (tx.atNo xs i).region)) xs.length i) ∧ Below w.heap.size w w' := by
  unfold maxLen at hn
  obtain ⟨_, hs⟩ := hs
  obtain ⟨f, hf⟩ : ∃ f : Nat → Bool, f = fun i => decide ((n : Int) ≤ (tx.atNo xs i).region) := ⟨_, rfl⟩
  have HF : Hid (∀ (X : World) (i : Nat), Below w.heap.size w X → Calls Tryz.prog 195 #[.agg #[.int .i64 (tx.atNo xs i).region, .int .i64 (tx.atNo xs i).slot, .int .i64 (tx.atNo xs i).version, .int .i64 (tx.atNo xs i).value, .bool (tx.atNo xs i).used], .pointer (some ⟨g, 0, none⟩)] X fun e w' => e = .returned (.bool (f i)) ∧ Below X.heap.size X w') := fun X i hX => by
    rw [hf]; exact noBeyond X (tx.atNo xs i) g n ((hX.cell (p := ⟨g, 0, none⟩) hgl).trans hg) (Nat.lt_of_lt_of_le hgl hX.size)
  rw [← hf]
  clear hf hg
  go_enter Tryz.func235, Tryz.ntmps235
  go_wp2
  go_loopw [8] (fun v wr => ∃ j : Nat, j ≤ xs.length ∧ v = .int .i64 j ∧ Below w.heap.size w wr ∧ ∀ i, i < j → f i = false) (fun v _ => xs.length - (intOf v).toNat)
  case atStart => exact ⟨0, Nat.zero_le _, rfl, Below.refl _ _, fun i h => absurd h (by omega)⟩
  case round =>
    obtain ⟨j, hj, rfl, hbl, hall⟩ := hrel
    by_cases hlt : j < xs.length
    · rcases hs with hs | ⟨b, off, rfl, hb, h1⟩
      · omega
      · obtain ⟨c0, c1, c2, c3, c4⟩ := (h1.below hbl hb) j _ (tx.atNo_of hlt)
        have KA : Hid ((∀ i, i < j → f i = false) ∧ Below w.heap.size w wr) := ⟨hall, hbl⟩
        have hw := HF.out wr j hbl
        have jn : (j : Int) < (xs.length : Int) := by omega
        clear h1 hall hbl
        cases hp : f j with
        | true =>
          rw [hp] at hw
          go_wp2_with fail
          refine hw.mono ?_
          clear hw
          rintro e w1 ⟨rfl, b1⟩
          go_wp2
          go_ret
          exact ⟨⟨_, rfl, .inr ⟨j, rfl, hlt, hp, KA.out.1⟩⟩, KA.out.2.trans (b1.mono KA.out.2.size)⟩
        | false =>
          rw [hp] at hw
          go_wp2_with fail
          refine hw.mono ?_
          clear hw
          rintro e w1 ⟨rfl, b1⟩
          go_wp2
          exact ⟨⟨j + 1, by omega, by simp, KA.out.2.trans (b1.mono KA.out.2.size), fun i hi => by
            by_cases e : i = j
            · rw [e]; exact hp
            · exact KA.out.1 i (by omega)⟩, by simp [intOf]; omega⟩
    · obtain rfl : j = xs.length := by omega
      have hd : decide ((xs.length : Int) < (xs.length : Int)) = false := by simp
      have KA : Hid ((∀ i, i < xs.length → f i = false) ∧ Below w.heap.size w wr) := ⟨hall, hbl⟩
      clear hs hall hbl
      go_wp2
      go_ret
      exact ⟨⟨_, rfl, .inl ⟨rfl, KA.out.1⟩⟩, KA.out.2⟩
set_option maxHeartbeats 1000000 in
theorem noWithin (w : World) (a : Option Addr) (cap : Nat) (xs : List tx.N5) (n : Nat) (hn : xs.length ≤ maxLen) (hs : tx.SlNo w w.heap.size a xs.length xs) :
    Calls Tryz.prog 138 #[.slice a xs.length cap, .int .i64 (n : Int)] w fun e w' => e = .returned (.bool (readsB n xs)) ∧ Below w.heap.size w w' := by
  obtain ⟨W, hW⟩ : ∃ Y, Y = w.alloc (.cells #[.int .i64 (n : Int)] 3) := ⟨_, rfl⟩
  have b0 : Below w.heap.size w W := by rw [hW]; exact (Below.refl _ _).alloc (Nat.le_refl _) _
  have g0 : W.cell? ⟨w.heap.size, 0, none⟩ = some (.int .i64 (n : Int)) := by rw [hW]; go_simp
  have gl : w.heap.size < W.heap.size := by rw [hW]; simp
  have c1 := noBeyondIdx W a cap xs w.heap.size n hn ((hs.below b0).mono b0.size) g0 gl
  have HE : Hid (∀ i : Int, FirstAt (fun i => decide ((n : Int) ≤ (tx.atNo xs i).region)) xs.length i → (!decide (0 ≤ i)) = readsB n xs) := fun i h => by
    rw [first_has h, readsB]
    simp only [Bool.not_not]
    congr 1
    funext j
    rw [Bool.eq_iff_iff]
    simp
  have KB := hidOf b0
  clear b0 g0 gl hs hn
  have hcf : Calls Tryz.prog 196 #[.slice a xs.length cap, .func (.func 195) #[] #[.pointer (some ⟨w.heap.size, 0, none⟩)]] W fun e w' => e = .returned (.bool (!readsB n xs)) ∧ Below W.heap.size W w' := by
    clear hW KB
    go_enter Tryz.func196, Tryz.ntmps196
    go_wp2_with fail
    refine c1.mono ?_
    clear c1
    rintro e w1 ⟨⟨i, rfl, hi⟩, b1⟩
    have KE := hidOf (HE.out i hi)
    have K1 := hidOf b1
    clear hi HE b1
    go_wp2
    go_ret
    exact ⟨by rw [← KE.out]; simp, K1.out⟩
  clear c1 HE
  go_enter Tryz.func138, Tryz.ntmps138
  go_wp2_with fail
  rw [← hW]
  clear hW
  refine hcf.mono ?_
  clear hcf
  rintro e w1 ⟨rfl, b1⟩
  have K1 := hidOf b1
  clear b1
  go_wp2
  go_ret
  exact ⟨by simp, bstep KB.out K1.out⟩
set_option maxRecDepth 100000 in
set_option maxHeartbeats 2000000 in
theorem seBeyond (w : World) (s : S5) (g n : Nat) (hg : w.cell? ⟨g, 0, none⟩ = some (.int .i64 (n : Int))) (hgl : g < w.heap.size) : Calls Tryz.prog 197 #[.agg #[.int .i64 s.region, .int .i64 s.slot, .int .i64 s.value, .bool s.used, .int .i64 s.version], .pointer (some ⟨g, 0, none⟩)] w fun e w' => e = .returned (.bool (decide ((n : Int) ≤ s.region))) ∧ Below w.heap.size w w' := by
  obtain ⟨wr, hW⟩ : ∃ Y, Y = w.alloc (.cells #[.int .i64 s.region, .int .i64 s.slot, .int .i64 s.value, .bool s.used, .int .i64 s.version] 74) := ⟨_, rfl⟩
  have b0 : Below w.heap.size w wr := by rw [hW]; exact (Below.refl _ _).alloc (Nat.le_refl _) _
  have FX : Hid (Bx wr w.heap.size [.int .i64 s.region, .int .i64 s.slot, .int .i64 s.value, .bool s.used, .int .i64 s.version]) := by rw [hW]; exact Bx.made w [.int .i64 s.region, .int .i64 s.slot, .int .i64 s.value, .bool s.used, .int .i64 s.version] _
  have hm : ∀ w : World, (method 399 74 (.agg #[.int .i64 s.region, .int .i64 s.slot, .int .i64 s.value, .bool s.used, .int .i64 s.version]) "loop.example/g00153/impl.cell").run Tryz.prog w = .ok (265, .agg #[.int .i64 s.region, .int .i64 s.slot, .int .i64 s.value, .bool s.used, .int .i64 s.version]) w := fun _ => by kernel_rfl
  have hfd : ∀ X : World, (Instr.field 241 (.agg #[.int .i64 s.region, .int .i64 s.slot]) 0).run Tryz.prog X = .ok (.int .i64 s.region) X := fun _ => by kernel_rfl
  have SF : Hid (∀ X, Below wr.heap.size wr X → (fun X : World => Bx X w.heap.size [.int .i64 s.region, .int .i64 s.slot, .int .i64 s.value, .bool s.used, .int .i64 s.version] ∧ X.cell? ⟨g, 0, none⟩ = some (.int .i64 (n : Int))) X) := fun X hX => ⟨FX.out.later hX, ((bstep b0 hX).cell (p := ⟨g, 0, none⟩) hgl).trans hg⟩
  have KB := hidOf b0
  clear b0 hg hgl
  go_enter Tryz.func197, Tryz.ntmps197
  go_wp2_with fail
  rw [← hW]
  clear hW
  have bd : Below wr.heap.size wr wr.drew := (Below.refl _ _).drew
  have hS := SF.out _ bd
  refine wp_region_z (fun z => z == 6) (fun X : World => Bx X w.heap.size [.int .i64 s.region, .int .i64 s.slot, .int .i64 s.value, .bool s.used, .int .i64 s.version] ∧ X.cell? ⟨g, 0, none⟩ = some (.int .i64 (n : Int))) (by kernel_rfl) ?_
  generalize wr.drew = Wd at *
  refine wpZ_take (i := 0) (v := ?_) rfl (by kernel_rfl) (fun _ _ _ h => h) (Or.inl ⟨by rfl, ?_⟩) hS ?_
  rotate_left
  · (intro X hSw; have c0 := hSw.1.1 0 _ rfl; have c1 := hSw.1.1 1 _ rfl; have c2 := hSw.1.1 2 _ rfl; have c3 := hSw.1.1 3 _ rfl; have c4 := hSw.1.1 4 _ rfl; go_simp; first | done | with_reducible rfl)
  simp only [Act.put]
  refine wpZ_take (i := 4) (v := ?_) rfl (by kernel_rfl) (fun _ _ _ h => h) (Or.inl ⟨by rfl, ?_⟩) hS ?_
  rotate_left
  · (intro X hSw; have c5 := hSw.2; go_simp; first | done | with_reducible rfl)
  simp only [Act.put]
  refine wpZ_takeP (i := 1) (v := ?_) rfl (by kernel_rfl) (fun _ _ _ h => h) (Or.inl ⟨by rfl, ?_⟩) hS ?_
  rotate_left
  · (intro X _; go_simp; first | done | with_reducible rfl)
  simp only [Act.put]
  refine wpZ_ready (rs := [2]) (by kernel_rfl) (by simp) ?_
  refine AllZ.cons rfl (fun K hK => ?_) AllZ.nil
  go_simp
  refine (tx.seCell_any Wd s).mono ?_
  rintro e X2 ⟨rfl, b2⟩
  have bX := bstep bd b2
  refine hK.out _ _ (fun _ => SF.out _ bX) ?_
  clear hK K
  have hS := SF.out _ bX
  refine wpZ_takeP (i := 3) (v := ?_) rfl (by kernel_rfl) (fun _ _ _ h => h) (Or.inl ⟨by rfl, ?_⟩) hS ?_
  rotate_left
  · (intro X _; go_simp; first | done | with_reducible rfl)
  simp only [Act.put]
  refine wpZ_takeP (i := 5) (v := ?_) rfl (by kernel_rfl) (fun _ _ _ h => h) (Or.inl ⟨by rfl, ?_⟩) hS ?_
  rotate_left
  · (intro X _; go_simp; first | done | with_reducible rfl)
  simp only [Act.put]
  refine wpZ_ready (rs := [6]) (by kernel_rfl) (by simp) ?_
  refine AllZ.cons rfl (fun K hK => ?_) AllZ.nil
  go_simp
  refine hK.out _ _ (fun h => absurd (show false = true from h.symm.trans (by kernel_rfl)) (by decide)) ?_
  clear hK K
  refine wpZ_done (by kernel_rfl) ?_ _
  go_wp2
  go_ret
  exact ⟨rfl, bstep KB.out bX⟩
set_option maxHeartbeats 2000000 in
theorem seBeyondIdx (w : World) (a : Option Addr) (cap : Nat) (xs : List S5) (g n : Nat) (hn : xs.length ≤ maxLen) (hs : tx.Sl w w.heap.size a xs.length xs) (hg : w.cell? ⟨g, 0, none⟩ = some (.int .i64 (n : Int))) (hgl : g < w.heap.size) :
    Calls Tryz.prog 236 #[.slice a xs.length cap, .func (.func 197) #[] #[.pointer (some ⟨g, 0, none⟩)]] w fun e w' => (∃ i : Int, e = .returned (.int .i64 i) ∧ FirstAt (fun i => decide ((n : Int) ≤ (tx.atSe xs i).region)) xs.length i) ∧ Below w.heap.size w w' := by
  unfold maxLen at hn
  obtain ⟨_, hs⟩ := hs
  obtain ⟨f, hf⟩ : ∃ f : Nat → Bool, f = fun i => decide ((n : Int) ≤ (tx.atSe xs i).region) := ⟨_, rfl⟩
  have HF : Hid (∀ (X : World) (i : Nat), Below w.heap.size w X → Calls Tryz.prog 197 #[.agg #[.int .i64 (tx.atSe xs i).region, .int .i64 (tx.atSe xs i).slot, .int .i64 (tx.atSe xs i).value, .bool (tx.atSe xs i).used, .int .i64 (tx.atSe xs i).version], .pointer (some ⟨g, 0, none⟩)] X fun e w' => e = .returned (.bool (f i)) ∧ Below X.heap.size X w') := fun X i hX => by
    rw [hf]; exact seBeyond X (tx.atSe xs i) g n ((hX.cell (p := ⟨g, 0, none⟩) hgl).trans hg) (Nat.lt_of_lt_of_le hgl hX.size)
  rw [← hf]
  clear hf hg
  go_enter Tryz.func236, Tryz.ntmps236
  go_wp2
  go_loopw [8] (fun v wr => ∃ j : Nat, j ≤ xs.length ∧ v = .int .i64 j ∧ Below w.heap.size w wr ∧ ∀ i, i < j → f i = false) (fun v _ => xs.length - (intOf v).toNat)
  case atStart => exact ⟨0, Nat.zero_le _, rfl, Below.refl _ _, fun i h => absurd h (by omega)⟩
  case round =>
    obtain ⟨j, hj, rfl, hbl, hall⟩ := hrel
    by_cases hlt : j < xs.length
    · rcases hs with hs | ⟨b, off, rfl, hb, h1⟩
      · omega
      · obtain ⟨c0, c1, c2, c3, c4⟩ := (h1.below hbl hb) j _ (tx.atSe_of hlt)
        have KA : Hid ((∀ i, i < j → f i = false) ∧ Below w.heap.size w wr) := ⟨hall, hbl⟩
        have hw := HF.out wr j hbl
        have jn : (j : Int) < (xs.length : Int) := by omega
        clear h1 hall hbl
        cases hp : f j with
        | true =>
          rw [hp] at hw
          go_wp2_with fail
          refine hw.mono ?_
          clear hw
          rintro e w1 ⟨rfl, b1⟩
          go_wp2
          go_ret
          exact ⟨⟨_, rfl, .inr ⟨j, rfl, hlt, hp, KA.out.1⟩⟩, KA.out.2.trans (b1.mono KA.out.2.size)⟩
        | false =>
          rw [hp] at hw
          go_wp2_with fail
          refine hw.mono ?_
          clear hw
          rintro e w1 ⟨rfl, b1⟩
          go_wp2
          exact ⟨⟨j + 1, by omega, by simp, KA.out.2.trans (b1.mono KA.out.2.size), fun i hi => by
            by_cases e : i = j
            · rw [e]; exact hp
            · exact KA.out.1 i (by omega)⟩, by simp [intOf]; omega⟩
    · obtain rfl : j = xs.length := by omega
      have hd : decide ((xs.length : Int) < (xs.length : Int)) = false := by simp
      have KA : Hid ((∀ i, i < xs.length → f i = false) ∧ Below w.heap.size w wr) := ⟨hall, hbl⟩
      clear hs hall hbl
      go_wp2
      go_ret
      exact ⟨⟨_, rfl, .inl ⟨rfl, KA.out.1⟩⟩, KA.out.2⟩
set_option maxHeartbeats 1000000 in
theorem seWithin (w : World) (a : Option Addr) (cap : Nat) (xs : List S5) (n : Nat) (hn : xs.length ≤ maxLen) (hs : tx.Sl w w.heap.size a xs.length xs) :
    Calls Tryz.prog 139 #[.slice a xs.length cap, .int .i64 (n : Int)] w fun e w' => e = .returned (.bool (setsB n xs)) ∧ Below w.heap.size w w' := by
  obtain ⟨W, hW⟩ : ∃ Y, Y = w.alloc (.cells #[.int .i64 (n : Int)] 3) := ⟨_, rfl⟩
  have b0 : Below w.heap.size w W := by rw [hW]; exact (Below.refl _ _).alloc (Nat.le_refl _) _
  have g0 : W.cell? ⟨w.heap.size, 0, none⟩ = some (.int .i64 (n : Int)) := by rw [hW]; go_simp
  have gl : w.heap.size < W.heap.size := by rw [hW]; simp
  have c1 := seBeyondIdx W a cap xs w.heap.size n hn ((hs.below b0).mono b0.size) g0 gl
  have HE : Hid (∀ i : Int, FirstAt (fun i => decide ((n : Int) ≤ (tx.atSe xs i).region)) xs.length i → (!decide (0 ≤ i)) = setsB n xs) := fun i h => by
    rw [first_has h, setsB]
    simp only [Bool.not_not]
    congr 1
    funext j
    rw [Bool.eq_iff_iff]
    simp
  have KB := hidOf b0
  clear b0 g0 gl hs hn
  have hcf : Calls Tryz.prog 198 #[.slice a xs.length cap, .func (.func 197) #[] #[.pointer (some ⟨w.heap.size, 0, none⟩)]] W fun e w' => e = .returned (.bool (!setsB n xs)) ∧ Below W.heap.size W w' := by
    clear hW KB
    go_enter Tryz.func198, Tryz.ntmps198
    go_wp2_with fail
    refine c1.mono ?_
    clear c1
    rintro e w1 ⟨⟨i, rfl, hi⟩, b1⟩
    have KE := hidOf (HE.out i hi)
    have K1 := hidOf b1
    clear hi HE b1
    go_wp2
    go_ret
    exact ⟨by rw [← KE.out]; simp, K1.out⟩
  clear c1 HE
  go_enter Tryz.func139, Tryz.ntmps139
  go_wp2_with fail
  rw [← hW]
  clear hW
  refine hcf.mono ?_
  clear hcf
  rintro e w1 ⟨rfl, b1⟩
  have K1 := hidOf b1
  clear b1
  go_wp2
  go_ret
  exact ⟨by simp, bstep KB.out K1.out⟩
end Go.Proofs.YtalmflikdnflfaaGreat
