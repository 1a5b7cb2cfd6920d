/- Of no program: a text is taken by the program's reader just where the specification's shows what it says as that text. -/
import Derived.Test.YtlnnghlmhmnnlaaDoorRecOf
import Derived.Test.YtlnnghlmhmnnlaaDoorReads
import Derived.Test.YtlnnghlmhmnnlaaDoorRead2
import Derived.Test.YtlnnghlmhmnnlaaDoorTexts
namespace Go.Proofs.YtlnnghlmhmnnlaaDoor
theorem readW_eq (most : Nat) : ∀ (ws : List (List UInt8)) (ns : List Int), ns.length ≤ most → readW most ns ws = (numsOf ws).bind fun vs => if ns.length + vs.length ≤ most then some (ns ++ vs) else none
  | [], ns, h => by simp [readW, numsOf, h]
  | w :: ws, ns, h => by
    simp only [readW, numsOf, List.mapM_cons]
    cases hn : num w with
    | none => split <;> simp
    | some v =>
      by_cases hf : ns.length = most
      · rw [if_pos hf]
        cases hm : List.mapM num ws with
        | none => simp
        | some vs => simp [hf]
      · rw [if_neg hf]
        have ih := readW_eq most ws (ns ++ [v]) (by simp; omega)
        simp only [Option.bind_some]
        rw [ih]
        simp only [numsOf]
        cases hm : List.mapM num ws with
        | none => simp
        | some vs =>
          simp only [Option.bind_some, List.length_append, List.length_cons, List.length_nil, Option.pure_def, Option.bind_eq_bind]
          have e : (ns.length + (0 + 1) + vs.length ≤ most) ↔ (ns.length + (vs.length + 1) ≤ most) := by omega
          by_cases h2 : ns.length + (vs.length + 1) ≤ most
          · rw [if_pos (e.2 h2), if_pos h2]; simp
          · rw [if_neg (fun x => h2 (e.1 x)), if_neg h2]
theorem begin_eq (bs : List UInt8) : atBegin 52 [] bs = (numsOf (splitW bs)).bind fun vs => if vs.length ≤ 52 then some vs else none := by
  rw [atBegin, readW_eq 52 _ [] (by simp)]; simp
theorem val_bd : ∀ (w : List UInt8) (acc : Int), 0 ≤ acc → w.all isDig = true → 0 ≤ val acc w ∧ val acc w < (acc + 1) * 10 ^ w.length
  | [], acc, h, _ => by simp [val]; omega
  | c :: w, acc, h, hd => by
    simp only [List.all_cons, Bool.and_eq_true] at hd
    obtain ⟨x, hx, hc, _⟩ := dig_of hd.1
    have ih := val_bd w (acc * 10 + ((c.toNat : Int) - 48)) (by omega) hd.2
    refine ⟨ih.1, Int.lt_of_lt_of_le ih.2 ?_⟩
    have e : (acc + 1) * 10 ^ (c :: w).length = (acc * 10 + 10) * 10 ^ w.length := by
      rw [List.length_cons, Int.pow_succ, Int.mul_comm (10 ^ w.length) 10, ← Int.mul_assoc]; congr 1; omega
    rw [e]
    exact Int.mul_le_mul_of_nonneg_right (by omega) (Int.pow_nonneg (by omega))
theorem numD_bd {w : List UInt8} {v : Int} (h : numD 0 0 w = some v) : 0 ≤ v ∧ v < 10000000000 := by
  obtain ⟨h1, h2, rfl⟩ := numD_some h
  have := val_bd w 0 (by omega) h2
  refine ⟨this.1, Int.lt_of_lt_of_le this.2 ?_⟩
  have : (10 : Int) ^ w.length ≤ 10 ^ 10 := by exact_mod_cast Nat.pow_le_pow_right (by omega) (by omega)
  omega
theorem num_bd {w : List UInt8} {v : Int} (h : num w = some v) : -10000000000 < v ∧ v < 10000000000 := by
  cases w with
  | nil => cases h
  | cons c cs =>
    simp only [num] at h
    split at h
    · split at h
      · cases h
      · cases hn : numD 0 0 cs with
        | none => rw [hn] at h; cases h
        | some u => rw [hn] at h; simp at h; have := numD_bd hn; omega
    · split at h
      · split at h
        · cases h; omega
        · cases h
      · have := numD_bd h; omega
theorem nums_bd : ∀ {ws : List (List UInt8)} {ns : List Int}, numsOf ws = some ns → ∀ v ∈ ns, -10000000000 < v ∧ v < 10000000000
  | [], ns, h, v, hv => by simp [numsOf] at h; subst h; cases hv
  | w :: ws, ns, h, v, hv => by
    simp only [numsOf, List.mapM_cons, Option.bind_eq_bind, Option.bind_eq_some_iff, Option.pure_def, Option.some.injEq] at h
    obtain ⟨u, hu, vs, hvs, rfl⟩ := h
    rcases List.mem_cons.1 hv with rfl | hv
    · exact num_bd hu
    · exact nums_bd (ws := ws) hvs v hv
theorem nth_bd {bs : List UInt8} {ns : List Int} (h : numsOf (splitW bs) = some ns) (i : Nat) : -10000000000 < nthI ns i ∧ nthI ns i < 10000000000 := by
  by_cases hi : i < ns.length
  · exact nums_bd h _ (List.mem_of_getElem? (nthI_of hi))
  · rw [nthI, List.getElem?_eq_none (by omega)]; simp
/-- The numbers of a text that the program takes for a record. -/
structure Acc (bs : List UInt8) (ns : List Int) (m : Nat) : Prop where
  nums : numsOf (splitW bs) = some ns
  len : ns.length = 4 + 4 * m
  three : nthI ns 3 = (m : Int)
  flags : flagsB ns m = true
  ok : recB (nthI ns 0) (nthI ns 1) (nthI ns 2) (setsOf ns m) = true
theorem flag_int {ns : List Int} {m k : Nat} (h : flagsB ns m = true) (hk : k < m) : flagInt (nthI ns (4 + 4 * k + 2) == 1) = nthI ns (4 + 4 * k + 2) := by
  have := List.all_eq_true.1 h k (List.mem_range.2 hk)
  simp only [flagB, Bool.or_eq_true, beq_iff_eq] at this
  rcases this with e | e
  · rw [e]; rfl
  · rw [e]; rfl
theorem sets_flat {ns : List Int} {m : Nat} : ∀ {k : Nat}, k ≤ m → 4 + 4 * m ≤ ns.length → (∀ j, j < m → flagInt (nthI ns (4 + 4 * j + 2) == 1) = nthI ns (4 + 4 * j + 2)) → (setsOf ns k).flatMap setNums = (ns.drop 4).take (4 * k)
  | 0, _, _, _ => by simp [setsOf]
  | k + 1, hk, hl, hf => by
    have ih := sets_flat (k := k) (by omega) hl hf
    rw [setsOf_succ, List.flatMap_append, ih, show 4 * (k + 1) = 4 * k + 4 by omega]
    have e : ∀ j, j < 4 → (ns.drop 4)[4 * k + j]? = some (nthI ns (4 + 4 * k + j)) := fun j hj => by
      rw [List.getElem?_drop, show 4 + (4 * k + j) = 4 + 4 * k + j by omega]; exact nthI_of (by omega)
    have t1 := List.take_add_one (l := ns.drop 4) (i := 4 * k)
    have t2 := List.take_add_one (l := ns.drop 4) (i := 4 * k + 1)
    have t3 := List.take_add_one (l := ns.drop 4) (i := 4 * k + 2)
    have t4 := List.take_add_one (l := ns.drop 4) (i := 4 * k + 3)
    have e0 := e 0 (by omega)
    have e1 := e 1 (by omega)
    have e2 := e 2 (by omega)
    have e3 := e 3 (by omega)
    rw [Nat.add_zero, Nat.add_zero] at e0
    rw [show 4 * k + 4 = 4 * k + 3 + 1 by omega, t4, show 4 * k + 3 = 4 * k + 2 + 1 by omega, t3, show 4 * k + 2 = 4 * k + 1 + 1 by omega, t2, t1]
    rw [show 4 * k + 1 + 1 + 1 = 4 * k + 3 by omega, show 4 * k + 1 + 1 = 4 * k + 2 by omega, e0, e1, e2, e3]
    simp [setNums, setNth, hf k (by omega)]
theorem nums_of_sets {ns : List Int} {m : Nat} (hl : ns.length = 4 + 4 * m) (h3 : nthI ns 3 = (m : Int)) (hf : ∀ j, j < m → flagInt (nthI ns (4 + 4 * j + 2) == 1) = nthI ns (4 + 4 * j + 2)) : recNums (nthI ns 0) (nthI ns 1) (nthI ns 2) (setsOf ns m) = ns := by
  rw [recNums, sets_flat (Nat.le_refl m) (by omega) hf, setsOf_len]
  have hd : ns.drop 4 = (ns.drop 4).take (4 * m) := (List.take_of_length_le (by simp; omega)).symm
  rw [← hd, ← h3]
  rcases ns with _ | ⟨a, _ | ⟨b, _ | ⟨c, _ | ⟨d, tl⟩⟩⟩⟩
  · simp only [List.length_nil] at hl; omega
  · simp only [List.length_cons, List.length_nil] at hl; omega
  · simp only [List.length_cons, List.length_nil] at hl; omega
  · simp only [List.length_cons, List.length_nil] at hl; omega
  · simp [nthI]
theorem rec_bd {k t r : Int} {xs : List S5} (h : recB k t r xs = true) : ∀ v ∈ recNums k t r xs, -10000000000 < v ∧ v < 10000000000 := by
  simp only [recB, Bool.and_eq_true, inB_iff, decide_eq_true_eq] at h
  obtain ⟨⟨⟨⟨⟨⟨hk, ht⟩, hr⟩, h1⟩, h12⟩, hrise⟩, _⟩ := h
  intro v hv
  rw [recNums, List.mem_append] at hv
  rcases hv with hv | hv
  · simp at hv
    rcases hv with rfl | rfl | rfl | rfl <;> omega
  · obtain ⟨s, hs, hv⟩ := List.mem_flatMap.1 hv
    obtain ⟨i, hi, rfl⟩ := List.getElem_of_mem hs
    have := List.all_eq_true.1 hrise i (List.mem_range.2 hi)
    simp only [riseAt, Bool.and_eq_true] at this
    have hok := this.1
    have e : at5 xs i = xs[i] := by rw [at5, List.getElem?_eq_getElem hi]; rfl
    rw [e] at hok
    simp only [setOkB, Bool.and_eq_true, inB_iff] at hok
    have hfl : flagInt xs[i].used = 0 ∨ flagInt xs[i].used = 1 := by unfold flagInt; split <;> simp
    simp [setNums] at hv
    rcases hv with rfl | rfl | rfl | rfl <;> omega
theorem acc_shown {bs : List UInt8} {ns : List Int} {m : Nat} (h : Acc bs ns m) : showText (nthI ns 0) (nthI ns 1) (nthI ns 2) (setsOf ns m) = bs := by
  rw [showText, if_pos h.ok, ← rec_join, nums_of_sets h.len h.three (fun j hj => flag_int h.flags hj)]
  exact (text_of_nums h.nums).symm
theorem shown_acc {bs : List UInt8} {ns : List Int} {m : Nat} (hn : numsOf (splitW bs) = some ns) (hl : ns.length = 4 + 4 * m) (h : showText (nthI ns 0) (nthI ns 1) (nthI ns 2) (setsOf ns m) = bs) : Acc bs ns m := by
  cases hr : recB (nthI ns 0) (nthI ns 1) (nthI ns 2) (setsOf ns m) with
  | false =>
    rw [showText, hr, if_neg (by simp)] at h
    rw [← h] at hn
    simp [splitW, numsOf, num] at hn
  | true =>
    rw [showText, if_pos hr, ← rec_join] at h
    have hne : recNums (nthI ns 0) (nthI ns 1) (nthI ns 2) (setsOf ns m) ≠ [] := by simp [recNums]
    have := nums_of_text hne (rec_bd hr)
    rw [h, hn] at this
    have e := Option.some.inj this
    have hset : ∀ j, j < m → ∀ i, i < 4 → nthI ns (4 + 4 * j + i) = (setNums (setNth ns j))[i]?.getD 0 := by
      intro j hj i hi
      have hfl : ∀ (xs : List S5) (j : Nat) (s : S5), xs[j]? = some s → (xs.flatMap setNums)[4 * j + i]? = (setNums s)[i]? := by
        intro xs
        induction xs with
        | nil => intro j s hs; simp at hs
        | cons x xs ih =>
          intro j s hs
          cases j with
          | zero => simp at hs; subst hs; rw [List.flatMap_cons, List.getElem?_append_left (by simp [setNums]; omega)]; simp
          | succ j =>
            have hx : (setNums x).length = 4 := rfl
            rw [List.flatMap_cons, List.getElem?_append_right (by rw [hx]; omega), hx, show 4 * (j + 1) + i - 4 = 4 * j + i by omega]
            exact ih j s (by simpa using hs)
      have hg : (setsOf ns m)[j]? = some (setNth ns j) := by simp [setsOf, hj]
      have h1 : ns[4 + 4 * j + i]? = (setNums (setNth ns j))[i]? := by
        refine (congrArg (fun l => l[4 + 4 * j + i]?) e).trans ?_
        show (recNums (nthI ns 0) (nthI ns 1) (nthI ns 2) (setsOf ns m))[4 + 4 * j + i]? = _
        rw [recNums, List.getElem?_append_right (by simp; omega)]
        show ((setsOf ns m).flatMap setNums)[4 + 4 * j + i - 4]? = _
        rw [show 4 + 4 * j + i - 4 = 4 * j + i by omega]
        exact hfl _ _ _ hg
      rw [nthI, h1]
    refine ⟨hn, hl, ?_, ?_, hr⟩
    · have : ns[3]? = some ((setsOf ns m).length : Int) := congrArg (fun l => l[3]?) e
      rw [nthI, this, setsOf_len]; rfl
    · rw [flagsB, List.all_eq_true]
      intro j hj
      have := hset j (List.mem_range.1 hj) 2 (by omega)
      have e2 : (setNums (setNth ns j))[2]?.getD 0 = flagInt (setNth ns j).used := rfl
      rw [e2] at this
      have hfl : flagInt (setNth ns j).used = 0 ∨ flagInt (setNth ns j).used = 1 := by unfold flagInt; split <;> simp
      simp only [flagB, Bool.or_eq_true, beq_iff_eq]
      rw [this]; exact hfl
theorem acc_len {bs : List UInt8} {ns : List Int} {m : Nat} (h : Acc bs ns m) : 1 ≤ m ∧ m ≤ 12 := by
  have := h.ok
  simp only [recB, Bool.and_eq_true, decide_eq_true_eq, setsOf_len] at this
  omega
theorem acc_begin {bs : List UInt8} {ns : List Int} {m : Nat} (h : Acc bs ns m) : atBegin 52 [] bs = some ns := by
  have := acc_len h
  rw [begin_eq, h.nums]
  simp [h.len]; omega
end Go.Proofs.YtlnnghlmhmnnlaaDoor
