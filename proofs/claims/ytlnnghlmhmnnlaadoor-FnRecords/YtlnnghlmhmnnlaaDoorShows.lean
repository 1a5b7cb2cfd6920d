/- What the specification's ShowRecord answers at every Record: its text, or the empty one where it is not right. -/
import Derived.Test.YtlnnghlmhmnnlaaDoorRows
import Derived.Test.YtlnnghlmhmnnlaaDoorOks2
import Derived.Test.YtlnnghlmhmnnlaaDoorInts
import Derived.WalkKit
import Derived.WalkSpells
import Derived.WalkLawsBesides
import Derived.Below
import Derived.Lib.QuietBelow
import Derived.BigQuiet
import Derived.Deep.RegionWith
namespace Go.Proofs.YtlnnghlmhmnnlaaDoor
open Go.RowKit
open Go.Sort (grow)
def flagText (u : Bool) : List UInt8 := if u then [32, 49, 32] else [32, 48, 32]
def setText (s : S5) : List UInt8 := [32] ++ Lib.itoa s.slot ++ [32] ++ Lib.itoa s.value ++ flagText s.used ++ Lib.itoa s.version
def headText (k t r : Int) (n : Nat) : List UInt8 := Lib.itoa k ++ [32] ++ Lib.itoa t ++ [32] ++ Lib.itoa r ++ [32] ++ Lib.itoa n
def recText (k t r : Int) (xs : List S5) : List UInt8 := headText k t r xs.length ++ xs.flatMap setText
def i64 (n : Int) : Prop := -9223372036854775808 ≤ n ∧ n ≤ 9223372036854775807
def S5.fits (s : S5) : Prop := i64 s.slot ∧ i64 s.value ∧ i64 s.version
theorem digits_len (k : Nat) : ∀ u, u < 10 ^ (k + 1) → (Lib.decDigits u).length ≤ k + 1 := by
  induction k with
  | zero => intro u hu; rw [Lib.decDigits, dif_pos (by omega)]; simp
  | succ k ih =>
    intro u hu
    rw [decDigits_step, upper]
    split
    · simp
    · have := ih (u / 10) (by rw [Nat.pow_succ] at hu; omega)
      simp; omega
theorem itoa_len {n : Int} (h : i64 n) : (Lib.itoa n).length ≤ 20 := by
  obtain ⟨h0, h1⟩ := h
  unfold Lib.itoa
  split
  · have := digits_len 18 n.natAbs (by omega)
    simp; omega
  · have := digits_len 18 n.toNat (by omega)
    omega
theorem setText_len {s : S5} (h : s.fits) : (setText s).length ≤ 65 := by
  have h1 := itoa_len h.1
  have h2 := itoa_len h.2.1
  have h3 := itoa_len h.2.2
  have h4 : (flagText s.used).length = 3 := by unfold flagText; split <;> rfl
  simp [setText, h4]; omega
theorem sets_len {xs : List S5} (h : ∀ s ∈ xs, s.fits) : (xs.flatMap setText).length ≤ 65 * xs.length := by
  induction xs with
  | nil => simp
  | cons s xs ih =>
    have h1 := setText_len (h s (by simp))
    have h2 := ih fun s hs => h s (by simp [hs])
    simp only [List.flatMap_cons, List.length_append, List.length_cons]; omega
theorem head_eq (k t r : Int) (n : Nat) : (ByteArray.mk (Lib.itoa k).toArray ++ ByteArray.mk #[32] ++ ByteArray.mk (Lib.itoa t).toArray ++ ByteArray.mk #[32] ++ ByteArray.mk (Lib.itoa r).toArray ++ ByteArray.mk #[32] ++ ByteArray.mk (Lib.itoa n).toArray) = ByteArray.mk (headText k t r n).toArray := by
  have e : ByteArray.mk #[32] = ByteArray.mk [32].toArray := rfl
  rw [e]
  simp only [ByteArray.mk_append_mk]
  rfl
theorem set_eq_false (A s v x : List UInt8) : (ByteArray.mk A.toArray ++ ByteArray.mk #[32] ++ ByteArray.mk s.toArray ++ ByteArray.mk #[32] ++ ByteArray.mk v.toArray ++ ByteArray.mk #[32, 48, 32] ++ ByteArray.mk x.toArray) = ByteArray.mk (A ++ ([32] ++ s ++ [32] ++ v ++ flagText false ++ x)).toArray := by
  have e : ByteArray.mk #[32] = ByteArray.mk [32].toArray := rfl
  have e' : ByteArray.mk #[32, 48, 32] = ByteArray.mk [32, 48, 32].toArray := rfl
  rw [e, e']
  simp only [ByteArray.mk_append_mk]
  simp [flagText]
theorem set_eq_true (A s v x : List UInt8) : (ByteArray.mk A.toArray ++ ByteArray.mk #[32] ++ ByteArray.mk s.toArray ++ ByteArray.mk #[32] ++ ByteArray.mk v.toArray ++ ByteArray.mk #[32, 49, 32] ++ ByteArray.mk x.toArray) = ByteArray.mk (A ++ ([32] ++ s ++ [32] ++ v ++ flagText true ++ x)).toArray := by
  have e : ByteArray.mk #[32] = ByteArray.mk [32].toArray := rfl
  have e' : ByteArray.mk #[32, 49, 32] = ByteArray.mk [32, 49, 32].toArray := rfl
  rw [e, e']
  simp only [ByteArray.mk_append_mk]
  simp [flagText]
set_option maxHeartbeats 4000000 in
theorem l2Show_some (w : World) (k t r : Int) (b off cap n : Nat) (xs : List S5) (hx : xs.length = n) (hn : n ≤ 100) (h1 : SetsAt w b off xs) (hb : b < w.heap.size) (hk : i64 k) (ht : i64 t) (hr : i64 r) (hf : ∀ s ∈ xs, s.fits) :
    Calls Tryd.prog 21 #[.agg #[.int .i64 k, .int .i64 t, .int .i64 r, .slice (some ⟨b, off, none⟩) n cap]] w fun e w' => e = .returned (.string ⟨(recText k t r xs).toArray⟩) ∧ Below w.heap.size w w' := by
  go_enter Tryd.func21, Tryd.ntmps21
  go_wp2_with fail
  have e0 : (w.alloc (.cells #[.int .i64 k, .int .i64 t, .int .i64 r, .slice (some ⟨b, off, none⟩) n cap] 26)).cell? ⟨w.heap.size, 0, none⟩ = some (.int .i64 k) := by go_simp
  have e1 : (w.alloc (.cells #[.int .i64 k, .int .i64 t, .int .i64 r, .slice (some ⟨b, off, none⟩) n cap] 26)).cell? ⟨w.heap.size, 1, none⟩ = some (.int .i64 t) := by go_simp
  have e2 : (w.alloc (.cells #[.int .i64 k, .int .i64 t, .int .i64 r, .slice (some ⟨b, off, none⟩) n cap] 26)).cell? ⟨w.heap.size, 2, none⟩ = some (.int .i64 r) := by go_simp
  have e3 : (w.alloc (.cells #[.int .i64 k, .int .i64 t, .int .i64 r, .slice (some ⟨b, off, none⟩) n cap] 26)).cell? ⟨w.heap.size, 3, none⟩ = some (.slice (some ⟨b, off, none⟩) n cap) := by go_simp
  have zs : w.heap.size < (w.alloc (.cells #[.int .i64 k, .int .i64 t, .int .i64 r, .slice (some ⟨b, off, none⟩) n cap] 26)).heap.size := by simp
  generalize hW : w.alloc (.cells #[.int .i64 k, .int .i64 t, .int .i64 r, .slice (some ⟨b, off, none⟩) n cap] 26) = W at e0 e1 e2 e3 zs ⊢
  have bW : Below w.heap.size w W := by subst hW; exact (Below.refl _ _).alloc (Nat.le_refl _) _
  clear hW
  have d0 := cell_regrown e0
  have d1 := cell_regrown e1
  have d2 := cell_regrown e2
  have d3 := cell_regrown e3
  have cI : ∀ (z : Int), i64 z → ∀ d os, Calls Tryd.prog 44 #[.int .i64 z] (grow (redrawn W d) os) fun e w'' => e = .returned (.string ⟨(Lib.itoa z).toArray⟩) ∧ ∃ p : Regrown, w'' = grow (redrawn W p.d) p.os := fun z hz d os => Calls.regrown_of (l2Int_any _ z hz.1 hz.2)
  have cK := cI k hk
  have cT := cI t ht
  have cR := cI r hr
  have hn64 : i64 (n : Int) := ⟨by omega, by omega⟩
  have cN := cI (n : Int) hn64
  have lk := itoa_len hk
  have lt := itoa_len ht
  have lr := itoa_len hr
  have ln := itoa_len hn64
  have K : Hid (W.cell? ⟨w.heap.size, 3, none⟩ = some (.slice (some ⟨b, off, none⟩) n cap) ∧ SetsAt W b off xs ∧ xs.length = n ∧ (∀ s ∈ xs, s.fits)) := ⟨e3, h1.below bW hb, hx, hf⟩
  have hbW : b < W.heap.size := Nat.lt_of_lt_of_le hb bW.size
  clear e0 e1 e2 e3 cI hx h1 hf hk ht hr hn64
  refine wp_region_quiet_below (by kernel_rfl) (by kernel_rfl) ?_
  repeat (go_big_quiet_step (first | (go_at_call_of 44 k; exact cK _ _) | (go_at_call_of 44 t; exact cT _ _) | (go_at_call_of 44 r; exact cR _ _) | (go_at_call_of 44 n; exact cN _ _)))
  refine wpQuiet_nil ?_
  intro _ hw'
  obtain ⟨⟨dq, osq⟩, hw''⟩ := hw'
  subst hw''
  have bq := below_regrown W dq osq
  generalize hG : grow (redrawn W dq) osq = G at *
  clear hG
  go_wp2
  obtain ⟨f3, hs, hx, hf⟩ := K.out
  have g3 := (bq.cell (p := ⟨w.heap.size, 3, none⟩) zs).trans f3
  have hsG := hs.below bq hbW
  have zG : w.heap.size < G.heap.size := Nat.lt_of_lt_of_le zs bq.size
  have hbG : b < G.heap.size := Nat.lt_of_lt_of_le hbW bq.size
  have hH : (headText k t r n).length ≤ 100 := by simp [headText]; omega
  clear K f3 hs
  rw [head_eq]
  go_loopw [3, 4] (fun v3 v4 wr => ∃ i : Nat, i ≤ n ∧ v4 = .int .i64 i ∧ v3 = .string ⟨(headText k t r n ++ (xs.take i).flatMap setText).toArray⟩ ∧ Below G.heap.size G wr) (fun _ v4 _ => n - (intOf v4).toNat)
  case atStart => exact ⟨0, Nat.zero_le _, rfl, by simp, Below.refl _ _⟩
  case round =>
    obtain ⟨i, hi, rfl, rfl, hbl⟩ := hrel
    have g3' := (hbl.cell (p := ⟨w.heap.size, 3, none⟩) zG).trans g3
    by_cases hlt : i < n
    · obtain ⟨c0, c1, c2, c3, c4⟩ := (hsG.get (i := i) (by omega)).below hbl hbG
      have hfit : (at5 xs i).fits := hf _ (by rw [at5, List.getElem?_eq_getElem (show i < xs.length by omega)]; exact List.getElem_mem _)
      have hstep : (headText k t r n ++ (xs.take i).flatMap setText) ++ setText (at5 xs i) = headText k t r n ++ (xs.take (i + 1)).flatMap setText := by
        rw [List.take_add_one, at5_of (show i < xs.length by omega)]; simp
      have hA : (headText k t r n ++ (xs.take i).flatMap setText).length ≤ 10000 := by
        have := sets_len (xs := xs.take i) fun s hs => hf s (List.mem_of_mem_take hs)
        simp at this ⊢; omega
      generalize hAA : headText k t r n ++ (xs.take i).flatMap setText = A at *
      have l1 := itoa_len hfit.1
      have l2 := itoa_len hfit.2.1
      have l3 := itoa_len hfit.2.2
      have tz : SetAt (wr.alloc (.cells #[.int .i64 (at5 xs i).region, .int .i64 (at5 xs i).slot, .int .i64 (at5 xs i).value, .bool (at5 xs i).used, .int .i64 (at5 xs i).version] 42)) wr.heap.size 0 (at5 xs i) := ⟨by go_simp, by go_simp, by go_simp, by go_simp, by go_simp⟩
      have KK : Hid (SetAt (wr.alloc (.cells #[.int .i64 (at5 xs i).region, .int .i64 (at5 xs i).slot, .int .i64 (at5 xs i).value, .bool (at5 xs i).used, .int .i64 (at5 xs i).version] 42)) wr.heap.size 0 (at5 xs i) ∧ Below G.heap.size G wr ∧ (at5 xs i).fits ∧ A ++ setText (at5 xs i) = headText k t r n ++ (xs.take (i + 1)).flatMap setText) := ⟨tz, hbl, hfit, hstep⟩
      clear tz hbl hfit hstep hsG hf hx hH hAA g3 bq bW
      cases hu : (at5 xs i).used with
      | false =>
        rw [hu] at c3 KK
        go_wp2_with fail
        generalize hV : wr.alloc (.cells #[.int .i64 (at5 xs i).region, .int .i64 (at5 xs i).slot, .int .i64 (at5 xs i).value, .bool false, .int .i64 (at5 xs i).version] 42) = V at KK ⊢
        have bV : Below wr.heap.size wr V := by subst hV; exact (Below.refl _ _).alloc (Nat.le_refl _) _
        clear hV
        have t1 := KK.out.1.regrown
        have d1 := fun d os => (t1 d os).c1
        have d2 := fun d os => (t1 d os).c2
        have d4 := fun d os => (t1 d os).c4
        simp only [Nat.zero_add] at d1 d2 d4
        have cI : ∀ (z : Int), i64 z → ∀ d os, Calls Tryd.prog 44 #[.int .i64 z] (grow (redrawn V d) os) fun e w'' => e = .returned (.string ⟨(Lib.itoa z).toArray⟩) ∧ ∃ p : Regrown, w'' = grow (redrawn V p.d) p.os := fun z hz d os => Calls.regrown_of (l2Int_any _ z hz.1 hz.2)
        have cS := cI _ KK.out.2.2.1.1
        have cV := cI _ KK.out.2.2.1.2.1
        have cX := cI _ KK.out.2.2.1.2.2
        clear cI t1 c0 c1 c2 c3 c4
        refine wp_region_quiet_below (by kernel_rfl) (by kernel_rfl) ?_
        repeat (go_big_quiet_step (first | (go_at_call_of 44 (at5 xs i).slot; exact cS _ _) | (go_at_call_of 44 (at5 xs i).value; exact cV _ _) | (go_at_call_of 44 (at5 xs i).version; exact cX _ _)))
        refine wpQuiet_nil ?_
        intro _ hw'
        obtain ⟨⟨dq, osq⟩, hw''⟩ := hw'
        subst hw''
        have bq := below_regrown V dq osq
        go_wp2
        refine ⟨⟨i + 1, by omega, by simp, ?_, KK.out.2.1.trans ((bV.trans (bq.mono bV.size)).mono KK.out.2.1.size)⟩, by simp [intOf]; omega⟩
        rw [← KK.out.2.2.2, setText, hu]
        exact congrArg Value.string (set_eq_false _ _ _ _)
      | true =>
        rw [hu] at c3 KK
        go_wp2_with fail
        generalize hV : wr.alloc (.cells #[.int .i64 (at5 xs i).region, .int .i64 (at5 xs i).slot, .int .i64 (at5 xs i).value, .bool true, .int .i64 (at5 xs i).version] 42) = V at KK ⊢
        have bV : Below wr.heap.size wr V := by subst hV; exact (Below.refl _ _).alloc (Nat.le_refl _) _
        clear hV
        have t1 := KK.out.1.regrown
        have d1 := fun d os => (t1 d os).c1
        have d2 := fun d os => (t1 d os).c2
        have d4 := fun d os => (t1 d os).c4
        simp only [Nat.zero_add] at d1 d2 d4
        have cI : ∀ (z : Int), i64 z → ∀ d os, Calls Tryd.prog 44 #[.int .i64 z] (grow (redrawn V d) os) fun e w'' => e = .returned (.string ⟨(Lib.itoa z).toArray⟩) ∧ ∃ p : Regrown, w'' = grow (redrawn V p.d) p.os := fun z hz d os => Calls.regrown_of (l2Int_any _ z hz.1 hz.2)
        have cS := cI _ KK.out.2.2.1.1
        have cV := cI _ KK.out.2.2.1.2.1
        have cX := cI _ KK.out.2.2.1.2.2
        clear cI t1 c0 c1 c2 c3 c4
        refine wp_region_quiet_below (by kernel_rfl) (by kernel_rfl) ?_
        repeat (go_big_quiet_step (first | (go_at_call_of 44 (at5 xs i).slot; exact cS _ _) | (go_at_call_of 44 (at5 xs i).value; exact cV _ _) | (go_at_call_of 44 (at5 xs i).version; exact cX _ _)))
        refine wpQuiet_nil ?_
        intro _ hw'
        obtain ⟨⟨dq, osq⟩, hw''⟩ := hw'
        subst hw''
        have bq := below_regrown V dq osq
        go_wp2
        refine ⟨⟨i + 1, by omega, by simp, ?_, KK.out.2.1.trans ((bV.trans (bq.mono bV.size)).mono KK.out.2.1.size)⟩, by simp [intOf]; omega⟩
        rw [← KK.out.2.2.2, setText, hu]
        exact congrArg Value.string (set_eq_true _ _ _ _)
    · have : i = n := by omega
      subst this
      have hd : decide (i < i) = false := by simp
      have hfin : headText k t r i ++ (xs.take i).flatMap setText = recText k t r xs := by rw [← hx, List.take_length]; rfl
      rw [hfin]
      clear hfin
      go_wp2
      go_ret
      exact ⟨rfl, (bW.trans (bq.mono bW.size)).trans (hbl.mono (Nat.le_trans bW.size bq.size))⟩
theorem rec_fits {k t r : Int} {xs : List S5} (h : recB k t r xs = true) : i64 k ∧ i64 t ∧ i64 r ∧ (∀ s ∈ xs, s.fits) ∧ 1 ≤ xs.length ∧ xs.length ≤ 12 := by
  simp only [recB, Bool.and_eq_true, inB_iff, decide_eq_true_eq] at h
  obtain ⟨⟨⟨⟨⟨⟨hk, ht⟩, hr⟩, h1⟩, h2⟩, h3⟩, _⟩ := h
  refine ⟨⟨by omega, by omega⟩, ⟨by omega, by omega⟩, ⟨by omega, by omega⟩, fun s hs => ?_, h1, h2⟩
  obtain ⟨i, hi, rfl⟩ := List.getElem_of_mem hs
  rw [riseB, List.all_eq_true] at h3
  have h4 := h3 i (by simpa using hi)
  simp only [riseAt, Bool.and_eq_true] at h4
  have h5 := h4.1
  rw [at5, List.getElem?_eq_getElem hi] at h5
  simp only [Option.getD_some, setOkB, Bool.and_eq_true, inB_iff] at h5
  exact ⟨⟨by omega, by omega⟩, ⟨by omega, by omega⟩, ⟨by omega, by omega⟩⟩
/-- What is shown: the text of a right record, nothing else. -/
def showText (k t r : Int) (xs : List S5) : List UInt8 := if recB k t r xs = true then recText k t r xs else []
set_option maxHeartbeats 4000000 in
theorem specShow_any (w : World) (k t r : Int) (a : Option Addr) (n cap : Nat) (xs : List S5) (hn : n ≤ maxLen) (hs : Sl w w.heap.size a n xs) :
    Calls Tryd.prog 8 #[.agg #[.int .i64 k, .int .i64 t, .int .i64 r, .slice a n cap]] w fun e w' => e = .returned (.string ⟨(showText k t r xs).toArray⟩) ∧ Below w.heap.size w w' := by
  go_enter Tryd.func8, Tryd.ntmps8
  go_wp2_with fail
  have e0 : (w.alloc (.cells #[.int .i64 k, .int .i64 t, .int .i64 r, .slice a n cap] 26)).cell? ⟨w.heap.size, 0, none⟩ = some (.int .i64 k) := by go_simp
  have e1 : (w.alloc (.cells #[.int .i64 k, .int .i64 t, .int .i64 r, .slice a n cap] 26)).cell? ⟨w.heap.size, 1, none⟩ = some (.int .i64 t) := by go_simp
  have e2 : (w.alloc (.cells #[.int .i64 k, .int .i64 t, .int .i64 r, .slice a n cap] 26)).cell? ⟨w.heap.size, 2, none⟩ = some (.int .i64 r) := by go_simp
  have e3 : (w.alloc (.cells #[.int .i64 k, .int .i64 t, .int .i64 r, .slice a n cap] 26)).cell? ⟨w.heap.size, 3, none⟩ = some (.slice a n cap) := by go_simp
  have zs : w.heap.size < (w.alloc (.cells #[.int .i64 k, .int .i64 t, .int .i64 r, .slice a n cap] 26)).heap.size := by simp
  generalize hW : w.alloc (.cells #[.int .i64 k, .int .i64 t, .int .i64 r, .slice a n cap] 26) = W at e0 e1 e2 e3 zs ⊢
  have bW : Below w.heap.size w W := by subst hW; exact (Below.refl _ _).alloc (Nat.le_refl _) _
  clear hW
  have hsW : Sl W W.heap.size a n xs := (hs.below bW).mono bW.size
  refine (specRecordOk_any W k t r a n cap xs hn hsW).mono ?_
  rintro e w1 ⟨rfl, b1⟩
  have c0 := (b1.cell (p := ⟨w.heap.size, 0, none⟩) zs).trans e0
  have c1 := (b1.cell (p := ⟨w.heap.size, 1, none⟩) zs).trans e1
  have c2 := (b1.cell (p := ⟨w.heap.size, 2, none⟩) zs).trans e2
  have c3 := (b1.cell (p := ⟨w.heap.size, 3, none⟩) zs).trans e3
  have K : Hid (Sl w1 w1.heap.size a n xs) := (hsW.below b1).mono b1.size
  clear hs hsW e0 e1 e2 e3
  cases hrec : recB k t r xs with
  | false =>
    go_wp2
    go_ret
    exact ⟨by simp [showText, hrec], bW.trans (b1.mono bW.size)⟩
  | true =>
    obtain ⟨fk, ft, fr, ff, l1, l2⟩ := rec_fits hrec
    have H : Hid (i64 k ∧ i64 t ∧ i64 r ∧ (∀ s ∈ xs, s.fits) ∧ 1 ≤ xs.length ∧ xs.length ≤ 12) := ⟨fk, ft, fr, ff, l1, l2⟩
    clear fk ft fr ff l1 l2
    go_wp2_with fail
    obtain ⟨fk, ft, fr, ff, l1, l2⟩ := H.out
    obtain ⟨hx, hsl⟩ := K.out
    rcases hsl with h0 | ⟨b, off, rfl, hb, h1⟩
    · omega
    · refine (l2Show_some w1 k t r b off cap n xs hx (by omega) h1 hb fk ft fr ff).mono ?_
      clear fk ft fr ff l1 l2 hx h1
      rintro e w2 ⟨rfl, b2⟩
      go_wp2
      go_ret
      exact ⟨by simp [showText, hrec], bW.trans ((b1.trans (b2.mono b1.size)).mono bW.size)⟩
end Go.Proofs.YtlnnghlmhmnnlaaDoor
