/- TxR; TxL; TxE; TxN; RowT; TxK: joined. -/
import Derived.Test.YtiidlcjjaglkdaaRows
import Derived.Test.YtiidlcjjaglkdaaTxSJ
import Derived.WalkKit
import Derived.WalkSpells
import Derived.WalkLawsBesides
import Derived.Below
import Derived.Lib.QuietBelow
import Derived.BigQuiet
import Derived.Test.YtiidlcjjaglkdaaJ0LawNoted
import Derived.Deep.RegionWith
namespace Go.Proofs.Ytiidlcjjaglkdaa
open Go.RowKit
open Go.Sort (grow)
def FirstAt (f : Nat → Bool) (n : Nat) (i : Int) : Prop := (i = -1 ∧ ∀ j, j < n → f j = false) ∨ ∃ k : Nat, i = (k : Int) ∧ k < n ∧ f k = true ∧ ∀ j, j < k → f j = false
theorem first_has {f : Nat → Bool} {n : Nat} {i : Int} (h : FirstAt f n i) : decide (0 ≤ i) = !((List.range n).all fun j => !f j) := by
  rcases h with ⟨rfl, h⟩ | ⟨k, rfl, hk, hf, _⟩
  · have : ((List.range n).all fun j => !f j) = true := by rw [List.all_eq_true]; intro j hj; simp [h j (List.mem_range.1 hj)]
    rw [this]; rfl
  · have : ((List.range n).all fun j => !f j) = false := by rw [List.all_eq_false]; exact ⟨k, List.mem_range.2 hk, by simp [hf]⟩
    rw [this]; simp
theorem implId (w : World) (x : Int) : Calls Try.prog 63 #[.int .i64 x] w fun e w' => e = .returned (.bool (inB 1 1000000 x)) ∧ w' = w := by
  go_enter Try.func63, Try.ntmps63
  go_wp2
  all_goals (go_ret; refine ⟨ret_bool ?_, rfl⟩; simp [inB_iff]; try omega)
theorem implMachine (w : World) (x : Int) : Calls Try.prog 64 #[.int .i64 x] w fun e w' => e = .returned (.bool (inB 0 7 x)) ∧ w' = w := by
  go_enter Try.func64, Try.ntmps64
  go_wp2
  all_goals (go_ret; refine ⟨ret_bool ?_, rfl⟩; simp [inB_iff]; try omega)
theorem implPhase (w : World) (x : Int) : Calls Try.prog 65 #[.int .i64 x] w fun e w' => e = .returned (.bool (inB 1 9 x)) ∧ w' = w := by
  go_enter Try.func65, Try.ntmps65
  go_wp2
  all_goals (go_ret; refine ⟨ret_bool ?_, rfl⟩; simp [inB_iff]; try omega)
theorem implDone (w : World) (x : Int) : Calls Try.prog 66 #[.int .i64 x] w fun e w' => e = .returned (.bool (inB 0 1000 x)) ∧ w' = w := by
  go_enter Try.func66, Try.ntmps66
  go_wp2
  all_goals (go_ret; refine ⟨ret_bool ?_, rfl⟩; simp [inB_iff]; try omega)
theorem implStamp (w : World) (x : Int) : Calls Try.prog 67 #[.int .i64 x] w fun e w' => e = .returned (.bool (inB 0 1000000 x)) ∧ w' = w := by
  go_enter Try.func67, Try.ntmps67
  go_wp2
  all_goals (go_ret; refine ⟨ret_bool ?_, rfl⟩; simp [inB_iff]; try omega)
theorem implVersion (w : World) (x : Int) : Calls Try.prog 91 #[.int .i64 x] w fun e w' => e = .returned (.bool (inB 0 1000000 x)) ∧ w' = w := by
  go_enter Try.func91, Try.ntmps91
  go_wp2
  all_goals (go_ret; refine ⟨ret_bool ?_, rfl⟩; simp [inB_iff]; try omega)
theorem implNoteOk (w : World) (s : N5) : Calls Try.prog 38 #[.agg #[.int .i64 s.region, .int .i64 s.slot, .int .i64 s.version, .int .i64 s.value, .bool s.used]] w fun e w' => e = .returned (.bool (noteOkB s)) ∧ Below w.heap.size w w' := by
  obtain ⟨r, l, v, u, x⟩ := s
  go_enter Try.func38, Try.ntmps38
  cases h1 : inB 0 5 r <;> cases h2 : inB 0 5 l <;> cases h3 : inB 0 1000000 v
  all_goals go_wp2_with (first | (go_at_call 91; refine (implVersion _ _).mono ?_; rintro e w' ⟨rfl, rfl⟩) | (go_at_call 89; refine (implRegion _ _).mono ?_; rintro e w' ⟨rfl, rfl⟩) | (go_at_call 90; refine (implSlot _ _).mono ?_; rintro e w' ⟨rfl, rfl⟩) | (go_at_call 92; refine (implValue _ _).mono ?_; rintro e w' ⟨rfl, rfl⟩))
  all_goals (go_ret; refine ⟨ret_bool ?_, (Below.refl _ _).alloc (Nat.le_refl _) _⟩; simp only [noteOkB, h1, h2, h3, Bool.and_true, Bool.and_false, Bool.false_and, Bool.true_and]; try simp [inB_iff]; try omega)
def rk (r s : Int) : Int := r * 6 + s
theorem rank_any (w : World) (r s : Int) (h1 : inB 0 5 r = true) (h2 : inB 0 5 s = true) : Calls Try.prog 122 #[.agg #[.int .i64 r, .int .i64 s]] w fun e w' => e = .returned (.int .i64 (rk r s)) ∧ Below w.heap.size w w' := by
  rw [inB_iff] at h1 h2
  have e1 : IntKind.i64.wrap (r * 6) = r * 6 := by simp [IntKind.wrap, IntKind.bits, IntKind.signed]; omega
  have e2 : IntKind.i64.wrap (r * 6 + s) = r * 6 + s := by simp [IntKind.wrap, IntKind.bits, IntKind.signed]; omega
  go_enter Try.func122, Try.ntmps122
  go_wp2
  go_ret
  exact ⟨by simp [rk], (Below.refl _ _).alloc (Nat.le_refl _) _⟩
theorem less_rk {r s q t : Int} (h1 : inB 0 5 s = true) (h2 : inB 0 5 t = true) : lessB r s q t = decide (rk r s < rk q t) := by
  rw [inB_iff] at h1 h2
  have hk : ∀ a b, rk a b = a * 6 + b := fun _ _ => rfl
  have hd : (r < q ∨ r = q ∧ s < t) ↔ rk r s < rk q t := by
    rw [hk, hk]
    constructor
    · rintro (h | ⟨h, h'⟩) <;> omega
    · intro h
      by_cases hr : r < q
      · exact .inl hr
      · exact .inr ⟨by omega, by omega⟩
  rw [Bool.eq_iff_iff]
  simp [lessB, hd]
set_option maxHeartbeats 1000000 in
theorem noCell_any (w : World) (s : N5) : Calls Try.prog 42 #[.agg #[.int .i64 s.region, .int .i64 s.slot, .int .i64 s.version, .int .i64 s.value, .bool s.used]] w fun e w' => e = .returned (.agg #[.int .i64 s.region, .int .i64 s.slot]) ∧ Below w.heap.size w w' := by
  obtain ⟨f0, f1, f2, f3, f4⟩ := s
  go_enter Try.func42, Try.ntmps42
  go_wp2
  refine bodyPost_ret (v := .agg #[.int .i64 f0, .int .i64 f1]) (by simp [results, Try.results42, go_sem]) rfl ⟨rfl, ?_⟩
  exact ((Below.refl _ _).alloc (Nat.le_refl _) _).alloc (by simp) _
set_option maxHeartbeats 1000000 in
theorem noRank_any (w : World) (s : N5) (h1 : inB 0 5 s.region = true) (h2 : inB 0 5 s.slot = true) : Calls Try.prog 106 #[.agg #[.int .i64 s.region, .int .i64 s.slot, .int .i64 s.version, .int .i64 s.value, .bool s.used]] w fun e w' => e = .returned (.int .i64 (rk s.region s.slot)) ∧ Below w.heap.size w w' := by
  have b0 : Below w.heap.size w (w.alloc (.cells #[.int .i64 s.region, .int .i64 s.slot, .int .i64 s.version, .int .i64 s.value, .bool s.used] 29)) := (Below.refl _ _).alloc (Nat.le_refl _) _
  have c1 := noCell_any (w.alloc (.cells #[.int .i64 s.region, .int .i64 s.slot, .int .i64 s.version, .int .i64 s.value, .bool s.used] 29)) s
  have hm : ∀ w : World, (method 247 29 (.agg #[.int .i64 s.region, .int .i64 s.slot, .int .i64 s.version, .int .i64 s.value, .bool s.used]) "loop.example/g00153/impl.cell").run Try.prog w = .ok (42, .agg #[.int .i64 s.region, .int .i64 s.slot, .int .i64 s.version, .int .i64 s.value, .bool s.used]) w := fun _ => by kernel_rfl
  go_enter Try.func106, Try.ntmps106
  go_wp2_with (first | (go_at_call 42; refine c1.mono ?_; rintro e w1 ⟨rfl, b1⟩) | (go_at_call 122; refine (rank_any _ _ _ h1 h2).mono ?_; rintro e w2 ⟨rfl, b2⟩))
  go_ret
  exact ⟨rfl, b0.trans ((b1.trans (b2.mono b1.size)).mono b0.size)⟩
set_option maxHeartbeats 1000000 in
theorem seCell_any (w : World) (s : S5) : Calls Try.prog 57 #[.agg #[.int .i64 s.region, .int .i64 s.slot, .int .i64 s.value, .bool s.used, .int .i64 s.version]] w fun e w' => e = .returned (.agg #[.int .i64 s.region, .int .i64 s.slot]) ∧ Below w.heap.size w w' := by
  obtain ⟨f0, f1, f2, f3, f4⟩ := s
  go_enter Try.func57, Try.ntmps57
  go_wp2
  refine bodyPost_ret (v := .agg #[.int .i64 f0, .int .i64 f1]) (by simp [results, Try.results57, go_sem]) rfl ⟨rfl, ?_⟩
  exact ((Below.refl _ _).alloc (Nat.le_refl _) _).alloc (by simp) _
set_option maxHeartbeats 1000000 in
theorem seRank_any (w : World) (s : S5) (h1 : inB 0 5 s.region = true) (h2 : inB 0 5 s.slot = true) : Calls Try.prog 110 #[.agg #[.int .i64 s.region, .int .i64 s.slot, .int .i64 s.value, .bool s.used, .int .i64 s.version]] w fun e w' => e = .returned (.int .i64 (rk s.region s.slot)) ∧ Below w.heap.size w w' := by
  have b0 : Below w.heap.size w (w.alloc (.cells #[.int .i64 s.region, .int .i64 s.slot, .int .i64 s.value, .bool s.used, .int .i64 s.version] 36)) := (Below.refl _ _).alloc (Nat.le_refl _) _
  have c1 := seCell_any (w.alloc (.cells #[.int .i64 s.region, .int .i64 s.slot, .int .i64 s.value, .bool s.used, .int .i64 s.version] 36)) s
  have hm : ∀ w : World, (method 247 36 (.agg #[.int .i64 s.region, .int .i64 s.slot, .int .i64 s.value, .bool s.used, .int .i64 s.version]) "loop.example/g00153/impl.cell").run Try.prog w = .ok (57, .agg #[.int .i64 s.region, .int .i64 s.slot, .int .i64 s.value, .bool s.used, .int .i64 s.version]) w := fun _ => by kernel_rfl
  go_enter Try.func110, Try.ntmps110
  go_wp2_with (first | (go_at_call 57; refine c1.mono ?_; rintro e w1 ⟨rfl, b1⟩) | (go_at_call 122; refine (rank_any _ _ _ h1 h2).mono ?_; rintro e w2 ⟨rfl, b2⟩))
  go_ret
  exact ⟨rfl, b0.trans ((b1.trans (b2.mono b1.size)).mono b0.size)⟩
end Go.Proofs.Ytiidlcjjaglkdaa
namespace Go.Proofs.Ytiidlcjjaglkdaa
open Go.RowKit
def mkT (t : T7) (k : Int) : T7 := ⟨t.id, t.home, t.phase, t.count, mkNotes k t.reads.length, mkSets (k + 5 * (t.reads.length : Int)) t.sets.length, t.stamp⟩
def endT (t : T7) (k : Int) : Int := k + 5 * (t.reads.length : Int) + 5 * (t.sets.length : Int)
def TAns (w : World) (N : T7) (ok : Bool) (e : Ending) (w' : World) : Prop :=
  ∃ (a : Option Addr) (c : Nat) (h : Option Addr) (d : Nat) (PR PS : Nat → Prop), e = .returned (.tuple #[.agg #[.int .i64 N.id, .int .i64 N.home, .int .i64 N.phase, .int .i64 N.count, .slice a N.reads.length c, .slice h N.sets.length d, .int .i64 N.stamp], .bool ok]) ∧ OT w' w.heap.size ⟨a, c, h, d⟩ N PR PS ∧ Below w.heap.size w w'
def noT : T7 := ⟨0, 0, 0, 0, [], [], 0⟩
theorem OT.none {w : World} {B : Nat} {N : T7} (h1 : N.reads = []) (h2 : N.sets = []) : OT w B ⟨none, 0, none, 0⟩ N (fun _ => False) (fun _ => False) := ⟨.inl h1, .inl h2, fun _ h => h.elim, fun _ h => h.elim, fun _ h => h.elim⟩
theorem TAns.zero {w w' : World} (hb : Below w.heap.size w w') : TAns w noT false (.returned (.tuple #[.agg #[.int .i64 0, .int .i64 0, .int .i64 0, .int .i64 0, .slice none 0 0, .slice none 0 0, .int .i64 0], .bool false])) w' :=
  ⟨none, 0, none, 0, fun _ => False, fun _ => False, rfl, OT.none rfl rfl, hb⟩
def newT (i h : Int) : T7 := if inB 1 1000000 i && inB 0 7 h then ⟨i, h, 1, 0, [], [], 0⟩ else noT
def newB (i h : Int) : Bool := inB 1 1000000 i && inB 0 7 h
structure TS (t : T7) : Prop where
  r : t.reads.length ≤ 1048576
  s : t.sets.length ≤ 1048576
theorem row_low {W : World} {base base' : Nat} {T : TypeId} {sz : Nat} {v : Value} {n : Nat} {xs : List Value} (h : W.ownsRow base T sz v n xs) (hb : ∀ q, v.ownBlock = some q → base' ≤ q) : W.ownsRow base' T sz v n xs := by
  refine ⟨h.1, h.2.imp id ?_⟩
  rintro ⟨q, cap, cur, rfl, l, hg, r⟩
  exact ⟨q, cap, cur, rfl, hb q rfl, hg, r⟩
structure TR (w : World) (B : Nat) (v : TV) (t : T7) (PR PS : Nat → Prop) : Prop where
  ot : OT w B v t PR PS
  cr : RowN w B (.slice v.ar t.reads.length v.cr) t.reads
  cs : RowS w B (.slice v.ah t.sets.length v.ch) t.sets
  pr : ∀ q, (Value.slice v.ar t.reads.length v.cr).ownBlock = some q → PR q
  ps : ∀ q, (Value.slice v.ah t.sets.length v.ch).ownBlock = some q → PS q
theorem TR.of {w : World} {B : Nat} {v : TV} {t : T7} {PR PS : Nat → Prop} (h : TR w B v t PR PS) {q : Nat} (hq : OfT PR PS q) : B ≤ q ∧ q < w.heap.size := h.ot.of hq
theorem TR.sl {w : World} {B : Nat} {v : TV} {t : T7} {PR PS : Nat → Prop} (h : TR w B v t PR PS) : SlT w v t := h.ot.sl
theorem TR.keep {w w' : World} {B : Nat} {v : TV} {t : T7} {PR PS : Nat → Prop} (h : TR w B v t PR PS) (hs : w.heap.size ≤ w'.heap.size) (hk : ∀ q, q < w.heap.size → OfT PR PS q → w'.heap[q]? = w.heap[q]?) : TR w' B v t PR PS :=
  ⟨h.ot.keep hs hk, h.cr.keep (fun q _ hl e => hk q hl (.inl (h.pr q e))), h.cs.keep (fun q _ hl e => hk q hl (.inr (h.ps q e))), h.pr, h.ps⟩
theorem TR.later {w w' : World} {B : Nat} {v : TV} {t : T7} {PR PS : Nat → Prop} (h : TR w B v t PR PS) (hb : Below w.heap.size w w') : TR w' B v t PR PS := h.keep hb.size (fun q hq _ => hb.block q hq)
theorem TR.low {w : World} {B B' : Nat} {v : TV} {t : T7} {PR PS : Nat → Prop} (h : TR w B v t PR PS) (hb : ∀ q, OfT PR PS q → B' ≤ q) : TR w B' v t PR PS :=
  ⟨⟨h.ot.r, h.ot.s, h.ot.rs, fun q hq => ⟨hb q (.inl hq), (h.ot.rB q hq).2⟩, fun q hq => ⟨hb q (.inr hq), (h.ot.sB q hq).2⟩⟩, row_low h.cr (fun q e => hb q (.inl (h.pr q e))), row_low h.cs (fun q e => hb q (.inr (h.ps q e))), h.pr, h.ps⟩
theorem TR.none {w : World} {B : Nat} {N : T7} (h1 : N.reads = []) (h2 : N.sets = []) : TR w B ⟨none, 0, none, 0⟩ N (fun _ => False) (fun _ => False) :=
  ⟨OT.none h1 h2, by rw [h1]; exact RowN.nil _ _, by rw [h2]; exact RowS.nil _ _, (fun _ e => by cases e), (fun _ e => by cases e)⟩
def TAnsR (w : World) (N : T7) (ok : Bool) (e : Ending) (w' : World) : Prop :=
  ∃ (a : Option Addr) (c : Nat) (h : Option Addr) (d : Nat) (PR PS : Nat → Prop), e = .returned (.tuple #[.agg #[.int .i64 N.id, .int .i64 N.home, .int .i64 N.phase, .int .i64 N.count, .slice a N.reads.length c, .slice h N.sets.length d, .int .i64 N.stamp], .bool ok]) ∧ TR w' w.heap.size ⟨a, c, h, d⟩ N PR PS ∧ Below w.heap.size w w'
theorem TAnsR.zero {w w' : World} (hb : Below w.heap.size w w') : TAnsR w noT false (.returned (.tuple #[.agg #[.int .i64 0, .int .i64 0, .int .i64 0, .int .i64 0, .slice none 0 0, .slice none 0 0, .int .i64 0], .bool false])) w' :=
  ⟨none, 0, none, 0, fun _ => False, fun _ => False, rfl, TR.none rfl rfl, hb⟩
def OAnsR (w : World) (t : T7) (e : Ending) (w' : World) : Prop := ∃ (a4 : Option Addr) (c4 : Nat) (h4 : Option Addr) (d4 : Nat) (PR PS : Nat → Prop), e = .returned ((TV.mk a4 c4 h4 d4).val t) ∧ TR w' w.heap.size ⟨a4, c4, h4, d4⟩ t PR PS ∧ Below w.heap.size w w'
end Go.Proofs.Ytiidlcjjaglkdaa
namespace Go.Proofs.Ytiidlcjjaglkdaa
open Go.RowKit
open Go.Sort (grow)
theorem noOk_in {s : N5} (h : noteOkB s = true) : inB 0 5 s.region = true ∧ inB 0 5 s.slot = true := by simp only [noteOkB, Bool.and_eq_true] at h; exact ⟨h.1.1.1, h.1.1.2⟩
set_option maxHeartbeats 1000000 in
theorem noWrong_any (w : World) (s : N5) (g : Nat) (hg : w.cell? ⟨g, 0, none⟩ = some (.func (.func 38) #[] #[])) (hl : g < w.heap.size) : Calls Try.prog 103 #[.agg #[.int .i64 s.region, .int .i64 s.slot, .int .i64 s.version, .int .i64 s.value, .bool s.used], .pointer (some ⟨g, 0, none⟩)] w fun e w' => e = .returned (.bool (!noteOkB s)) ∧ Below w.heap.size w w' := by
  obtain ⟨W, hW⟩ : ∃ W, W = w.alloc (.cells #[.int .i64 s.region, .int .i64 s.slot, .int .i64 s.version, .int .i64 s.value, .bool s.used] 29) := ⟨_, rfl⟩
  have b0 : Below w.heap.size w W := by rw [hW]; exact (Below.refl _ _).alloc (Nat.le_refl _) _
  have d := (b0.cell (p := ⟨g, 0, none⟩) hl).trans hg
  have c1 := implNoteOk W s
  have KB : Hid (Below w.heap.size w W) := b0
  clear hg hl b0
  rw [hW] at d
  go_enter Try.func103, Try.ntmps103
  go_wp2_with fail
  rw [← hW]
  refine c1.mono ?_
  clear c1 hW d
  rintro e w1 ⟨rfl, b1⟩
  go_wp2
  go_ret
  exact ⟨rfl, KB.out.trans (b1.mono KB.out.size)⟩
set_option maxHeartbeats 2000000 in
theorem noIdx (w : World) (a : Option Addr) (cap : Nat) (xs : List N5) (g : Nat) (hn : xs.length ≤ maxLen) (hs : SlNo w w.heap.size a xs.length xs) (hg : w.cell? ⟨g, 0, none⟩ = some (.func (.func 38) #[] #[])) (hgl : g < w.heap.size) :
    Calls Try.prog 121 #[.slice a xs.length cap, .func (.func 103) #[] #[.pointer (some ⟨g, 0, none⟩)]] w fun e w' => (∃ i : Int, e = .returned (.int .i64 i) ∧ FirstAt (fun i => !noteOkB (atNo xs i)) xs.length i) ∧ Below w.heap.size w w' := by
  unfold maxLen at hn
  obtain ⟨hx, hs⟩ := hs
  clear hx
  obtain ⟨f, hf⟩ : ∃ f : Nat → Bool, f = fun i => !noteOkB (atNo xs i) := ⟨_, rfl⟩
  have HF : Hid (∀ (X : World) (i : Nat), Below w.heap.size w X → Calls Try.prog 103 #[.agg #[.int .i64 (atNo xs i).region, .int .i64 (atNo xs i).slot, .int .i64 (atNo xs i).version, .int .i64 (atNo xs i).value, .bool (atNo xs i).used], .pointer (some ⟨g, 0, none⟩)] X fun e w' => e = .returned (.bool (f i)) ∧ Below X.heap.size X w') := fun X i hX => by
    rw [hf]; exact noWrong_any X (atNo xs i) g ((hX.cell (p := ⟨g, 0, none⟩) hgl).trans hg) (Nat.lt_of_lt_of_le hgl hX.size)
  rw [← hf]
  clear hf hg
  obtain ⟨n, hN⟩ : ∃ n, n = xs.length := ⟨_, rfl⟩
  rw [← hN] at hn hs ⊢
  have HN : Hid (n = xs.length) := hN
  clear hN
  go_enter Try.func121, Try.ntmps121
  go_wp2
  go_loopw [8] (fun v wr => ∃ j : Nat, j ≤ n ∧ v = .int .i64 j ∧ Below w.heap.size w wr ∧ ∀ i, i < j → f i = false) (fun v _ => n - (intOf v).toNat)
  case atStart => exact ⟨0, Nat.zero_le _, rfl, Below.refl _ _, fun i h => absurd h (by omega)⟩
  case round =>
    obtain ⟨j, hj, rfl, hbl, hall⟩ := hrel
    by_cases hlt : j < n
    · rcases hs with hs | ⟨b, off, rfl, hb, h1⟩
      · omega
      · obtain ⟨c0, c1, c2, c3, c4⟩ := (h1.below hbl hb) j _ (atNo_of (by rw [← HN.out]; exact hlt))
        have KA : Hid ((∀ i, i < j → f i = false) ∧ Below w.heap.size w wr) := ⟨hall, hbl⟩
        have hw := HF.out wr j hbl
        clear h1 hall hbl
        cases hp : f j with
        | true =>
          rw [hp] at hw
          go_wp2_with fail
          refine hw.mono ?_
          clear hw
          rintro e w1 ⟨rfl, b1⟩
          go_wp2
          go_ret
          exact ⟨⟨_, rfl, .inr ⟨j, rfl, hlt, hp, KA.out.1⟩⟩, KA.out.2.trans (b1.mono KA.out.2.size)⟩
        | false =>
          rw [hp] at hw
          go_wp2_with fail
          refine hw.mono ?_
          clear hw
          rintro e w1 ⟨rfl, b1⟩
          go_wp2
          exact ⟨⟨j + 1, by omega, by simp, KA.out.2.trans (b1.mono KA.out.2.size), fun i hi => by
            by_cases e : i = j
            · rw [e]; exact hp
            · exact KA.out.1 i (by omega)⟩, by simp [intOf]; omega⟩
    · have : j = n := by omega
      subst this
      have hd : decide ((j : Int) < (j : Int)) = false := by simp
      have KA : Hid (∀ i, i < j → f i = false) := hall
      clear hs hall
      go_wp2
      go_ret
      exact ⟨⟨_, rfl, .inl ⟨rfl, KA.out⟩⟩, hbl⟩
set_option maxHeartbeats 1000000 in
theorem noHas (w : World) (a : Option Addr) (cap : Nat) (xs : List N5) (g : Nat) (hn : xs.length ≤ maxLen) (hs : SlNo w w.heap.size a xs.length xs) (hg : w.cell? ⟨g, 0, none⟩ = some (.func (.func 38) #[] #[])) (hgl : g < w.heap.size) :
    Calls Try.prog 104 #[.slice a xs.length cap, .func (.func 103) #[] #[.pointer (some ⟨g, 0, none⟩)]] w fun e w' => e = .returned (.bool (!((List.range xs.length).all fun i => noteOkB (atNo xs i)))) ∧ Below w.heap.size w w' := by
  have c1 := noIdx w a cap xs g hn hs hg hgl
  have HE : Hid (∀ i : Int, FirstAt (fun i => !noteOkB (atNo xs i)) xs.length i → decide (0 ≤ i) = !((List.range xs.length).all fun i => noteOkB (atNo xs i))) := fun i h => by
    rw [first_has h]; simp
  clear hn hs hg hgl
  go_enter Try.func104, Try.ntmps104
  go_wp2_with fail
  refine c1.mono ?_
  clear c1
  rintro e w1 ⟨⟨i, rfl, hi⟩, b1⟩
  have KE : Hid (decide (0 ≤ i) = !((List.range xs.length).all fun i => noteOkB (atNo xs i))) := HE.out i hi
  clear hi HE
  go_wp2
  go_ret
  exact ⟨by rw [← KE.out]; rfl, b1⟩
def noUp (xs : List N5) (i : Nat) : Bool := decide (i = 0) || decide (rk (atNo xs (i - 1)).region (atNo xs (i - 1)).slot < rk (atNo xs i).region (atNo xs i).slot)
set_option maxHeartbeats 4000000 in
theorem noRises_any (w : World) (a : Option Addr) (cap : Nat) (xs : List N5) (hn : xs.length ≤ maxLen) (hs : SlNo w w.heap.size a xs.length xs) (hok : ∀ i, i < xs.length → noteOkB (atNo xs i) = true) :
    Calls Try.prog 105 #[.slice a xs.length cap, .func (.func 106) #[] #[]] w fun e w' => e = .returned (.bool ((List.range xs.length).all (noUp xs))) ∧ Below w.heap.size w w' := by
  unfold maxLen at hn
  obtain ⟨_, hs⟩ := hs
  have HO := hidOf hok
  clear hok
  obtain ⟨n, hN⟩ : ∃ n, n = xs.length := ⟨_, rfl⟩
  have HN : Hid (n = xs.length) := hN
  rw [← hN] at hn hs ⊢
  clear hN
  go_enter Try.func105, Try.ntmps105
  go_wp2
  go_loopw [5] (fun v wr => ∃ j : Nat, (j ≤ n ∨ n = 0 ∧ j = 1) ∧ 0 < j ∧ v = .int .i64 j ∧ Below w.heap.size w wr ∧ (List.range j).all (noUp xs) = true) (fun v _ => n - (intOf v).toNat)
  case atStart => exact ⟨1, by omega, by omega, rfl, Below.refl _ _, by simp [noUp]⟩
  case round =>
    obtain ⟨j, hj, hj0, rfl, hbl, hall⟩ := hrel
    by_cases hlt : j < n
    · rcases hs with hs | ⟨b, off, rfl, hb, h1⟩
      · omega
      obtain ⟨i, rfl⟩ : ∃ i, j = i + 1 := ⟨j - 1, by omega⟩
      obtain ⟨t0, t1, t2, t3, t4⟩ := (h1.below hbl hb) (i + 1) _ (atNo_of (by rw [← HN.out]; exact hlt))
      obtain ⟨u0, u1, u2, u3, u4⟩ := (h1.below hbl hb) i _ (atNo_of (by rw [← HN.out]; omega))
      have hbW : b < wr.heap.size := Nat.lt_of_lt_of_le hb hbl.size
      have lift : ∀ {o : Nat} {u : Value}, wr.cell? ⟨b, o, none⟩ = some u → ∀ d os, (grow (redrawn wr d) os).cell? ⟨b, o, none⟩ = some u := fun {o u} h d os => ((below_regrown wr d os).cell (p := ⟨b, o, none⟩) hbW).trans h
      have x0 := lift t0
      have x1 := lift t1
      have x2 := lift t2
      have x3 := lift t3
      have x4 := lift t4
      have y0 := lift u0
      have y1 := lift u1
      have y2 := lift u2
      have y3 := lift u3
      have y4 := lift u4
      have k1 := noOk_in (HO.out (i + 1) (by rw [← HN.out]; exact hlt))
      have k2 := noOk_in (HO.out i (by rw [← HN.out]; omega))
      have cA : ∀ d os, Calls Try.prog 106 #[.agg #[.int .i64 (atNo xs (i + 1)).region, .int .i64 (atNo xs (i + 1)).slot, .int .i64 (atNo xs (i + 1)).version, .int .i64 (atNo xs (i + 1)).value, .bool (atNo xs (i + 1)).used]] (grow (redrawn wr d) os) fun e w'' => e = .returned (.int .i64 (rk (atNo xs (i + 1)).region (atNo xs (i + 1)).slot)) ∧ ∃ p : Regrown, w'' = grow (redrawn wr p.d) p.os := fun d os => Calls.regrown_of (noRank_any _ _ k1.1 k1.2)
      have cB : ∀ d os, Calls Try.prog 106 #[.agg #[.int .i64 (atNo xs i).region, .int .i64 (atNo xs i).slot, .int .i64 (atNo xs i).version, .int .i64 (atNo xs i).value, .bool (atNo xs i).used]] (grow (redrawn wr d) os) fun e w'' => e = .returned (.int .i64 (rk (atNo xs i).region (atNo xs i).slot)) ∧ ∃ p : Regrown, w'' = grow (redrawn wr p.d) p.os := fun d os => Calls.regrown_of (noRank_any _ _ k2.1 k2.2)
      have K : Hid (Below w.heap.size w wr ∧ (List.range (i + 1)).all (noUp xs) = true) := ⟨hbl, hall⟩
      have hi : (i : Int) < (n : Int) := by omega
      clear lift t0 t1 t2 t3 t4 u0 u1 u2 u3 u4 k1 k2 h1 hbl hall
      have U : Hid (noUp xs (i + 1) = decide (rk (atNo xs i).region (atNo xs i).slot < rk (atNo xs (i + 1)).region (atNo xs (i + 1)).slot)) := by unfold Hid; simp [noUp]
      have HL : Hid (i + 1 < n) := hlt
      have hi1 : ((i + 1 : Nat) : Int) < (n : Int) := by omega
      clear hlt
      generalize rk (atNo xs (i + 1)).region (atNo xs (i + 1)).slot = x at *
      generalize rk (atNo xs i).region (atNo xs i).slot = y at *
      generalize (atNo xs (i + 1)).region = a0 at *
      generalize (atNo xs (i + 1)).slot = a1 at *
      generalize (atNo xs (i + 1)).value = a2 at *
      generalize (atNo xs (i + 1)).used = a3 at *
      generalize (atNo xs (i + 1)).version = a4 at *
      generalize (atNo xs i).region = e0 at *
      generalize (atNo xs i).slot = e1 at *
      generalize (atNo xs i).value = e2 at *
      generalize (atNo xs i).used = e3 at *
      generalize (atNo xs i).version = e4 at *
      by_cases hq : x ≤ y
      · have KU : Hid (noUp xs (i + 1) = false) := by unfold Hid; rw [U.out]; simp; omega
        have dq : decide (x ≤ y) = true := by simpa using hq
        clear hq U
        go_wp2_with fail
        refine wp_region_quiet_below (by kernel_rfl) (by kernel_rfl) ?_
        repeat (go_big_quiet_step (first | (go_at_call_of 106 (Value.agg #[.int .i64 a0, .int .i64 a1, .int .i64 a4, .int .i64 a2, .bool a3]); exact cA _ _) | (go_at_call_of 106 (Value.agg #[.int .i64 e0, .int .i64 e1, .int .i64 e4, .int .i64 e2, .bool e3]); exact cB _ _)))
        refine wpQuiet_nil ?_
        intro _ hw'
        obtain ⟨⟨dq', osq⟩, hw''⟩ := hw'
        subst hw''
        have bq := below_regrown wr dq' osq
        go_wp2
        go_ret
        exact ⟨by rw [alls_fail HL.out KU.out]; rfl, K.out.1.trans (bq.mono K.out.1.size)⟩
      · have KU : Hid (noUp xs (i + 1) = true) := by unfold Hid; rw [U.out]; simp; omega
        have dq : decide (x ≤ y) = false := by simpa using hq
        clear hq U
        go_wp2_with fail
        refine wp_region_quiet_below (by kernel_rfl) (by kernel_rfl) ?_
        repeat (go_big_quiet_step (first | (go_at_call_of 106 (Value.agg #[.int .i64 a0, .int .i64 a1, .int .i64 a4, .int .i64 a2, .bool a3]); exact cA _ _) | (go_at_call_of 106 (Value.agg #[.int .i64 e0, .int .i64 e1, .int .i64 e4, .int .i64 e2, .bool e3]); exact cB _ _)))
        refine wpQuiet_nil ?_
        intro _ hw'
        obtain ⟨⟨dq', osq⟩, hw''⟩ := hw'
        subst hw''
        have bq := below_regrown wr dq' osq
        go_wp2
        exact ⟨⟨i + 1 + 1, .inl HL.out, by omega, by simp, K.out.1.trans (bq.mono K.out.1.size), alls_step K.out.2 KU.out⟩, by have := HL.out; simp [intOf]; omega⟩
    · have hd : decide ((j : Int) < (n : Int)) = false := by simp; omega
      have KA : Hid ((List.range n).all (noUp xs) = true) := by
        unfold Hid
        rw [List.all_eq_true] at hall ⊢
        exact fun x hx => hall x (List.mem_range.2 (by have := List.mem_range.1 hx; omega))
      clear hs hall
      go_wp2
      go_ret
      exact ⟨by rw [KA.out]; rfl, hbl⟩
theorem noAt_all {xs : List N5} : (List.range xs.length).all (noAt xs) = ((List.range xs.length).all (fun i => noteOkB (atNo xs i)) && (List.range xs.length).all (noUp xs)) := by
  rw [Bool.eq_iff_iff, Bool.and_eq_true, List.all_eq_true, List.all_eq_true, List.all_eq_true]
  constructor
  · intro h
    have h1 : ∀ i, i < xs.length → noteOkB (atNo xs i) = true := fun i hi => by
      have := h i (List.mem_range.2 hi)
      simp only [noAt, Bool.and_eq_true] at this
      exact this.1
    refine ⟨fun i hi => h1 i (List.mem_range.1 hi), fun i hi => ?_⟩
    have hi' := List.mem_range.1 hi
    have := h i hi
    simp only [noAt, Bool.and_eq_true, Bool.or_eq_true, decide_eq_true_eq] at this
    simp only [noUp, Bool.or_eq_true, decide_eq_true_eq]
    by_cases e : i = 0
    · exact .inl e
    · rcases this.2 with e' | e'
      · exact .inl e'
      · rw [less_rk (noOk_in (h1 (i - 1) (by omega))).2 (noOk_in (h1 i hi')).2] at e'
        exact .inr (by simpa using e')
  · rintro ⟨h1, h2⟩ i hi
    have hi' := List.mem_range.1 hi
    have g1 := h1 i hi
    have g2 := h2 i hi
    simp only [noUp, Bool.or_eq_true, decide_eq_true_eq] at g2
    simp only [noAt, Bool.and_eq_true, Bool.or_eq_true, decide_eq_true_eq]
    refine ⟨g1, ?_⟩
    by_cases e : i = 0
    · exact .inl e
    · rcases g2 with e' | e'
      · exact .inl e'
      · refine .inr ?_
        rw [less_rk (noOk_in (h1 (i - 1) (List.mem_range.2 (by omega)))).2 (noOk_in g1).2]
        simpa using e'
set_option maxHeartbeats 2000000 in
theorem noEach_any (w : World) (a : Option Addr) (cap : Nat) (xs : List N5) (hn : xs.length ≤ maxLen) (hs : SlNo w w.heap.size a xs.length xs) :
    Calls Try.prog 68 #[.slice a xs.length cap, .func (.func 38) #[] #[]] w fun e w' => e = .returned (.bool (decide (xs.length ≤ 12) && (List.range xs.length).all (noAt xs))) ∧ Below w.heap.size w w' := by
  obtain ⟨W, hW⟩ : ∃ W, W = w.alloc (.cells #[.func (.func 38) #[] #[]] 66) := ⟨_, rfl⟩
  have b0 : Below w.heap.size w W := by rw [hW]; exact (Below.refl _ _).alloc (Nat.le_refl _) _
  have g0 : W.cell? ⟨w.heap.size, 0, none⟩ = some (.func (.func 38) #[] #[]) := by rw [hW]; go_simp
  have s0 : w.heap.size < W.heap.size := by rw [hW]; simp
  have c1 := noHas W a cap xs w.heap.size hn (hs.later b0) g0 s0
  have H : Hid (SlNo w w.heap.size a xs.length xs ∧ xs.length ≤ maxLen ∧ Below w.heap.size w W) := ⟨hs, hn, b0⟩
  have HA := hidOf (@noAt_all xs)
  clear hs b0 g0 s0
  unfold maxLen at hn
  by_cases h12 : xs.length ≤ 12
  case neg =>
    have d12 : decide ((xs.length : Int) ≤ 12) = false := by simp; omega
    have KN : Hid (decide (xs.length ≤ 12) = false) := by unfold Hid; simp; omega
    rw [hW] at H
    clear c1 hW h12
    go_enter Try.func68, Try.ntmps68
    go_wp2
    go_ret
    exact ⟨by rw [KN.out]; rfl, H.out.2.2⟩
  have d12 : decide ((xs.length : Int) ≤ 12) = true := by simp; omega
  have KN : Hid (decide (xs.length ≤ 12) = true) := by unfold Hid; simp; omega
  cases hal : (List.range xs.length).all (fun i => noteOkB (atNo xs i)) with
  | false =>
    rw [hal] at c1
    clear h12
    go_enter Try.func68, Try.ntmps68
    go_wp2_with fail
    rw [← hW]
    clear hW
    refine c1.mono ?_
    clear c1
    rintro e w1 ⟨rfl, b1⟩
    go_wp2
    go_ret
    exact ⟨by rw [KN.out, HA.out, hal]; rfl, H.out.2.2.trans (b1.mono H.out.2.2.size)⟩
  | true =>
    rw [hal] at c1
    have HO : Hid (∀ i, i < xs.length → noteOkB (atNo xs i) = true) := fun i hi => List.all_eq_true.1 hal i (List.mem_range.2 hi)
    clear h12
    go_enter Try.func68, Try.ntmps68
    go_wp2_with fail
    rw [← hW]
    clear hW
    refine c1.mono ?_
    clear c1
    rintro e w1 ⟨rfl, b1⟩
    have bw : Below w.heap.size w w1 := H.out.2.2.trans (b1.mono H.out.2.2.size)
    have c2 := noRises_any w1 a cap xs H.out.2.1 (H.out.1.later bw) HO.out
    have KB : Hid (Below w.heap.size w w1) := bw
    clear b1 bw
    go_wp2_with fail
    refine c2.mono ?_
    clear c2
    rintro e w2 ⟨rfl, b2⟩
    go_wp2
    go_ret
    exact ⟨by rw [KN.out, HA.out, hal]; rfl, KB.out.trans (b2.mono KB.out.size)⟩
theorem seOk_in {s : S5} (h : setOkB s = true) : inB 0 5 s.region = true ∧ inB 0 5 s.slot = true := by simp only [setOkB, Bool.and_eq_true] at h; exact ⟨h.1.1.1, h.1.1.2⟩
set_option maxHeartbeats 1000000 in
theorem seWrong_any (w : World) (s : S5) (g : Nat) (hg : w.cell? ⟨g, 0, none⟩ = some (.func (.func 54) #[] #[])) (hl : g < w.heap.size) : Calls Try.prog 107 #[.agg #[.int .i64 s.region, .int .i64 s.slot, .int .i64 s.value, .bool s.used, .int .i64 s.version], .pointer (some ⟨g, 0, none⟩)] w fun e w' => e = .returned (.bool (!setOkB s)) ∧ Below w.heap.size w w' := by
  obtain ⟨W, hW⟩ : ∃ W, W = w.alloc (.cells #[.int .i64 s.region, .int .i64 s.slot, .int .i64 s.value, .bool s.used, .int .i64 s.version] 36) := ⟨_, rfl⟩
  have b0 : Below w.heap.size w W := by rw [hW]; exact (Below.refl _ _).alloc (Nat.le_refl _) _
  have d := (b0.cell (p := ⟨g, 0, none⟩) hl).trans hg
  have c1 := implSetOk W s
  have KB : Hid (Below w.heap.size w W) := b0
  clear hg hl b0
  rw [hW] at d
  go_enter Try.func107, Try.ntmps107
  go_wp2_with fail
  rw [← hW]
  refine c1.mono ?_
  clear c1 hW d
  rintro e w1 ⟨rfl, b1⟩
  go_wp2
  go_ret
  exact ⟨rfl, KB.out.trans (b1.mono KB.out.size)⟩
set_option maxHeartbeats 2000000 in
theorem seIdx (w : World) (a : Option Addr) (cap : Nat) (xs : List S5) (g : Nat) (hn : xs.length ≤ maxLen) (hs : Sl w w.heap.size a xs.length xs) (hg : w.cell? ⟨g, 0, none⟩ = some (.func (.func 54) #[] #[])) (hgl : g < w.heap.size) :
    Calls Try.prog 123 #[.slice a xs.length cap, .func (.func 107) #[] #[.pointer (some ⟨g, 0, none⟩)]] w fun e w' => (∃ i : Int, e = .returned (.int .i64 i) ∧ FirstAt (fun i => !setOkB (atSe xs i)) xs.length i) ∧ Below w.heap.size w w' := by
  unfold maxLen at hn
  obtain ⟨hx, hs⟩ := hs
  clear hx
  obtain ⟨f, hf⟩ : ∃ f : Nat → Bool, f = fun i => !setOkB (atSe xs i) := ⟨_, rfl⟩
  have HF : Hid (∀ (X : World) (i : Nat), Below w.heap.size w X → Calls Try.prog 107 #[.agg #[.int .i64 (atSe xs i).region, .int .i64 (atSe xs i).slot, .int .i64 (atSe xs i).value, .bool (atSe xs i).used, .int .i64 (atSe xs i).version], .pointer (some ⟨g, 0, none⟩)] X fun e w' => e = .returned (.bool (f i)) ∧ Below X.heap.size X w') := fun X i hX => by
    rw [hf]; exact seWrong_any X (atSe xs i) g ((hX.cell (p := ⟨g, 0, none⟩) hgl).trans hg) (Nat.lt_of_lt_of_le hgl hX.size)
  rw [← hf]
  clear hf hg
  obtain ⟨n, hN⟩ : ∃ n, n = xs.length := ⟨_, rfl⟩
  rw [← hN] at hn hs ⊢
  have HN : Hid (n = xs.length) := hN
  clear hN
  go_enter Try.func123, Try.ntmps123
  go_wp2
  go_loopw [8] (fun v wr => ∃ j : Nat, j ≤ n ∧ v = .int .i64 j ∧ Below w.heap.size w wr ∧ ∀ i, i < j → f i = false) (fun v _ => n - (intOf v).toNat)
  case atStart => exact ⟨0, Nat.zero_le _, rfl, Below.refl _ _, fun i h => absurd h (by omega)⟩
  case round =>
    obtain ⟨j, hj, rfl, hbl, hall⟩ := hrel
    by_cases hlt : j < n
    · rcases hs with hs | ⟨b, off, rfl, hb, h1⟩
      · omega
      · obtain ⟨c0, c1, c2, c3, c4⟩ := (h1.below hbl hb) j _ (atSe_of (by rw [← HN.out]; exact hlt))
        have KA : Hid ((∀ i, i < j → f i = false) ∧ Below w.heap.size w wr) := ⟨hall, hbl⟩
        have hw := HF.out wr j hbl
        clear h1 hall hbl
        cases hp : f j with
        | true =>
          rw [hp] at hw
          go_wp2_with fail
          refine hw.mono ?_
          clear hw
          rintro e w1 ⟨rfl, b1⟩
          go_wp2
          go_ret
          exact ⟨⟨_, rfl, .inr ⟨j, rfl, hlt, hp, KA.out.1⟩⟩, KA.out.2.trans (b1.mono KA.out.2.size)⟩
        | false =>
          rw [hp] at hw
          go_wp2_with fail
          refine hw.mono ?_
          clear hw
          rintro e w1 ⟨rfl, b1⟩
          go_wp2
          exact ⟨⟨j + 1, by omega, by simp, KA.out.2.trans (b1.mono KA.out.2.size), fun i hi => by
            by_cases e : i = j
            · rw [e]; exact hp
            · exact KA.out.1 i (by omega)⟩, by simp [intOf]; omega⟩
    · have : j = n := by omega
      subst this
      have hd : decide ((j : Int) < (j : Int)) = false := by simp
      have KA : Hid (∀ i, i < j → f i = false) := hall
      clear hs hall
      go_wp2
      go_ret
      exact ⟨⟨_, rfl, .inl ⟨rfl, KA.out⟩⟩, hbl⟩
set_option maxHeartbeats 1000000 in
theorem seHas (w : World) (a : Option Addr) (cap : Nat) (xs : List S5) (g : Nat) (hn : xs.length ≤ maxLen) (hs : Sl w w.heap.size a xs.length xs) (hg : w.cell? ⟨g, 0, none⟩ = some (.func (.func 54) #[] #[])) (hgl : g < w.heap.size) :
    Calls Try.prog 108 #[.slice a xs.length cap, .func (.func 107) #[] #[.pointer (some ⟨g, 0, none⟩)]] w fun e w' => e = .returned (.bool (!((List.range xs.length).all fun i => setOkB (atSe xs i)))) ∧ Below w.heap.size w w' := by
  have c1 := seIdx w a cap xs g hn hs hg hgl
  have HE : Hid (∀ i : Int, FirstAt (fun i => !setOkB (atSe xs i)) xs.length i → decide (0 ≤ i) = !((List.range xs.length).all fun i => setOkB (atSe xs i))) := fun i h => by
    rw [first_has h]; simp
  clear hn hs hg hgl
  go_enter Try.func108, Try.ntmps108
  go_wp2_with fail
  refine c1.mono ?_
  clear c1
  rintro e w1 ⟨⟨i, rfl, hi⟩, b1⟩
  have KE : Hid (decide (0 ≤ i) = !((List.range xs.length).all fun i => setOkB (atSe xs i))) := HE.out i hi
  clear hi HE
  go_wp2
  go_ret
  exact ⟨by rw [← KE.out]; rfl, b1⟩
def seUp (xs : List S5) (i : Nat) : Bool := decide (i = 0) || decide (rk (atSe xs (i - 1)).region (atSe xs (i - 1)).slot < rk (atSe xs i).region (atSe xs i).slot)
set_option maxHeartbeats 4000000 in
theorem seRises_any (w : World) (a : Option Addr) (cap : Nat) (xs : List S5) (hn : xs.length ≤ maxLen) (hs : Sl w w.heap.size a xs.length xs) (hok : ∀ i, i < xs.length → setOkB (atSe xs i) = true) :
    Calls Try.prog 109 #[.slice a xs.length cap, .func (.func 110) #[] #[]] w fun e w' => e = .returned (.bool ((List.range xs.length).all (seUp xs))) ∧ Below w.heap.size w w' := by
  unfold maxLen at hn
  obtain ⟨_, hs⟩ := hs
  have HO := hidOf hok
  clear hok
  obtain ⟨n, hN⟩ : ∃ n, n = xs.length := ⟨_, rfl⟩
  have HN : Hid (n = xs.length) := hN
  rw [← hN] at hn hs ⊢
  clear hN
  go_enter Try.func109, Try.ntmps109
  go_wp2
  go_loopw [5] (fun v wr => ∃ j : Nat, (j ≤ n ∨ n = 0 ∧ j = 1) ∧ 0 < j ∧ v = .int .i64 j ∧ Below w.heap.size w wr ∧ (List.range j).all (seUp xs) = true) (fun v _ => n - (intOf v).toNat)
  case atStart => exact ⟨1, by omega, by omega, rfl, Below.refl _ _, by simp [seUp]⟩
  case round =>
    obtain ⟨j, hj, hj0, rfl, hbl, hall⟩ := hrel
    by_cases hlt : j < n
    · rcases hs with hs | ⟨b, off, rfl, hb, h1⟩
      · omega
      obtain ⟨i, rfl⟩ : ∃ i, j = i + 1 := ⟨j - 1, by omega⟩
      obtain ⟨t0, t1, t2, t3, t4⟩ := (h1.below hbl hb) (i + 1) _ (atSe_of (by rw [← HN.out]; exact hlt))
      obtain ⟨u0, u1, u2, u3, u4⟩ := (h1.below hbl hb) i _ (atSe_of (by rw [← HN.out]; omega))
      have hbW : b < wr.heap.size := Nat.lt_of_lt_of_le hb hbl.size
      have lift : ∀ {o : Nat} {u : Value}, wr.cell? ⟨b, o, none⟩ = some u → ∀ d os, (grow (redrawn wr d) os).cell? ⟨b, o, none⟩ = some u := fun {o u} h d os => ((below_regrown wr d os).cell (p := ⟨b, o, none⟩) hbW).trans h
      have x0 := lift t0
      have x1 := lift t1
      have x2 := lift t2
      have x3 := lift t3
      have x4 := lift t4
      have y0 := lift u0
      have y1 := lift u1
      have y2 := lift u2
      have y3 := lift u3
      have y4 := lift u4
      have k1 := seOk_in (HO.out (i + 1) (by rw [← HN.out]; exact hlt))
      have k2 := seOk_in (HO.out i (by rw [← HN.out]; omega))
      have cA : ∀ d os, Calls Try.prog 110 #[.agg #[.int .i64 (atSe xs (i + 1)).region, .int .i64 (atSe xs (i + 1)).slot, .int .i64 (atSe xs (i + 1)).value, .bool (atSe xs (i + 1)).used, .int .i64 (atSe xs (i + 1)).version]] (grow (redrawn wr d) os) fun e w'' => e = .returned (.int .i64 (rk (atSe xs (i + 1)).region (atSe xs (i + 1)).slot)) ∧ ∃ p : Regrown, w'' = grow (redrawn wr p.d) p.os := fun d os => Calls.regrown_of (seRank_any _ _ k1.1 k1.2)
      have cB : ∀ d os, Calls Try.prog 110 #[.agg #[.int .i64 (atSe xs i).region, .int .i64 (atSe xs i).slot, .int .i64 (atSe xs i).value, .bool (atSe xs i).used, .int .i64 (atSe xs i).version]] (grow (redrawn wr d) os) fun e w'' => e = .returned (.int .i64 (rk (atSe xs i).region (atSe xs i).slot)) ∧ ∃ p : Regrown, w'' = grow (redrawn wr p.d) p.os := fun d os => Calls.regrown_of (seRank_any _ _ k2.1 k2.2)
      have K : Hid (Below w.heap.size w wr ∧ (List.range (i + 1)).all (seUp xs) = true) := ⟨hbl, hall⟩
      have hi : (i : Int) < (n : Int) := by omega
      clear lift t0 t1 t2 t3 t4 u0 u1 u2 u3 u4 k1 k2 h1 hbl hall
      have U : Hid (seUp xs (i + 1) = decide (rk (atSe xs i).region (atSe xs i).slot < rk (atSe xs (i + 1)).region (atSe xs (i + 1)).slot)) := by unfold Hid; simp [seUp]
      have HL : Hid (i + 1 < n) := hlt
      have hi1 : ((i + 1 : Nat) : Int) < (n : Int) := by omega
      clear hlt
      generalize rk (atSe xs (i + 1)).region (atSe xs (i + 1)).slot = x at *
      generalize rk (atSe xs i).region (atSe xs i).slot = y at *
      generalize (atSe xs (i + 1)).region = a0 at *
      generalize (atSe xs (i + 1)).slot = a1 at *
      generalize (atSe xs (i + 1)).value = a2 at *
      generalize (atSe xs (i + 1)).used = a3 at *
      generalize (atSe xs (i + 1)).version = a4 at *
      generalize (atSe xs i).region = e0 at *
      generalize (atSe xs i).slot = e1 at *
      generalize (atSe xs i).value = e2 at *
      generalize (atSe xs i).used = e3 at *
      generalize (atSe xs i).version = e4 at *
      by_cases hq : x ≤ y
      · have KU : Hid (seUp xs (i + 1) = false) := by unfold Hid; rw [U.out]; simp; omega
        have dq : decide (x ≤ y) = true := by simpa using hq
        clear hq U
        go_wp2_with fail
        refine wp_region_quiet_below (by kernel_rfl) (by kernel_rfl) ?_
        repeat (go_big_quiet_step (first | (go_at_call_of 110 (Value.agg #[.int .i64 a0, .int .i64 a1, .int .i64 a2, .bool a3, .int .i64 a4]); exact cA _ _) | (go_at_call_of 110 (Value.agg #[.int .i64 e0, .int .i64 e1, .int .i64 e2, .bool e3, .int .i64 e4]); exact cB _ _)))
        refine wpQuiet_nil ?_
        intro _ hw'
        obtain ⟨⟨dq', osq⟩, hw''⟩ := hw'
        subst hw''
        have bq := below_regrown wr dq' osq
        go_wp2
        go_ret
        exact ⟨by rw [alls_fail HL.out KU.out]; rfl, K.out.1.trans (bq.mono K.out.1.size)⟩
      · have KU : Hid (seUp xs (i + 1) = true) := by unfold Hid; rw [U.out]; simp; omega
        have dq : decide (x ≤ y) = false := by simpa using hq
        clear hq U
        go_wp2_with fail
        refine wp_region_quiet_below (by kernel_rfl) (by kernel_rfl) ?_
        repeat (go_big_quiet_step (first | (go_at_call_of 110 (Value.agg #[.int .i64 a0, .int .i64 a1, .int .i64 a2, .bool a3, .int .i64 a4]); exact cA _ _) | (go_at_call_of 110 (Value.agg #[.int .i64 e0, .int .i64 e1, .int .i64 e2, .bool e3, .int .i64 e4]); exact cB _ _)))
        refine wpQuiet_nil ?_
        intro _ hw'
        obtain ⟨⟨dq', osq⟩, hw''⟩ := hw'
        subst hw''
        have bq := below_regrown wr dq' osq
        go_wp2
        exact ⟨⟨i + 1 + 1, .inl HL.out, by omega, by simp, K.out.1.trans (bq.mono K.out.1.size), alls_step K.out.2 KU.out⟩, by have := HL.out; simp [intOf]; omega⟩
    · have hd : decide ((j : Int) < (n : Int)) = false := by simp; omega
      have KA : Hid ((List.range n).all (seUp xs) = true) := by
        unfold Hid
        rw [List.all_eq_true] at hall ⊢
        exact fun x hx => hall x (List.mem_range.2 (by have := List.mem_range.1 hx; omega))
      clear hs hall
      go_wp2
      go_ret
      exact ⟨by rw [KA.out]; rfl, hbl⟩
theorem seAt_all {xs : List S5} : (List.range xs.length).all (seAt xs) = ((List.range xs.length).all (fun i => setOkB (atSe xs i)) && (List.range xs.length).all (seUp xs)) := by
  rw [Bool.eq_iff_iff, Bool.and_eq_true, List.all_eq_true, List.all_eq_true, List.all_eq_true]
  constructor
  · intro h
    have h1 : ∀ i, i < xs.length → setOkB (atSe xs i) = true := fun i hi => by
      have := h i (List.mem_range.2 hi)
      simp only [seAt, Bool.and_eq_true] at this
      exact this.1
    refine ⟨fun i hi => h1 i (List.mem_range.1 hi), fun i hi => ?_⟩
    have hi' := List.mem_range.1 hi
    have := h i hi
    simp only [seAt, Bool.and_eq_true, Bool.or_eq_true, decide_eq_true_eq] at this
    simp only [seUp, Bool.or_eq_true, decide_eq_true_eq]
    by_cases e : i = 0
    · exact .inl e
    · rcases this.2 with e' | e'
      · exact .inl e'
      · rw [less_rk (seOk_in (h1 (i - 1) (by omega))).2 (seOk_in (h1 i hi')).2] at e'
        exact .inr (by simpa using e')
  · rintro ⟨h1, h2⟩ i hi
    have hi' := List.mem_range.1 hi
    have g1 := h1 i hi
    have g2 := h2 i hi
    simp only [seUp, Bool.or_eq_true, decide_eq_true_eq] at g2
    simp only [seAt, Bool.and_eq_true, Bool.or_eq_true, decide_eq_true_eq]
    refine ⟨g1, ?_⟩
    by_cases e : i = 0
    · exact .inl e
    · rcases g2 with e' | e'
      · exact .inl e'
      · refine .inr ?_
        rw [less_rk (seOk_in (h1 (i - 1) (List.mem_range.2 (by omega)))).2 (seOk_in g1).2]
        simpa using e'
set_option maxHeartbeats 2000000 in
theorem seEach_any (w : World) (a : Option Addr) (cap : Nat) (xs : List S5) (hn : xs.length ≤ maxLen) (hs : Sl w w.heap.size a xs.length xs) :
    Calls Try.prog 69 #[.slice a xs.length cap, .func (.func 54) #[] #[]] w fun e w' => e = .returned (.bool (decide (xs.length ≤ 12) && (List.range xs.length).all (seAt xs))) ∧ Below w.heap.size w w' := by
  obtain ⟨W, hW⟩ : ∃ W, W = w.alloc (.cells #[.func (.func 54) #[] #[]] 82) := ⟨_, rfl⟩
  have b0 : Below w.heap.size w W := by rw [hW]; exact (Below.refl _ _).alloc (Nat.le_refl _) _
  have g0 : W.cell? ⟨w.heap.size, 0, none⟩ = some (.func (.func 54) #[] #[]) := by rw [hW]; go_simp
  have s0 : w.heap.size < W.heap.size := by rw [hW]; simp
  have c1 := seHas W a cap xs w.heap.size hn (hs.later b0) g0 s0
  have H : Hid (Sl w w.heap.size a xs.length xs ∧ xs.length ≤ maxLen ∧ Below w.heap.size w W) := ⟨hs, hn, b0⟩
  have HA := hidOf (@seAt_all xs)
  clear hs b0 g0 s0
  unfold maxLen at hn
  by_cases h12 : xs.length ≤ 12
  case neg =>
    have d12 : decide ((xs.length : Int) ≤ 12) = false := by simp; omega
    have KN : Hid (decide (xs.length ≤ 12) = false) := by unfold Hid; simp; omega
    rw [hW] at H
    clear c1 hW h12
    go_enter Try.func69, Try.ntmps69
    go_wp2
    go_ret
    exact ⟨by rw [KN.out]; rfl, H.out.2.2⟩
  have d12 : decide ((xs.length : Int) ≤ 12) = true := by simp; omega
  have KN : Hid (decide (xs.length ≤ 12) = true) := by unfold Hid; simp; omega
  cases hal : (List.range xs.length).all (fun i => setOkB (atSe xs i)) with
  | false =>
    rw [hal] at c1
    clear h12
    go_enter Try.func69, Try.ntmps69
    go_wp2_with fail
    rw [← hW]
    clear hW
    refine c1.mono ?_
    clear c1
    rintro e w1 ⟨rfl, b1⟩
    go_wp2
    go_ret
    exact ⟨by rw [KN.out, HA.out, hal]; rfl, H.out.2.2.trans (b1.mono H.out.2.2.size)⟩
  | true =>
    rw [hal] at c1
    have HO : Hid (∀ i, i < xs.length → setOkB (atSe xs i) = true) := fun i hi => List.all_eq_true.1 hal i (List.mem_range.2 hi)
    clear h12
    go_enter Try.func69, Try.ntmps69
    go_wp2_with fail
    rw [← hW]
    clear hW
    refine c1.mono ?_
    clear c1
    rintro e w1 ⟨rfl, b1⟩
    have bw : Below w.heap.size w w1 := H.out.2.2.trans (b1.mono H.out.2.2.size)
    have c2 := seRises_any w1 a cap xs H.out.2.1 (H.out.1.later bw) HO.out
    have KB : Hid (Below w.heap.size w w1) := bw
    clear b1 bw
    go_wp2_with fail
    refine c2.mono ?_
    clear c2
    rintro e w2 ⟨rfl, b2⟩
    go_wp2
    go_ret
    exact ⟨by rw [KN.out, HA.out, hal]; rfl, KB.out.trans (b2.mono KB.out.size)⟩
end Go.Proofs.Ytiidlcjjaglkdaa