/- OwnC; OwnR; OwnS; KdCL3; PlsL; KdClS; MacOk1; Plain; HdU; CellOk; Oks; Oks2; MacOk2; Oks3: joined. -/
import Derived.Test.YtnhjgomfkfehgaaGreatDoorRows
import Derived.Test.YtnhjgomfkfehgaaGreatDoorJ5ExactBegin
import Derived.WalkKit
import Derived.WalkSpells
import Derived.WalkLawsBesides
import Derived.Below
import Derived.Lib.QuietBelow
import Derived.BigQuiet
import Derived.Deep.CutRange
import Derived.Maps.AppendAt
import Derived.Laws.OwnMore
import Derived.Deep.AppendLies
import Derived.Test.YtnhjgomfkfehgaaGreatDoorJ2ExactBegin
import Derived.Deep.QuietTactic
import Derived.Test.YtnhjgomfkfehgaaGreatDoorJ3ExactBegin
namespace Go.Proofs.YtnhjgomfkfehgaaGreatDoor
open Go.RowKit
theorem appendX {α : Type} {cells : α → List Value} {T ST : TypeId} {sz by_ : Nat} (hl : ∀ s, (cells s).length = sz) (h1 : ∀ s, ∀ u ∈ cells s, u.oneCell' = true) (hsz : 0 < sz) {P : Program} {i0 : TypeInfo} {z : Value} (ht : P.underlying ST = some (.slice T)) (hi : P.info? T = some i0) (hz : i0.zero = some z) (hs : i0.size = sz) (hby : i0.bytes = by_) (hzs : z.cells.size = sz) (hbb : by_ ≤ 1000)
    {W : World} {base : Nat} {v : Value} (h : W.ownsRow base T sz v 0 []) (xs : List α) (hx : 0 < xs.length) (hm : xs.length ≤ 1048576) (ty : TypeId) (b off k : Nat) (src : ∀ i s, xs[i]? = some s → ∀ t u, (cells s)[t]? = some u → W.cell? ⟨b, off + i * sz + t, none⟩ = some u) (hbase : base ≤ W.heap.size) :
    ∃ q cap W', (Builtin.append_ #[ST, ST] ty #[v, .slice (some ⟨b, off, none⟩) xs.length k]).run P W = .ok (.slice (some ⟨q, 0, none⟩) xs.length cap) W' ∧ base ≤ q ∧ q < W'.heap.size ∧ xs.length ≤ cap ∧ (∀ i s, xs[i]? = some s → ∀ t u, (cells s)[t]? = some u → W'.cell? ⟨q, i * sz + t, none⟩ = some u) ∧ Room W' q (xs.length * sz) ∧ W.grownBy W' v.ownBlock ∧ (v.ownBlock = some q ∨ q = W.heap.size) ∧ W'.ownsRow base T sz (.slice (some ⟨q, 0, none⟩) xs.length cap) xs.length (xs.flatMap cells) := by
  have hadd : ∀ (b o j : Nat), (⟨b, o, none⟩ : Addr).add j = ⟨b, o + j, none⟩ := fun b o j => by unfold Addr.add; split <;> simp_all
  have hfl : ∀ l : List α, (l.flatMap cells).length = l.length * sz := fun l => by
    induction l with
    | nil => simp
    | cons y l ih => rw [List.flatMap_cons, List.length_append, ih, hl, List.length_cons, Nat.add_mul]; omega
  obtain ⟨v', W', hrun, hown, hg, hnil, hlies⟩ := run_append_own_at (P := P) W base ST ty T i0 z sz by_ ht hi hz hs hby hzs hsz
    v 0 [] h ⟨b, off, none⟩ xs.length k (xs.flatMap cells) (hfl xs) (fun j u hu => by
      have hj : j < xs.length * sz := by rw [← hfl]; exact (List.getElem?_eq_some_iff.1 hu).1
      have hi : j / sz < xs.length := Nat.div_lt_of_lt_mul (by rw [Nat.mul_comm]; exact hj)
      have hxs := List.getElem?_eq_getElem hi
      have hjt : j / sz * sz + j % sz = j := Nat.div_add_mod' j sz
      have := flat_at (f := cells) (l := xs) (fun x _ => hl x) hxs (Nat.mod_lt j hsz)
      rw [hjt] at this
      rw [hadd, ← hjt, ← Nat.add_assoc]
      exact src _ _ hxs _ u (by rw [← this]; exact hu))
    (fun u hu => by obtain ⟨s, _, hs⟩ := List.mem_flatMap.1 hu; exact h1 s u hs) (by unfold maxLen; omega) (by
      have : (0 + xs.length) * by_ ≤ 1048576 * 1000 := Nat.mul_le_mul (by omega) hbb
      omega) hbase
  rw [Nat.zero_add, List.nil_append] at hown
  have hcap : ∃ q cap, v' = .slice (some ⟨q, 0, none⟩) xs.length cap ∧ xs.length ≤ cap := by
    rcases hown.2 with ⟨_, h0⟩ | ⟨q, cap, cur, rfl, _, _, hl, _⟩
    · omega
    · exact ⟨q, cap, rfl, hl⟩
  obtain ⟨q, cap, rfl, hc⟩ := hcap
  have hb := World.ownsRow.lt hown q rfl
  refine ⟨q, cap, W', hrun, hb.1, hb.2, hc, fun i s e t u hu => ?_, fun j hj => ?_, hg, ?_, hown⟩
  · have hi := (List.getElem?_eq_some_iff.1 e).1
    have ht := (List.getElem?_eq_some_iff.1 hu).1
    rw [hl] at ht
    have : (i + 1) * sz ≤ xs.length * sz := Nat.mul_le_mul_right sz hi
    rw [Nat.add_mul] at this
    rw [World.ownsRow.cellAt hown _ (by omega), flat_at (fun x _ => hl x) e ht]; exact hu
  · exact ⟨_, by rw [World.ownsRow.cellAt hown j hj]; exact List.getElem?_eq_getElem (by rw [hfl]; exact hj), World.ownsRow.frozenAt hown j⟩
  · rcases hlies with e | e
    · exact .inl e.symm
    · exact .inr (Option.some.inj e)
theorem infoSet : (Tryz.prog.info? 109).map (fun i => (i.zero, i.size, i.bytes)) = some (some (.agg #[.int .i64 0, .int .i64 0, .int .i64 0, .bool false, .int .i64 0]), 5, 40) := by kernel_rfl
theorem infoI64 : (Tryz.prog.info? 2).map (fun i => (i.zero, i.size, i.bytes)) = some (some (.int .i64 0), 1, 8) := by kernel_rfl
theorem partsOf {P : Program} {t : TypeId} {z : Value} {s b : Nat} (h : (P.info? t).map (fun i => (i.zero, i.size, i.bytes)) = some (some z, s, b)) : ∃ i, P.info? t = some i ∧ i.zero = some z ∧ i.size = s ∧ i.bytes = b := by
  obtain ⟨i, hi, hzz⟩ := Option.map_eq_some_iff.1 h
  simp only [Prod.mk.injEq] at hzz
  exact ⟨i, hi, hzz.1, hzz.2.1, hzz.2.2⟩
theorem appendC (W : World) (base : Nat) (v : Value) (h : W.ownsRow base 103 2 v 0 []) (xs : List C2) (hx : 0 < xs.length) (hm : xs.length ≤ 1048576) (ty : TypeId) (b off k : Nat) (src : CellsAt W b off xs) (hbase : base ≤ W.heap.size) :
    ∃ q cap W', (Builtin.append_ #[97, 97] ty #[v, .slice (some ⟨b, off, none⟩) xs.length k]).run Tryz.prog W = .ok (.slice (some ⟨q, 0, none⟩) xs.length cap) W' ∧ base ≤ q ∧ q < W'.heap.size ∧ xs.length ≤ cap ∧ CellsAt W' q 0 xs ∧ Room W' q (xs.length * 2) ∧ W.grownBy W' v.ownBlock ∧ (v.ownBlock = some q ∨ q = W.heap.size) := by
  obtain ⟨i0, hi0, hz0, hz1, hz2⟩ := partsOf info_cell
  obtain ⟨q, cap, W', h1, h2, h3, h4, h5, h6, h7, h8, _⟩ := appendX (cells := C2.cells) (fun _ => rfl) (fun s u hu => by
    simp only [C2.cells, List.mem_cons, List.not_mem_nil, or_false] at hu
    rcases hu with rfl | rfl <;> rfl) (by omega) Tryz.underlying97 hi0 hz0 hz1 hz2 rfl (by omega) h xs hx hm ty b off k (fun i s e t u hu => by
      obtain ⟨c0, c1⟩ := src i s e
      rcases t with _ | _ | t
      · simp [C2.cells] at hu; subst hu; exact c0
      · simp [C2.cells] at hu; subst hu; exact c1
      · simp [C2.cells] at hu) hbase
  refine ⟨q, cap, W', h1, h2, h3, h4, fun i s e => ⟨?_, ?_⟩, h6, h7, h8⟩
  · rw [Nat.zero_add]; exact h5 i s e 0 _ rfl
  · rw [Nat.zero_add]; exact h5 i s e 1 _ rfl
def S5.cellsL (s : S5) : List Value := [.int .i64 s.region, .int .i64 s.slot, .int .i64 s.value, .bool s.used, .int .i64 s.version]
theorem appendS (W : World) (base : Nat) (v : Value) (h : W.ownsRow base 109 5 v 0 []) (xs : List S5) (hx : 0 < xs.length) (hm : xs.length ≤ 1048576) (ty : TypeId) (b off k : Nat) (src : SetsAt W b off xs) (hbase : base ≤ W.heap.size) :
    ∃ q cap W', (Builtin.append_ #[54, 54] ty #[v, .slice (some ⟨b, off, none⟩) xs.length k]).run Tryz.prog W = .ok (.slice (some ⟨q, 0, none⟩) xs.length cap) W' ∧ base ≤ q ∧ q < W'.heap.size ∧ xs.length ≤ cap ∧ SetsAt W' q 0 xs ∧ Room W' q (xs.length * 5) ∧ W.grownBy W' v.ownBlock ∧ (v.ownBlock = some q ∨ q = W.heap.size) := by
  obtain ⟨i0, hi0, hz0, hz1, hz2⟩ := partsOf infoSet
  obtain ⟨q, cap, W', h1, h2, h3, h4, h5, h6, h7, h8, _⟩ := appendX (cells := S5.cellsL) (fun _ => rfl) (fun s u hu => by
    simp only [S5.cellsL, List.mem_cons, List.not_mem_nil, or_false] at hu
    rcases hu with rfl | rfl | rfl | rfl | rfl <;> rfl) (by omega) Tryz.underlying54 hi0 hz0 hz1 hz2 rfl (by omega) h xs hx hm ty b off k (fun i s e t u hu => by
      obtain ⟨c0, c1, c2, c3, c4⟩ := src i s e
      rcases t with _ | _ | _ | _ | _ | t
      · simp [S5.cellsL] at hu; subst hu; exact c0
      · simp [S5.cellsL] at hu; subst hu; exact c1
      · simp [S5.cellsL] at hu; subst hu; exact c2
      · simp [S5.cellsL] at hu; subst hu; exact c3
      · simp [S5.cellsL] at hu; subst hu; exact c4
      · simp [S5.cellsL] at hu) hbase
  refine ⟨q, cap, W', h1, h2, h3, h4, fun i s e => ⟨?_, ?_, ?_, ?_, ?_⟩, h6, h7, h8⟩
  · rw [Nat.zero_add]; exact h5 i s e 0 _ rfl
  · rw [Nat.zero_add]; exact h5 i s e 1 _ rfl
  · rw [Nat.zero_add]; exact h5 i s e 2 _ rfl
  · rw [Nat.zero_add]; exact h5 i s e 3 _ rfl
  · rw [Nat.zero_add]; exact h5 i s e 4 _ rfl
theorem owns_nil (W : World) (base : Nat) (T : TypeId) (sz : Nat) : W.ownsRow base T sz (.slice none 0 0) 0 [] := ⟨by simp, .inl ⟨rfl, rfl⟩⟩
set_option maxHeartbeats 1000000 in
theorem ownCells_any (w : World) (a : Option Addr) (cap : Nat) (xs : List C2) (hx : 0 < xs.length) (hm : xs.length ≤ 1048576) (hs : SlC w w.heap.size a xs.length xs) :
    Calls Tryz.prog 196 #[.slice a xs.length cap] w fun e w' => ∃ q cp, e = .returned (.slice (some ⟨q, 0, none⟩) xs.length cp) ∧ w.heap.size ≤ q ∧ q < w'.heap.size ∧ xs.length ≤ cp ∧ CellsAt w' q 0 xs ∧ Room w' q (xs.length * 2) ∧ Below w.heap.size w w' := by
  obtain ⟨_, hs⟩ := hs
  rcases hs with hs | ⟨b, off, rfl, hb, h1⟩
  · omega
  obtain ⟨q, cp, W', hr, h2, h3, h4, h5, h6, h7, h8⟩ := appendC w w.heap.size (.slice none 0 0) (owns_nil _ _ _ _) xs hx hm 97 b off cap h1 (Nat.le_refl _)
  have K : Hid (w.heap.size ≤ q ∧ q < W'.heap.size ∧ xs.length ≤ cp ∧ CellsAt W' q 0 xs ∧ Room W' q (xs.length * 2) ∧ Below w.heap.size w W') := ⟨h2, h3, h4, h5, h6, (Below.refl _ _).grown h7 (Nat.le_refl _) (fun k h => by cases h)⟩
  clear h1 h2 h3 h4 h5 h6 h7 h8 hx hm
  generalize xs.length = n at *
  go_enter Tryz.func196, Tryz.ntmps196
  go_wp2_with (at_builtin; refine append_known _ rfl (.const (.slice none 0 0)) (.tmp 3) 97 rfl _ _ _ _ rfl rfl hr ?_)
  go_ret
  exact ⟨q, cp, rfl, K.out.1, K.out.2.1, K.out.2.2.1, K.out.2.2.2.1, K.out.2.2.2.2.1, K.out.2.2.2.2.2⟩
set_option maxHeartbeats 1000000 in
theorem l3Copy_any (w : World) (a : Option Addr) (cap : Nat) (xs : List C2) (hx : 0 < xs.length) (hm : xs.length ≤ 1048576) (hs : SlC w w.heap.size a xs.length xs) :
    Calls Tryz.prog 139 #[.slice a xs.length cap] w fun e w' => ∃ q cp, e = .returned (.slice (some ⟨q, 0, none⟩) xs.length cp) ∧ w.heap.size ≤ q ∧ q < w'.heap.size ∧ xs.length ≤ cp ∧ CellsAt w' q 0 xs ∧ Room w' q (xs.length * 2) ∧ Below w.heap.size w w' := by
  obtain ⟨_, hs⟩ := hs
  rcases hs with hs | ⟨b, off, rfl, hb, h1⟩
  · omega
  have b0 : Below w.heap.size w (w.alloc (.cells #[] 103)) := (Below.refl _ _).alloc (Nat.le_refl _) _
  obtain ⟨q, cp, W', hr, h2, h3, h4, h5, h6, h7, h8⟩ := appendC (w.alloc (.cells #[] 103)) w.heap.size (.slice (some ⟨w.heap.size, 0, none⟩) 0 0) (World.ownsRow_made w #[] 0 (Nat.le_refl _) (Nat.zero_le _) rfl) xs hx hm 97 b off cap (h1.below b0 hb) b0.size
  have K : Hid (w.heap.size ≤ q ∧ q < W'.heap.size ∧ xs.length ≤ cp ∧ CellsAt W' q 0 xs ∧ Room W' q (xs.length * 2) ∧ Below w.heap.size w W') := ⟨h2, h3, h4, h5, h6, b0.grown h7 b0.size (fun k h => by cases h; exact Nat.le_refl _)⟩
  clear h1 h2 h3 h4 h5 h6 h7 h8 hx hm b0
  generalize xs.length = n at *
  go_enter Tryz.func139, Tryz.ntmps139
  go_wp2_with (at_builtin; refine append_known _ rfl (.tmp 3) (.tmp 4) 97 rfl _ _ _ _ rfl rfl hr ?_)
  go_ret
  exact ⟨q, cp, rfl, K.out.1, K.out.2.1, K.out.2.2.1, K.out.2.2.2.1, K.out.2.2.2.2.1, K.out.2.2.2.2.2⟩
structure TR (s : Nat) (k t r : Int) (u : Value) (X : World) : Prop where
  d0 : X.cell? ⟨s, 0, none⟩ = some (.int .i64 k)
  d1 : X.cell? ⟨s, 1, none⟩ = some (.int .i64 t)
  d2 : X.cell? ⟨s, 2, none⟩ = some (.int .i64 r)
  d3 : X.cell? ⟨s, 3, none⟩ = some u
  fd : ∀ j, X.frozen? ⟨s, j, none⟩ = false
  e0 : X.cell? ⟨s + 1, 0, none⟩ = some (.int .i64 0)
  e1 : X.cell? ⟨s + 1, 1, none⟩ = some (.int .i64 0)
  e2 : X.cell? ⟨s + 1, 2, none⟩ = some (.int .i64 0)
  e3 : X.cell? ⟨s + 1, 3, none⟩ = some (.slice none 0 0)
  fe : ∀ j, X.frozen? ⟨s + 1, j, none⟩ = false
theorem TR.keep {s : Nat} {k t r : Int} {u : Value} {X Y : World} (h : TR s k t r u X) (ea : Y.heap[s]? = X.heap[s]?) (eb : Y.heap[s + 1]? = X.heap[s + 1]?) : TR s k t r u Y := by
  have c : ∀ {b j : Nat} {u : Value}, Y.heap[b]? = X.heap[b]? → X.cell? ⟨b, j, none⟩ = some u → Y.cell? ⟨b, j, none⟩ = some u := fun {b j u} e h => (World.cell?_of_block (a := ⟨b, j, none⟩) e).trans h
  exact ⟨c ea h.d0, c ea h.d1, c ea h.d2, c ea h.d3, fun j => (World.frozen?_of_block (a := ⟨s, j, none⟩) ea).trans (h.fd j), c eb h.e0, c eb h.e1, c eb h.e2, c eb h.e3, fun j => (World.frozen?_of_block (a := ⟨s + 1, j, none⟩) eb).trans (h.fe j)⟩
theorem AtR.far {w : World} {q : Nat} {r : R4} (h : AtR w q r) {p : Addr} (hp : p.block ≠ q) (v : Value) : AtR (w.setCell p v) q r := AtR.of_block _ _ _ _ (Below.heap_setCell _ _ _ _ (fun e => hp e.symm)) h
set_option maxHeartbeats 2000000 in
theorem ownRecord_any (w : World) (r : R4) (a : Option Addr) (cap : Nat) (hx : 0 < r.sets.length) (hm : r.sets.length ≤ 1048576) (hs : Sl w w.heap.size a r.sets.length r.sets) :
    Calls Tryz.prog 197 #[r.val a cap] w fun e w' => ∃ q cp, e = .returned (r.val (some ⟨q, 0, none⟩) cp) ∧ w.heap.size ≤ q ∧ q < w'.heap.size ∧ r.sets.length ≤ cp ∧ AtR w' q r ∧ Below w.heap.size w w' := by
  simp only [R4.val]
  obtain ⟨_, hs⟩ := hs
  rcases hs with hs | ⟨b, off, rfl, hb, h1⟩
  · omega
  obtain ⟨W, hW⟩ : ∃ W, W = (w.alloc (.cells #[.int .i64 r.kind, .int .i64 r.tx, .int .i64 r.region, .slice (some ⟨b, off, none⟩) r.sets.length cap] 178)).alloc (.cells #[.int .i64 0, .int .i64 0, .int .i64 0, .slice none 0 0] 178) := ⟨_, rfl⟩
  have hsz : W.heap.size = w.heap.size + 2 := by subst hW; simp
  have bW : Below w.heap.size w W := by subst hW; exact ((Below.refl _ _).alloc (Nat.le_refl _) _).alloc (by simp) _
  have tW : TR w.heap.size r.kind r.tx r.region (.slice (some ⟨b, off, none⟩) r.sets.length cap) W := by
    subst hW
    refine ⟨?_, ?_, ?_, ?_, ?_, ?_, ?_, ?_, ?_, ?_⟩
    all_goals first | (intro j; go_simp; done) | (go_simp; done)
  obtain ⟨q, cp, W', hr, h2, h3, h4, h5, h6, h7, h8⟩ := appendS W W.heap.size (.slice none 0 0) (owns_nil _ _ _ _) r.sets hx hm 54 b off cap (h1.below bW hb) (Nat.le_refl _)
  have b7 : Below W.heap.size W W' := (Below.refl _ _).grown h7 (Nat.le_refl _) (fun k h => by cases h)
  have tW' := tW.keep (Y := W') (b7.block _ (by omega)) (b7.block _ (by omega))
  have K : Hid (w.heap.size + 2 ≤ q ∧ q < W'.heap.size ∧ r.sets.length ≤ cp ∧ AtR W' q r ∧ Below w.heap.size w W') := ⟨by omega, h3, h4, ⟨h5, h6⟩, bW.trans (b7.mono bW.size)⟩
  obtain ⟨d0, d1, d2, d3, fd, e0, e1, e2, e3, fe⟩ := tW'
  have z3 := tW.d3
  have f3 := fd 3
  have g0 := fe 0
  have g1 := fe 1
  have g2 := fe 2
  have g3 := fe 3
  clear h1 h2 h3 h4 h5 h6 h7 h8 hx hm bW tW b7 hsz fd fe
  generalize r.sets.length = n at *
  subst hW
  go_enter Tryz.func197, Tryz.ntmps197
  go_wp2_with (at_builtin; refine append_known _ rfl (.const (.slice none 0 0)) (.tmp 4) 54 rfl _ _ _ _ rfl rfl hr ?_)
  obtain ⟨k1, k2, k3, k4, k5⟩ := K.out
  refine bodyPost_ret (v := .agg #[.int .i64 r.kind, .int .i64 r.tx, .int .i64 r.region, .slice (some ⟨q, 0, none⟩) n cp]) (by simp [results, Tryz.results197, go_sem, e0, e1, e2, e3]) rfl ⟨q, cp, rfl, by omega, ?_, k3, ?_, ?_⟩
  · simpa [World.setCell] using k2
  · exact ((((k4.far (by simp; omega) _).far (by simp; omega) _).far (by simp; omega) _).far (by simp; omega) _).far (by simp; omega) _
  · exact ((((k5.setCell (p := ⟨_, _, none⟩) (by simp) _).setCell (p := ⟨_, _, none⟩) (by simp) _).setCell (p := ⟨_, _, none⟩) (by simp) _).setCell (p := ⟨_, _, none⟩) (by simp) _).setCell (p := ⟨_, _, none⟩) (by simp) _
set_option maxHeartbeats 2000000 in
theorem l6Record_any (w : World) (r : R4) (a : Option Addr) (cap : Nat) (hx : 0 < r.sets.length) (hm : r.sets.length ≤ 1048576) (hs : Sl w w.heap.size a r.sets.length r.sets) :
    Calls Tryz.prog 140 #[r.val a cap] w fun e w' => ∃ q cp, e = .returned (r.val (some ⟨q, 0, none⟩) cp) ∧ w.heap.size ≤ q ∧ q < w'.heap.size ∧ r.sets.length ≤ cp ∧ AtR w' q r ∧ Below w.heap.size w w' := by
  simp only [R4.val]
  obtain ⟨_, hs⟩ := hs
  rcases hs with hs | ⟨b, off, rfl, hb, h1⟩
  · omega
  obtain ⟨W0, hW0⟩ : ∃ W0, W0 = (w.alloc (.cells #[.int .i64 r.kind, .int .i64 r.tx, .int .i64 r.region, .slice (some ⟨b, off, none⟩) r.sets.length cap] 178)).alloc (.cells #[.int .i64 0, .int .i64 0, .int .i64 0, .slice none 0 0] 178) := ⟨_, rfl⟩
  have hsz : W0.heap.size = w.heap.size + 2 := by subst hW0; simp
  have bW : Below w.heap.size w W0 := by subst hW0; exact ((Below.refl _ _).alloc (Nat.le_refl _) _).alloc (by simp) _
  have tW : TR w.heap.size r.kind r.tx r.region (.slice (some ⟨b, off, none⟩) r.sets.length cap) W0 := by
    subst hW0
    refine ⟨?_, ?_, ?_, ?_, ?_, ?_, ?_, ?_, ?_, ?_⟩
    all_goals first | (intro j; go_simp; done) | (go_simp; done)
  have b0 : Below W0.heap.size W0 (W0.alloc (.cells #[] 109)) := (Below.refl _ _).alloc (Nat.le_refl _) _
  have hrow : (W0.alloc (.cells #[] 109)).ownsRow W0.heap.size 109 5 (.slice (some ⟨W0.heap.size, 0, none⟩) 0 0) 0 [] := World.ownsRow_made W0 #[] 0 (Nat.le_refl _) (Nat.zero_le _) rfl
  obtain ⟨q, cp, W', hr, h2, h3, h4, h5, h6, h7, h8⟩ := appendS (W0.alloc (.cells #[] 109)) W0.heap.size _ hrow r.sets hx hm 54 b off cap ((h1.below bW hb).below b0 (Nat.lt_of_lt_of_le hb bW.size)) b0.size
  have b7 : Below W0.heap.size W0 W' := b0.grown h7 b0.size (fun k h => by cases h; exact Nat.le_refl _)
  have tA := tW.keep (Y := W0.alloc (.cells #[] 109)) (b0.block _ (by omega)) (b0.block _ (by omega))
  have tW' := tW.keep (Y := W') (b7.block _ (by omega)) (b7.block _ (by omega))
  have K : Hid (w.heap.size + 2 ≤ q ∧ q < W'.heap.size ∧ r.sets.length ≤ cp ∧ AtR W' q r ∧ Below w.heap.size w W') := ⟨by omega, h3, h4, ⟨h5, h6⟩, bW.trans (b7.mono bW.size)⟩
  obtain ⟨d0, d1, d2, d3, fd, e0, e1, e2, e3, fe⟩ := tW'
  have z3 := tA.d3
  have f3 := fd 3
  have g0 := fe 0
  have g1 := fe 1
  have g2 := fe 2
  have g3 := fe 3
  rw [hsz] at hr
  clear h1 h2 h3 h4 h5 h6 h7 h8 hx hm bW tW tA b7 b0 hrow hsz fd fe
  generalize r.sets.length = n at *
  subst hW0
  go_enter Tryz.func140, Tryz.ntmps140
  go_wp2_with (at_builtin; refine append_known _ rfl (.tmp 3) (.tmp 5) 54 rfl _ _ _ _ rfl rfl hr ?_)
  obtain ⟨k1, k2, k3, k4, k5⟩ := K.out
  refine bodyPost_ret (v := .agg #[.int .i64 r.kind, .int .i64 r.tx, .int .i64 r.region, .slice (some ⟨q, 0, none⟩) n cp]) (by simp [results, Tryz.results140, go_sem, e0, e1, e2, e3]) rfl ⟨q, cp, rfl, by omega, ?_, k3, ?_, ?_⟩
  · simpa [World.setCell] using k2
  · exact ((((k4.far (by simp; omega) _).far (by simp; omega) _).far (by simp; omega) _).far (by simp; omega) _).far (by simp; omega) _
  · exact ((((k5.setCell (p := ⟨_, _, none⟩) (by simp) _).setCell (p := ⟨_, _, none⟩) (by simp) _).setCell (p := ⟨_, _, none⟩) (by simp) _).setCell (p := ⟨_, _, none⟩) (by simp) _).setCell (p := ⟨_, _, none⟩) (by simp) _
def blocksG {α : Type} (v : Value) (rs : List α) (g : Nat → Nat) (q : Nat) : Prop := v.ownBlock = some q ∨ ∃ i, i < rs.length ∧ g i = q
theorem GrowG.blocks {α : Type} {T : TypeId} {sz : Nat} {hd : α → List Int} {ln : α → Nat} {At : World → Nat → α → Prop} {w : World} {base : Nat} {v : Value} {rs : List α} {g : Nat → Nat} (h : GrowG T sz hd ln At w base v rs g) {q : Nat} (hq : blocksG v rs g q) : base ≤ q ∧ q < w.heap.size := by
  rcases hq with hq | ⟨i, hi, rfl⟩
  · exact h.lies hq
  · exact ⟨h.low i hi, h.lt i hi⟩
theorem blocks_push {α : Type} {v v' : Value} {rs : List α} {r : α} {g : Nat → Nat} {q S : Nat} (hl : v'.ownBlock = v.ownBlock ∨ v'.ownBlock = some S) {x : Nat} (h : blocksG v' (rs ++ [r]) (fun i => if i = rs.length then q else g i) x) : blocksG v rs g x ∨ x = q ∨ x = S := by
  rcases h with h | ⟨i, hi, h⟩
  · rcases hl with e | e
    · rw [e] at h; exact .inl (.inl h)
    · rw [e] at h; exact .inr (.inr (Option.some.inj h).symm)
  · by_cases e : i = rs.length
    · simp only [if_pos e] at h; exact .inr (.inl h.symm)
    · simp only [if_neg e] at h
      simp at hi
      exact .inl (.inr ⟨i, by omega, h⟩)
structure MR (base p : Nat) (X : World) (vk vr vd : Value) (ks : List K2) (rs : List R4) (zs : List Int) (gk gr : Nat → Nat) : Prop where
  gK : GrowG 99 2 hdK lnK AtK X base vk ks gk
  gR : GrowG 178 4 hdR lnR AtR X base vr rs gr
  gD : X.ownsRow base 2 1 vd zs.length (zs.map (Value.int .i64))
  kr : ∀ q, blocksG vk ks gk q → ¬ blocksG vr rs gr q
  kd : ∀ q, blocksG vk ks gk q → vd.ownBlock ≠ some q
  rd : ∀ q, blocksG vr rs gr q → vd.ownBlock ≠ some q
  kp : ∀ q, blocksG vk ks gk q → q ≠ p
  rp : ∀ q, blocksG vr rs gr q → q ≠ p
  dp : vd.ownBlock ≠ some p
theorem MR.keep {base p : Nat} {X Y : World} {vk vr vd : Value} {ks : List K2} {rs : List R4} {zs : List Int} {gk gr : Nat → Nat} (h : MR base p X vk vr vd ks rs zs gk gr) (hs : X.heap.size ≤ Y.heap.size) (hk : ∀ q, q < X.heap.size → base ≤ q → q ≠ p → Y.heap[q]? = X.heap[q]?) : MR base p Y vk vr vd ks rs zs gk gr := by
  refine ⟨h.gK.keep AtK.of_block hs (fun q hq hb => hk q hq (h.gK.blocks hb).1 (h.kp q hb)), h.gR.keep AtR.of_block hs (fun q hq hb => hk q hq (h.gR.blocks hb).1 (h.rp q hb)), ⟨h.gD.1, h.gD.2.imp id ?_⟩, h.kr, h.kd, h.rd, h.kp, h.rp, h.dp⟩
  rintro ⟨q, cap, cur, rfl, l, hg, r⟩
  exact ⟨q, cap, cur, rfl, l, (hk q (World.ownsRow.lt h.gD q rfl).2 l (fun e => h.dp (by rw [← e]; rfl))).trans hg, r⟩
theorem MR.later {base p : Nat} {X Y : World} {vk vr vd : Value} {ks : List K2} {rs : List R4} {zs : List Int} {gk gr : Nat → Nat} (h : MR base p X vk vr vd ks rs zs gk gr) (hb : Below X.heap.size X Y) : MR base p Y vk vr vd ks rs zs gk gr := h.keep hb.size (fun q hq _ _ => hb.block q hq)
theorem MR.set {base p o : Nat} {X : World} {u : Value} {vk vr vd : Value} {ks : List K2} {rs : List R4} {zs : List Int} {gk gr : Nat → Nat} (h : MR base p X vk vr vd ks rs zs gk gr) : MR base p (X.setCell ⟨p, o, none⟩ u) vk vr vd ks rs zs gk gr := h.keep (by simp [World.setCell]) (fun q _ _ hp => Below.heap_setCell _ _ _ _ hp)
theorem MR.pushK {base p : Nat} {X W : World} {vk vr vd : Value} {ks : List K2} {rs : List R4} {zs : List Int} {gk gr : Nat → Nat} (h : MR base p X vk vr vd ks rs zs gk gr) (hb : Below X.heap.size X W) (hX : base ≤ X.heap.size) (hpX : p < X.heap.size) (k : K2) (q cap e : Nat) (hm : ks.length ≤ 100000) (ty : TypeId)
    (e0 : W.cell? ⟨e, 0, none⟩ = some (.int .i64 k.region)) (e1 : W.cell? ⟨e, 1, none⟩ = some (.slice (some ⟨q, 0, none⟩) k.cells.length cap)) (hat : AtK W q k) (hc : k.cells.length ≤ cap) (hq : X.heap.size ≤ q) (hql : q < W.heap.size) :
    ∃ v' Y, (Builtin.append_ #[58, 58] ty #[vk, .slice (some ⟨e, 0, none⟩) 1 1]).run Tryz.prog W = .ok v' Y ∧ MR base p Y v' vr vd (ks ++ [k]) rs zs (fun i => if i = ks.length then q else gk i) gr ∧ W.grownBy Y vk.ownBlock ∧ (∀ x, vk.ownBlock = some x → base ≤ x ∧ x < X.heap.size ∧ x ≠ p) := by
  have hW := h.later hb
  obtain ⟨i0, hi0, hz0, hz1, hz2⟩ := partsOf info_cops
  have old : ∀ x, blocksG vk ks gk x → x < X.heap.size := fun x hx => (h.gK.blocks hx).2
  obtain ⟨v', Y, hr, hg, hgr, hl⟩ := GrowG.push (hd := hdK) (ln := lnK) (sz := 2) (e := e) AtK.of_block (fun _ => rfl) Tryz.underlying58 hi0 hz0 hz1 hz2 rfl (by omega) hW.gK k q cap hm ty (fun j u hu => by
    rcases j with _ | _ | j
    · simp [cellsG, hdK] at hu; subst hu; exact e0
    · simp [cellsG, hdK, lnK] at hu; subst hu; exact e1
    · simp [cellsG, hdK] at hu) hat hc (by omega) hql (fun e' => by have := old q (.inl e'); omega) (fun i hi e' => by have := old q (.inr ⟨i, hi, e'⟩); omega) (Nat.le_trans hX hb.size)
  have new : ∀ x, blocksG v' (ks ++ [k]) (fun i => if i = ks.length then q else gk i) x → blocksG vk ks gk x ∨ X.heap.size ≤ x := fun x hx => by
    rcases blocks_push hl hx with h | h | h
    · exact .inl h
    · exact .inr (by omega)
    · exact .inr (by have := hb.size; omega)
  have fR : ∀ x, x < W.heap.size → vk.ownBlock ≠ some x → Y.heap[x]? = W.heap[x]? := fun x hx hne => hgr.block x hx (fun e' => hne e'.symm)
  refine ⟨v', Y, hr, ⟨hg, hW.gR.keep AtR.of_block hgr.size (fun x hx hbx => fR x hx (fun e' => h.kr x (.inl e') hbx)), ⟨hW.gD.1, hW.gD.2.imp id ?_⟩, fun x hx hbx => ?_, fun x hx hbx => ?_, h.rd, fun x hx hbx => ?_, h.rp, h.dp⟩, hgr, fun x hx => ⟨(h.gK.lies hx).1, (h.gK.lies hx).2, h.kp x (.inl hx)⟩⟩
  · rintro ⟨x, cp, cur, rfl, l, hgg, r⟩
    exact ⟨x, cp, cur, rfl, l, (fR x (World.ownsRow.lt hW.gD x rfl).2 (fun e' => h.kd x (.inl e') rfl)).trans hgg, r⟩
  · rcases new x hx with hn | hn
    · exact h.kr x hn hbx
    · have := (h.gR.blocks hbx).2; omega
  · rcases new x hx with hn | hn
    · exact h.kd x hn hbx
    · have := (World.ownsRow.lt h.gD x hbx).2; omega
  · rcases new x hx with hn | hn
    · exact h.kp x hn hbx
    · omega
theorem MR.pushR {base p : Nat} {X W : World} {vk vr vd : Value} {ks : List K2} {rs : List R4} {zs : List Int} {gk gr : Nat → Nat} (h : MR base p X vk vr vd ks rs zs gk gr) (hb : Below X.heap.size X W) (hX : base ≤ X.heap.size) (hpX : p < X.heap.size) (k : R4) (q cap e : Nat) (hm : rs.length ≤ 100000) (ty : TypeId)
    (e0 : W.cell? ⟨e, 0, none⟩ = some (.int .i64 k.kind)) (e1 : W.cell? ⟨e, 1, none⟩ = some (.int .i64 k.tx)) (e2 : W.cell? ⟨e, 2, none⟩ = some (.int .i64 k.region)) (e3 : W.cell? ⟨e, 3, none⟩ = some (.slice (some ⟨q, 0, none⟩) k.sets.length cap)) (hat : AtR W q k) (hc : k.sets.length ≤ cap) (hq : X.heap.size ≤ q) (hql : q < W.heap.size) :
    ∃ v' Y, (Builtin.append_ #[59, 59] ty #[vr, .slice (some ⟨e, 0, none⟩) 1 1]).run Tryz.prog W = .ok v' Y ∧ MR base p Y vk v' vd ks (rs ++ [k]) zs gk (fun i => if i = rs.length then q else gr i) ∧ W.grownBy Y vr.ownBlock ∧ (∀ x, vr.ownBlock = some x → base ≤ x ∧ x < X.heap.size ∧ x ≠ p) := by
  have hW := h.later hb
  obtain ⟨i0, hi0, hz0, hz1, hz2⟩ := partsOf info_recs
  have old : ∀ x, blocksG vr rs gr x → x < X.heap.size := fun x hx => (h.gR.blocks hx).2
  obtain ⟨v', Y, hr, hg, hgr, hl⟩ := GrowG.push (hd := hdR) (ln := lnR) (sz := 4) (e := e) AtR.of_block (fun _ => rfl) Tryz.underlying59 hi0 hz0 hz1 hz2 rfl (by omega) hW.gR k q cap hm ty (fun j u hu => by
    rcases j with _ | _ | _ | _ | j
    · simp [cellsG, hdR] at hu; subst hu; exact e0
    · simp [cellsG, hdR] at hu; subst hu; exact e1
    · simp [cellsG, hdR] at hu; subst hu; exact e2
    · simp [cellsG, hdR, lnR] at hu; subst hu; exact e3
    · simp [cellsG, hdR] at hu) hat hc (by omega) hql (fun e' => by have := old q (.inl e'); omega) (fun i hi e' => by have := old q (.inr ⟨i, hi, e'⟩); omega) (Nat.le_trans hX hb.size)
  have new : ∀ x, blocksG v' (rs ++ [k]) (fun i => if i = rs.length then q else gr i) x → blocksG vr rs gr x ∨ X.heap.size ≤ x := fun x hx => by
    rcases blocks_push hl hx with h | h | h
    · exact .inl h
    · exact .inr (by omega)
    · exact .inr (by have := hb.size; omega)
  have fR : ∀ x, x < W.heap.size → vr.ownBlock ≠ some x → Y.heap[x]? = W.heap[x]? := fun x hx hne => hgr.block x hx (fun e' => hne e'.symm)
  refine ⟨v', Y, hr, ⟨hW.gK.keep AtK.of_block hgr.size (fun x hx hbx => fR x hx (fun e' => h.kr x hbx (.inl e'))), hg, ⟨hW.gD.1, hW.gD.2.imp id ?_⟩, fun x hbx hx => ?_, h.kd, fun x hx hbx => ?_, h.kp, fun x hx hbx => ?_, h.dp⟩, hgr, fun x hx => ⟨(h.gR.lies hx).1, (h.gR.lies hx).2, h.rp x (.inl hx)⟩⟩
  · rintro ⟨x, cp, cur, rfl, l, hgg, r⟩
    exact ⟨x, cp, cur, rfl, l, (fR x (World.ownsRow.lt hW.gD x rfl).2 (fun e' => h.rd x (.inl e') rfl)).trans hgg, r⟩
  · rcases new x hx with hn | hn
    · exact h.kr x hbx hn
    · have := (h.gK.blocks hbx).2; omega
  · rcases new x hx with hn | hn
    · exact h.rd x hn hbx
    · have := (World.ownsRow.lt h.gD x hbx).2; omega
  · rcases new x hx with hn | hn
    · exact h.rp x hn hbx
    · omega
theorem MR.om {base p : Nat} {X : World} {v : MV} {m : M4} {gk gr : Nat → Nat} (h : MR base p X (.slice v.ac m.copies.length v.cc) (.slice v.al m.log.length v.cl) (.slice v.ad m.cleared.length v.cd) m.copies m.log m.cleared gk gr) :
    OM X base v m (blocksG (.slice v.ac m.copies.length v.cc) m.copies gk) (blocksG (.slice v.al m.log.length v.cl) m.log gr) (fun q => (Value.slice v.ad m.cleared.length v.cd).ownBlock = some q) := by
  refine ⟨?_, ?_, ?_, h.kr, h.kd, h.rd, fun q hq => (h.gK.blocks hq).1, fun q hq => (h.gR.blocks hq).1, fun q hq => (World.ownsRow.lt h.gD q hq).1⟩
  · by_cases e : m.copies = []
    · exact .inl e
    · obtain ⟨b, cap, ev, h1, h2, h3, h4, h5⟩ := GrowG.own (hd := hdK) (sz := 2) (fun _ => rfl) h.gK e
      have ea : v.ac = some ⟨b, 0, none⟩ := by injection ev
      exact .inr ⟨b, gk, ea, .inl (by rw [ea]; rfl), fun i hi => .inr ⟨i, hi, rfl⟩, h2, h4, h5.base⟩
  · by_cases e : m.log = []
    · exact .inl e
    · obtain ⟨b, cap, ev, h1, h2, h3, h4, h5⟩ := GrowG.own (hd := hdR) (sz := 4) (fun _ => rfl) h.gR e
      have ea : v.al = some ⟨b, 0, none⟩ := by injection ev
      exact .inr ⟨b, gr, ea, .inl (by rw [ea]; rfl), fun i hi => .inr ⟨i, hi, rfl⟩, h2, h4, h5.base⟩
  · by_cases e : m.cleared = []
    · exact .inl e
    · have hpos : 0 < m.cleared.length := List.length_pos_iff.2 e
      obtain ⟨b, cap, ev, h1, h2⟩ := World.ownsRow.form h.gD hpos
      have ea : v.ad = some ⟨b, 0, none⟩ := by injection ev
      have ec : v.cd = cap := by injection ev
      have hg := h.gD
      rw [ea] at hg
      refine .inr ⟨b, ea, by rw [ea]; rfl, h2, fun i z ez => ?_, fun j hj => ⟨.int .i64 (m.cleared[j]'hj), ?_, World.ownsRow.frozenAt hg j⟩⟩
      · have hi := (List.getElem?_eq_some_iff.1 ez).1
        rw [Nat.zero_add, World.ownsRow.cellAt hg i (by omega), List.getElem?_map, ez]; rfl
      · rw [World.ownsRow.cellAt hg j (by omega), List.getElem?_map, List.getElem?_eq_getElem hj]; rfl
end Go.Proofs.YtnhjgomfkfehgaaGreatDoor
namespace Go.Proofs.YtnhjgomfkfehgaaGreatDoor
open Go.RowKit
open Go.Sort (grow)
def KP1.Ow (w : World) (B : Nat) (v : Nat × Nat) (zs : List Int) (P : Nat → Prop) : Prop := (P v.1 ∧ NumsAt w v.1 0 zs ∧ Room w v.1 zs.length ∧ zs.length ≤ v.2) ∧ (∀ q, P q → B ≤ q ∧ q < w.heap.size)
def KPk : Kd (List Int) (Nat × Nat) where
  n := 1
  cells v zs := [.slice (some ⟨v.1, 0, none⟩) zs.length v.2]
  len := fun _ _ => rfl
  Rd X v zs := v.1 < X.heap.size ∧ NumsAt X v.1 0 zs
  Ow := KP1.Ow
  later := fun h b => ⟨Nat.lt_of_lt_of_le h.1 b.size, h.2.of_block (b.block _ h.1)⟩
  sl := fun h => ⟨(h.2 _ h.1.1).2, h.1.2.1⟩
  of := fun h hq => h.2 _ hq
  keep := fun h hs hk => ⟨⟨h.1.1, h.1.2.1.of_block (hk _ h.1.1), h.1.2.2.1.of_block (hk _ h.1.1), h.1.2.2.2⟩, fun q hq => ⟨(h.2 q hq).1, Nat.lt_of_lt_of_le (h.2 q hq).2 hs⟩⟩
  low := fun h hb => ⟨h.1, fun q hq => ⟨Nat.le_trans hb (h.2 q hq).1, (h.2 q hq).2⟩⟩
theorem placesOwn {X : World} {B : Nat} {a : Option Addr} {m cap : Nat} {ps : List ((Nat × Nat) × List Int)} {g : Nat → Nat → Prop} (h : KPk.Grow 127 X B (.slice a m cap) ps g) {zss : List (List Int)} (hd : ps.map (·.2) = zss) : KP.Ow X B a zss (Kd.blk (.slice a m cap) ps g) := by
  refine ⟨?_, fun q hq => h.blocks hq⟩
  have hl : zss.length = ps.length := by rw [← hd]; simp
  by_cases e : ps = []
  · refine ⟨fun _ => 0, ?_, fun b e' => .inl (by rw [e']; rfl), fun i hi => by rw [hl, e] at hi; simp at hi⟩
    have hz : zss = [] := by rw [← hd, e]; rfl
    rcases h.row.2 with ⟨e', _⟩ | ⟨q, cap', cur, e', hB, hg, r⟩
    · left
      exact ⟨by injection e', by rw [hz]; rfl, hz⟩
    · right
      have ea : a = some ⟨q, 0, none⟩ := by injection e'
      refine ⟨q, ea, hB, (World.ownsRow.lt h.row q (by rw [e']; rfl)).2, ?_⟩
      rw [hz]
      exact OwnP.nil X B q _
  have hpos : 0 < ps.length := List.length_pos_iff.2 e
  obtain ⟨b, cap', ev, hB, hlt⟩ := World.ownsRow.form h.row hpos
  have hrow := h.row
  rw [ev] at hrow
  have ea : a = some ⟨b, 0, none⟩ := by injection ev
  have eb : (Value.slice a m cap).ownBlock = some b := by rw [ea]; rfl
  have hx : ∀ i zs, zss[i]? = some zs → ∃ hi : i < ps.length, (ps[i]).2 = zs := fun i zs hi => by
    have hip : i < ps.length := by have := (List.getElem?_eq_some_iff.1 hi).1; omega
    refine ⟨hip, ?_⟩
    rw [← hd, List.getElem?_map, List.getElem?_eq_getElem hip] at hi
    simpa using hi
  have hs : ∀ i (hi : i < ps.length), KP1.Ow X B (ps[i]).1 (ps[i]).2 (g i) := fun i hi => h.sub i _ (List.getElem?_eq_getElem hi)
  have gq : ∀ i (hi : i < ps.length), (ps[i]?.getD ((0, 0), [])).1.1 = (ps[i]).1.1 := fun i hi => by simp [List.getElem?_eq_getElem hi]
  refine ⟨fun i => ((ps[i]?.getD ((0, 0), [])).1.1), .inr ⟨b, ea, hB, hlt, ⟨rfl, fun i zs hi => ?_, fun i hi => ?_, fun i hi => ?_, fun i hi => ?_, fun i zs hi => ?_, fun i zs hi => ?_, fun i j hi hj ee => ?_⟩⟩, fun b' e' => .inl (by rw [e']; rfl), fun i hi => ?_⟩
  · obtain ⟨hip, hz⟩ := hx i zs hi
    refine ⟨(ps[i]).1.2, ?_, ?_⟩
    · rw [gq i hip, ← hz]
      have hc := World.ownsRow.cellAt hrow i (by show i < ps.length * 1; omega)
      rw [hc]
      have := KPk.flat_at (t := 0) (List.getElem?_eq_getElem hip) (by decide)
      simpa [KPk] using this
    · rw [← hz]; exact (hs i hip).1.2.2.2
  · have hip : i < ps.length := by omega
    rw [gq i hip]; exact ((hs i hip).2 _ (hs i hip).1.1).1
  · have hip : i < ps.length := by omega
    rw [gq i hip]; exact ((hs i hip).2 _ (hs i hip).1.1).2
  · have hip : i < ps.length := by omega
    rw [gq i hip]; intro e'
    exact h.ne i b hip (by rw [← e']; exact (hs i hip).1.1) eb
  · obtain ⟨hip, hz⟩ := hx i zs hi
    rw [gq i hip, ← hz]; exact (hs i hip).1.2.1
  · obtain ⟨hip, hz⟩ := hx i zs hi
    rw [gq i hip, ← hz]; exact (hs i hip).1.2.2.1
  · have hip : i < ps.length := by omega
    have hjp : j < ps.length := by omega
    rw [gq i hip, gq j hjp] at ee
    by_cases hij : i = j
    · exact hij
    · exact absurd (by rw [ee]; exact (hs j hjp).1.1) (h.ap i j _ hip hjp hij (hs i hip).1.1)
  · have hip : i < ps.length := by omega
    show Kd.blk _ _ _ ((ps[i]?.getD ((0, 0), [])).1.1)
    rw [gq i hip]; exact .inr ⟨i, hip, (hs i hip).1.1⟩
structure CL3 (base p : Nat) (X : World) (vp vm vt : Value) (ps : List ((Nat × Nat) × List Int)) (gp : Nat → Nat → Prop) (ms : List (MV × M4)) (gm : Nat → Nat → Prop) (ts : List (tx.TV × tx.T7)) (gt : Nat → Nat → Prop) : Prop where
  P : KPk.Grow 127 X base vp ps gp
  M : KMk.Grow 62 X base vm ms gm
  T : KTk.Grow 56 X base vt ts gt
  pm : ∀ q, Kd.blk vp ps gp q → ¬ Kd.blk vm ms gm q
  pt : ∀ q, Kd.blk vp ps gp q → ¬ Kd.blk vt ts gt q
  mt : ∀ q, Kd.blk vm ms gm q → ¬ Kd.blk vt ts gt q
  pp : ∀ q, Kd.blk vp ps gp q → q ≠ p
  mp : ∀ q, Kd.blk vm ms gm q → q ≠ p
  tp : ∀ q, Kd.blk vt ts gt q → q ≠ p
theorem CL3.keep {base p : Nat} {X Y : World} {vp vm vt : Value} {ps : List ((Nat × Nat) × List Int)} {gp : Nat → Nat → Prop} {ms : List (MV × M4)} {gm : Nat → Nat → Prop} {ts : List (tx.TV × tx.T7)} {gt : Nat → Nat → Prop} (h : CL3 base p X vp vm vt ps gp ms gm ts gt) (hs : X.heap.size ≤ Y.heap.size) (hk : ∀ q, q < X.heap.size → base ≤ q → q ≠ p → Y.heap[q]? = X.heap[q]?) : CL3 base p Y vp vm vt ps gp ms gm ts gt :=
  ⟨h.P.keep hs (fun q hq => hk q (h.P.blocks hq).2 (h.P.blocks hq).1 (h.pp q hq)), h.M.keep hs (fun q hq => hk q (h.M.blocks hq).2 (h.M.blocks hq).1 (h.mp q hq)), h.T.keep hs (fun q hq => hk q (h.T.blocks hq).2 (h.T.blocks hq).1 (h.tp q hq)), h.pm, h.pt, h.mt, h.pp, h.mp, h.tp⟩
theorem CL3.later {base p : Nat} {X Y : World} {vp vm vt : Value} {ps : List ((Nat × Nat) × List Int)} {gp : Nat → Nat → Prop} {ms : List (MV × M4)} {gm : Nat → Nat → Prop} {ts : List (tx.TV × tx.T7)} {gt : Nat → Nat → Prop} (h : CL3 base p X vp vm vt ps gp ms gm ts gt) (hb : Below X.heap.size X Y) : CL3 base p Y vp vm vt ps gp ms gm ts gt := h.keep hb.size (fun q hq _ _ => hb.block q hq)
theorem CL3.set {base p o : Nat} {X : World} {u : Value} {vp vm vt : Value} {ps : List ((Nat × Nat) × List Int)} {gp : Nat → Nat → Prop} {ms : List (MV × M4)} {gm : Nat → Nat → Prop} {ts : List (tx.TV × tx.T7)} {gt : Nat → Nat → Prop} (h : CL3 base p X vp vm vt ps gp ms gm ts gt) : CL3 base p (X.setCell ⟨p, o, none⟩ u) vp vm vt ps gp ms gm ts gt := h.keep (by simp [World.setCell]) (fun q _ _ hp => Below.heap_setCell _ _ _ _ hp)
def gnone : Nat → Nat → Prop := fun _ _ => False
theorem blk_nil {D V : Type} {q : Nat} (h : Kd.blk (D := D) (V := V) (.slice none 0 0) [] gnone q) : False := by
  rcases h with h | ⟨i, hi, _⟩
  · cases h
  · simp at hi
theorem CL3.nil (base p : Nat) (X : World) : CL3 base p X (.slice none 0 0) (.slice none 0 0) (.slice none 0 0) [] gnone [] gnone [] gnone :=
  ⟨Kd.Grow.nil _ _ _ _ _, Kd.Grow.nil _ _ _ _ _, Kd.Grow.nil _ _ _ _ _, fun _ h => (blk_nil h).elim, fun _ h => (blk_nil h).elim, fun _ h => (blk_nil h).elim, fun _ h => (blk_nil h).elim, fun _ h => (blk_nil h).elim, fun _ h => (blk_nil h).elim⟩
theorem CL3.ow {base p : Nat} {X : World} {a1 : Option Addr} {c1 : Nat} {a2 : Option Addr} {c2 : Nat} {a3 : Option Addr} {c3 : Nat} {k : C6} {ps : List ((Nat × Nat) × List Int)} {gp : Nat → Nat → Prop} {ms : List (MV × M4)} {gm : Nat → Nat → Prop} {ts : List (tx.TV × tx.T7)} {gt : Nat → Nat → Prop} (h : CL3 base p X (.slice a1 k.places.length c1) (.slice a2 k.machines.length c2) (.slice a3 k.txs.length c3) ps gp ms gm ts gt) (e1 : ps.map (·.2) = k.places) (e2 : ms.map (·.2) = k.machines) (e3 : ts.map (·.2) = k.txs) :
    KCl.Ow X base a1 c1 a2 c2 a3 c3 k (fun q => Kd.blk (.slice a1 k.places.length c1) ps gp q ∨ Kd.blk (.slice a2 k.machines.length c2) ms gm q ∨ Kd.blk (.slice a3 k.txs.length c3) ts gt q) :=
  ⟨⟨_, _, _, placesOwn h.P e1, h.M.own e2, h.T.own e3, fun _ hq => .inl hq, fun _ hq => .inr (.inl hq), fun _ hq => .inr (.inr hq), h.pm, h.pt, h.mt⟩, fun q hq => by rcases hq with hq | hq | hq; exact h.P.blocks hq; exact h.M.blocks hq; exact h.T.blocks hq⟩
theorem infoPlace : (Tryz.prog.info? 127).map (fun i => (i.zero, i.size, i.bytes)) = some (some (.agg #[.slice none 0 0]), 1, 24) := by kernel_rfl
theorem infoMachine : (Tryz.prog.info? 62).map (fun i => (i.zero, i.size, i.bytes)) = some (some (.agg #[.bool false, .slice none 0 0, .slice none 0 0, .slice none 0 0]), 4, 80) := by kernel_rfl
theorem infoTx : (Tryz.prog.info? 56).map (fun i => (i.zero, i.size, i.bytes)) = some (some (.agg #[.int .i64 0, .int .i64 0, .int .i64 0, .int .i64 0, .slice none 0 0, .slice none 0 0, .int .i64 0]), 7, 88) := by kernel_rfl
theorem CL3.pushP {base p : Nat} {X W : World} {vp vm vt : Value} {ps : List ((Nat × Nat) × List Int)} {gp : Nat → Nat → Prop} {ms : List (MV × M4)} {gm : Nat → Nat → Prop} {ts : List (tx.TV × tx.T7)} {gt : Nat → Nat → Prop} (h : CL3 base p X vp vm vt ps gp ms gm ts gt) (hb : Below X.heap.size X W) (hX : base ≤ X.heap.size) (hpX : p < X.heap.size) (x : Nat × Nat) (d : List Int) (Q : Nat → Prop) (e : Nat) (hm : ps.length ≤ 1000) (ty : TypeId)
    (he : ∀ j u, (KPk.cells x d)[j]? = some u → W.cell? ⟨e, j, none⟩ = some u) (ho : KPk.Ow W X.heap.size x d Q) :
    ∃ v' Y, (Builtin.append_ #[28, 28] ty #[vp, .slice (some ⟨e, 0, none⟩) 1 1]).run Tryz.prog W = .ok v' Y ∧ CL3 base p Y v' vm vt (ps ++ [(x, d)]) (fun i => if i = ps.length then Q else gp i) ms gm ts gt ∧ W.grownBy Y vp.ownBlock ∧ (∀ y, vp.ownBlock = some y → base ≤ y ∧ y < X.heap.size ∧ y ≠ p) := by
  have hW := h.later hb
  obtain ⟨i0, hi0, hz0, hz1, hz2⟩ := partsOf infoPlace
  have old : ∀ y, Kd.blk vp ps gp y → y < X.heap.size := fun y hy => (h.P.blocks hy).2
  obtain ⟨v', Y, hr, hg, hgr, hl⟩ := Kd.Grow.push (K := KPk) (e := e) Tryz.underlying28 hi0 hz0 hz1 hz2 rfl (by omega) (by decide) hW.P x d Q (by omega) ty he (by intro u hu; simp only [KPk, List.mem_cons, List.not_mem_nil, or_false] at hu; subst hu; rfl) (KPk.low ho hX) (fun y hy hb' => by have := (KPk.of ho hy).1; have := old y hb'; omega) (Nat.le_trans hX hb.size)
  have new : ∀ y, Kd.blk v' (ps ++ [(x, d)]) (fun i => if i = ps.length then Q else gp i) y → Kd.blk vp ps gp y ∨ X.heap.size ≤ y := fun y hy => by
    rcases Kd.blk_push hl hy with h' | h' | h'
    · exact .inl h'
    · exact .inr (KPk.of ho h').1
    · exact .inr (by have := hb.size; omega)
  have far : ∀ y, y < W.heap.size → vp.ownBlock ≠ some y → Y.heap[y]? = W.heap[y]? := fun y hy hne => hgr.block y hy (fun e' => hne e'.symm)
  exact ⟨v', Y, hr, ⟨hg, hW.M.keep hgr.size (fun y hy => far y (hW.M.blocks hy).2 (fun e' => h.pm y (.inl e') hy)), hW.T.keep hgr.size (fun y hy => far y (hW.T.blocks hy).2 (fun e' => h.pt y (.inl e') hy)), fun y hy hz => by rcases new y hy with hn | hn; exact h.pm y hn hz; have := (h.M.blocks hz).2; omega, fun y hy hz => by rcases new y hy with hn | hn; exact h.pt y hn hz; have := (h.T.blocks hz).2; omega, h.mt, fun y hy => by rcases new y hy with hn | hn; exact h.pp y hn; omega, h.mp, h.tp⟩, hgr, fun y hy => ⟨(h.P.blocks (.inl hy)).1, (h.P.blocks (.inl hy)).2, h.pp y (.inl hy)⟩⟩
theorem CL3.pushM {base p : Nat} {X W : World} {vp vm vt : Value} {ps : List ((Nat × Nat) × List Int)} {gp : Nat → Nat → Prop} {ms : List (MV × M4)} {gm : Nat → Nat → Prop} {ts : List (tx.TV × tx.T7)} {gt : Nat → Nat → Prop} (h : CL3 base p X vp vm vt ps gp ms gm ts gt) (hb : Below X.heap.size X W) (hX : base ≤ X.heap.size) (hpX : p < X.heap.size) (x : MV) (d : M4) (Q : Nat → Prop) (e : Nat) (hm : ms.length ≤ 1000) (ty : TypeId)
    (he : ∀ j u, (KMk.cells x d)[j]? = some u → W.cell? ⟨e, j, none⟩ = some u) (ho : KMk.Ow W X.heap.size x d Q) :
    ∃ v' Y, (Builtin.append_ #[29, 29] ty #[vm, .slice (some ⟨e, 0, none⟩) 1 1]).run Tryz.prog W = .ok v' Y ∧ CL3 base p Y vp v' vt ps gp (ms ++ [(x, d)]) (fun i => if i = ms.length then Q else gm i) ts gt ∧ W.grownBy Y vm.ownBlock ∧ (∀ y, vm.ownBlock = some y → base ≤ y ∧ y < X.heap.size ∧ y ≠ p) := by
  have hW := h.later hb
  obtain ⟨i0, hi0, hz0, hz1, hz2⟩ := partsOf infoMachine
  have old : ∀ y, Kd.blk vm ms gm y → y < X.heap.size := fun y hy => (h.M.blocks hy).2
  obtain ⟨v', Y, hr, hg, hgr, hl⟩ := Kd.Grow.push (K := KMk) (e := e) Tryz.underlying29 hi0 hz0 hz1 hz2 rfl (by omega) (by decide) hW.M x d Q (by omega) ty he (by intro u hu; simp only [KMk, List.mem_cons, List.not_mem_nil, or_false] at hu; rcases hu with rfl | rfl | rfl | rfl <;> rfl) (KMk.low ho hX) (fun y hy hb' => by have := (KMk.of ho hy).1; have := old y hb'; omega) (Nat.le_trans hX hb.size)
  have new : ∀ y, Kd.blk v' (ms ++ [(x, d)]) (fun i => if i = ms.length then Q else gm i) y → Kd.blk vm ms gm y ∨ X.heap.size ≤ y := fun y hy => by
    rcases Kd.blk_push hl hy with h' | h' | h'
    · exact .inl h'
    · exact .inr (KMk.of ho h').1
    · exact .inr (by have := hb.size; omega)
  have far : ∀ y, y < W.heap.size → vm.ownBlock ≠ some y → Y.heap[y]? = W.heap[y]? := fun y hy hne => hgr.block y hy (fun e' => hne e'.symm)
  exact ⟨v', Y, hr, ⟨hW.P.keep hgr.size (fun y hy => far y (hW.P.blocks hy).2 (fun e' => h.pm y hy (.inl e'))), hg, hW.T.keep hgr.size (fun y hy => far y (hW.T.blocks hy).2 (fun e' => h.mt y (.inl e') hy)), fun y hy hz => by rcases new y hz with hn | hn; exact h.pm y hy hn; have := (h.P.blocks hy).2; omega, h.pt, fun y hy hz => by rcases new y hy with hn | hn; exact h.mt y hn hz; have := (h.T.blocks hz).2; omega, h.pp, fun y hy => by rcases new y hy with hn | hn; exact h.mp y hn; omega, h.tp⟩, hgr, fun y hy => ⟨(h.M.blocks (.inl hy)).1, (h.M.blocks (.inl hy)).2, h.mp y (.inl hy)⟩⟩
theorem CL3.pushT {base p : Nat} {X W : World} {vp vm vt : Value} {ps : List ((Nat × Nat) × List Int)} {gp : Nat → Nat → Prop} {ms : List (MV × M4)} {gm : Nat → Nat → Prop} {ts : List (tx.TV × tx.T7)} {gt : Nat → Nat → Prop} (h : CL3 base p X vp vm vt ps gp ms gm ts gt) (hb : Below X.heap.size X W) (hX : base ≤ X.heap.size) (hpX : p < X.heap.size) (x : tx.TV) (d : tx.T7) (Q : Nat → Prop) (e : Nat) (hm : ts.length ≤ 1000) (ty : TypeId)
    (he : ∀ j u, (KTk.cells x d)[j]? = some u → W.cell? ⟨e, j, none⟩ = some u) (ho : KTk.Ow W X.heap.size x d Q) :
    ∃ v' Y, (Builtin.append_ #[30, 30] ty #[vt, .slice (some ⟨e, 0, none⟩) 1 1]).run Tryz.prog W = .ok v' Y ∧ CL3 base p Y vp vm v' ps gp ms gm (ts ++ [(x, d)]) (fun i => if i = ts.length then Q else gt i) ∧ W.grownBy Y vt.ownBlock ∧ (∀ y, vt.ownBlock = some y → base ≤ y ∧ y < X.heap.size ∧ y ≠ p) := by
  have hW := h.later hb
  obtain ⟨i0, hi0, hz0, hz1, hz2⟩ := partsOf infoTx
  have old : ∀ y, Kd.blk vt ts gt y → y < X.heap.size := fun y hy => (h.T.blocks hy).2
  obtain ⟨v', Y, hr, hg, hgr, hl⟩ := Kd.Grow.push (K := KTk) (e := e) Tryz.underlying30 hi0 hz0 hz1 hz2 rfl (by omega) (by decide) hW.T x d Q (by omega) ty he (by intro u hu; simp only [KTk, List.mem_cons, List.not_mem_nil, or_false] at hu; rcases hu with rfl | rfl | rfl | rfl | rfl | rfl | rfl <;> rfl) (KTk.low ho hX) (fun y hy hb' => by have := (KTk.of ho hy).1; have := old y hb'; omega) (Nat.le_trans hX hb.size)
  have new : ∀ y, Kd.blk v' (ts ++ [(x, d)]) (fun i => if i = ts.length then Q else gt i) y → Kd.blk vt ts gt y ∨ X.heap.size ≤ y := fun y hy => by
    rcases Kd.blk_push hl hy with h' | h' | h'
    · exact .inl h'
    · exact .inr (KTk.of ho h').1
    · exact .inr (by have := hb.size; omega)
  have far : ∀ y, y < W.heap.size → vt.ownBlock ≠ some y → Y.heap[y]? = W.heap[y]? := fun y hy hne => hgr.block y hy (fun e' => hne e'.symm)
  exact ⟨v', Y, hr, ⟨hW.P.keep hgr.size (fun y hy => far y (hW.P.blocks hy).2 (fun e' => h.pt y hy (.inl e'))), hW.M.keep hgr.size (fun y hy => far y (hW.M.blocks hy).2 (fun e' => h.mt y hy (.inl e'))), hg, h.pm, fun y hy hz => by rcases new y hz with hn | hn; exact h.pt y hy hn; have := (h.P.blocks hy).2; omega, fun y hy hz => by rcases new y hz with hn | hn; exact h.mt y hy hn; have := (h.M.blocks hy).2; omega, h.pp, h.mp, fun y hy => by rcases new y hy with hn | hn; exact h.tp y hn; omega⟩, hgr, fun y hy => ⟨(h.T.blocks (.inl hy)).1, (h.T.blocks (.inl hy)).2, h.tp y (.inl hy)⟩⟩
theorem szInt64S_any (w : World) (a : Option Addr) (n cap : Nat) (l : Nat) (hn : n ≤ maxLen) (hl : l ≤ 1048576) : Calls Tryz.prog 131 #[.slice a n cap, .int .i64 (l : Int)] w fun e w' => e = .returned (.int .i64 (if n ≤ l then ((l - n : Nat) : Int) else -1)) ∧ w' = w := by
  unfold maxLen at hn
  by_cases h : n ≤ l
  · rw [if_pos h]
    have d0 : decide ((l : Int) - (n : Int) < 0) = false := by simp; omega
    go_enter Tryz.func131, Tryz.ntmps131
    go_wp2
    go_ret
    have e : ((l - n : Nat) : Int) = (l : Int) - (n : Int) := by omega
    exact ⟨by rw [e]; rfl, rfl⟩
  · rw [if_neg h]
    have d0 : decide ((l : Int) - (n : Int) < 0) = true := by simp; omega
    go_enter Tryz.func131, Tryz.ntmps131
    go_wp2
    go_ret
    exact ⟨rfl, rfl⟩
theorem szPlace_any (w : World) (a : Option Addr) (n cap : Nat) (l : Nat) (hn : n ≤ maxLen) (hl : l ≤ 1048576) : Calls Tryz.prog 75 #[.agg #[.slice a n cap], .int .i64 (l : Int)] w fun e w' => e = .returned (.int .i64 (if n ≤ l then ((l - n : Nat) : Int) else -1)) ∧ Below w.heap.size w w' := by
  by_cases h : n ≤ l
  · rw [if_pos h]
    go_enter Tryz.func75, Tryz.ntmps75
    go_wp2_with fail
    have hz := szInt64S_any (w.alloc (.cells #[.slice a n cap] 114)) a n cap l hn hl
    rw [if_pos h] at hz
    refine hz.mono ?_
    rintro e w1 ⟨rfl, rfl⟩
    have d0 : decide (((l - n : Nat) : Int) < 0) = false := by simp
    go_wp2
    go_ret
    exact ⟨rfl, (Below.refl _ _).alloc (Nat.le_refl _) _⟩
  · rw [if_neg h]
    go_enter Tryz.func75, Tryz.ntmps75
    go_wp2_with fail
    have hz := szInt64S_any (w.alloc (.cells #[.slice a n cap] 114)) a n cap l hn hl
    rw [if_neg h] at hz
    refine hz.mono ?_
    rintro e w1 ⟨rfl, rfl⟩
    go_wp2
    go_ret
    exact ⟨rfl, (Below.refl _ _).alloc (Nat.le_refl _) _⟩
def szR (n : Nat) (zss : List (List Int)) : Int := if n + lens zss ≤ 1048576 then ((1048576 - (n + lens zss) : Nat) : Int) else -1
set_option maxHeartbeats 2000000 in
theorem szPlaceS_any (w : World) (a : Option Addr) (n cap : Nat) (zss : List (List Int)) (hn : n ≤ maxLen) (hs : SlP w w.heap.size a n zss) (hl : ∀ zs ∈ zss, zs.length ≤ maxLen) :
    Calls Tryz.prog 26 #[.slice a n cap, .int .i64 1048576] w fun e w' => e = .returned (.int .i64 (szR n zss)) ∧ Below w.heap.size w w' := by
  obtain ⟨hx, hs⟩ := hs
  have hn' := hn
  unfold maxLen at hn'
  by_cases h0 : n ≤ 1048576
  · have d0 : decide ((1048576 : Int) - (n : Int) < 0) = false := by simp; omega
    go_enter Tryz.func26, Tryz.ntmps26
    go_wp2
    go_loopw [1, 5] (fun v1 v5 wr => ∃ j : Nat, j ≤ n ∧ v5 = .int .i64 j ∧ n + lens (zss.take j) ≤ 1048576 ∧ v1 = .int .i64 ((1048576 - (n + lens (zss.take j)) : Nat) : Int) ∧ Below w.heap.size w wr) (fun _ v5 _ => n - (intOf v5).toNat)
    case atStart => exact ⟨0, Nat.zero_le _, rfl, by simpa [lens] using h0, by simp [lens]; omega, Below.refl _ _⟩
    case round =>
      obtain ⟨j, hj, rfl, hle, rfl, hbl⟩ := hrel
      have KL : Hid (n + lens (zss.take j) ≤ 1048576 ∧ zss.length = n ∧ (∀ zs ∈ zss, zs.length ≤ maxLen)) := ⟨hle, hx, hl⟩
      by_cases hlt : j < n
      · rcases hs with hs | ⟨b, off, rfl, hb, h1⟩
        · omega
        · obtain ⟨a', cap', hc, _, _⟩ := h1 j _ (atP_of (by omega))
          have c := (hbl.cell (p := ⟨b, off + j, none⟩) hb).trans hc
          have hz := szPlace_any wr a' (atP zss j).length cap' (1048576 - (n + lens (zss.take j))) (hl _ (List.mem_of_getElem? (atP_of (by omega)))) (by omega)
          have HST : Hid (lens (zss.take (j + 1)) = lens (zss.take j) + (atP zss j).length) := lens_take_succ (by omega)
          have HLE : Hid (lens (zss.take (j + 1)) ≤ lens zss) := lens_take_le _ _
          have KB : Hid (Below w.heap.size w wr) := hbl
          generalize hLL : lens (zss.take j) = LL at *
          generalize (atP zss j).length = m at *
          clear h1 hc hbl hl hx hle
          by_cases hfit : m ≤ 1048576 - (n + LL)
          · rw [if_pos hfit] at hz
            have d1 : decide (((1048576 - (n + LL) - m : Nat) : Int) < 0) = false := by simp
            go_wp2_with fail
            refine hz.mono ?_
            clear hz
            rintro e w1 ⟨rfl, b1⟩
            go_wp2
            have h1 := KL.out.1
            refine ⟨⟨j + 1, by omega, by simp, by rw [HST.out]; omega, by rw [HST.out]; congr 2; omega, KB.out.trans (b1.mono KB.out.size)⟩, by simp [intOf]; omega⟩
          · rw [if_neg hfit] at hz
            go_wp2_with fail
            refine hz.mono ?_
            clear hz
            rintro e w1 ⟨rfl, b1⟩
            go_wp2
            go_ret
            have h2 := HST.out
            have h3 := HLE.out
            refine ⟨by rw [szR, if_neg (by omega)]; rfl, KB.out.trans (b1.mono KB.out.size)⟩
      · have : j = n := by omega
        subst this
        have hd : decide ((j : Int) < (j : Int)) = false := by simp
        have ht : zss.take j = zss := List.take_of_length_le (by omega)
        rw [ht] at hle ⊢
        clear hs hl KL ht
        go_wp2
        go_ret
        exact ⟨by rw [szR, if_pos hle]; rfl, hbl⟩
  · have d0 : decide ((1048576 : Int) - (n : Int) < 0) = true := by simp; omega
    go_enter Tryz.func26, Tryz.ntmps26
    go_wp2
    go_ret
    exact ⟨by rw [szR, if_neg (by omega)]; rfl, Below.refl _ _⟩
end Go.Proofs.YtnhjgomfkfehgaaGreatDoor
namespace Go.Proofs.YtnhjgomfkfehgaaGreatDoor
open Go.RowKit
def szC (k : C6) : Nat := (k.places.length + lens k.places) + (k.machines.length + KMS.szs k.machines) + (k.txs.length + KTS.szs k.txs)
structure KCl.L (k : C6) : Prop where
  p : k.places.length ≤ maxLen
  ps : ∀ zs ∈ k.places, zs.length ≤ maxLen
  m : k.machines.length ≤ maxLen
  ms : ∀ m ∈ k.machines, ML m
  t : k.txs.length ≤ maxLen
  ts : ∀ t ∈ k.txs, tx.TL t
theorem sum_has {α : Type} (f : α → Nat) {x : α} : ∀ {l : List α}, x ∈ l → f x ≤ (l.map f).sum
  | y :: l, h => by
    simp only [List.map_cons, List.sum_cons]
    rcases List.mem_cons.1 h with rfl | h
    · omega
    · have := sum_has f h; omega
theorem KCl.S.of {k : C6} (h : szC k ≤ 1048576) : KCl.S k := by
  unfold szC at h
  refine ⟨by omega, fun zs hz => ?_, by omega, fun m hm => MT.of_sz ?_, by omega, fun t ht => ?_⟩
  · have := lens_mem hz; omega
  · have := sum_has (fun m => szM m) hm; unfold KMS.szs at h; omega
  · have h1 := sum_has (fun t => tx.szT t) ht
    unfold KTS.szs at h
    have h2 : tx.szT t = t.reads.length + t.sets.length := rfl
    exact ⟨by omega, by omega⟩
set_option maxRecDepth 100000 in
set_option maxHeartbeats 4000000 in
theorem KCl.sz (X : World) (a1 : Option Addr) (c1 : Nat) (a2 : Option Addr) (c2 : Nat) (a3 : Option Addr) (c3 : Nat) (k : C6) (hl : KCl.L k) (h : KCl.Rd X a1 c1 a2 c2 a3 c3 k) : Calls Tryz.prog 9 #[.agg #[.int .i64 k.config, .int .i64 k.clock, .slice a1 k.places.length c1, .slice a2 k.machines.length c2, .slice a3 k.txs.length c3, .bool k.lost], .int .i64 1048576] X fun e w' => e = .returned (.int .i64 (leftR 1048576 (szC k))) ∧ Below X.heap.size X w' := by
  obtain ⟨U, hU⟩ : ∃ Y, Y = X.alloc (.cells #[.int .i64 k.config, .int .i64 k.clock, .slice a1 k.places.length c1, .slice a2 k.machines.length c2, .slice a3 k.txs.length c3, .bool k.lost] 26) := ⟨_, rfl⟩
  have b0 : Below X.heap.size X U := by rw [hU]; exact (Below.refl _ _).alloc (Nat.le_refl _) _
  have FA : Hid (Bx U X.heap.size [.int .i64 k.config, .int .i64 k.clock, .slice a1 k.places.length c1, .slice a2 k.machines.length c2, .slice a3 k.txs.length c3, .bool k.lost]) := by rw [hU]; exact Bx.made X [.int .i64 k.config, .int .i64 k.clock, .slice a1 k.places.length c1, .slice a2 k.machines.length c2, .slice a3 k.txs.length c3, .bool k.lost] _
  have HR : Hid (KCl.Rd U a1 c1 a2 c2 a3 c3 k ∧ KCl.L k ∧ Below X.heap.size X U) := ⟨h.later b0, hl, b0⟩
  have hz1 := szPlaceS_any U a1 k.places.length c1 k.places hl.p (h.later b0).p hl.ps
  have e1 : szR k.places.length k.places = leftR 1048576 (k.places.length + lens k.places) := by unfold szR leftR; rfl
  rw [e1] at hz1
  have HS : Hid (szC k = (k.places.length + lens k.places) + (k.machines.length + KMS.szs k.machines) + (k.txs.length + KTS.szs k.txs)) := rfl
  have HM : Hid (∀ (w : World) (l : Nat), Below U.heap.size U w → l ≤ 1048576 → Calls Tryz.prog 27 #[.slice a2 k.machines.length c2, .int .i64 (l : Int)] w fun e w' => e = .returned (.int .i64 (leftR l (k.machines.length + KMS.szs k.machines))) ∧ Below w.heap.size w w') := fun w l hb hl0 => KMS.sz w a2 c2 k.machines l hl0 hl.m hl.ms ((h.later b0).later hb).m
  have HT : Hid (∀ (w : World) (l : Nat), Below U.heap.size U w → l ≤ 1048576 → Calls Tryz.prog 28 #[.slice a3 k.txs.length c3, .int .i64 (l : Int)] w fun e w' => e = .returned (.int .i64 (leftR l (k.txs.length + KTS.szs k.txs))) ∧ Below w.heap.size w w') := fun w l hb hl0 => KTS.sz w a3 c3 k.txs l hl0 hl.t hl.ts ((h.later b0).later hb).t
  rw [HS.out]
  generalize k.places.length + lens k.places = n1 at *
  generalize k.machines.length + KMS.szs k.machines = n2 at *
  generalize k.txs.length + KTS.szs k.txs = n3 at *
  have p2 := FA.out.1 2 _ rfl
  rw [hU] at p2
  clear b0 hl h e1 HS
  go_enter Tryz.func9, Tryz.ntmps9
  go_wp2_with fail
  rw [← hU]
  clear hU p2
  refine hz1.mono ?_
  clear hz1
  rintro e w1 ⟨rfl, b1⟩
  have B1 := tx.hidOf b1
  clear b1
  by_cases g1 : n1 ≤ 1048576
  · rw [leftR_yes g1]
    have d1 : decide (((1048576 - n1 : Nat) : Int) < 0) = false := by simp
    have p3 := (FA.out.later B1.out).1 3 _ rfl
    have hz := HM.out w1 (1048576 - n1) B1.out (by omega)
    go_wp2_with fail
    refine hz.mono ?_
    clear hz p3
    rintro e w2 ⟨rfl, b2⟩
    have B2 : Hid (Below U.heap.size U w2) := bstep B1.out b2
    clear b2
    by_cases g2 : n2 ≤ 1048576 - n1
    · rw [leftR_yes g2]
      have d2 : decide (((1048576 - n1 - n2 : Nat) : Int) < 0) = false := by simp
      have p4 := (FA.out.later B2.out).1 4 _ rfl
      have hz := HT.out w2 (1048576 - n1 - n2) B2.out (by omega)
      go_wp2_with fail
      refine hz.mono ?_
      clear hz p4
      rintro e w3 ⟨rfl, b3⟩
      have B3 : Hid (Below U.heap.size U w3) := bstep B2.out b3
      clear b3
      by_cases g3 : n3 ≤ 1048576 - n1 - n2
      · rw [leftR_yes g3]
        have d3 : decide (((1048576 - n1 - n2 - n3 : Nat) : Int) < 0) = false := by simp
        go_wp2
        go_ret
        exact ⟨by rw [leftR_yes (by omega), show 1048576 - (n1 + n2 + n3) = 1048576 - n1 - n2 - n3 by omega]; rfl, bstep HR.out.2.2 B3.out⟩
      · rw [leftR_no g3]
        go_wp2
        go_ret
        exact ⟨by rw [leftR_no (by omega)]; rfl, bstep HR.out.2.2 B3.out⟩
    · rw [leftR_no g2]
      go_wp2
      go_ret
      exact ⟨by rw [leftR_no (by omega)]; rfl, bstep HR.out.2.2 B2.out⟩
  · rw [leftR_no g1]
    go_wp2
    go_ret
    exact ⟨by rw [leftR_no (by omega)]; rfl, bstep HR.out.2.2 B1.out⟩
end Go.Proofs.YtnhjgomfkfehgaaGreatDoor
namespace Go.Proofs.YtnhjgomfkfehgaaGreatDoor
open Go.RowKit
open Go.Sort (grow)
theorem specId_q (w : World) (x : Int) : Calls Tryz.prog 31 #[.int .i64 x] w fun e w' => e = .returned (.bool (inB 1 1000000 x)) ∧ Below w.heap.size w w' := by
  go_enter Tryz.func31, Tryz.ntmps31
  go_wp2_with (go_at_call 32; refine (specIn _ _ _ _).mono ?_; rintro e w' ⟨rfl, rfl⟩)
  go_ret
  exact ⟨rfl, Below.refl _ _⟩
def idAt (zs : List Int) (i : Nat) : Bool := inB 1 1000000 (atN zs i) && (decide (i = 0) || decide (atN zs (i - 1) < atN zs i))
def idsB (zs : List Int) : Bool := (List.range zs.length).all (idAt zs)
theorem ids_step {f : Nat → Bool} {k : Nat} (h : (List.range k).all f = true) (h' : f k = true) : (List.range (k + 1)).all f = true := by
  rw [List.range_succ, List.all_append, h]; simp [h']
theorem ids_fail {f : Nat → Bool} {k n : Nat} (hk : k < n) (h : f k = false) : (List.range n).all f = false := by
  rw [List.all_eq_false]; exact ⟨k, List.mem_range.2 hk, by simp [h]⟩
theorem id_bad {zs : List Int} {k : Nat} (h : inB 1 1000000 (atN zs k) = false) : idAt zs k = false := by simp [idAt, h]
theorem id_low {zs : List Int} {j : Nat} (h : atN zs (j + 1) ≤ atN zs j) : idAt zs (j + 1) = false := by simp [idAt]; intro _; omega
theorem id_first {zs : List Int} (h : inB 1 1000000 (atN zs 0) = true) : idAt zs 0 = true := by simp [idAt, h]
theorem id_good {zs : List Int} {j : Nat} (h : inB 1 1000000 (atN zs (j + 1)) = true) (h' : ¬ atN zs (j + 1) ≤ atN zs j) : idAt zs (j + 1) = true := by simp [idAt, h]; omega
set_option maxHeartbeats 4000000 in
theorem l6Rises_any (w : World) (a : Option Addr) (n cap : Nat) (zs : List Int) (hn : n ≤ maxLen) (hs : SlN w w.heap.size a n zs) :
    Calls Tryz.prog 136 #[.slice a n cap] w fun e w' => e = .returned (.bool (idsB zs)) ∧ Below w.heap.size w w' := by
  unfold maxLen at hn
  obtain ⟨hx, hs⟩ := hs
  go_enter Tryz.func136, Tryz.ntmps136
  go_wp2
  go_loopw [3] (fun i wr => ∃ k : Nat, k ≤ n ∧ i = .int .i64 k ∧ Below w.heap.size w wr ∧ (List.range k).all (idAt zs) = true) (fun i _ => n - (intOf i).toNat)
  case atStart => exact ⟨0, Nat.zero_le _, rfl, Below.refl _ _, rfl⟩
  case round =>
    obtain ⟨k, hk, rfl, hbl, hall⟩ := hrel
    have K : Hid (Below w.heap.size w wr ∧ (List.range k).all (idAt zs) = true ∧ zs.length = n) := ⟨hbl, hall, hx⟩
    by_cases hlt : k < n
    · rcases hs with hs | ⟨b, off, rfl, hb, h1⟩
      · omega
      have hbW : b < wr.heap.size := Nat.lt_of_lt_of_le hb hbl.size
      have t1 := (h1.below hbl hb) k _ (atN_of (by omega))
      have c0 : ∀ d os, (grow (redrawn wr d) os).cell? ⟨b, off + k, none⟩ = some (.int .i64 (atN zs k)) := fun d os => ((below_regrown wr d os).cell (p := ⟨b, off + k, none⟩) hbW).trans t1
      have cQ : ∀ d os, Calls Tryz.prog 31 #[.int .i64 (atN zs k)] (grow (redrawn wr d) os) fun e w'' => e = .returned (.bool (inB 1 1000000 (atN zs k))) ∧ ∃ p : Regrown, w'' = grow (redrawn wr p.d) p.os := fun d os => Calls.regrown_of (specId_q _ (atN zs k))
      cases hok : inB 1 1000000 (atN zs k) with
      | false =>
        rw [hok] at cQ
        clear t1 hbl hall h1 hx
        go_wp2_with fail
        refine wp_region_quiet_below (by kernel_rfl) (by kernel_rfl) ?_
        repeat (go_big_quiet_step (exact cQ _ _))
        refine wpQuiet_nil ?_
        intro _ hw'
        obtain ⟨⟨dq, osq⟩, hw''⟩ := hw'
        subst hw''
        have bq := below_regrown wr dq osq
        go_wp2
        go_ret
        exact ⟨by rw [idsB, K.out.2.2, ids_fail hlt (id_bad hok)]; rfl, K.out.1.trans (bq.mono K.out.1.size)⟩
      | true =>
        rw [hok] at cQ
        rcases k with _ | j
        · simp only [Nat.add_zero] at c0
          clear t1 hbl hall h1 hx
          go_wp2_with fail
          refine wp_region_quiet_below (by kernel_rfl) (by kernel_rfl) ?_
          repeat (go_big_quiet_step (exact cQ _ _))
          refine wpQuiet_nil ?_
          intro _ hw'
          obtain ⟨⟨dq, osq⟩, hw''⟩ := hw'
          subst hw''
          have bq := below_regrown wr dq osq
          go_wp2
          exact ⟨⟨1, by omega, by simp, K.out.1.trans (bq.mono K.out.1.size), ids_step K.out.2.1 (id_first hok)⟩, by simp [intOf]; omega⟩
        · have t2 := (h1.below hbl hb) j _ (atN_of (by omega))
          have e1 : ∀ d os, (grow (redrawn wr d) os).cell? ⟨b, off + j, none⟩ = some (.int .i64 (atN zs j)) := fun d os => ((below_regrown wr d os).cell (p := ⟨b, off + j, none⟩) hbW).trans t2
          have hj : (j : Int) < (n : Int) := by omega
          by_cases hq : atN zs (j + 1) ≤ atN zs j
          · clear t1 t2 hbl hall h1 hx
            go_wp2_with fail
            refine wp_region_quiet_below (by kernel_rfl) (by kernel_rfl) ?_
            repeat (go_big_quiet_step (exact cQ _ _))
            refine wpQuiet_nil ?_
            intro _ hw'
            obtain ⟨⟨dq, osq⟩, hw''⟩ := hw'
            subst hw''
            have bq := below_regrown wr dq osq
            go_wp2
            go_ret
            exact ⟨by rw [idsB, K.out.2.2, ids_fail hlt (id_low hq)]; rfl, K.out.1.trans (bq.mono K.out.1.size)⟩
          · have hq' : decide (atN zs (j + 1) ≤ atN zs j) = false := by simp; omega
            clear t1 t2 hbl hall h1 hx
            go_wp2_with fail
            refine wp_region_quiet_below (by kernel_rfl) (by kernel_rfl) ?_
            repeat (go_big_quiet_step (exact cQ _ _))
            refine wpQuiet_nil ?_
            intro _ hw'
            obtain ⟨⟨dq, osq⟩, hw''⟩ := hw'
            subst hw''
            have bq := below_regrown wr dq osq
            go_wp2
            exact ⟨⟨j + 1 + 1, by omega, by simp, K.out.1.trans (bq.mono K.out.1.size), ids_step K.out.2.1 (id_good hok (Int.not_le.2 hq))⟩, by simp [intOf]; omega⟩
    · have : k = n := by omega
      subst this
      have hd : decide (k < k) = false := by simp
      go_wp2
      go_ret
      exact ⟨by rw [idsB, hx, hall]; rfl, hbl⟩
end Go.Proofs.YtnhjgomfkfehgaaGreatDoor
namespace Go.Proofs.YtnhjgomfkfehgaaGreatDoor
theorem wrap_i64_small (n : Nat) (h : n < 4294967296) : IntKind.i64.wrap (n : Int) = (n : Int) := by
  simp [IntKind.wrap, IntKind.bits, IntKind.signed]; omega
theorem ofInt_i64 (a : Nat) (ha : a < 4294967296) : (BitVec.ofInt 64 (a : Int)).toNat = a := by
  rw [BitVec.ofInt_natCast, BitVec.toNat_ofNat]; exact Nat.mod_eq_of_lt (by omega)
theorem i64_and_nat (a b : Nat) (ha : a < 4294967296) (hb : b < 4294967296) : bits .and .i64 (a : Int) (b : Int) = ((a &&& b : Nat) : Int) := by
  have hx : a &&& b < 2 ^ 32 := Nat.and_lt_two_pow _ (by omega)
  show IntKind.i64.wrap ((BitVec.ofInt 64 (a : Int) &&& BitVec.ofInt 64 (b : Int)).toNat : Int) = _
  rw [BitVec.toNat_and, ofInt_i64 a ha, ofInt_i64 b hb, wrap_i64_small _ (by omega)]
theorem and_2 (x : Int) (h1 : 0 ≤ x) (h2 : x ≤ 4000003) : bits .and .i64 x 2 = x / 2 % 2 * 2 := by
  obtain ⟨n, rfl⟩ := Int.eq_ofNat_of_zero_le h1
  have h := i64_and_nat n 2 (by omega) (by omega)
  rw [show n &&& 2 = n / 2 % 2 * 2 from nat_bit 1 n] at h
  simpa using h
def usedB (h : Int) : Bool := decide (h / 2 % 2 = 1)
def lockedB (h : Int) : Bool := decide (h % 2 = 1)
theorem used_ne (h : Int) : (h / 2 % 2 * 2 != 0) = usedB h := by
  unfold usedB; rw [Bool.eq_iff_iff]; simp; omega
theorem ret_eqb {a b : Bool} (h : a = b) : Ending.returned (.bool a) = .returned (.bool b) := by rw [h]
def bump (u l : Bool) : Int := (if u then 2 else 0) + (if l then 1 else 0)
end Go.Proofs.YtnhjgomfkfehgaaGreatDoor
namespace Go.Proofs.YtnhjgomfkfehgaaGreatDoor
open Go.RowKit
set_option maxHeartbeats 400000 in
theorem implHeadOk_yes (h : Int) (w : World) (h1 : 0 ≤ h) (h2 : h ≤ 4000003) :
    Calls Tryz.prog 254 #[.int .i64 h] w fun e w' => e = .returned (.bool true) ∧ w' = w := by
  go_enter Tryz.func254, Tryz.ntmps254
  go_wp2
  go_ret
  exact ⟨by simp [*], rfl⟩
set_option maxHeartbeats 400000 in
theorem implHeadOk_no (h : Int) (w : World) (hh : h < 0 ∨ 4000003 < h) :
    Calls Tryz.prog 254 #[.int .i64 h] w fun e w' => e = .returned (.bool false) ∧ w' = w := by
  rcases hh with hh | hh
  all_goals
    go_enter Tryz.func254, Tryz.ntmps254
    go_wp2
    go_ret
    exact ⟨by simp; try omega, rfl⟩
set_option maxHeartbeats 400000 in
theorem specHeadOk_yes (h : Int) (w : World) (h1 : 0 ≤ h) (h2 : h ≤ 4000003) :
    Calls Tryz.prog 123 #[.int .i64 h] w fun e w' => e = .returned (.bool true) ∧ w' = w := by
  go_enter Tryz.func123, Tryz.ntmps123
  go_wp2
  go_ret
  exact ⟨by simp [*], rfl⟩
set_option maxHeartbeats 400000 in
theorem specHeadOk_no (h : Int) (w : World) (hh : h < 0 ∨ 4000003 < h) :
    Calls Tryz.prog 123 #[.int .i64 h] w fun e w' => e = .returned (.bool false) ∧ w' = w := by
  rcases hh with hh | hh
  all_goals
    go_enter Tryz.func123, Tryz.ntmps123
    go_wp2
    go_ret
    exact ⟨by simp; try omega, rfl⟩
set_option maxHeartbeats 400000 in
theorem implUsed_yes (h : Int) (w : World) (h1 : 0 ≤ h) (h2 : h ≤ 4000003) :
    Calls Tryz.prog 170 #[.int .i64 h] w fun e w' => e = .returned (.bool (usedB h)) ∧ w' = w := by
  · have b2 := and_2 h h1 h2
    go_enter Tryz.func170, Tryz.ntmps170
    go_wp2
    go_ret
    exact ⟨ret_eqb (used_ne h), rfl⟩
set_option maxHeartbeats 400000 in
theorem implUsed_no (h : Int) (w : World) (hh : h < 0 ∨ 4000003 < h) :
    Calls Tryz.prog 170 #[.int .i64 h] w fun e w' => e = .returned (.bool false) ∧ w' = w := by
  rcases hh with hh | hh
  · have d : decide (0 ≤ h) = false := by simp; omega
    go_enter Tryz.func170, Tryz.ntmps170
    go_wp2
    go_ret
    exact ⟨rfl, rfl⟩
  · have d : decide (h ≤ 4000003) = false := by simp; omega
    go_enter Tryz.func170, Tryz.ntmps170
    go_wp2
    go_ret
    exact ⟨rfl, rfl⟩
set_option maxHeartbeats 400000 in
theorem specUsed_yes (h : Int) (w : World) (h1 : 0 ≤ h) (h2 : h ≤ 4000003) :
    Calls Tryz.prog 111 #[.int .i64 h] w fun e w' => e = .returned (.bool (usedB h)) ∧ w' = w := by
  · go_enter Tryz.func111, Tryz.ntmps111
    go_wp2
    go_ret
    exact ⟨rfl, rfl⟩
set_option maxHeartbeats 400000 in
theorem specUsed_no (h : Int) (w : World) (hh : h < 0 ∨ 4000003 < h) :
    Calls Tryz.prog 111 #[.int .i64 h] w fun e w' => e = .returned (.bool false) ∧ w' = w := by
  rcases hh with hh | hh
  · have d : decide (0 ≤ h) = false := by simp; omega
    go_enter Tryz.func111, Tryz.ntmps111
    go_wp2
    go_ret
    exact ⟨rfl, rfl⟩
  · have d : decide (h ≤ 4000003) = false := by simp; omega
    go_enter Tryz.func111, Tryz.ntmps111
    go_wp2
    go_ret
    exact ⟨rfl, rfl⟩
theorem implHeadOk_any (h : Int) (w : World) : Calls Tryz.prog 254 #[.int .i64 h] w fun e w' => e = .returned (.bool (inB 0 4000003 h)) ∧ w' = w := by
  by_cases hh : 0 ≤ h ∧ h ≤ 4000003
  · rw [inB_yes hh.1 hh.2]; exact implHeadOk_yes h w hh.1 hh.2
  · have e : inB 0 4000003 h = false := by simp [inB]; omega
    rw [e]; exact implHeadOk_no h w (by omega)
theorem implUsed_any (h : Int) (w : World) : Calls Tryz.prog 170 #[.int .i64 h] w fun e w' => e = .returned (.bool (inB 0 4000003 h && usedB h)) ∧ w' = w := by
  by_cases hh : 0 ≤ h ∧ h ≤ 4000003
  · rw [inB_yes hh.1 hh.2, Bool.true_and]; exact implUsed_yes h w hh.1 hh.2
  · have e : inB 0 4000003 h = false := by simp [inB]; omega
    rw [e, Bool.false_and]; exact implUsed_no h w (by omega)
theorem specHeadOk_any (h : Int) (w : World) : Calls Tryz.prog 123 #[.int .i64 h] w fun e w' => e = .returned (.bool (inB 0 4000003 h)) ∧ w' = w := by
  by_cases hh : 0 ≤ h ∧ h ≤ 4000003
  · rw [inB_yes hh.1 hh.2]; exact specHeadOk_yes h w hh.1 hh.2
  · have e : inB 0 4000003 h = false := by simp [inB]; omega
    rw [e]; exact specHeadOk_no h w (by omega)
theorem specUsed_any (h : Int) (w : World) : Calls Tryz.prog 111 #[.int .i64 h] w fun e w' => e = .returned (.bool (inB 0 4000003 h && usedB h)) ∧ w' = w := by
  by_cases hh : 0 ≤ h ∧ h ≤ 4000003
  · rw [inB_yes hh.1 hh.2, Bool.true_and]; exact specUsed_yes h w hh.1 hh.2
  · have e : inB 0 4000003 h = false := by simp [inB]; omega
    rw [e, Bool.false_and]; exact specUsed_no h w (by omega)
def cellB (c : C2) : Bool := inB 0 4000003 c.head && inB (-1000000000) 1000000000 c.value && (usedB c.head || decide (c.value = 0))
def cellsB (xs : List C2) : Bool := decide (xs.length = 6) && xs.all cellB
theorem cells_all {xs : List C2} (h : ∀ i, i < xs.length → cellB (at2 xs i) = true) : xs.all cellB = true := by
  rw [List.all_eq_true]
  intro s hs
  obtain ⟨i, hi, rfl⟩ := List.getElem_of_mem hs
  have := h i hi
  rw [at2, List.getElem?_eq_getElem hi] at this
  simpa using this
theorem cells_not {xs : List C2} {i : Nat} (hi : i < xs.length) (h : cellB (at2 xs i) = false) : xs.all cellB = false := by
  rw [List.all_eq_false]
  refine ⟨xs[i], List.getElem_mem hi, ?_⟩
  rw [at2, List.getElem?_eq_getElem hi] at h
  simpa using h
set_option maxHeartbeats 1000000 in
theorem implCellOk (w : World) (s : C2) : Calls Tryz.prog 215 #[.agg #[.int .i64 s.head, .int .i64 s.value]] w fun e w' => e = .returned (.bool (cellB s)) ∧ Below w.heap.size w w' := by
  obtain ⟨h, v⟩ := s
  unfold cellB
  go_enter Tryz.func215, Tryz.ntmps215
  cases g1 : inB 0 4000003 h <;> cases g2 : inB (-1000000000) 1000000000 v <;> cases g3 : usedB h
  all_goals go_wp2_with (first | (go_at_call 254; refine (implHeadOk_any _ _).mono ?_; rw [g1]; rintro e w' ⟨rfl, rfl⟩) | (go_at_call 61; refine (implValue _ _).mono ?_; rw [g2]; rintro e w' ⟨rfl, rfl⟩) | (go_at_call 170; refine (implUsed_any _ _).mono ?_; rw [g1, g3]; rintro e w' ⟨rfl, rfl⟩))
  all_goals (go_ret; refine ⟨ret_bool ?_, (Below.refl _ _).alloc (Nat.le_refl _) _⟩; simp)
theorem wrongCell (w : World) (s : C2) : Calls Tryz.prog 214 #[.agg #[.int .i64 s.head, .int .i64 s.value]] w fun e w' => e = .returned (.bool (!cellB s)) ∧ Below w.heap.size w w' := by
  go_enter Tryz.func214, Tryz.ntmps214
  go_wp2_with fail
  refine (implCellOk _ s).mono ?_
  rintro e w1 ⟨rfl, b1⟩
  go_wp2
  go_ret
  exact ⟨rfl, ((Below.refl _ _).alloc (Nat.le_refl _) _).trans (b1.mono (by simp))⟩
set_option maxHeartbeats 2000000 in
theorem indexWrong_some (w : World) (b off cap n : Nat) (xs : List C2) (hx : xs.length = n) (hn : n ≤ maxLen) (h1 : CellsAt w b off xs) (hb : b < w.heap.size) :
    Calls Tryz.prog 255 #[.slice (some ⟨b, off, none⟩) n cap, .func (.func 214) #[] #[]] w fun e w' => ∃ i : Int, e = .returned (.int .i64 i) ∧ (0 ≤ i ↔ xs.all cellB = false) ∧ Below w.heap.size w w' := by
  unfold maxLen at hn
  go_enter Tryz.func255, Tryz.ntmps255
  go_wp2
  go_loopw [8] (fun i wr => ∃ k : Nat, k ≤ n ∧ i = .int .i64 k ∧ Below w.heap.size w wr ∧ ∀ i, i < k → cellB (at2 xs i) = true) (fun i _ => n - (intOf i).toNat)
  case atStart => exact ⟨0, Nat.zero_le _, rfl, Below.refl _ _, fun i h => absurd h (by omega)⟩
  case round =>
    obtain ⟨k, hk, rfl, hbl, hall⟩ := hrel
    have K : Hid (Below w.heap.size w wr ∧ (∀ i, i < k → cellB (at2 xs i) = true) ∧ xs.length = n) := ⟨hbl, hall, hx⟩
    by_cases hlt : k < n
    · obtain ⟨c0, c1⟩ := (h1.get (i := k) (by omega)).below hbl hb
      clear hbl hall h1 hx
      cases hr : cellB (at2 xs k) with
      | true =>
        go_wp2_with fail
        refine (wrongCell _ (at2 xs k)).mono ?_
        rw [hr]
        rintro e w1 ⟨rfl, b1⟩
        go_wp2
        refine ⟨⟨k + 1, by omega, by simp, K.out.1.trans (b1.mono K.out.1.size), fun i hi => ?_⟩, by simp [intOf]; omega⟩
        by_cases e : i = k
        · rw [e]; exact hr
        · exact K.out.2.1 i (by omega)
      | false =>
        go_wp2_with fail
        refine (wrongCell _ (at2 xs k)).mono ?_
        rw [hr]
        rintro e w1 ⟨rfl, b1⟩
        go_wp2
        go_ret
        exact ⟨(k : Int), rfl, by simp [cells_not (xs := xs) (i := k) (by rw [K.out.2.2]; exact hlt) hr], K.out.1.trans (b1.mono K.out.1.size)⟩
    · have : k = n := by omega
      subst this
      have hd : decide (k < k) = false := by simp
      go_wp2
      go_ret
      exact ⟨-1, rfl, by simp [cells_all (xs := xs) (by rw [hx]; exact hall)], hbl⟩
theorem containsWrong_some (w : World) (b off cap n : Nat) (xs : List C2) (hx : xs.length = n) (hn : n ≤ maxLen) (h1 : CellsAt w b off xs) (hb : b < w.heap.size) :
    Calls Tryz.prog 216 #[.slice (some ⟨b, off, none⟩) n cap, .func (.func 214) #[] #[]] w fun e w' => e = .returned (.bool (!xs.all cellB)) ∧ Below w.heap.size w w' := by
  go_enter Tryz.func216, Tryz.ntmps216
  go_wp2_with fail
  refine (indexWrong_some w b off cap n xs hx hn h1 hb).mono ?_
  rintro e w1 ⟨i, rfl, hi, b1⟩
  have HI : Hid (0 ≤ i ↔ xs.all cellB = false) := hi
  clear hi
  go_wp2
  go_ret
  refine ⟨ret_bool ?_, b1⟩
  rw [decide_eq_true_eq, HI.out, Bool.not_eq_true']
set_option maxHeartbeats 2000000 in
theorem implCellsOk_any (w : World) (a : Option Addr) (n cap : Nat) (xs : List C2) (hn : n ≤ maxLen) (hs : SlC w w.heap.size a n xs) :
    Calls Tryz.prog 169 #[.slice a n cap] w fun e w' => e = .returned (.bool (cellsB xs)) ∧ Below w.heap.size w w' := by
  obtain ⟨hx, hs⟩ := hs
  unfold cellsB
  rw [hx]
  by_cases h6 : n = 6
  · subst h6
    rcases hs with hs | ⟨b, off, rfl, hb, h1⟩
    · omega
    · go_enter Tryz.func169, Tryz.ntmps169
      go_wp2_with fail
      refine (containsWrong_some w b off cap 6 xs hx hn h1 hb).mono ?_
      rintro e w1 ⟨rfl, b1⟩
      go_wp2
      go_ret
      exact ⟨ret_bool (by simp), b1⟩
  · have q : ((n : Int) == 6) = false := by simp; omega
    go_enter Tryz.func169, Tryz.ntmps169
    go_wp2
    go_ret
    exact ⟨ret_bool (by simp [h6]), Below.refl _ _⟩
set_option maxHeartbeats 2000000 in
theorem specCellsOk_six (w : World) (b off cap : Nat) (xs : List C2) (hx : xs.length = 6) (h1 : CellsAt w b off xs) (hb : b < w.heap.size) :
    Calls Tryz.prog 121 #[.slice (some ⟨b, off, none⟩) 6 cap] w fun e w' => e = .returned (.bool (xs.all cellB)) ∧ Below w.heap.size w w' := by
  go_enter Tryz.func121, Tryz.ntmps121
  go_wp2
  go_loopw [3] (fun i wr => ∃ k : Nat, k ≤ 6 ∧ i = .int .i64 k ∧ Below w.heap.size w wr ∧ ∀ i, i < k → cellB (at2 xs i) = true) (fun i _ => 6 - (intOf i).toNat)
  case atStart => exact ⟨0, Nat.zero_le _, rfl, Below.refl _ _, fun i h => absurd h (by omega)⟩
  case round =>
    obtain ⟨k, hk, rfl, hbl, hall⟩ := hrel
    have K : Hid (Below w.heap.size w wr ∧ (∀ i, i < k → cellB (at2 xs i) = true) ∧ xs.length = 6) := ⟨hbl, hall, hx⟩
    by_cases hlt : k < 6
    · obtain ⟨c0, c1⟩ := (h1.get (i := k) (by omega)).below hbl hb
      clear hbl hall h1 hx
      generalize hC : at2 xs k = C at c0 c1
      obtain ⟨h, v⟩ := C
      have KC : Hid (at2 xs k = ⟨h, v⟩) := hC
      have hlt' : (k : Int) < 6 := by omega
      clear hC
      cases g1 : inB 0 4000003 h <;> cases g2 : inB (-1000000000) 1000000000 v <;> cases g3 : usedB h
      all_goals
        have HB : Hid (cellB (at2 xs k) = (inB 0 4000003 h && inB (-1000000000) 1000000000 v && (usedB h || decide (v = 0)))) := by unfold Hid; rw [KC.out]; rfl
        rw [g1, g2, g3] at HB
        go_wp2_with (first | (go_at_call 123; refine (specHeadOk_any _ _).mono ?_; rw [g1]; rintro e w' ⟨rfl, rfl⟩) | (go_at_call 58; refine (specValue _ _).mono ?_; rw [g2]; rintro e w' ⟨rfl, rfl⟩) | (go_at_call 111; refine (specUsed_any _ _).mono ?_; rw [g1, g3]; rintro e w' ⟨rfl, rfl⟩))
      all_goals first
        | (go_ret
           exact ⟨by rw [cells_not (xs := xs) (i := k) (by rw [K.out.2.2]; exact hlt) (by rw [HB.out]; simp; try simpa using ‹(v != 0) = true›)]; rfl, (K.out.1.alloc K.out.1.size _)⟩)
        | (refine ⟨⟨k + 1, by omega, by simp, K.out.1.alloc K.out.1.size _, fun i hi => ?_⟩, by simp [intOf]; omega⟩
           by_cases e : i = k
           · rw [e, HB.out]; simp; try simpa using ‹(v != 0) = false›
           · exact K.out.2.1 i (by omega))
    · have : k = 6 := by omega
      subst this
      go_wp2
      go_ret
      exact ⟨by rw [cells_all (xs := xs) (by rw [hx]; exact hall)]; rfl, hbl⟩
theorem specCellsOk_any (w : World) (a : Option Addr) (n cap : Nat) (xs : List C2) (hn : n ≤ maxLen) (hs : SlC w w.heap.size a n xs) :
    Calls Tryz.prog 121 #[.slice a n cap] w fun e w' => e = .returned (.bool (cellsB xs)) ∧ Below w.heap.size w w' := by
  obtain ⟨hx, hs⟩ := hs
  unfold cellsB
  rw [hx]
  unfold maxLen at hn
  by_cases h6 : n = 6
  · subst h6
    rcases hs with hs | ⟨b, off, rfl, hb, h1⟩
    · omega
    · exact specCellsOk_six w b off cap xs hx h1 hb
  · have q : ((n : Int) == 6) = false := by simp; omega
    go_enter Tryz.func121, Tryz.ntmps121
    go_wp2
    go_ret
    exact ⟨ret_bool (by simp [h6]), Below.refl _ _⟩
end Go.Proofs.YtnhjgomfkfehgaaGreatDoor
namespace Go.Proofs.YtnhjgomfkfehgaaGreatDoor
open Go.RowKit
open Go.Sort (grow)
def at5 (xs : List S5) (i : Nat) : S5 := xs[i]?.getD ⟨0, 0, 0, false, 0⟩
def riseAt (xs : List S5) (i : Nat) : Bool := setOkB (at5 xs i) && (decide (i = 0) || decide ((at5 xs (i - 1)).slot < (at5 xs i).slot))
def l2At (xs : List S5) (i : Nat) : Bool := riseAt xs i && (decide (i = 0) || decide ((at5 xs i).region = (at5 xs 0).region))
def riseB (xs : List S5) : Bool := (List.range xs.length).all (riseAt xs)
def l2B (xs : List S5) : Bool := (List.range xs.length).all (l2At xs)
def sameB (r : Int) (xs : List S5) : Bool := xs.all (fun s => decide (s.region = r))
theorem all_step {f : Nat → Bool} {k : Nat} (h : (List.range k).all f = true) (h' : f k = true) : (List.range (k + 1)).all f = true := by
  rw [List.range_succ, List.all_append, h]; simp [h']
theorem all_fail {f : Nat → Bool} {k n : Nat} (hk : k < n) (h : f k = false) : (List.range n).all f = false := by
  rw [List.all_eq_false]; exact ⟨k, by simpa using hk, by simp [h]⟩
theorem at5_of {xs : List S5} {i : Nat} (h : i < xs.length) : xs[i]? = some (at5 xs i) := by
  simp [at5, List.getElem?_eq_getElem h]
theorem SetsAt.get {w : World} {b off : Nat} {xs : List S5} (h : SetsAt w b off xs) {i : Nat} (hi : i < xs.length) : SetAt w b (off + i * 5) (at5 xs i) := h i _ (at5_of hi)
theorem rise_bad {xs : List S5} {k : Nat} (h : setOkB (at5 xs k) = false) : riseAt xs k = false := by simp [riseAt, h]
theorem rise_slot {xs : List S5} {j : Nat} (h : (at5 xs (j + 1)).slot ≤ (at5 xs j).slot) : riseAt xs (j + 1) = false := by simp [riseAt]; intro _; omega
theorem rise_first {xs : List S5} (h : setOkB (at5 xs 0) = true) : riseAt xs 0 = true := by simp [riseAt, h]
theorem rise_good {xs : List S5} {j : Nat} (h : setOkB (at5 xs (j + 1)) = true) (h' : (at5 xs j).slot < (at5 xs (j + 1)).slot) : riseAt xs (j + 1) = true := by simp [riseAt, h, h']
set_option maxHeartbeats 2000000 in
theorem l2Sets_some (w : World) (b off cap n : Nat) (xs : List S5) (hx : xs.length = n) (hn : n ≤ maxLen) (h1 : SetsAt w b off xs) (hb : b < w.heap.size) :
    Calls Tryz.prog 180 #[.slice (some ⟨b, off, none⟩) n cap] w fun e w' => e = .returned (.bool (l2B xs)) ∧ Below w.heap.size w w' := by
  unfold maxLen at hn
  go_enter Tryz.func180, Tryz.ntmps180
  go_wp2
  go_loopw [3] (fun i wr => ∃ k : Nat, k ≤ n ∧ i = .int .i64 k ∧ Below w.heap.size w wr ∧ (List.range k).all (l2At xs) = true) (fun i _ => n - (intOf i).toNat)
  case atStart => exact ⟨0, Nat.zero_le _, rfl, Below.refl _ _, rfl⟩
  case round =>
    obtain ⟨k, hk, rfl, hbl, hall⟩ := hrel
    have K : Hid (Below w.heap.size w wr ∧ (List.range k).all (l2At xs) = true ∧ xs.length = n) := ⟨hbl, hall, hx⟩
    by_cases hlt : k < n
    · have t1 := ((h1.get (i := k) (by omega)).below hbl hb).regrown
      have c0 := fun d os => (t1 d os).c0
      have c1 := fun d os => (t1 d os).c1
      have c2 := fun d os => (t1 d os).c2
      have c3 := fun d os => (t1 d os).c3
      have c4 := fun d os => (t1 d os).c4
      have cQ : ∀ d os, Calls Tryz.prog 126 #[.agg #[.int .i64 (at5 xs k).region, .int .i64 (at5 xs k).slot, .int .i64 (at5 xs k).value, .bool (at5 xs k).used, .int .i64 (at5 xs k).version]] (grow (redrawn wr d) os) fun e w'' => e = .returned (.bool (setOkB (at5 xs k))) ∧ ∃ p : Regrown, w'' = grow (redrawn wr p.d) p.os := fun d os => Calls.regrown_of (specSetOk _ (at5 xs k))
      cases hok : setOkB (at5 xs k) with
      | false =>
        rw [hok] at cQ
        clear t1 hbl hall h1 hx
        go_wp2_with fail
        refine wp_region_quiet_below (by kernel_rfl) (by kernel_rfl) ?_
        repeat (go_big_quiet_step (exact cQ _ _))
        refine wpQuiet_nil ?_
        intro _ hw'
        obtain ⟨⟨dq, osq⟩, hw''⟩ := hw'
        subst hw''
        have bq := below_regrown wr dq osq
        go_wp2
        go_ret
        exact ⟨by rw [l2B, K.out.2.2, all_fail hlt (by simp [l2At, rise_bad hok])]; rfl, K.out.1.trans (bq.mono K.out.1.size)⟩
      | true =>
        rw [hok] at cQ
        rcases k with _ | j
        · simp only [Nat.zero_mul, Nat.add_zero] at c0 c1 c2 c3 c4
          clear t1 hbl hall h1 hx
          go_wp2_with fail
          refine wp_region_quiet_below (by kernel_rfl) (by kernel_rfl) ?_
          repeat (go_big_quiet_step (exact cQ _ _))
          refine wpQuiet_nil ?_
          intro _ hw'
          obtain ⟨⟨dq, osq⟩, hw''⟩ := hw'
          subst hw''
          have bq := below_regrown wr dq osq
          go_wp2
          exact ⟨⟨1, by omega, by simp, K.out.1.trans (bq.mono K.out.1.size), all_step K.out.2.1 (by simp [l2At, rise_first hok])⟩, by simp [intOf]; omega⟩
        · have t2 := ((h1.get (i := j) (by omega)).below hbl hb).regrown
          have t3 := ((h1.get (i := 0) (by omega)).below hbl hb).regrown
          have e1 := fun d os => (t2 d os).c1
          have f0 := fun d os => (t3 d os).c0
          simp only [Nat.zero_mul, Nat.add_zero] at f0
          have hj : (j : Int) < (n : Int) := by omega
          have h0n : (0 : Int) < (n : Int) := by omega
          by_cases hs : (at5 xs (j + 1)).slot ≤ (at5 xs j).slot
          · clear t1 t2 t3 hbl hall h1 hx
            go_wp2_with fail
            refine wp_region_quiet_below (by kernel_rfl) (by kernel_rfl) ?_
            repeat (go_big_quiet_step (exact cQ _ _))
            refine wpQuiet_nil ?_
            intro _ hw'
            obtain ⟨⟨dq, osq⟩, hw''⟩ := hw'
            subst hw''
            have bq := below_regrown wr dq osq
            go_wp2
            go_ret
            exact ⟨by rw [l2B, K.out.2.2, all_fail hlt (by simp [l2At, rise_slot hs])]; rfl, K.out.1.trans (bq.mono K.out.1.size)⟩
          · have hs' : decide ((at5 xs (j + 1)).slot ≤ (at5 xs j).slot) = false := by simp; omega
            by_cases hr : (at5 xs (j + 1)).region = (at5 xs 0).region
            · clear t1 t2 t3 hbl hall h1 hx
              have hr' : ((at5 xs (j + 1)).region == (at5 xs 0).region) = true := by simp [hr]
              have HR : Hid ((at5 xs (j + 1)).region = (at5 xs 0).region) := hr
              clear hr
              go_wp2_with fail
              refine wp_region_quiet_below (by kernel_rfl) (by kernel_rfl) ?_
              repeat (go_big_quiet_step (exact cQ _ _))
              refine wpQuiet_nil ?_
              intro _ hw'
              obtain ⟨⟨dq, osq⟩, hw''⟩ := hw'
              subst hw''
              have bq := below_regrown wr dq osq
              go_wp2
              exact ⟨⟨j + 1 + 1, by omega, by simp, K.out.1.trans (bq.mono K.out.1.size), all_step K.out.2.1 (by simp [l2At, rise_good hok hs, HR.out])⟩, by simp [intOf]; omega⟩
            · clear t1 t2 t3 hbl hall h1 hx
              have hr' : ((at5 xs (j + 1)).region == (at5 xs 0).region) = false := by simp [hr]
              have HR : Hid (¬ (at5 xs (j + 1)).region = (at5 xs 0).region) := hr
              clear hr
              go_wp2_with fail
              refine wp_region_quiet_below (by kernel_rfl) (by kernel_rfl) ?_
              repeat (go_big_quiet_step (exact cQ _ _))
              refine wpQuiet_nil ?_
              intro _ hw'
              obtain ⟨⟨dq, osq⟩, hw''⟩ := hw'
              subst hw''
              have bq := below_regrown wr dq osq
              go_wp2
              go_ret
              exact ⟨by rw [l2B, K.out.2.2, all_fail hlt (by simp [l2At, HR.out])]; rfl, K.out.1.trans (bq.mono K.out.1.size)⟩
    · have : k = n := by omega
      subst this
      have hd : decide (k < k) = false := by simp
      go_wp2
      go_ret
      exact ⟨by rw [l2B, hx, hall]; rfl, hbl⟩
set_option maxHeartbeats 2000000 in
theorem setsRise_some (w : World) (b off cap n : Nat) (xs : List S5) (hx : xs.length = n) (hn : n ≤ maxLen) (h1 : SetsAt w b off xs) (hb : b < w.heap.size) :
    Calls Tryz.prog 301 #[.slice (some ⟨b, off, none⟩) n cap] w fun e w' => e = .returned (.bool (riseB xs)) ∧ Below w.heap.size w w' := by
  unfold maxLen at hn
  go_enter Tryz.func301, Tryz.ntmps301
  go_wp2
  go_loopw [7] (fun i wr => ∃ k : Nat, k ≤ n ∧ i = .int .i64 k ∧ Below w.heap.size w wr ∧ (List.range k).all (riseAt xs) = true) (fun i _ => n - (intOf i).toNat)
  case atStart => exact ⟨0, Nat.zero_le _, rfl, Below.refl _ _, rfl⟩
  case round =>
    obtain ⟨k, hk, rfl, hbl, hall⟩ := hrel
    have K : Hid (Below w.heap.size w wr ∧ (List.range k).all (riseAt xs) = true ∧ xs.length = n) := ⟨hbl, hall, hx⟩
    by_cases hlt : k < n
    · obtain ⟨c0, c1, c2, c3, c4⟩ := (h1.get (i := k) (by omega)).below hbl hb
      have hprev : ∀ j, k = j + 1 → wr.cell? ⟨b, off + j * 5 + 1, none⟩ = some (.int .i64 (at5 xs j).slot) := fun j e => ((h1.get (i := j) (by omega)).below hbl hb).c1
      have KP : Hid (∀ j, k = j + 1 → wr.cell? ⟨b, off + j * 5 + 1, none⟩ = some (.int .i64 (at5 xs j).slot)) := hprev
      have hbr : b < wr.heap.size := Nat.lt_of_lt_of_le hb hbl.size
      clear hprev hbl hall h1 hx
      have tz : SetAt (wr.alloc (.cells #[.int .i64 (at5 xs k).region, .int .i64 (at5 xs k).slot, .int .i64 (at5 xs k).value, .bool (at5 xs k).used, .int .i64 (at5 xs k).version] 109)) wr.heap.size 0 (at5 xs k) := ⟨by go_simp, by go_simp, by go_simp, by go_simp, by go_simp⟩
      have TZ : Hid (SetAt (wr.alloc (.cells #[.int .i64 (at5 xs k).region, .int .i64 (at5 xs k).slot, .int .i64 (at5 xs k).value, .bool (at5 xs k).used, .int .i64 (at5 xs k).version] 109)) wr.heap.size 0 (at5 xs k)) := tz
      clear tz
      rcases k with _ | j
      · simp only [Nat.zero_mul, Nat.add_zero] at c0 c1 c2 c3 c4
        go_wp2_with fail
        generalize hW : wr.alloc (.cells #[.int .i64 (at5 xs 0).region, .int .i64 (at5 xs 0).slot, .int .i64 (at5 xs 0).value, .bool (at5 xs 0).used, .int .i64 (at5 xs 0).version] 109) = W at TZ ⊢
        have bW : Below wr.heap.size wr W := by subst hW; exact (Below.refl _ _).alloc (Nat.le_refl _) _
        have t1 := TZ.out.regrown
        have d0 := fun d os => (t1 d os).c0
        have d1 := fun d os => (t1 d os).c1
        have d2 := fun d os => (t1 d os).c2
        have d3 := fun d os => (t1 d os).c3
        have d4 := fun d os => (t1 d os).c4
        simp only [Nat.zero_add] at d1 d2 d3 d4
        have cQ : ∀ d os, Calls Tryz.prog 208 #[.agg #[.int .i64 (at5 xs 0).region, .int .i64 (at5 xs 0).slot, .int .i64 (at5 xs 0).value, .bool (at5 xs 0).used, .int .i64 (at5 xs 0).version]] (grow (redrawn W d) os) fun e w'' => e = .returned (.bool (setOkB (at5 xs 0))) ∧ ∃ p : Regrown, w'' = grow (redrawn W p.d) p.os := fun d os => Calls.regrown_of (implSetOk _ (at5 xs 0))
        clear hW c0 c1 c2 c3 c4 t1
        cases hok : setOkB (at5 xs 0) with
        | false =>
          rw [hok] at cQ
          refine wp_region_quiet_below (by kernel_rfl) (by kernel_rfl) ?_
          repeat (go_big_quiet_step (exact cQ _ _))
          refine wpQuiet_nil ?_
          intro _ hw'
          obtain ⟨⟨dq, osq⟩, hw''⟩ := hw'
          subst hw''
          have bq := below_regrown W dq osq
          go_wp2
          go_ret
          exact ⟨by rw [riseB, K.out.2.2, all_fail hlt (rise_bad hok)]; rfl, K.out.1.trans ((bW.trans (bq.mono bW.size)).mono K.out.1.size)⟩
        | true =>
          rw [hok] at cQ
          refine wp_region_quiet_below (by kernel_rfl) (by kernel_rfl) ?_
          repeat (go_big_quiet_step (exact cQ _ _))
          refine wpQuiet_nil ?_
          intro _ hw'
          obtain ⟨⟨dq, osq⟩, hw''⟩ := hw'
          subst hw''
          have bq := below_regrown W dq osq
          go_wp2
          exact ⟨⟨1, by omega, by simp, K.out.1.trans ((bW.trans (bq.mono bW.size)).mono K.out.1.size), all_step K.out.2.1 (rise_first hok)⟩, by simp [intOf]; omega⟩
      · have hj : (j : Int) < (n : Int) := by omega
        have hp := KP.out j rfl
        go_wp2_with fail
        generalize hW : wr.alloc (.cells #[.int .i64 (at5 xs (j + 1)).region, .int .i64 (at5 xs (j + 1)).slot, .int .i64 (at5 xs (j + 1)).value, .bool (at5 xs (j + 1)).used, .int .i64 (at5 xs (j + 1)).version] 109) = W at TZ ⊢
        have bW : Below wr.heap.size wr W := by subst hW; exact (Below.refl _ _).alloc (Nat.le_refl _) _
        have t1 := TZ.out.regrown
        have d0 := fun d os => (t1 d os).c0
        have d1 := fun d os => (t1 d os).c1
        have d2 := fun d os => (t1 d os).c2
        have d3 := fun d os => (t1 d os).c3
        have d4 := fun d os => (t1 d os).c4
        simp only [Nat.zero_add] at d1 d2 d3 d4
        have p1 := cell_regrown ((bW.cell (p := ⟨b, off + j * 5 + 1, none⟩) hbr).trans hp)
        have cQ : ∀ d os, Calls Tryz.prog 208 #[.agg #[.int .i64 (at5 xs (j + 1)).region, .int .i64 (at5 xs (j + 1)).slot, .int .i64 (at5 xs (j + 1)).value, .bool (at5 xs (j + 1)).used, .int .i64 (at5 xs (j + 1)).version]] (grow (redrawn W d) os) fun e w'' => e = .returned (.bool (setOkB (at5 xs (j + 1)))) ∧ ∃ p : Regrown, w'' = grow (redrawn W p.d) p.os := fun d os => Calls.regrown_of (implSetOk _ (at5 xs (j + 1)))
        clear hW c0 c1 c2 c3 c4 t1 hp
        cases hok : setOkB (at5 xs (j + 1)) with
        | false =>
          rw [hok] at cQ
          refine wp_region_quiet_below (by kernel_rfl) (by kernel_rfl) ?_
          repeat (go_big_quiet_step (exact cQ _ _))
          refine wpQuiet_nil ?_
          intro _ hw'
          obtain ⟨⟨dq, osq⟩, hw''⟩ := hw'
          subst hw''
          have bq := below_regrown W dq osq
          go_wp2
          go_ret
          exact ⟨by rw [riseB, K.out.2.2, all_fail hlt (rise_bad hok)]; rfl, K.out.1.trans ((bW.trans (bq.mono bW.size)).mono K.out.1.size)⟩
        | true =>
          rw [hok] at cQ
          by_cases hs : (at5 xs (j + 1)).slot ≤ (at5 xs j).slot
          · skip
            refine wp_region_quiet_below (by kernel_rfl) (by kernel_rfl) ?_
            repeat (go_big_quiet_step (exact cQ _ _))
            refine wpQuiet_nil ?_
            intro _ hw'
            obtain ⟨⟨dq, osq⟩, hw''⟩ := hw'
            subst hw''
            have bq := below_regrown W dq osq
            go_wp2
            go_ret
            exact ⟨by rw [riseB, K.out.2.2, all_fail hlt (rise_slot hs)]; rfl, K.out.1.trans ((bW.trans (bq.mono bW.size)).mono K.out.1.size)⟩
          · have hs' : decide ((at5 xs (j + 1)).slot ≤ (at5 xs j).slot) = false := by simp; omega
            refine wp_region_quiet_below (by kernel_rfl) (by kernel_rfl) ?_
            repeat (go_big_quiet_step (exact cQ _ _))
            refine wpQuiet_nil ?_
            intro _ hw'
            obtain ⟨⟨dq, osq⟩, hw''⟩ := hw'
            subst hw''
            have bq := below_regrown W dq osq
            go_wp2
            exact ⟨⟨j + 1 + 1, by omega, by simp, K.out.1.trans ((bW.trans (bq.mono bW.size)).mono K.out.1.size), all_step K.out.2.1 (rise_good hok (by omega))⟩, by simp [intOf]; omega⟩
    · have : k = n := by omega
      subst this
      have hd : decide (k < k) = false := by simp
      go_wp2
      go_ret
      exact ⟨by rw [riseB, hx, hall]; rfl, hbl⟩
theorem elsewhere (w : World) (g : Nat) (r : Int) (s : S5) (hg : w.cell? ⟨g, 2, none⟩ = some (.int .i64 r)) (hgb : g < w.heap.size) :
    Calls Tryz.prog 300 #[.agg #[.int .i64 s.region, .int .i64 s.slot, .int .i64 s.value, .bool s.used, .int .i64 s.version], .pointer (some ⟨g, 0, none⟩)] w fun e w' => e = .returned (.bool (!decide (s.region = r))) ∧ Below w.heap.size w w' := by
  go_enter Tryz.func300, Tryz.ntmps300
  go_wp2
  go_ret
  exact ⟨ret_bool (by simp), (Below.refl _ _).alloc (Nat.le_refl _) _⟩
theorem same_all {r : Int} {xs : List S5} (h : ∀ i, i < xs.length → (at5 xs i).region = r) : sameB r xs = true := by
  rw [sameB, List.all_eq_true]
  intro s hs
  obtain ⟨i, hi, rfl⟩ := List.getElem_of_mem hs
  have := h i hi
  rw [at5, List.getElem?_eq_getElem hi] at this
  simpa using this
theorem same_not {r : Int} {xs : List S5} {i : Nat} (hi : i < xs.length) (h : ¬ (at5 xs i).region = r) : sameB r xs = false := by
  rw [sameB, List.all_eq_false]
  refine ⟨xs[i], List.getElem_mem hi, ?_⟩
  rw [at5, List.getElem?_eq_getElem hi] at h
  simpa using h
set_option maxHeartbeats 2000000 in
theorem indexFunc_some (w : World) (g : Nat) (r : Int) (b off cap n : Nat) (xs : List S5) (hx : xs.length = n) (hn : n ≤ maxLen) (h1 : SetsAt w b off xs) (hb : b < w.heap.size) (hg : w.cell? ⟨g, 2, none⟩ = some (.int .i64 r)) (hgb : g < w.heap.size) :
    Calls Tryz.prog 297 #[.slice (some ⟨b, off, none⟩) n cap, .func (.func 300) #[] #[.pointer (some ⟨g, 0, none⟩)]] w fun e w' => ∃ i : Int, e = .returned (.int .i64 i) ∧ (0 ≤ i ↔ sameB r xs = false) ∧ Below w.heap.size w w' := by
  unfold maxLen at hn
  go_enter Tryz.func297, Tryz.ntmps297
  go_wp2
  go_loopw [8] (fun i wr => ∃ k : Nat, k ≤ n ∧ i = .int .i64 k ∧ Below w.heap.size w wr ∧ ∀ i, i < k → (at5 xs i).region = r) (fun i _ => n - (intOf i).toNat)
  case atStart => exact ⟨0, Nat.zero_le _, rfl, Below.refl _ _, fun i h => absurd h (by omega)⟩
  case round =>
    obtain ⟨k, hk, rfl, hbl, hall⟩ := hrel
    have K : Hid (Below w.heap.size w wr ∧ (∀ i, i < k → (at5 xs i).region = r) ∧ xs.length = n) := ⟨hbl, hall, hx⟩
    by_cases hlt : k < n
    · obtain ⟨c0, c1, c2, c3, c4⟩ := (h1.get (i := k) (by omega)).below hbl hb
      have hg' := (hbl.cell (p := ⟨g, 2, none⟩) hgb).trans hg
      clear hbl hall h1 hx
      by_cases hr : (at5 xs k).region = r
      · have hd : (!decide ((at5 xs k).region = r)) = false := by simp [hr]
        have HR : Hid ((at5 xs k).region = r) := hr
        clear hr
        go_wp2_with fail
        refine (elsewhere _ g r (at5 xs k) hg' (Nat.lt_of_lt_of_le hgb K.out.1.size)).mono ?_
        rw [hd]
        rintro e w1 ⟨rfl, b1⟩
        clear hd
        go_wp2
        refine ⟨⟨k + 1, by omega, by simp, K.out.1.trans (b1.mono K.out.1.size), fun i hi => ?_⟩, by simp [intOf]; omega⟩
        by_cases e : i = k
        · rw [e]; exact HR.out
        · exact K.out.2.1 i (by omega)
      · have hd : (!decide ((at5 xs k).region = r)) = true := by simp [hr]
        go_wp2_with fail
        refine (elsewhere _ g r (at5 xs k) hg' (Nat.lt_of_lt_of_le hgb K.out.1.size)).mono ?_
        rw [hd]
        rintro e w1 ⟨rfl, b1⟩
        clear hd
        go_wp2
        go_ret
        exact ⟨(k : Int), rfl, by simp [same_not (xs := xs) (i := k) (by rw [K.out.2.2]; exact hlt) hr], K.out.1.trans (b1.mono K.out.1.size)⟩
    · have : k = n := by omega
      subst this
      have hd : decide (k < k) = false := by simp
      go_wp2
      go_ret
      exact ⟨-1, rfl, by simp [same_all (r := r) (xs := xs) (by rw [hx]; exact hall)], hbl⟩
theorem containsFunc_some (w : World) (g : Nat) (r : Int) (b off cap n : Nat) (xs : List S5) (hx : xs.length = n) (hn : n ≤ maxLen) (h1 : SetsAt w b off xs) (hb : b < w.heap.size) (hg : w.cell? ⟨g, 2, none⟩ = some (.int .i64 r)) (hgb : g < w.heap.size) :
    Calls Tryz.prog 278 #[.slice (some ⟨b, off, none⟩) n cap, .func (.func 300) #[] #[.pointer (some ⟨g, 0, none⟩)]] w fun e w' => e = .returned (.bool (!sameB r xs)) ∧ Below w.heap.size w w' := by
  go_enter Tryz.func278, Tryz.ntmps278
  go_wp2_with fail
  refine (indexFunc_some w g r b off cap n xs hx hn h1 hb hg hgb).mono ?_
  rintro e w1 ⟨i, rfl, hi, b1⟩
  go_wp2
  go_ret
  refine ⟨ret_bool ?_, b1⟩
  simp
theorem specId (w : World) (x : Int) : Calls Tryz.prog 31 #[.int .i64 x] w fun e w' => e = .returned (.bool (inB 1 1000000 x)) ∧ w' = w := by
  go_enter Tryz.func31, Tryz.ntmps31
  go_wp2_with (go_at_call 32; refine (specIn _ _ _ _).mono ?_; rintro e w' ⟨rfl, rfl⟩)
  go_ret
  exact ⟨rfl, rfl⟩
theorem implId (w : World) (x : Int) : Calls Tryz.prog 152 #[.int .i64 x] w fun e w' => e = .returned (.bool (inB 1 1000000 x)) ∧ w' = w := by
  go_enter Tryz.func152, Tryz.ntmps152
  go_wp2
  all_goals (go_ret; refine ⟨ret_bool ?_, rfl⟩; simp [inB_iff]; try omega)
def recB (k t r : Int) (xs : List S5) : Bool := inB 1 3 k && inB 1 1000000 t && inB 0 5 r && decide (1 ≤ xs.length) && decide (xs.length ≤ 12) && riseB xs && sameB r xs
def specB (k t r : Int) (xs : List S5) : Bool := inB 1 3 k && inB 1 1000000 t && inB 0 5 r && decide (1 ≤ xs.length) && decide (xs.length ≤ 12) && l2B xs && decide ((at5 xs 0).region = r)
theorem specB_eq (k t r : Int) (xs : List S5) : specB k t r xs = recB k t r xs := by
  unfold specB recB
  by_cases h : 1 ≤ xs.length
  · have : (l2B xs && decide ((at5 xs 0).region = r)) = (riseB xs && sameB r xs) := by
      rw [Bool.eq_iff_iff]
      simp only [Bool.and_eq_true, decide_eq_true_eq, l2B, riseB, List.all_eq_true, List.mem_range, l2At, Bool.or_eq_true]
      constructor
      · rintro ⟨h1, h2⟩
        refine ⟨fun i hi => (h1 i hi).1, same_all fun i hi => ?_⟩
        rcases (h1 i hi).2 with e | e
        · rw [e]; exact h2
        · rw [e]; exact h2
      · rintro ⟨h1, h2⟩
        have ha : ∀ i, i < xs.length → (at5 xs i).region = r := fun i hi => by
          by_cases e : (at5 xs i).region = r
          · exact e
          · rw [same_not hi e] at h2; cases h2
        exact ⟨fun i hi => ⟨h1 i hi, .inr (by rw [ha i hi, ha 0 (by omega)])⟩, ha 0 (by omega)⟩
    simp only [Bool.and_assoc, this]
  · simp [h]
set_option maxHeartbeats 2000000 in
theorem specRecordOk_some (w : World) (k t r : Int) (b off cap n : Nat) (xs : List S5) (hx : xs.length = n) (hn : n ≤ maxLen) (h1 : SetsAt w b off xs) (hb : b < w.heap.size) :
    Calls Tryz.prog 138 #[.agg #[.int .i64 k, .int .i64 t, .int .i64 r, .slice (some ⟨b, off, none⟩) n cap]] w fun e w' => e = .returned (.bool (specB k t r xs)) ∧ Below w.heap.size w w' := by
  go_enter Tryz.func138, Tryz.ntmps138
  go_wp2_with fail
  have e0 : (w.alloc (.cells #[.int .i64 k, .int .i64 t, .int .i64 r, .slice (some ⟨b, off, none⟩) n cap] 178)).cell? ⟨w.heap.size, 0, none⟩ = some (.int .i64 k) := by go_simp
  have e1 : (w.alloc (.cells #[.int .i64 k, .int .i64 t, .int .i64 r, .slice (some ⟨b, off, none⟩) n cap] 178)).cell? ⟨w.heap.size, 1, none⟩ = some (.int .i64 t) := by go_simp
  have e2 : (w.alloc (.cells #[.int .i64 k, .int .i64 t, .int .i64 r, .slice (some ⟨b, off, none⟩) n cap] 178)).cell? ⟨w.heap.size, 2, none⟩ = some (.int .i64 r) := by go_simp
  have e3 : (w.alloc (.cells #[.int .i64 k, .int .i64 t, .int .i64 r, .slice (some ⟨b, off, none⟩) n cap] 178)).cell? ⟨w.heap.size, 3, none⟩ = some (.slice (some ⟨b, off, none⟩) n cap) := by go_simp
  generalize hW : w.alloc (.cells #[.int .i64 k, .int .i64 t, .int .i64 r, .slice (some ⟨b, off, none⟩) n cap] 178) = W at e0 e1 e2 e3 ⊢
  have bW : Below w.heap.size w W := by subst hW; exact (Below.refl _ _).alloc (Nat.le_refl _) _
  clear hW
  have h1' := h1.below bW hb
  have hb' : b < W.heap.size := Nat.lt_of_lt_of_le hb bW.size
  have d0 := cell_regrown e0
  have d1 := cell_regrown e1
  have d2 := cell_regrown e2
  have d3 := cell_regrown e3
  have cK : ∀ d os, Calls Tryz.prog 32 #[.int .i64 k, .int .i64 1, .int .i64 3] (grow (redrawn W d) os) fun e w'' => e = .returned (.bool (inB 1 3 k)) ∧ ∃ p : Regrown, w'' = grow (redrawn W p.d) p.os := fun d os => Calls.regrown_of ((specIn _ _ _ _).mono fun _ _ ⟨h, h'⟩ => ⟨h, by rw [h']; exact Below.refl _ _⟩)
  have cT : ∀ d os, Calls Tryz.prog 31 #[.int .i64 t] (grow (redrawn W d) os) fun e w'' => e = .returned (.bool (inB 1 1000000 t)) ∧ ∃ p : Regrown, w'' = grow (redrawn W p.d) p.os := fun d os => Calls.regrown_of ((specId _ _).mono fun _ _ ⟨h, h'⟩ => ⟨h, by rw [h']; exact Below.refl _ _⟩)
  have cR : ∀ d os, Calls Tryz.prog 137 #[.int .i64 r] (grow (redrawn W d) os) fun e w'' => e = .returned (.bool (inB 0 5 r)) ∧ ∃ p : Regrown, w'' = grow (redrawn W p.d) p.os := fun d os => Calls.regrown_of ((specRegion _ _).mono fun _ _ ⟨h, h'⟩ => ⟨h, by rw [h']; exact Below.refl _ _⟩)
  have cS : ∀ d os, Calls Tryz.prog 180 #[.slice (some ⟨b, off, none⟩) n cap] (grow (redrawn W d) os) fun e w'' => e = .returned (.bool (l2B xs)) ∧ ∃ p : Regrown, w'' = grow (redrawn W p.d) p.os := fun d os => Calls.regrown_of (l2Sets_some _ b off cap n xs hx hn (h1'.below (below_regrown W d os) hb') (Nat.lt_of_lt_of_le hb' (below_regrown W d os).size))
  have hn' : n ≤ 9223372036854775807 := hn
  clear e0 e1 e2 e3
  cases g1 : inB 1 3 k with
  | false =>
    rw [g1] at cK
    refine wp_region_quiet_below (by kernel_rfl) (by kernel_rfl) ?_
    repeat (go_big_quiet_step (first | (go_at_call 32; exact cK _ _) | (go_at_call 31; exact cT _ _) | (go_at_call 137; exact cR _ _) | (go_at_call 180; exact cS _ _)))
    refine wpQuiet_nil ?_
    intro _ hw'
    obtain ⟨⟨dq, osq⟩, hw''⟩ := hw'
    subst hw''
    have bq := below_regrown W dq osq
    go_wp2
    go_ret
    exact ⟨by rw [specB, g1]; rfl, bW.trans (bq.mono bW.size)⟩
  | true =>
    rw [g1] at cK
    cases g2 : inB 1 1000000 t with
    | false =>
      rw [g2] at cT
      refine wp_region_quiet_below (by kernel_rfl) (by kernel_rfl) ?_
      repeat (go_big_quiet_step (first | (go_at_call 32; exact cK _ _) | (go_at_call 31; exact cT _ _) | (go_at_call 137; exact cR _ _) | (go_at_call 180; exact cS _ _)))
      refine wpQuiet_nil ?_
      intro _ hw'
      obtain ⟨⟨dq, osq⟩, hw''⟩ := hw'
      subst hw''
      have bq := below_regrown W dq osq
      go_wp2
      go_ret
      exact ⟨by rw [specB, g1, g2]; rfl, bW.trans (bq.mono bW.size)⟩
    | true =>
      rw [g2] at cT
      cases g3 : inB 0 5 r with
      | false =>
        rw [g3] at cR
        refine wp_region_quiet_below (by kernel_rfl) (by kernel_rfl) ?_
        repeat (go_big_quiet_step (first | (go_at_call 32; exact cK _ _) | (go_at_call 31; exact cT _ _) | (go_at_call 137; exact cR _ _) | (go_at_call 180; exact cS _ _)))
        refine wpQuiet_nil ?_
        intro _ hw'
        obtain ⟨⟨dq, osq⟩, hw''⟩ := hw'
        subst hw''
        have bq := below_regrown W dq osq
        go_wp2
        go_ret
        exact ⟨by rw [specB, g1, g2, g3]; rfl, bW.trans (bq.mono bW.size)⟩
      | true =>
        rw [g3] at cR
        by_cases g4 : 1 ≤ n
        · have z := (h1'.get (i := 0) (by omega)).c0
          simp only [Nat.zero_mul, Nat.add_zero] at z
          have dz := cell_regrown z
          have HX : Hid (xs.length = n) := hx
          have g4' : (1 : Int) ≤ (n : Int) := by omega
          have g4'' : (0 : Int) < (n : Int) := by omega
          clear z hx h1 h1'
          by_cases g5 : n ≤ 12
          · have g5' : (n : Int) ≤ 12 := by omega
            cases g6 : l2B xs with
            | false =>
              rw [g6] at cS
              refine wp_region_quiet_below (by kernel_rfl) (by kernel_rfl) ?_
              repeat (go_big_quiet_step (first | (go_at_call 32; exact cK _ _) | (go_at_call 31; exact cT _ _) | (go_at_call 137; exact cR _ _) | (go_at_call 180; exact cS _ _)))
              refine wpQuiet_nil ?_
              intro _ hw'
              obtain ⟨⟨dq, osq⟩, hw''⟩ := hw'
              subst hw''
              have bq := below_regrown W dq osq
              go_wp2
              go_ret
              exact ⟨by rw [specB, g1, g2, g3, HX.out, decide_eq_true g4, decide_eq_true g5, g6]; rfl, bW.trans (bq.mono bW.size)⟩
            | true =>
              rw [g6] at cS
              by_cases g7 : (at5 xs 0).region = r
              · have g7' : ((at5 xs 0).region == r) = true := by simp [g7]
                have H7 : Hid ((at5 xs 0).region = r) := g7
                clear g7
                refine wp_region_quiet_below (by kernel_rfl) (by kernel_rfl) ?_
                repeat (go_big_quiet_step (first | (go_at_call 32; exact cK _ _) | (go_at_call 31; exact cT _ _) | (go_at_call 137; exact cR _ _) | (go_at_call 180; exact cS _ _)))
                refine wpQuiet_nil ?_
                intro _ hw'
                obtain ⟨⟨dq, osq⟩, hw''⟩ := hw'
                subst hw''
                have bq := below_regrown W dq osq
                go_wp2
                go_ret
                exact ⟨by rw [specB, g1, g2, g3, HX.out, decide_eq_true g4, decide_eq_true g5, g6, decide_eq_true H7.out]; rfl, bW.trans (bq.mono bW.size)⟩
              · have g7' : ((at5 xs 0).region == r) = false := by simp [g7]
                refine wp_region_quiet_below (by kernel_rfl) (by kernel_rfl) ?_
                repeat (go_big_quiet_step (first | (go_at_call 32; exact cK _ _) | (go_at_call 31; exact cT _ _) | (go_at_call 137; exact cR _ _) | (go_at_call 180; exact cS _ _)))
                refine wpQuiet_nil ?_
                intro _ hw'
                obtain ⟨⟨dq, osq⟩, hw''⟩ := hw'
                subst hw''
                have bq := below_regrown W dq osq
                go_wp2
                go_ret
                exact ⟨by rw [specB, g1, g2, g3, HX.out, decide_eq_true g4, decide_eq_true g5, g6, decide_eq_false g7]; rfl, bW.trans (bq.mono bW.size)⟩
          · have g5' : decide ((n : Int) ≤ 12) = false := by simp; omega
            refine wp_region_quiet_below (by kernel_rfl) (by kernel_rfl) ?_
            repeat (go_big_quiet_step (first | (go_at_call 32; exact cK _ _) | (go_at_call 31; exact cT _ _) | (go_at_call 137; exact cR _ _) | (go_at_call 180; exact cS _ _)))
            refine wpQuiet_nil ?_
            intro _ hw'
            obtain ⟨⟨dq, osq⟩, hw''⟩ := hw'
            subst hw''
            have bq := below_regrown W dq osq
            go_wp2
            go_ret
            exact ⟨by rw [specB, g1, g2, g3, HX.out, decide_eq_true g4, decide_eq_false (show ¬ n ≤ 12 by omega)]; rfl, bW.trans (bq.mono bW.size)⟩
        · have g4' : decide (1 ≤ (n : Int)) = false := by simp; omega
          have HX : Hid (xs.length = n) := hx
          clear hx h1 h1'
          refine wp_region_quiet_below (by kernel_rfl) (by kernel_rfl) ?_
          repeat (go_big_quiet_step (first | (go_at_call 32; exact cK _ _) | (go_at_call 31; exact cT _ _) | (go_at_call 137; exact cR _ _) | (go_at_call 180; exact cS _ _)))
          refine wpQuiet_nil ?_
          intro _ hw'
          obtain ⟨⟨dq, osq⟩, hw''⟩ := hw'
          subst hw''
          have bq := below_regrown W dq osq
          go_wp2
          go_ret
          exact ⟨by rw [specB, g1, g2, g3, HX.out, decide_eq_false (show ¬ 1 ≤ n by omega)]; rfl, bW.trans (bq.mono bW.size)⟩
set_option maxHeartbeats 2000000 in
theorem specRecordOk_none (w : World) (k t r : Int) (a : Option Addr) (cap : Nat) :
    Calls Tryz.prog 138 #[.agg #[.int .i64 k, .int .i64 t, .int .i64 r, .slice a 0 cap]] w fun e w' => e = .returned (.bool (specB k t r [])) ∧ Below w.heap.size w w' := by
  go_enter Tryz.func138, Tryz.ntmps138
  go_wp2_with fail
  have e0 : (w.alloc (.cells #[.int .i64 k, .int .i64 t, .int .i64 r, .slice a 0 cap] 178)).cell? ⟨w.heap.size, 0, none⟩ = some (.int .i64 k) := by go_simp
  have e1 : (w.alloc (.cells #[.int .i64 k, .int .i64 t, .int .i64 r, .slice a 0 cap] 178)).cell? ⟨w.heap.size, 1, none⟩ = some (.int .i64 t) := by go_simp
  have e2 : (w.alloc (.cells #[.int .i64 k, .int .i64 t, .int .i64 r, .slice a 0 cap] 178)).cell? ⟨w.heap.size, 2, none⟩ = some (.int .i64 r) := by go_simp
  have e3 : (w.alloc (.cells #[.int .i64 k, .int .i64 t, .int .i64 r, .slice a 0 cap] 178)).cell? ⟨w.heap.size, 3, none⟩ = some (.slice a 0 cap) := by go_simp
  generalize hW : w.alloc (.cells #[.int .i64 k, .int .i64 t, .int .i64 r, .slice a 0 cap] 178) = W at e0 e1 e2 e3 ⊢
  have bW : Below w.heap.size w W := by subst hW; exact (Below.refl _ _).alloc (Nat.le_refl _) _
  clear hW
  have d0 := cell_regrown e0
  have d1 := cell_regrown e1
  have d2 := cell_regrown e2
  have d3 := cell_regrown e3
  have cK : ∀ d os, Calls Tryz.prog 32 #[.int .i64 k, .int .i64 1, .int .i64 3] (grow (redrawn W d) os) fun e w'' => e = .returned (.bool (inB 1 3 k)) ∧ ∃ p : Regrown, w'' = grow (redrawn W p.d) p.os := fun d os => Calls.regrown_of ((specIn _ _ _ _).mono fun _ _ ⟨h, h'⟩ => ⟨h, by rw [h']; exact Below.refl _ _⟩)
  have cT : ∀ d os, Calls Tryz.prog 31 #[.int .i64 t] (grow (redrawn W d) os) fun e w'' => e = .returned (.bool (inB 1 1000000 t)) ∧ ∃ p : Regrown, w'' = grow (redrawn W p.d) p.os := fun d os => Calls.regrown_of ((specId _ _).mono fun _ _ ⟨h, h'⟩ => ⟨h, by rw [h']; exact Below.refl _ _⟩)
  have cR : ∀ d os, Calls Tryz.prog 137 #[.int .i64 r] (grow (redrawn W d) os) fun e w'' => e = .returned (.bool (inB 0 5 r)) ∧ ∃ p : Regrown, w'' = grow (redrawn W p.d) p.os := fun d os => Calls.regrown_of ((specRegion _ _).mono fun _ _ ⟨h, h'⟩ => ⟨h, by rw [h']; exact Below.refl _ _⟩)
  clear e0 e1 e2 e3
  cases g1 : inB 1 3 k with
  | false =>
    rw [g1] at cK
    refine wp_region_quiet_below (by kernel_rfl) (by kernel_rfl) ?_
    repeat (go_big_quiet_step (first | (go_at_call 32; exact cK _ _) | (go_at_call 31; exact cT _ _) | (go_at_call 137; exact cR _ _)))
    refine wpQuiet_nil ?_
    intro _ hw'
    obtain ⟨⟨dq, osq⟩, hw''⟩ := hw'
    subst hw''
    have bq := below_regrown W dq osq
    go_wp2
    go_ret
    exact ⟨by rw [specB, g1]; rfl, bW.trans (bq.mono bW.size)⟩
  | true =>
    rw [g1] at cK
    cases g2 : inB 1 1000000 t with
    | false =>
      rw [g2] at cT
      refine wp_region_quiet_below (by kernel_rfl) (by kernel_rfl) ?_
      repeat (go_big_quiet_step (first | (go_at_call 32; exact cK _ _) | (go_at_call 31; exact cT _ _) | (go_at_call 137; exact cR _ _)))
      refine wpQuiet_nil ?_
      intro _ hw'
      obtain ⟨⟨dq, osq⟩, hw''⟩ := hw'
      subst hw''
      have bq := below_regrown W dq osq
      go_wp2
      go_ret
      exact ⟨by rw [specB, g1, g2]; rfl, bW.trans (bq.mono bW.size)⟩
    | true =>
      rw [g2] at cT
      cases g3 : inB 0 5 r with
      | false =>
        rw [g3] at cR
        refine wp_region_quiet_below (by kernel_rfl) (by kernel_rfl) ?_
        repeat (go_big_quiet_step (first | (go_at_call 32; exact cK _ _) | (go_at_call 31; exact cT _ _) | (go_at_call 137; exact cR _ _)))
        refine wpQuiet_nil ?_
        intro _ hw'
        obtain ⟨⟨dq, osq⟩, hw''⟩ := hw'
        subst hw''
        have bq := below_regrown W dq osq
        go_wp2
        go_ret
        exact ⟨by rw [specB, g1, g2, g3]; rfl, bW.trans (bq.mono bW.size)⟩
      | true =>
        rw [g3] at cR
        refine wp_region_quiet_below (by kernel_rfl) (by kernel_rfl) ?_
        repeat (go_big_quiet_step (first | (go_at_call 32; exact cK _ _) | (go_at_call 31; exact cT _ _) | (go_at_call 137; exact cR _ _)))
        refine wpQuiet_nil ?_
        intro _ hw'
        obtain ⟨⟨dq, osq⟩, hw''⟩ := hw'
        subst hw''
        have bq := below_regrown W dq osq
        go_wp2
        go_ret
        exact ⟨by rw [specB, g1, g2, g3]; rfl, bW.trans (bq.mono bW.size)⟩
theorem specRecordOk_any (w : World) (k t r : Int) (a : Option Addr) (n cap : Nat) (xs : List S5) (hn : n ≤ maxLen) (hs : Sl w w.heap.size a n xs) :
    Calls Tryz.prog 138 #[.agg #[.int .i64 k, .int .i64 t, .int .i64 r, .slice a n cap]] w fun e w' => e = .returned (.bool (recB k t r xs)) ∧ Below w.heap.size w w' := by
  obtain ⟨h1, h2⟩ := hs
  rw [← specB_eq]
  rcases h2 with rfl | ⟨b, off, rfl, hb, hx⟩
  · rw [List.eq_nil_of_length_eq_zero h1]
    exact specRecordOk_none w k t r a cap
  · exact specRecordOk_some w k t r b off cap n xs h1 hn hx hb
def copB (ks : List K2) (i : Nat) : Bool := inB 0 5 (atK ks i).region && cellsB (atK ks i).cells && (decide (i = 0) || decide ((atK ks (i - 1)).region < (atK ks i).region))
def logB (rs : List R4) (i : Nat) : Bool := recB (atR rs i).kind (atR rs i).tx (atR rs i).region (atR rs i).sets
def machB (m : M4) : Bool := decide (m.copies.length ≤ 6) && decide (m.log.length ≤ 200) && decide (m.cleared.length ≤ 60) && idsB m.cleared && (List.range m.copies.length).all (copB m.copies) && (List.range m.log.length).all (logB m.log)
theorem cop_low {ks : List K2} {j : Nat} (h : (atK ks (j + 1)).region ≤ (atK ks j).region) : copB ks (j + 1) = false := by
  have : decide ((atK ks j).region < (atK ks (j + 1)).region) = false := by simp; omega
  simp [copB, this]
theorem cop_first {ks : List K2} (h : inB 0 5 (atK ks 0).region = true) (h' : cellsB (atK ks 0).cells = true) : copB ks 0 = true := by simp [copB, h, h']
theorem cop_good {ks : List K2} {j : Nat} (h : inB 0 5 (atK ks (j + 1)).region = true) (h' : cellsB (atK ks (j + 1)).cells = true) (hq : (atK ks j).region < (atK ks (j + 1)).region) : copB ks (j + 1) = true := by simp [copB, h, h', hq]
theorem specRegion_q (w : World) (x : Int) : Calls Tryz.prog 137 #[.int .i64 x] w fun e w' => e = .returned (.bool (inB 0 5 x)) ∧ Below w.heap.size w w' := (specRegion w x).mono (by rintro e w' ⟨h, rfl⟩; exact ⟨h, Below.refl _ _⟩)
set_option maxHeartbeats 8000000 in
theorem specMachineOk_any (w : World) (v : MV) (m : M4) (hk : m.copies.length ≤ maxLen) (hr : m.log.length ≤ maxLen) (hn : m.cleared.length ≤ maxLen) (hks : ∀ r ∈ m.copies, r.cells.length ≤ maxLen) (hrs : ∀ r ∈ m.log, r.sets.length ≤ maxLen) (hs : SlM w v m) :
    Calls Tryz.prog 79 #[v.val m] w fun e w' => e = .returned (.bool (machB m)) ∧ Below w.heap.size w w' := by
  obtain ⟨ac, cc, al, cl, ad, cd⟩ := v
  simp only [MV.val]
  have H : Hid (SlM w ⟨ac, cc, al, cl, ad, cd⟩ m ∧ (∀ r ∈ m.copies, r.cells.length ≤ maxLen) ∧ (∀ r ∈ m.log, r.sets.length ≤ maxLen) ∧ m.cleared.length ≤ maxLen) := ⟨hs, hks, hrs, hn⟩
  clear hs hks hrs
  unfold maxLen at hk hr hn
  have BW : Hid (Below w.heap.size w (w.alloc (.cells #[.bool m.alive, .slice ac m.copies.length cc, .slice al m.log.length cl, .slice ad m.cleared.length cd] 62))) := (Below.refl _ _).alloc (Nat.le_refl _) _
  by_cases g1 : m.copies.length ≤ 6
  case neg =>
    have hb : machB m = false := by simp [machB, g1]
    have d1 : decide ((6 : Int) < (m.copies.length : Int)) = true := by simp; omega
    rw [hb]
    go_enter Tryz.func79, Tryz.ntmps79
    go_wp2
    go_ret
    exact ⟨rfl, BW.out⟩
  have d1 : decide ((6 : Int) < (m.copies.length : Int)) = false := by simp; omega
  by_cases g2 : m.log.length ≤ 200
  case neg =>
    have hb : machB m = false := by simp [machB, g2]
    have d2 : decide ((200 : Int) < (m.log.length : Int)) = true := by simp; omega
    rw [hb]
    go_enter Tryz.func79, Tryz.ntmps79
    go_wp2
    go_ret
    exact ⟨rfl, BW.out⟩
  have d2 : decide ((200 : Int) < (m.log.length : Int)) = false := by simp; omega
  by_cases g3 : m.cleared.length ≤ 60
  case neg =>
    have hb : machB m = false := by simp [machB, g3]
    have d3 : decide ((60 : Int) < (m.cleared.length : Int)) = true := by simp; omega
    rw [hb]
    go_enter Tryz.func79, Tryz.ntmps79
    go_wp2
    go_ret
    exact ⟨rfl, BW.out⟩
  have d3 : decide ((60 : Int) < (m.cleared.length : Int)) = false := by simp; omega
  have HM : Hid (machB m = (idsB m.cleared && (List.range m.copies.length).all (copB m.copies) && (List.range m.log.length).all (logB m.log))) := by unfold Hid; simp [machB, g1, g2, g3]
  have q1 : (w.alloc (.cells #[.bool m.alive, .slice ac m.copies.length cc, .slice al m.log.length cl, .slice ad m.cleared.length cd] 62)).cell? ⟨w.heap.size, 1, none⟩ = some (.slice ac m.copies.length cc) := by go_simp
  have q2 : (w.alloc (.cells #[.bool m.alive, .slice ac m.copies.length cc, .slice al m.log.length cl, .slice ad m.cleared.length cd] 62)).cell? ⟨w.heap.size, 2, none⟩ = some (.slice al m.log.length cl) := by go_simp
  have qz : w.heap.size < (w.alloc (.cells #[.bool m.alive, .slice ac m.copies.length cc, .slice al m.log.length cl, .slice ad m.cleared.length cd] 62)).heap.size := by simp
  have Q : Hid ((w.alloc (.cells #[.bool m.alive, .slice ac m.copies.length cc, .slice al m.log.length cl, .slice ad m.cleared.length cd] 62)).cell? ⟨w.heap.size, 1, none⟩ = some (.slice ac m.copies.length cc) ∧ (w.alloc (.cells #[.bool m.alive, .slice ac m.copies.length cc, .slice al m.log.length cl, .slice ad m.cleared.length cd] 62)).cell? ⟨w.heap.size, 2, none⟩ = some (.slice al m.log.length cl) ∧ w.heap.size < (w.alloc (.cells #[.bool m.alive, .slice ac m.copies.length cc, .slice al m.log.length cl, .slice ad m.cleared.length cd] 62)).heap.size) := ⟨q1, q2, qz⟩
  clear q1 q2 qz
  go_enter Tryz.func79, Tryz.ntmps79
  go_wp2_with fail
  generalize w.alloc (.cells #[.bool m.alive, .slice ac m.copies.length cc, .slice al m.log.length cl, .slice ad m.cleared.length cd] 62) = W at *
  refine (l6Rises_any W ad m.cleared.length cd m.cleared H.out.2.2.2 (H.out.1.later BW.out).n).mono ?_
  rintro e w1 ⟨rfl, b1⟩
  have q1 := (b1.cell (p := ⟨w.heap.size, 1, none⟩) Q.out.2.2).trans Q.out.1
  have q2 := (b1.cell (p := ⟨w.heap.size, 2, none⟩) Q.out.2.2).trans Q.out.2.1
  have B1 : Hid (Below w.heap.size w w1 ∧ w.heap.size < w1.heap.size ∧ SlM w1 ⟨ac, cc, al, cl, ad, cd⟩ m) := ⟨BW.out.trans (b1.mono BW.out.size), Nat.lt_of_lt_of_le Q.out.2.2 b1.size, (H.out.1.later BW.out).later b1⟩
  clear b1
  cases gi : idsB m.cleared with
  | false =>
    go_wp2
    go_ret
    exact ⟨by rw [HM.out, gi]; rfl, B1.out.1⟩
  | true =>
    have HN : Hid (machB m = ((List.range m.copies.length).all (copB m.copies) && (List.range m.log.length).all (logB m.log))) := by unfold Hid; rw [HM.out, gi]; rfl
    clear gi HM
    have QQ : Hid (w1.cell? ⟨w.heap.size, 1, none⟩ = some (.slice ac m.copies.length cc) ∧ w1.cell? ⟨w.heap.size, 2, none⟩ = some (.slice al m.log.length cl)) := ⟨q1, q2⟩
    go_wp2
    go_loopw [3] (fun v3 wr => ∃ k : Nat, k ≤ m.copies.length ∧ v3 = .int .i64 k ∧ Below w1.heap.size w1 wr ∧ (List.range k).all (copB m.copies) = true) (fun v3 _ => m.copies.length - (intOf v3).toNat)
    case atStart => exact ⟨0, Nat.zero_le _, rfl, Below.refl _ _, rfl⟩
    case round =>
      obtain ⟨k, hkk, rfl, hbl, hall⟩ := hrel
      clear q1 q2
      have p1 := (hbl.cell (p := ⟨w.heap.size, 1, none⟩) B1.out.2.1).trans QQ.out.1
      have p2 := (hbl.cell (p := ⟨w.heap.size, 2, none⟩) B1.out.2.1).trans QQ.out.2
      have hzW : w.heap.size < wr.heap.size := Nat.lt_of_lt_of_le B1.out.2.1 hbl.size
      have K : Hid (Below w1.heap.size w1 wr ∧ (List.range k).all (copB m.copies) = true) := ⟨hbl, hall⟩
      have KF : Hid (∀ V, Below wr.heap.size wr V → Below w.heap.size w V) := fun V h => B1.out.1.trans ((K.out.1.trans (h.mono K.out.1.size)).mono B1.out.1.size)
      by_cases hlt : k < m.copies.length
      · obtain ⟨_, hsk⟩ := (B1.out.2.2.later hbl).k
        rcases hsk with hsk | ⟨b, off, rfl, hb, h1⟩
        · omega
        have t1 := h1 k _ (atK_of hlt)
        obtain ⟨a', cap', e1, s1, hcp⟩ := t1.c1
        have x1 : ∀ d os, (grow (redrawn wr d) os).cell? ⟨w.heap.size, 1, none⟩ = some (.slice (some ⟨b, off, none⟩) m.copies.length cc) := fun d os => ((below_regrown wr d os).cell (p := ⟨w.heap.size, 1, none⟩) hzW).trans p1
        have y0 : ∀ d os, (grow (redrawn wr d) os).cell? ⟨b, off + k * 2, none⟩ = some (.int .i64 (atK m.copies k).region) := fun d os => ((below_regrown wr d os).cell (p := ⟨b, off + k * 2, none⟩) hb).trans t1.c0
        have y1 : ∀ d os, (grow (redrawn wr d) os).cell? ⟨b, off + k * 2 + 1, none⟩ = some (.slice a' (atK m.copies k).cells.length cap') := fun d os => ((below_regrown wr d os).cell (p := ⟨b, off + k * 2 + 1, none⟩) hb).trans e1
        have hcl : (atK m.copies k).cells.length ≤ maxLen := H.out.2.1 _ (List.mem_of_getElem? (atK_of hlt))
        have cR : ∀ d os, Calls Tryz.prog 137 #[.int .i64 (atK m.copies k).region] (grow (redrawn wr d) os) fun e w'' => e = .returned (.bool (inB 0 5 (atK m.copies k).region)) ∧ ∃ p : Regrown, w'' = grow (redrawn wr p.d) p.os := fun d os => Calls.regrown_of (specRegion_q _ _)
        have cC : ∀ d os, Calls Tryz.prog 121 #[.slice a' (atK m.copies k).cells.length cap'] (grow (redrawn wr d) os) fun e w'' => e = .returned (.bool (cellsB (atK m.copies k).cells)) ∧ ∃ p : Regrown, w'' = grow (redrawn wr p.d) p.os := fun d os => Calls.regrown_of (specCellsOk_any _ a' _ cap' _ hcl ((s1.below (below_regrown wr d os)).mono (below_regrown wr d os).size))
        have HF : Hid (copB m.copies k = false → machB m = false) := fun h => by rw [HN.out, ids_fail hlt h]; rfl
        cases gr : inB 0 5 (atK m.copies k).region with
        | false =>
          rw [gr] at cR
          clear t1 hbl hall h1 s1 e1 hcl
          go_wp2_with fail
          refine wp_region_quiet_below (by kernel_rfl) (by kernel_rfl) ?_
          repeat (go_big_quiet_step (first | exact cR _ _ | exact cC _ _))
          refine wpQuiet_nil ?_
          intro _ hw'
          obtain ⟨⟨dq, osq⟩, hw''⟩ := hw'
          subst hw''
          have bq := below_regrown wr dq osq
          go_wp2
          go_ret
          exact ⟨by rw [HF.out (by simp [copB, gr])]; rfl, KF.out _ bq⟩
        | true =>
          rw [gr] at cR
          cases gc : cellsB (atK m.copies k).cells with
          | false =>
            rw [gc] at cC
            clear t1 hbl hall h1 s1 e1 hcl
            go_wp2_with fail
            refine wp_region_quiet_below (by kernel_rfl) (by kernel_rfl) ?_
            repeat (go_big_quiet_step (first | exact cR _ _ | exact cC _ _))
            refine wpQuiet_nil ?_
            intro _ hw'
            obtain ⟨⟨dq, osq⟩, hw''⟩ := hw'
            subst hw''
            have bq := below_regrown wr dq osq
            go_wp2
            go_ret
            exact ⟨by rw [HF.out (by simp [copB, gc])]; rfl, KF.out _ bq⟩
          | true =>
            rw [gc] at cC
            rcases k with _ | j
            · simp only [Nat.zero_mul, Nat.add_zero] at y0 y1
              clear t1 hbl hall h1 s1 e1 hcl
              go_wp2_with fail
              refine wp_region_quiet_below (by kernel_rfl) (by kernel_rfl) ?_
              repeat (go_big_quiet_step (first | exact cR _ _ | exact cC _ _))
              refine wpQuiet_nil ?_
              intro _ hw'
              obtain ⟨⟨dq, osq⟩, hw''⟩ := hw'
              subst hw''
              have bq := below_regrown wr dq osq
              go_wp2
              exact ⟨⟨1, by omega, by simp, K.out.1.trans (bq.mono K.out.1.size), ids_step K.out.2 (cop_first gr gc)⟩, by simp [intOf]; omega⟩
            · have t2 := h1 j _ (atK_of (by omega))
              have z0 : ∀ d os, (grow (redrawn wr d) os).cell? ⟨b, off + j * 2, none⟩ = some (.int .i64 (atK m.copies j).region) := fun d os => ((below_regrown wr d os).cell (p := ⟨b, off + j * 2, none⟩) hb).trans t2.c0
              have hj : (j : Int) < (m.copies.length : Int) := by omega
              by_cases hq : (atK m.copies (j + 1)).region ≤ (atK m.copies j).region
              · clear t1 t2 hbl hall h1 s1 e1 hcl
                go_wp2_with fail
                refine wp_region_quiet_below (by kernel_rfl) (by kernel_rfl) ?_
                repeat (go_big_quiet_step (first | exact cR _ _ | exact cC _ _))
                refine wpQuiet_nil ?_
                intro _ hw'
                obtain ⟨⟨dq, osq⟩, hw''⟩ := hw'
                subst hw''
                have bq := below_regrown wr dq osq
                go_wp2
                go_ret
                exact ⟨by rw [HF.out (cop_low hq)]; rfl, KF.out _ bq⟩
              · have hq' : decide ((atK m.copies (j + 1)).region ≤ (atK m.copies j).region) = false := by simp; omega
                have HQ : Hid ((atK m.copies j).region < (atK m.copies (j + 1)).region) := by unfold Hid; omega
                clear t1 t2 hbl hall h1 s1 e1 hcl hq
                go_wp2_with fail
                refine wp_region_quiet_below (by kernel_rfl) (by kernel_rfl) ?_
                repeat (go_big_quiet_step (first | exact cR _ _ | exact cC _ _))
                refine wpQuiet_nil ?_
                intro _ hw'
                obtain ⟨⟨dq, osq⟩, hw''⟩ := hw'
                subst hw''
                have bq := below_regrown wr dq osq
                go_wp2
                exact ⟨⟨j + 1 + 1, by omega, by simp, K.out.1.trans (bq.mono K.out.1.size), ids_step K.out.2 (cop_good gr gc HQ.out)⟩, by simp [intOf]; omega⟩
      · have : k = m.copies.length := by omega
        subst this
        have hd : decide ((m.copies.length : Int) < (m.copies.length : Int)) = false := by simp
        have HL : Hid (machB m = (List.range m.log.length).all (logB m.log)) := by unfold Hid; rw [HN.out, hall]; rfl
        have SR : Hid (SlM wr ⟨ac, cc, al, cl, ad, cd⟩ m ∧ w.heap.size < wr.heap.size ∧ wr.cell? ⟨w.heap.size, 2, none⟩ = some (.slice al m.log.length cl)) := ⟨B1.out.2.2.later hbl, hzW, p2⟩
        clear hall hbl
        go_wp2
        generalize wr = W2 at *
        go_loopw [4] (fun v4 wr => ∃ k : Nat, k ≤ m.log.length ∧ v4 = .int .i64 k ∧ Below W2.heap.size W2 wr ∧ (List.range k).all (logB m.log) = true) (fun v4 _ => m.log.length - (intOf v4).toNat)
        case atStart => exact ⟨0, Nat.zero_le _, rfl, Below.refl _ _, rfl⟩
        case round =>
          obtain ⟨j, hj, rfl, hb2, hal2⟩ := hrel
          have p3 := (hb2.cell (p := ⟨w.heap.size, 2, none⟩) SR.out.2.1).trans SR.out.2.2
          by_cases hlt : j < m.log.length
          · obtain ⟨_, hsr⟩ := (SR.out.1.later hb2).r
            rcases hsr with hsr | ⟨b, off, rfl, hb, h1⟩
            · omega
            have t1 := h1 j _ (atR_of hlt)
            obtain ⟨a', cap', e1, s1, hcp⟩ := t1.c3
            have c0 := t1.c0
            have c1 := t1.c1
            have c2 := t1.c2
            have HC : Hid (Sl wr wr.heap.size a' (atR m.log j).sets.length (atR m.log j).sets ∧ (atR m.log j).sets.length ≤ maxLen ∧ Below W2.heap.size W2 wr ∧ (List.range j).all (logB m.log) = true) := ⟨s1, H.out.2.2.1 _ (List.mem_of_getElem? (atR_of hlt)), hb2, hal2⟩
            have HF : Hid (logB m.log j = false → machB m = false) := fun h => by rw [HL.out]; exact ids_fail hlt h
            clear t1 h1 s1 hb2 hal2
            go_wp2_with fail
            refine (specRecordOk_any wr (atR m.log j).kind (atR m.log j).tx (atR m.log j).region a' _ cap' (atR m.log j).sets HC.out.2.1 HC.out.1).mono ?_
            rintro e w3 ⟨rfl, b3⟩
            cases gl : recB (atR m.log j).kind (atR m.log j).tx (atR m.log j).region (atR m.log j).sets with
            | false =>
              go_wp2
              go_ret
              exact ⟨by rw [HF.out gl]; rfl, KF.out _ (HC.out.2.2.1.trans (b3.mono HC.out.2.2.1.size))⟩
            | true =>
              go_wp2
              exact ⟨⟨j + 1, by omega, by simp, HC.out.2.2.1.trans (b3.mono HC.out.2.2.1.size), ids_step HC.out.2.2.2 gl⟩, by simp [intOf]; omega⟩
          · have : j = m.log.length := by omega
            subst this
            have hd2 : decide ((m.log.length : Int) < (m.log.length : Int)) = false := by simp
            go_wp2
            go_ret
            exact ⟨by rw [HL.out, hal2]; rfl, KF.out _ hb2⟩
set_option maxHeartbeats 2000000 in
theorem implRecordOk_low (w : World) (k t r : Int) (a : Option Addr) (n cap : Nat) (xs : List S5) (hb : inB 1 1000000 t = false ∨ inB 0 5 r = false ∨ ¬ (1 ≤ k ∧ k ≤ 3)) :
    Calls Tryz.prog 287 #[.agg #[.int .i64 k, .int .i64 t, .int .i64 r, .slice a n cap]] w fun e w' => e = .returned (.bool (recB k t r xs)) ∧ Below w.heap.size w w' := by
  have hk : recB k t r xs = false := by
    rcases hb with h | h | h
    · simp [recB, h]
    · simp [recB, h]
    · have : inB 1 3 k = false := by simp [inB]; omega
      simp [recB, this]
  rw [hk]
  clear hk
  by_cases k1 : k < 1
  · clear hb
    go_enter Tryz.func287, Tryz.ntmps287
    go_wp2_with (first | (go_at_call 152; refine (implId _ _).mono ?_; rw [g2]; rintro e w' ⟨rfl, rfl⟩) | (go_at_call 252; refine (implRegion _ _).mono ?_; rw [g3]; rintro e w' ⟨rfl, rfl⟩))
    go_ret
    exact ⟨rfl, (Below.refl _ _).alloc (Nat.le_refl _) _⟩
  · have k1' : decide (k < 1) = false := by simp; omega
    by_cases k2 : 3 < k
    · clear hb
      go_enter Tryz.func287, Tryz.ntmps287
      go_wp2_with (first | (go_at_call 152; refine (implId _ _).mono ?_; rw [g2]; rintro e w' ⟨rfl, rfl⟩) | (go_at_call 252; refine (implRegion _ _).mono ?_; rw [g3]; rintro e w' ⟨rfl, rfl⟩))
      go_ret
      exact ⟨rfl, (Below.refl _ _).alloc (Nat.le_refl _) _⟩
    · have k2' : decide (3 < k) = false := by simp; omega
      have hb2 : inB 1 1000000 t = false ∨ (inB 1 1000000 t = true ∧ inB 0 5 r = false) := by
        cases g2 : inB 1 1000000 t with
        | false => exact .inl rfl
        | true =>
          rcases hb with h | h | h
          · rw [h] at g2; cases g2
          · exact .inr ⟨rfl, h⟩
          · exact absurd ⟨by omega, by omega⟩ h
      clear hb
      rcases hb2 with g2 | ⟨g2, g3⟩
      · skip
        go_enter Tryz.func287, Tryz.ntmps287
        go_wp2_with (first | (go_at_call 152; refine (implId _ _).mono ?_; rw [g2]; rintro e w' ⟨rfl, rfl⟩) | (go_at_call 252; refine (implRegion _ _).mono ?_; rw [g3]; rintro e w' ⟨rfl, rfl⟩))
        go_ret
        exact ⟨rfl, (Below.refl _ _).alloc (Nat.le_refl _) _⟩
      · skip
        go_enter Tryz.func287, Tryz.ntmps287
        go_wp2_with (first | (go_at_call 152; refine (implId _ _).mono ?_; rw [g2]; rintro e w' ⟨rfl, rfl⟩) | (go_at_call 252; refine (implRegion _ _).mono ?_; rw [g3]; rintro e w' ⟨rfl, rfl⟩))
        go_ret
        exact ⟨rfl, (Below.refl _ _).alloc (Nat.le_refl _) _⟩
set_option maxHeartbeats 2000000 in
theorem implRecordOk_len (w : World) (k t r : Int) (a : Option Addr) (n cap : Nat) (xs : List S5) (hx : xs.length = n) (g2 : inB 1 1000000 t = true) (g3 : inB 0 5 r = true) (k1 : 1 ≤ k) (k2 : k ≤ 3) (hl : n < 1 ∨ 12 < n) :
    Calls Tryz.prog 287 #[.agg #[.int .i64 k, .int .i64 t, .int .i64 r, .slice a n cap]] w fun e w' => e = .returned (.bool (recB k t r xs)) ∧ Below w.heap.size w w' := by
  have hk : recB k t r xs = false := by
    rcases hl with h | h
    · simp [recB, hx, show ¬ 1 ≤ n by omega]
    · simp [recB, hx, show ¬ n ≤ 12 by omega]
  rw [hk]
  have k1' : decide (k < 1) = false := by simp; omega
  have k2' : decide (3 < k) = false := by simp; omega
  clear hk hx
  by_cases n1 : n < 1
  · have n1' : (n : Int) < 1 := by omega
    go_enter Tryz.func287, Tryz.ntmps287
    go_wp2_with (first | (go_at_call 152; refine (implId _ _).mono ?_; rw [g2]; rintro e w' ⟨rfl, rfl⟩) | (go_at_call 252; refine (implRegion _ _).mono ?_; rw [g3]; rintro e w' ⟨rfl, rfl⟩))
    go_ret
    exact ⟨rfl, (Below.refl _ _).alloc (Nat.le_refl _) _⟩
  · have n1' : decide ((n : Int) < 1) = false := by simp; omega
    have n2' : (12 : Int) < (n : Int) := by omega
    go_enter Tryz.func287, Tryz.ntmps287
    go_wp2_with (first | (go_at_call 152; refine (implId _ _).mono ?_; rw [g2]; rintro e w' ⟨rfl, rfl⟩) | (go_at_call 252; refine (implRegion _ _).mono ?_; rw [g3]; rintro e w' ⟨rfl, rfl⟩))
    go_ret
    exact ⟨rfl, (Below.refl _ _).alloc (Nat.le_refl _) _⟩
set_option maxHeartbeats 2000000 in
theorem implRecordOk_rest (w : World) (k t r : Int) (b off cap n : Nat) (xs : List S5) (hx : xs.length = n) (hn : n ≤ maxLen) (h1 : SetsAt w b off xs) (hb : b < w.heap.size) (g2 : inB 1 1000000 t = true) (g3 : inB 0 5 r = true) (k1 : 1 ≤ k) (k2 : k ≤ 3) (l1 : 1 ≤ n) (l2 : n ≤ 12) :
    Calls Tryz.prog 287 #[.agg #[.int .i64 k, .int .i64 t, .int .i64 r, .slice (some ⟨b, off, none⟩) n cap]] w fun e w' => e = .returned (.bool (recB k t r xs)) ∧ Below w.heap.size w w' := by
  have hk : recB k t r xs = (riseB xs && sameB r xs) := by simp [recB, hx, inB_yes k1 k2, g2, g3, l1, l2]
  rw [hk]
  have k1' : decide (k < 1) = false := by simp; omega
  have k2' : decide (3 < k) = false := by simp; omega
  have n1' : decide ((n : Int) < 1) = false := by simp; omega
  have n2' : decide ((12 : Int) < (n : Int)) = false := by simp; omega
  have bW : Below w.heap.size w (w.alloc (.cells #[.int .i64 k, .int .i64 t, .int .i64 r, .slice (some ⟨b, off, none⟩) n cap] 178)) := (Below.refl _ _).alloc (Nat.le_refl _) _
  have h1' := h1.below bW hb
  have hb' : b < (w.alloc (.cells #[.int .i64 k, .int .i64 t, .int .i64 r, .slice (some ⟨b, off, none⟩) n cap] 178)).heap.size := Nat.lt_of_lt_of_le hb bW.size
  have H1 : Hid (SetsAt (w.alloc (.cells #[.int .i64 k, .int .i64 t, .int .i64 r, .slice (some ⟨b, off, none⟩) n cap] 178)) b off xs ∧ xs.length = n ∧ Below w.heap.size w (w.alloc (.cells #[.int .i64 k, .int .i64 t, .int .i64 r, .slice (some ⟨b, off, none⟩) n cap] 178)) ∧ b < (w.alloc (.cells #[.int .i64 k, .int .i64 t, .int .i64 r, .slice (some ⟨b, off, none⟩) n cap] 178)).heap.size) := ⟨h1', hx, bW, hb'⟩
  clear hk h1 h1' hx bW hb'
  go_enter Tryz.func287, Tryz.ntmps287
  go_wp2_with (first | (go_at_call 152; refine (implId _ _).mono ?_; rw [g2]; rintro e w' ⟨rfl, rfl⟩) | (go_at_call 252; refine (implRegion _ _).mono ?_; rw [g3]; rintro e w' ⟨rfl, rfl⟩))
  obtain ⟨h1, hx, bW, hb'⟩ := H1.out
  refine (setsRise_some _ b off cap n xs hx hn h1 hb').mono ?_
  have e2 : (w.alloc (.cells #[.int .i64 k, .int .i64 t, .int .i64 r, .slice (some ⟨b, off, none⟩) n cap] 178)).cell? ⟨w.heap.size, 2, none⟩ = some (.int .i64 r) := by go_simp
  have e3 : (w.alloc (.cells #[.int .i64 k, .int .i64 t, .int .i64 r, .slice (some ⟨b, off, none⟩) n cap] 178)).cell? ⟨w.heap.size, 3, none⟩ = some (.slice (some ⟨b, off, none⟩) n cap) := by go_simp
  have hs : w.heap.size < (w.alloc (.cells #[.int .i64 k, .int .i64 t, .int .i64 r, .slice (some ⟨b, off, none⟩) n cap] 178)).heap.size := by simp
  generalize hW : w.alloc (.cells #[.int .i64 k, .int .i64 t, .int .i64 r, .slice (some ⟨b, off, none⟩) n cap] 178) = W at *
  clear hW H1
  rintro e w1 ⟨rfl, b1⟩
  have f2 := (b1.cell (p := ⟨w.heap.size, 2, none⟩) hs).trans e2
  have f3 := (b1.cell (p := ⟨w.heap.size, 3, none⟩) hs).trans e3
  have s1 := h1.below b1 hb'
  have H : Hid (SetsAt w1 b off xs ∧ xs.length = n) := ⟨s1, hx⟩
  clear s1 h1 hx e2 e3
  cases g6 : riseB xs with
  | false =>
    go_wp2
    go_ret
    exact ⟨by simp [g6], bW.trans (b1.mono bW.size)⟩
  | true =>
    go_wp2_with fail
    obtain ⟨s1, hx⟩ := H.out
    refine (containsFunc_some _ w.heap.size r b off cap n xs hx hn s1 (Nat.lt_of_lt_of_le hb' b1.size) f2 (Nat.lt_of_lt_of_le hs b1.size)).mono ?_
    clear s1 hx
    rintro e w2 ⟨rfl, b2⟩
    go_wp2
    go_ret
    exact ⟨ret_bool (by simp [g6]), bW.trans ((b1.trans (b2.mono b1.size)).mono bW.size)⟩
theorem implRecordOk_any (w : World) (k t r : Int) (a : Option Addr) (n cap : Nat) (xs : List S5) (hn : n ≤ maxLen) (hs : Sl w w.heap.size a n xs) :
    Calls Tryz.prog 287 #[.agg #[.int .i64 k, .int .i64 t, .int .i64 r, .slice a n cap]] w fun e w' => e = .returned (.bool (recB k t r xs)) ∧ Below w.heap.size w w' := by
  obtain ⟨h1, h2⟩ := hs
  by_cases hlow : inB 1 1000000 t = false ∨ inB 0 5 r = false ∨ ¬ (1 ≤ k ∧ k ≤ 3)
  · exact implRecordOk_low w k t r a n cap xs hlow
  · simp only [not_or, Bool.not_eq_false, Decidable.not_not] at hlow
    obtain ⟨g2, g3, k1, k2⟩ := hlow
    by_cases hl : n < 1 ∨ 12 < n
    · exact implRecordOk_len w k t r a n cap xs h1 g2 g3 k1 k2 hl
    · rcases h2 with rfl | ⟨b, off, rfl, hb, hx⟩
      · exact absurd (.inl (by omega)) hl
      · exact implRecordOk_rest w k t r b off cap n xs h1 hn hx hb g2 g3 k1 k2 (by omega) (by omega)
end Go.Proofs.YtnhjgomfkfehgaaGreatDoor