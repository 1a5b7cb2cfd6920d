/- OwnC; OwnR: joined. -/
import Derived.Test.YtooalbdlknheeaaGreatRows
import Derived.Test.YtooalbdlknheeaaGreatJ9LawMachines
import Derived.Test.YtooalbdlknheeaaGreatIdxRJ
import Derived.WalkKit
import Derived.WalkSpells
import Derived.WalkLawsBesides
import Derived.Below
/- Rows that append copies whole into memory of a call's own: the program's ownCells and ownRecord, the specification's l3Copy and l6Record. -/
namespace Go.Proofs.YtooalbdlknheeaaGreat
open Go.RowKit
/-- append of elements onto none. -/
theorem appendX {α : Type} {cells : α → List Value} {T ST : TypeId} {sz by_ : Nat} (hl : ∀ s, (cells s).length = sz) (h1 : ∀ s, ∀ u ∈ cells s, u.oneCell' = true) (hsz : 0 < sz) {P : Program} {i0 : TypeInfo} {z : Value} (ht : P.underlying ST = some (.slice T)) (hi : P.info? T = some i0) (hz : i0.zero = some z) (hs : i0.size = sz) (hby : i0.bytes = by_) (hzs : z.cells.size = sz) (hbb : by_ ≤ 1000)
    {W : World} {base : Nat} {v : Value} (h : W.ownsRow base T sz v 0 []) (xs : List α) (hx : 0 < xs.length) (hm : xs.length ≤ 1048576) (ty : TypeId) (b off k : Nat) (src : ∀ i s, xs[i]? = some s → ∀ t u, (cells s)[t]? = some u → W.cell? ⟨b, off + i * sz + t, none⟩ = some u) (hbase : base ≤ W.heap.size) :
    ∃ q cap W', (Builtin.append_ #[ST, ST] ty #[v, .slice (some ⟨b, off, none⟩) xs.length k]).run P W = .ok (.slice (some ⟨q, 0, none⟩) xs.length cap) W' ∧ base ≤ q ∧ q < W'.heap.size ∧ xs.length ≤ cap ∧ (∀ i s, xs[i]? = some s → ∀ t u, (cells s)[t]? = some u → W'.cell? ⟨q, i * sz + t, none⟩ = some u) ∧ Room W' q (xs.length * sz) ∧ W.grownBy W' v.ownBlock ∧ (v.ownBlock = some q ∨ q = W.heap.size) ∧ W'.ownsRow base T sz (.slice (some ⟨q, 0, none⟩) xs.length cap) xs.length (xs.flatMap cells) := by
  have hadd : ∀ (b o j : Nat), (⟨b, o, none⟩ : Addr).add j = ⟨b, o + j, none⟩ := fun b o j => by unfold Addr.add; split <;> simp_all
  have hfl : ∀ l : List α, (l.flatMap cells).length = l.length * sz := fun l => by
    induction l with
    | nil => simp
    | cons y l ih => rw [List.flatMap_cons, List.length_append, ih, hl, List.length_cons, Nat.add_mul]; omega
  obtain ⟨v', W', hrun, hown, hg, hnil, hlies⟩ := run_append_own_at (P := P) W base ST ty T i0 z sz by_ ht hi hz hs hby hzs hsz
    v 0 [] h ⟨b, off, none⟩ xs.length k (xs.flatMap cells) (hfl xs) (fun j u hu => by
      have hj : j < xs.length * sz := by rw [← hfl]; exact (List.getElem?_eq_some_iff.1 hu).1
      have hi : j / sz < xs.length := Nat.div_lt_of_lt_mul (by rw [Nat.mul_comm]; exact hj)
      have hxs := List.getElem?_eq_getElem hi
      have hjt : j / sz * sz + j % sz = j := Nat.div_add_mod' j sz
      have := flat_at (f := cells) (l := xs) (fun x _ => hl x) hxs (Nat.mod_lt j hsz)
      rw [hjt] at this
      rw [hadd, ← hjt, ← Nat.add_assoc]
      exact src _ _ hxs _ u (by rw [← this]; exact hu))
    (fun u hu => by obtain ⟨s, _, hs⟩ := List.mem_flatMap.1 hu; exact h1 s u hs) (by unfold maxLen; omega) (by
      have : (0 + xs.length) * by_ ≤ 1048576 * 1000 := Nat.mul_le_mul (by omega) hbb
      omega) hbase
  rw [Nat.zero_add, List.nil_append] at hown
  have hcap : ∃ q cap, v' = .slice (some ⟨q, 0, none⟩) xs.length cap ∧ xs.length ≤ cap := by
    rcases hown.2 with ⟨_, h0⟩ | ⟨q, cap, cur, rfl, _, _, hl, _⟩
    · omega
    · exact ⟨q, cap, rfl, hl⟩
  obtain ⟨q, cap, rfl, hc⟩ := hcap
  have hb := World.ownsRow.lt hown q rfl
  refine ⟨q, cap, W', hrun, hb.1, hb.2, hc, fun i s e t u hu => ?_, fun j hj => ?_, hg, ?_, hown⟩
  · have hi := (List.getElem?_eq_some_iff.1 e).1
    have ht := (List.getElem?_eq_some_iff.1 hu).1
    rw [hl] at ht
    have : (i + 1) * sz ≤ xs.length * sz := Nat.mul_le_mul_right sz hi
    rw [Nat.add_mul] at this
    rw [World.ownsRow.cellAt hown _ (by omega), flat_at (fun x _ => hl x) e ht]; exact hu
  · exact ⟨_, by rw [World.ownsRow.cellAt hown j hj]; exact List.getElem?_eq_getElem (by rw [hfl]; exact hj), World.ownsRow.frozenAt hown j⟩
  · rcases hlies with e | e
    · exact .inl e.symm
    · exact .inr (Option.some.inj e)
theorem infoSet : (Tryz.prog.info? 139).map (fun i => (i.zero, i.size, i.bytes)) = some (some (.agg #[.int .i64 0, .int .i64 0, .int .i64 0, .bool false, .int .i64 0]), 5, 40) := by kernel_rfl
theorem infoI64 : (Tryz.prog.info? 2).map (fun i => (i.zero, i.size, i.bytes)) = some (some (.int .i64 0), 1, 8) := by kernel_rfl
theorem partsOf {P : Program} {t : TypeId} {z : Value} {s b : Nat} (h : (P.info? t).map (fun i => (i.zero, i.size, i.bytes)) = some (some z, s, b)) : ∃ i, P.info? t = some i ∧ i.zero = some z ∧ i.size = s ∧ i.bytes = b := by
  obtain ⟨i, hi, hzz⟩ := Option.map_eq_some_iff.1 h
  simp only [Prod.mk.injEq] at hzz
  exact ⟨i, hi, hzz.1, hzz.2.1, hzz.2.2⟩
theorem appendC (W : World) (base : Nat) (v : Value) (h : W.ownsRow base 101 2 v 0 []) (xs : List C2) (hx : 0 < xs.length) (hm : xs.length ≤ 1048576) (ty : TypeId) (b off k : Nat) (src : CellsAt W b off xs) (hbase : base ≤ W.heap.size) :
    ∃ q cap W', (Builtin.append_ #[29, 29] ty #[v, .slice (some ⟨b, off, none⟩) xs.length k]).run Tryz.prog W = .ok (.slice (some ⟨q, 0, none⟩) xs.length cap) W' ∧ base ≤ q ∧ q < W'.heap.size ∧ xs.length ≤ cap ∧ CellsAt W' q 0 xs ∧ Room W' q (xs.length * 2) ∧ W.grownBy W' v.ownBlock ∧ (v.ownBlock = some q ∨ q = W.heap.size) := by
  obtain ⟨i0, hi0, hz0, hz1, hz2⟩ := partsOf info_cell
  obtain ⟨q, cap, W', h1, h2, h3, h4, h5, h6, h7, h8, _⟩ := appendX (cells := C2.cells) (fun _ => rfl) (fun s u hu => by
    simp only [C2.cells, List.mem_cons, List.not_mem_nil, or_false] at hu
    rcases hu with rfl | rfl <;> rfl) (by omega) Tryz.underlying29 hi0 hz0 hz1 hz2 rfl (by omega) h xs hx hm ty b off k (fun i s e t u hu => by
      obtain ⟨c0, c1⟩ := src i s e
      rcases t with _ | _ | t
      · simp [C2.cells] at hu; subst hu; exact c0
      · simp [C2.cells] at hu; subst hu; exact c1
      · simp [C2.cells] at hu) hbase
  refine ⟨q, cap, W', h1, h2, h3, h4, fun i s e => ⟨?_, ?_⟩, h6, h7, h8⟩
  · rw [Nat.zero_add]; exact h5 i s e 0 _ rfl
  · rw [Nat.zero_add]; exact h5 i s e 1 _ rfl
def S5.cellsL (s : S5) : List Value := [.int .i64 s.region, .int .i64 s.slot, .int .i64 s.value, .bool s.used, .int .i64 s.version]
theorem appendS (W : World) (base : Nat) (v : Value) (h : W.ownsRow base 139 5 v 0 []) (xs : List S5) (hx : 0 < xs.length) (hm : xs.length ≤ 1048576) (ty : TypeId) (b off k : Nat) (src : SetsAt W b off xs) (hbase : base ≤ W.heap.size) :
    ∃ q cap W', (Builtin.append_ #[39, 39] ty #[v, .slice (some ⟨b, off, none⟩) xs.length k]).run Tryz.prog W = .ok (.slice (some ⟨q, 0, none⟩) xs.length cap) W' ∧ base ≤ q ∧ q < W'.heap.size ∧ xs.length ≤ cap ∧ SetsAt W' q 0 xs ∧ Room W' q (xs.length * 5) ∧ W.grownBy W' v.ownBlock ∧ (v.ownBlock = some q ∨ q = W.heap.size) := by
  obtain ⟨i0, hi0, hz0, hz1, hz2⟩ := partsOf infoSet
  obtain ⟨q, cap, W', h1, h2, h3, h4, h5, h6, h7, h8, _⟩ := appendX (cells := S5.cellsL) (fun _ => rfl) (fun s u hu => by
    simp only [S5.cellsL, List.mem_cons, List.not_mem_nil, or_false] at hu
    rcases hu with rfl | rfl | rfl | rfl | rfl <;> rfl) (by omega) Tryz.underlying39 hi0 hz0 hz1 hz2 rfl (by omega) h xs hx hm ty b off k (fun i s e t u hu => by
      obtain ⟨c0, c1, c2, c3, c4⟩ := src i s e
      rcases t with _ | _ | _ | _ | _ | t
      · simp [S5.cellsL] at hu; subst hu; exact c0
      · simp [S5.cellsL] at hu; subst hu; exact c1
      · simp [S5.cellsL] at hu; subst hu; exact c2
      · simp [S5.cellsL] at hu; subst hu; exact c3
      · simp [S5.cellsL] at hu; subst hu; exact c4
      · simp [S5.cellsL] at hu) hbase
  refine ⟨q, cap, W', h1, h2, h3, h4, fun i s e => ⟨?_, ?_, ?_, ?_, ?_⟩, h6, h7, h8⟩
  · rw [Nat.zero_add]; exact h5 i s e 0 _ rfl
  · rw [Nat.zero_add]; exact h5 i s e 1 _ rfl
  · rw [Nat.zero_add]; exact h5 i s e 2 _ rfl
  · rw [Nat.zero_add]; exact h5 i s e 3 _ rfl
  · rw [Nat.zero_add]; exact h5 i s e 4 _ rfl
theorem owns_nil (W : World) (base : Nat) (T : TypeId) (sz : Nat) : W.ownsRow base T sz (.slice none 0 0) 0 [] := ⟨by simp, .inl ⟨rfl, rfl⟩⟩
set_option maxHeartbeats 1000000 in
theorem ownCells_any (w : World) (a : Option Addr) (cap : Nat) (xs : List C2) (hx : 0 < xs.length) (hm : xs.length ≤ 1048576) (hs : SlC w w.heap.size a xs.length xs) :
    Calls Tryz.prog 114 #[.slice a xs.length cap] w fun e w' => ∃ q cp, e = .returned (.slice (some ⟨q, 0, none⟩) xs.length cp) ∧ w.heap.size ≤ q ∧ q < w'.heap.size ∧ xs.length ≤ cp ∧ CellsAt w' q 0 xs ∧ Room w' q (xs.length * 2) ∧ Below w.heap.size w w' := by
  obtain ⟨_, hs⟩ := hs
  rcases hs with hs | ⟨b, off, rfl, hb, h1⟩
  · omega
  obtain ⟨q, cp, W', hr, h2, h3, h4, h5, h6, h7, h8⟩ := appendC w w.heap.size (.slice none 0 0) (owns_nil _ _ _ _) xs hx hm 29 b off cap h1 (Nat.le_refl _)
  have K : Hid (w.heap.size ≤ q ∧ q < W'.heap.size ∧ xs.length ≤ cp ∧ CellsAt W' q 0 xs ∧ Room W' q (xs.length * 2) ∧ Below w.heap.size w W') := ⟨h2, h3, h4, h5, h6, (Below.refl _ _).grown h7 (Nat.le_refl _) (fun k h => by cases h)⟩
  clear h1 h2 h3 h4 h5 h6 h7 h8 hx hm
  generalize xs.length = n at *
  go_enter Tryz.func114, Tryz.ntmps114
  go_wp2_with (at_builtin; refine append_known _ rfl (.const (.slice none 0 0)) (.tmp 3) 29 rfl _ _ _ _ rfl rfl hr ?_)
  go_ret
  exact ⟨q, cp, rfl, K.out.1, K.out.2.1, K.out.2.2.1, K.out.2.2.2.1, K.out.2.2.2.2.1, K.out.2.2.2.2.2⟩
set_option maxHeartbeats 1000000 in
theorem l3Copy_any (w : World) (a : Option Addr) (cap : Nat) (xs : List C2) (hx : 0 < xs.length) (hm : xs.length ≤ 1048576) (hs : SlC w w.heap.size a xs.length xs) :
    Calls Tryz.prog 60 #[.slice a xs.length cap] w fun e w' => ∃ q cp, e = .returned (.slice (some ⟨q, 0, none⟩) xs.length cp) ∧ w.heap.size ≤ q ∧ q < w'.heap.size ∧ xs.length ≤ cp ∧ CellsAt w' q 0 xs ∧ Room w' q (xs.length * 2) ∧ Below w.heap.size w w' := by
  obtain ⟨_, hs⟩ := hs
  rcases hs with hs | ⟨b, off, rfl, hb, h1⟩
  · omega
  have b0 : Below w.heap.size w (w.alloc (.cells #[] 101)) := (Below.refl _ _).alloc (Nat.le_refl _) _
  obtain ⟨q, cp, W', hr, h2, h3, h4, h5, h6, h7, h8⟩ := appendC (w.alloc (.cells #[] 101)) w.heap.size (.slice (some ⟨w.heap.size, 0, none⟩) 0 0) (World.ownsRow_made w #[] 0 (Nat.le_refl _) (Nat.zero_le _) rfl) xs hx hm 29 b off cap (h1.below b0 hb) b0.size
  have K : Hid (w.heap.size ≤ q ∧ q < W'.heap.size ∧ xs.length ≤ cp ∧ CellsAt W' q 0 xs ∧ Room W' q (xs.length * 2) ∧ Below w.heap.size w W') := ⟨h2, h3, h4, h5, h6, b0.grown h7 b0.size (fun k h => by cases h; exact Nat.le_refl _)⟩
  clear h1 h2 h3 h4 h5 h6 h7 h8 hx hm b0
  generalize xs.length = n at *
  go_enter Tryz.func60, Tryz.ntmps60
  go_wp2_with (at_builtin; refine append_known _ rfl (.tmp 3) (.tmp 4) 29 rfl _ _ _ _ rfl rfl hr ?_)
  go_ret
  exact ⟨q, cp, rfl, K.out.1, K.out.2.1, K.out.2.2.1, K.out.2.2.2.1, K.out.2.2.2.2.1, K.out.2.2.2.2.2⟩
end Go.Proofs.YtooalbdlknheeaaGreat
/- A record copied whole into memory of a call's own: the program's ownRecord, the specification's l6Record. -/
namespace Go.Proofs.YtooalbdlknheeaaGreat
open Go.RowKit
/-- Two boxes of a record: the argument's at s, the answer's at s + 1. -/
structure TR (s : Nat) (k t r : Int) (u : Value) (X : World) : Prop where
  d0 : X.cell? ⟨s, 0, none⟩ = some (.int .i64 k)
  d1 : X.cell? ⟨s, 1, none⟩ = some (.int .i64 t)
  d2 : X.cell? ⟨s, 2, none⟩ = some (.int .i64 r)
  d3 : X.cell? ⟨s, 3, none⟩ = some u
  fd : ∀ j, X.frozen? ⟨s, j, none⟩ = false
  e0 : X.cell? ⟨s + 1, 0, none⟩ = some (.int .i64 0)
  e1 : X.cell? ⟨s + 1, 1, none⟩ = some (.int .i64 0)
  e2 : X.cell? ⟨s + 1, 2, none⟩ = some (.int .i64 0)
  e3 : X.cell? ⟨s + 1, 3, none⟩ = some (.slice none 0 0)
  fe : ∀ j, X.frozen? ⟨s + 1, j, none⟩ = false
theorem TR.keep {s : Nat} {k t r : Int} {u : Value} {X Y : World} (h : TR s k t r u X) (ea : Y.heap[s]? = X.heap[s]?) (eb : Y.heap[s + 1]? = X.heap[s + 1]?) : TR s k t r u Y := by
  have c : ∀ {b j : Nat} {u : Value}, Y.heap[b]? = X.heap[b]? → X.cell? ⟨b, j, none⟩ = some u → Y.cell? ⟨b, j, none⟩ = some u := fun {b j u} e h => (World.cell?_of_block (a := ⟨b, j, none⟩) e).trans h
  exact ⟨c ea h.d0, c ea h.d1, c ea h.d2, c ea h.d3, fun j => (World.frozen?_of_block (a := ⟨s, j, none⟩) ea).trans (h.fd j), c eb h.e0, c eb h.e1, c eb h.e2, c eb h.e3, fun j => (World.frozen?_of_block (a := ⟨s + 1, j, none⟩) eb).trans (h.fe j)⟩
theorem AtR.far {w : World} {q : Nat} {r : R4} (h : AtR w q r) {p : Addr} (hp : p.block ≠ q) (v : Value) : AtR (w.setCell p v) q r := AtR.of_block _ _ _ _ (Below.heap_setCell _ _ _ _ (fun e => hp e.symm)) h
set_option maxHeartbeats 2000000 in
theorem ownRecord_any (w : World) (r : R4) (a : Option Addr) (cap : Nat) (hx : 0 < r.sets.length) (hm : r.sets.length ≤ 1048576) (hs : Sl w w.heap.size a r.sets.length r.sets) :
    Calls Tryz.prog 138 #[r.val a cap] w fun e w' => ∃ q cp, e = .returned (r.val (some ⟨q, 0, none⟩) cp) ∧ w.heap.size ≤ q ∧ q < w'.heap.size ∧ r.sets.length ≤ cp ∧ AtR w' q r ∧ Below w.heap.size w w' := by
  simp only [R4.val]
  obtain ⟨_, hs⟩ := hs
  rcases hs with hs | ⟨b, off, rfl, hb, h1⟩
  · omega
  obtain ⟨W, hW⟩ : ∃ W, W = (w.alloc (.cells #[.int .i64 r.kind, .int .i64 r.tx, .int .i64 r.region, .slice (some ⟨b, off, none⟩) r.sets.length cap] 41)).alloc (.cells #[.int .i64 0, .int .i64 0, .int .i64 0, .slice none 0 0] 41) := ⟨_, rfl⟩
  have hsz : W.heap.size = w.heap.size + 2 := by subst hW; simp
  have bW : Below w.heap.size w W := by subst hW; exact ((Below.refl _ _).alloc (Nat.le_refl _) _).alloc (by simp) _
  have tW : TR w.heap.size r.kind r.tx r.region (.slice (some ⟨b, off, none⟩) r.sets.length cap) W := by
    subst hW
    refine ⟨?_, ?_, ?_, ?_, ?_, ?_, ?_, ?_, ?_, ?_⟩
    all_goals first | (intro j; go_simp; done) | (go_simp; done)
  obtain ⟨q, cp, W', hr, h2, h3, h4, h5, h6, h7, h8⟩ := appendS W W.heap.size (.slice none 0 0) (owns_nil _ _ _ _) r.sets hx hm 39 b off cap (h1.below bW hb) (Nat.le_refl _)
  have b7 : Below W.heap.size W W' := (Below.refl _ _).grown h7 (Nat.le_refl _) (fun k h => by cases h)
  have tW' := tW.keep (Y := W') (b7.block _ (by omega)) (b7.block _ (by omega))
  have K : Hid (w.heap.size + 2 ≤ q ∧ q < W'.heap.size ∧ r.sets.length ≤ cp ∧ AtR W' q r ∧ Below w.heap.size w W') := ⟨by omega, h3, h4, ⟨h5, h6⟩, bW.trans (b7.mono bW.size)⟩
  obtain ⟨d0, d1, d2, d3, fd, e0, e1, e2, e3, fe⟩ := tW'
  have z3 := tW.d3
  have f3 := fd 3
  have g0 := fe 0
  have g1 := fe 1
  have g2 := fe 2
  have g3 := fe 3
  clear h1 h2 h3 h4 h5 h6 h7 h8 hx hm bW tW b7 hsz fd fe
  generalize r.sets.length = n at *
  subst hW
  go_enter Tryz.func138, Tryz.ntmps138
  go_wp2_with (at_builtin; refine append_known _ rfl (.const (.slice none 0 0)) (.tmp 4) 39 rfl _ _ _ _ rfl rfl hr ?_)
  obtain ⟨k1, k2, k3, k4, k5⟩ := K.out
  refine bodyPost_ret (v := .agg #[.int .i64 r.kind, .int .i64 r.tx, .int .i64 r.region, .slice (some ⟨q, 0, none⟩) n cp]) (by simp [results, Tryz.results138, go_sem, e0, e1, e2, e3]) rfl ⟨q, cp, rfl, by omega, ?_, k3, ?_, ?_⟩
  · simpa [World.setCell] using k2
  · exact ((((k4.far (by simp; omega) _).far (by simp; omega) _).far (by simp; omega) _).far (by simp; omega) _).far (by simp; omega) _
  · exact ((((k5.setCell (p := ⟨_, _, none⟩) (by simp) _).setCell (p := ⟨_, _, none⟩) (by simp) _).setCell (p := ⟨_, _, none⟩) (by simp) _).setCell (p := ⟨_, _, none⟩) (by simp) _).setCell (p := ⟨_, _, none⟩) (by simp) _
set_option maxHeartbeats 2000000 in
theorem l6Record_any (w : World) (r : R4) (a : Option Addr) (cap : Nat) (hx : 0 < r.sets.length) (hm : r.sets.length ≤ 1048576) (hs : Sl w w.heap.size a r.sets.length r.sets) :
    Calls Tryz.prog 70 #[r.val a cap] w fun e w' => ∃ q cp, e = .returned (r.val (some ⟨q, 0, none⟩) cp) ∧ w.heap.size ≤ q ∧ q < w'.heap.size ∧ r.sets.length ≤ cp ∧ AtR w' q r ∧ Below w.heap.size w w' := by
  simp only [R4.val]
  obtain ⟨_, hs⟩ := hs
  rcases hs with hs | ⟨b, off, rfl, hb, h1⟩
  · omega
  obtain ⟨W0, hW0⟩ : ∃ W0, W0 = (w.alloc (.cells #[.int .i64 r.kind, .int .i64 r.tx, .int .i64 r.region, .slice (some ⟨b, off, none⟩) r.sets.length cap] 41)).alloc (.cells #[.int .i64 0, .int .i64 0, .int .i64 0, .slice none 0 0] 41) := ⟨_, rfl⟩
  have hsz : W0.heap.size = w.heap.size + 2 := by subst hW0; simp
  have bW : Below w.heap.size w W0 := by subst hW0; exact ((Below.refl _ _).alloc (Nat.le_refl _) _).alloc (by simp) _
  have tW : TR w.heap.size r.kind r.tx r.region (.slice (some ⟨b, off, none⟩) r.sets.length cap) W0 := by
    subst hW0
    refine ⟨?_, ?_, ?_, ?_, ?_, ?_, ?_, ?_, ?_, ?_⟩
    all_goals first | (intro j; go_simp; done) | (go_simp; done)
  have b0 : Below W0.heap.size W0 (W0.alloc (.cells #[] 139)) := (Below.refl _ _).alloc (Nat.le_refl _) _
  have hrow : (W0.alloc (.cells #[] 139)).ownsRow W0.heap.size 139 5 (.slice (some ⟨W0.heap.size, 0, none⟩) 0 0) 0 [] := World.ownsRow_made W0 #[] 0 (Nat.le_refl _) (Nat.zero_le _) rfl
  obtain ⟨q, cp, W', hr, h2, h3, h4, h5, h6, h7, h8⟩ := appendS (W0.alloc (.cells #[] 139)) W0.heap.size _ hrow r.sets hx hm 39 b off cap ((h1.below bW hb).below b0 (Nat.lt_of_lt_of_le hb bW.size)) b0.size
  have b7 : Below W0.heap.size W0 W' := b0.grown h7 b0.size (fun k h => by cases h; exact Nat.le_refl _)
  have tA := tW.keep (Y := W0.alloc (.cells #[] 139)) (b0.block _ (by omega)) (b0.block _ (by omega))
  have tW' := tW.keep (Y := W') (b7.block _ (by omega)) (b7.block _ (by omega))
  have K : Hid (w.heap.size + 2 ≤ q ∧ q < W'.heap.size ∧ r.sets.length ≤ cp ∧ AtR W' q r ∧ Below w.heap.size w W') := ⟨by omega, h3, h4, ⟨h5, h6⟩, bW.trans (b7.mono bW.size)⟩
  obtain ⟨d0, d1, d2, d3, fd, e0, e1, e2, e3, fe⟩ := tW'
  have z3 := tA.d3
  have f3 := fd 3
  have g0 := fe 0
  have g1 := fe 1
  have g2 := fe 2
  have g3 := fe 3
  rw [hsz] at hr
  clear h1 h2 h3 h4 h5 h6 h7 h8 hx hm bW tW tA b7 b0 hrow hsz fd fe
  generalize r.sets.length = n at *
  subst hW0
  go_enter Tryz.func70, Tryz.ntmps70
  go_wp2_with (at_builtin; refine append_known _ rfl (.tmp 3) (.tmp 5) 39 rfl _ _ _ _ rfl rfl hr ?_)
  obtain ⟨k1, k2, k3, k4, k5⟩ := K.out
  refine bodyPost_ret (v := .agg #[.int .i64 r.kind, .int .i64 r.tx, .int .i64 r.region, .slice (some ⟨q, 0, none⟩) n cp]) (by simp [results, Tryz.results70, go_sem, e0, e1, e2, e3]) rfl ⟨q, cp, rfl, by omega, ?_, k3, ?_, ?_⟩
  · simpa [World.setCell] using k2
  · exact ((((k4.far (by simp; omega) _).far (by simp; omega) _).far (by simp; omega) _).far (by simp; omega) _).far (by simp; omega) _
  · exact ((((k5.setCell (p := ⟨_, _, none⟩) (by simp) _).setCell (p := ⟨_, _, none⟩) (by simp) _).setCell (p := ⟨_, _, none⟩) (by simp) _).setCell (p := ⟨_, _, none⟩) (by simp) _).setCell (p := ⟨_, _, none⟩) (by simp) _
end Go.Proofs.YtooalbdlknheeaaGreat
