/- YNuD; YWanC; YWanA; OrO; OrL; Cmp; UntZ; OrM: joined. -/
import Derived.Test.YtdmpobegobfpjaaGreatRows
import Derived.Test.YtdmpobegobfpjaaGreatJ7ExactOrder
import Derived.WalkKit
import Derived.WalkSpells
import Derived.WalkLawsBesides
import Derived.Below
import Derived.Lib.QuietBelow
import Derived.BigQuiet
import Derived.Deep.QuietTactic
import Derived.Lib.SliceRun
import Derived.Test.YtdmpobegobfpjaaGreatJ2ExactOrder
import Derived.Test.YtdmpobegobfpjaaGreatJ8ExactOrder
import Derived.Deep.CutRange
import Derived.LaidEql
import Derived.RowKitTokens
import Derived.OrdersHeld
import Derived.Deep.RegionHeld
namespace Go.Proofs.YtdmpobegobfpjaaGreat.tx
open Go.RowKit
theorem below_dn {B : Nat} {a w : World} (h : Below B a w) (n : Nat) : Below B a (w.drewN n) := ⟨h.os, h.tape, h.output, h.size, h.block⟩
def NumsAt (w : World) (b off : Nat) (zs : List Int) : Prop := ∀ i z, zs[i]? = some z → w.cell? ⟨b, off + i, none⟩ = some (.int .i64 z)
theorem NumsAt.below {w w' : World} {B b off : Nat} {zs : List Int} (h : NumsAt w b off zs) (hb : Below B w w') (hB : b < B) : NumsAt w' b off zs := fun i z e => by rw [hb.cell (p := ⟨b, off + i, none⟩) hB]; exact h i z e
def SlN (w : World) (B : Nat) (a : Option Addr) (n : Nat) (zs : List Int) : Prop := zs.length = n ∧ (n = 0 ∨ ∃ b off, a = some ⟨b, off, none⟩ ∧ b < B ∧ NumsAt w b off zs)
theorem SlN.later {w w' : World} {a : Option Addr} {n : Nat} {zs : List Int} (h : SlN w w.heap.size a n zs) (hb : Below w.heap.size w w') : SlN w' w'.heap.size a n zs := by
  obtain ⟨h1, h2⟩ := h
  refine ⟨h1, ?_⟩
  rcases h2 with h2 | ⟨b, off, ha, hB, hx⟩
  · exact .inl h2
  · exact .inr ⟨b, off, ha, Nat.lt_of_lt_of_le hB hb.size, hx.below hb hB⟩
def atN (zs : List Int) (i : Nat) : Int := zs[i]?.getD 0
theorem atN_of {zs : List Int} {i : Nat} (h : i < zs.length) : zs[i]? = some (atN zs i) := by simp [atN, List.getElem?_eq_getElem h]
def hasB (zs : List Int) (z : Int) : Bool := zs.any (fun y => decide (y = z))
theorem has_yes {zs : List Int} {z : Int} {i : Nat} (hi : i < zs.length) (h : atN zs i = z) : hasB zs z = true := by
  rw [hasB, List.any_eq_true]
  exact ⟨atN zs i, List.mem_of_getElem? (atN_of hi), by simp [h]⟩
theorem has_no {zs : List Int} {z : Int} (h : ∀ i, i < zs.length → atN zs i ≠ z) : hasB zs z = false := by
  rw [hasB, List.any_eq_false]
  intro y hy
  obtain ⟨i, hi, rfl⟩ := List.getElem_of_mem hy
  have := h i hi
  rw [atN, List.getElem?_eq_getElem hi] at this
  simpa using this
set_option maxHeartbeats 1000000 in
theorem make_nums (n : Nat) (hn : n ≤ 1048576) (w : World) : (Instr.makeSlice 28 (.int .i64 (n : Int)) (.int .i64 (n : Int))).run Tryz.prog w = .ok (.slice (some ⟨w.heap.size, 0, none⟩) n n) (w.alloc (.cells (madeCells #[.int .i64 0] n) 2)) := by
  have info : (Tryz.prog.info? 2).map (fun i => (i.zero, i.size, i.bytes)) = some (some (.int .i64 0), 1, 8) := by kernel_rfl
  obtain ⟨i, hi, hzz⟩ := Option.map_eq_some_iff.1 info
  simp only [Prod.mk.injEq] at hzz
  obtain ⟨hz, hs, hb⟩ := hzz
  have := run_make (P := Tryz.prog) w 28 2 i _ Tryz.underlying28 hi hz .i64 .i64 (n : Int) (n : Int) (by omega) (by omega) (by rw [hb]; omega) (by omega)
  rw [hs] at this
  simpa [Value.cells] using this
theorem NumsAt.put {w : World} {b k : Nat} {zs : List Int} {z : Int} (h : NumsAt w b 0 (zs.take k)) (hz : zs[k]? = some z) {v : Value} (hv : w.cell? ⟨b, k, none⟩ = some v) : NumsAt (w.setCell ⟨b, k, none⟩ (.int .i64 z)) b 0 (zs.take (k + 1)) := by
  intro i t e
  rw [List.getElem?_take] at e
  split at e
  · rename_i hi
    by_cases hik : i = k
    · subst hik
      rw [hz] at e
      obtain rfl := Option.some.inj e
      simpa using cell_set_same hv
    · have := h i t (by rw [List.getElem?_take, if_pos (by omega)]; exact e)
      rw [cell_set_other (by omega)]; exact this
  · cases e
set_option maxHeartbeats 1000000 in
theorem eqInt64S_any (w : World) (a a' : Option Addr) (n cap cap' : Nat) (zs : List Int) (hn : n ≤ maxLen) (h1 : SlN w w.heap.size a n zs) (h2 : SlN w w.heap.size a' n zs) :
    Calls Tryz.prog 11 #[.slice a n cap, .slice a' n cap'] w fun e w' => e = .returned (.bool true) ∧ Below w.heap.size w w' := by
  unfold maxLen at hn
  obtain ⟨hx, h1⟩ := h1
  obtain ⟨_, h2⟩ := h2
  go_enter Tryz.func11, Tryz.ntmps11
  go_wp2
  go_loopw [5] (fun i wr => ∃ k : Nat, k ≤ n ∧ i = .int .i64 k ∧ Below w.heap.size w wr) (fun i _ => n - (intOf i).toNat)
  case atStart => exact ⟨0, Nat.zero_le _, rfl, Below.refl _ _⟩
  case round =>
    obtain ⟨k, hk, rfl, hbl⟩ := hrel
    by_cases hlt : k < n
    · rcases h1 with h1 | ⟨b, off, rfl, hb, h1⟩
      · omega
      · rcases h2 with h2 | ⟨b', off', rfl, hb', h2⟩
        · omega
        · have c1 := (hbl.cell (p := ⟨b, off + k, none⟩) hb).trans (h1 k _ (atN_of (by omega)))
          have c2 := (hbl.cell (p := ⟨b', off' + k, none⟩) hb').trans (h2 k _ (atN_of (by omega)))
          have hlt' : (k : Int) < (n : Int) := by omega
          have K : Hid (Below w.heap.size w wr) := hbl
          clear h1 h2 hbl hx
          go_wp2_with fail
          go_quiet (fail)
          go_wp2
          exact ⟨⟨k + 1, by omega, by simp, below_dn K.out _⟩, by simp [intOf]; omega⟩
    · have : k = n := by omega
      subst this
      have hd : decide (k < k) = false := by simp
      clear h1 h2
      go_wp2
      go_ret
      exact ⟨rfl, hbl⟩
def marks : Nat → Int → List Int
  | 0, _ => []
  | n + 1, k => k :: marks n (k + 1)
theorem marks_len : ∀ (n : Nat) (k : Int), (marks n k).length = n
  | 0, _ => rfl
  | n + 1, k => by simp [marks, marks_len n]
theorem marks_at : ∀ (n : Nat) (k : Int) (i : Nat), i < n → (marks n k)[i]? = some (k + i)
  | 0, _, _, h => by omega
  | n + 1, k, 0, _ => by simp [marks]
  | n + 1, k, i + 1, h => by
    rw [marks, List.getElem?_cons_succ, marks_at n (k + 1) i (by omega)]
    congr 1; omega
set_option maxHeartbeats 1000000 in
theorem markInt64S_own (w : World) (g n cap : Nat) (k : Int) (hn : n ≤ 1048576) (hk : 0 ≤ k) (hk' : k ≤ 1000000000) (hr : Room w g n) :
    Calls Tryz.prog 14 #[.slice (some ⟨g, 0, none⟩) n cap, .int .i64 k] w fun e w' => e = .returned (.int .i64 (k + n)) ∧ OnlyBlock g w w' ∧ NumsAt w' g 0 (marks n k) ∧ Room w' g n := by
  go_enter Tryz.func14, Tryz.ntmps14
  go_wp2
  go_loopw [1, 5] (fun v1 v5 wr => ∃ j : Nat, j ≤ n ∧ v5 = .int .i64 j ∧ v1 = .int .i64 (k + j) ∧ OnlyBlock g w wr ∧ Room wr g n ∧ NumsAt wr g 0 ((marks n k).take j)) (fun _ v5 _ => n - (intOf v5).toNat)
  case atStart => exact ⟨0, Nat.zero_le _, rfl, by simp, OnlyBlock.refl _ _, hr, fun i s e => by simp at e⟩
  case round =>
    obtain ⟨j, hj, rfl, rfl, ho, hro, hdo⟩ := hrel
    by_cases hlt : j < n
    · obtain ⟨v, d, f⟩ := hro j hlt
      have K : Hid (OnlyBlock g w wr ∧ Room wr g n ∧ NumsAt wr g 0 ((marks n k).take j)) := ⟨ho, hro, hdo⟩
      clear ho hro hdo hr
      go_wp2
      obtain ⟨ho, hro, hdo⟩ := K.out
      exact ⟨⟨j + 1, by omega, by simp, by simp; omega, ho.setCell _ _, hro.set _, hdo.put (marks_at n k j hlt) d⟩, by simp [intOf]; omega⟩
    · have : j = n := by omega
      subst this
      have hd : decide ((j : Int) < (j : Int)) = false := by simp
      rw [show (marks j k).take j = marks j k from List.take_of_length_le (by rw [marks_len]; omega)] at hdo
      have K : Hid (OnlyBlock g w wr ∧ NumsAt wr g 0 (marks j k) ∧ Room wr g j) := ⟨ho, hdo, hro⟩
      clear ho hdo hro hr
      go_wp2
      go_ret
      exact ⟨by simp, K.out.1, K.out.2.1, K.out.2.2⟩
set_option maxHeartbeats 1000000 in
theorem markInt64S_none (w : World) (a : Option Addr) (cap : Nat) (k : Int) : Calls Tryz.prog 14 #[.slice a 0 cap, .int .i64 k] w fun e w' => e = .returned (.int .i64 k) ∧ w' = w := by
  go_enter Tryz.func14, Tryz.ntmps14
  go_wp2
  go_loop [1, 5] (fun v1 v5 => v5 = .int .i64 0 ∧ v1 = .int .i64 k) (fun _ _ => 0)
  case atStart => exact ⟨rfl, rfl⟩
  case round =>
    obtain ⟨rfl, rfl⟩ := hrel
    go_wp2
    go_ret
    exact ⟨rfl, rfl⟩
set_option maxHeartbeats 1000000 in
theorem heldInt64S_any (w : World) (a : Option Addr) (n cap : Nat) (k : Int) (hn : n ≤ 1048576) (hk : 0 ≤ k) (hk' : k ≤ 1000000000) (hs : SlN w w.heap.size a n (marks n k)) :
    Calls Tryz.prog 15 #[.slice a n cap, .int .i64 k] w fun e w' => e = .returned (.int .i64 (k + n)) ∧ w' = w := by
  obtain ⟨_, hs⟩ := hs
  go_enter Tryz.func15, Tryz.ntmps15
  go_wp2
  go_loop [1, 5] (fun v1 v5 => ∃ j : Nat, j ≤ n ∧ v5 = .int .i64 j ∧ v1 = .int .i64 (k + j)) (fun _ v5 => n - (intOf v5).toNat)
  case atStart => exact ⟨0, Nat.zero_le _, rfl, by simp⟩
  case round =>
    obtain ⟨j, hj, rfl, rfl⟩ := hrel
    by_cases hlt : j < n
    · rcases hs with hs | ⟨b, off, rfl, hb, h1⟩
      · omega
      · have c := h1 j _ (marks_at n k j hlt)
        have hq : (k + (j : Int) != k + (j : Int)) = false := by simp
        clear h1
        go_wp2
        exact ⟨⟨j + 1, by omega, by simp, by simp; omega⟩, by simp [intOf]; omega⟩
    · have : j = n := by omega
      subst this
      have hd : decide ((j : Int) < (j : Int)) = false := by simp
      clear hs
      go_wp2
      go_ret
      exact ⟨by simp, rfl⟩
set_option maxHeartbeats 1000000 in
theorem l3Has_any (w : World) (a : Option Addr) (n cap : Nat) (z : Int) (zs : List Int) (hn : n ≤ maxLen) (hs : SlN w w.heap.size a n zs) :
    Calls Tryz.prog 97 #[.slice a n cap, .int .i64 z] w fun e w' => e = .returned (.bool (hasB zs z)) ∧ w' = w := by
  unfold maxLen at hn
  obtain ⟨hx, hs⟩ := hs
  go_enter Tryz.func97, Tryz.ntmps97
  go_wp2
  go_loop [5] (fun v => ∃ k : Nat, k ≤ n ∧ v = .int .i64 k ∧ ∀ i, i < k → atN zs i ≠ z) (fun v => n - (intOf v).toNat)
  case atStart => exact ⟨0, Nat.zero_le _, rfl, fun i h => absurd h (by omega)⟩
  case round =>
    obtain ⟨k, hk, rfl, hall⟩ := hrel
    have K : Hid ((∀ i, i < k → atN zs i ≠ z) ∧ zs.length = n) := ⟨hall, hx⟩
    by_cases hlt : k < n
    · rcases hs with hs | ⟨b, off, rfl, hb, h1⟩
      · omega
      · have c := h1 k _ (atN_of (by omega))
        clear h1 hall hx
        by_cases he : atN zs k = z
        · have q : (atN zs k == z) = true := by simp [he]
          have HE : Hid (atN zs k = z) := he
          clear he
          go_wp2
          go_ret
          exact ⟨by rw [has_yes (by rw [K.out.2]; exact hlt) HE.out]; rfl, rfl⟩
        · have q : (atN zs k == z) = false := by simp [he]
          have HE : Hid (atN zs k ≠ z) := he
          clear he
          go_wp2
          refine ⟨⟨k + 1, by omega, by simp, fun i hi => ?_⟩, by simp [intOf]; omega⟩
          by_cases e : i = k
          · rw [e]; exact HE.out
          · exact K.out.1 i (by omega)
    · have : k = n := by omega
      subst this
      have hd : decide ((k : Int) < (k : Int)) = false := by simp
      clear hall hx hs
      go_wp2
      go_ret
      exact ⟨by rw [has_no (by rw [K.out.2]; exact K.out.1)]; rfl, rfl⟩
def cpn (zs : List Int) : Nat → List Int
  | 0 => []
  | j + 1 => if j ≠ 0 ∧ atN zs j = atN zs (j - 1) then cpn zs j else cpn zs j ++ [atN zs j]
theorem Room.setCells {b m : Nat} : ∀ (vs : List Value) (o : Nat) {w : World}, Room w b m → Room (w.setCells b o vs) b m
  | [], _, _, h => h
  | v :: r, o, _, h => Room.setCells r (o + 1) (h.set v)
def Shp (b : Nat) (w w' : World) : Prop := ∀ cur e fz, w.heap[b]? = some (.cells cur e fz) → ∃ cur', w'.heap[b]? = some (.cells cur' e fz) ∧ cur'.size = cur.size
theorem Shp.refl (b : Nat) (w : World) : Shp b w w := fun cur _ _ h => ⟨cur, h, rfl⟩
theorem Shp.trans {b : Nat} {u v w : World} (h : Shp b u v) (k : Shp b v w) : Shp b u w := fun cur e fz hc => by
  obtain ⟨c1, h1, s1⟩ := h cur e fz hc
  obtain ⟨c2, h2, s2⟩ := k c1 e fz h1
  exact ⟨c2, h2, s2.trans s1⟩
theorem Shp.set (b o : Nat) (w : World) (u : Value) : Shp b w (w.setCell ⟨b, o, none⟩ u) := fun cur e fz hc => by
  refine ⟨cur.setIfInBounds o u, ?_, by simp⟩
  show (w.heap.modify b _)[b]? = _
  rw [Array.getElem?_modify, if_pos rfl, hc]
  rfl
structure TurnS (c : Nat) (w w' : World) : Prop where
  t : Turned c w w'
  s : Shp c w w'
theorem TurnS.refl (c : Nat) (w : World) : TurnS c w w := ⟨Turned.refl _ _, Shp.refl _ _⟩
theorem TurnS.trans {c : Nat} {a b d : World} (h : TurnS c a b) (k : TurnS c b d) : TurnS c a d := ⟨h.t.trans k.t, h.s.trans k.s⟩
theorem TurnS.drewN {c : Nat} {a w : World} (h : TurnS c a w) (n : Nat) : TurnS c a (w.drewN n) := ⟨h.t.drewN n, h.s⟩
theorem TurnS.setCell {c : Nat} {a w : World} (h : TurnS c a w) (o : Nat) (u : Value) : TurnS c a (w.setCell ⟨c, o, none⟩ u) := ⟨h.t.setCell o u, h.s.trans (Shp.set c o w u)⟩
theorem TurnS.setCells {c : Nat} {a : World} : ∀ (vs : List Value) (o : Nat) {w : World}, TurnS c a w → TurnS c a (w.setCells c o vs)
  | [], _, _, h => h
  | v :: r, o, _, h => TurnS.setCells r (o + 1) (h.setCell o v)
theorem TurnS.of_below {c : Nat} {w w' : World} (hb : Below w.heap.size w w') (hc : c < w.heap.size) : TurnS c w w' := ⟨(Turned.refl _ _).of_below hb, fun cur _ _ h => ⟨cur, (hb.block c hc).trans h, rfl⟩⟩
def OwnIn (w : World) (P : Nat → Prop) (a : Option Addr) (zs : List Int) : Prop := zs = [] ∨ ∃ b, a = some ⟨b, 0, none⟩ ∧ P b ∧ b < w.heap.size ∧ NumsAt w b 0 zs ∧ Room w b zs.length
theorem NumsAt.of_blk {w w' : World} {b off : Nat} {zs : List Int} (h : NumsAt w b off zs) (e : w'.heap[b]? = w.heap[b]?) : NumsAt w' b off zs := fun i z hz => (World.cell?_of_block (a := ⟨b, off + i, none⟩) e).trans (h i z hz)
theorem OwnIn.keep {w w' : World} {P : Nat → Prop} {a : Option Addr} {zs : List Int} (h : OwnIn w P a zs) (hs : w.heap.size ≤ w'.heap.size) (hk : ∀ q, q < w.heap.size → P q → w'.heap[q]? = w.heap[q]?) : OwnIn w' P a zs := by
  rcases h with h | ⟨b, ha, hp, hl, hn, hr⟩
  · exact .inl h
  · exact .inr ⟨b, ha, hp, Nat.lt_of_lt_of_le hl hs, hn.of_blk (hk b hl hp), hr.of_block (hk b hl hp)⟩
theorem OwnIn.sl {w : World} {P : Nat → Prop} {a : Option Addr} {zs : List Int} (h : OwnIn w P a zs) : SlN w w.heap.size a zs.length zs := by
  rcases h with e | ⟨b, ha, _, hl, hn, _⟩
  · exact ⟨rfl, .inl (by rw [e]; rfl)⟩
  · exact ⟨rfl, .inr ⟨b, 0, ha, hl, hn⟩⟩
def intC (z : Int) : List Value := [.int .i64 z]
def RowI (W : World) (base : Nat) (v : Value) (zs : List Int) : Prop := W.ownsRow base 2 1 v zs.length (zs.flatMap intC)
theorem infoNum : (Tryz.prog.info? 2).map (fun i => (i.zero, i.size, i.bytes)) = some (some (.int .i64 0), 1, 8) := by kernel_rfl
theorem pushI {W : World} {base : Nat} {v : Value} {zs : List Int} (h : RowI W base v zs) (z : Int) (hm : zs.length + 1 ≤ 1048576) (ty : TypeId) (b k : Nat) (src : W.cell? ⟨b, 0, none⟩ = some (.int .i64 z)) (hbase : base ≤ W.heap.size) :
    ∃ v' W', (Builtin.append_ #[28, 28] ty #[v, .slice (some ⟨b, 0, none⟩) 1 k]).run Tryz.prog W = .ok v' W' ∧ RowI W' base v' (zs ++ [z]) ∧ W.grownBy W' v.ownBlock ∧ (v'.ownBlock = v.ownBlock ∨ v'.ownBlock = some W.heap.size) := by
  obtain ⟨i0, hi0, hz0, hz1, hz2⟩ := partsOf infoNum
  exact pushX (cells := intC) (sz := 1) (by_ := 8) (fun _ => rfl) (fun s u hu => by simp only [intC, List.mem_cons, List.not_mem_nil, or_false] at hu; subst hu; rfl) (by omega) Tryz.underlying28 hi0 hz0 hz1 hz2 rfl (by omega) h [z] hm ty b 0 k (fun i s e t u hu => by
    rcases i with _ | i
    · simp at e; subst e
      rcases t with _ | t
      · simp [intC] at hu; subst hu; exact src
      · simp [intC] at hu
    · simp at e) hbase
theorem RowI.nil (W : World) (base : Nat) : RowI W base (.slice none 0 0) [] := ⟨rfl, .inl ⟨rfl, rfl⟩⟩
theorem RowI.lt {W : World} {base : Nat} {v : Value} {zs : List Int} (h : RowI W base v zs) {q : Nat} (e : v.ownBlock = some q) : base ≤ q ∧ q < W.heap.size := World.ownsRow.lt h q e
theorem RowI.later {W W' : World} {base : Nat} {v : Value} {zs : List Int} (h : RowI W base v zs) (hb : Below W.heap.size W W') : RowI W' base v zs := row_keep h (fun q e => hb.block q (h.lt e).2)
theorem RowI.made (W : World) : RowI (W.alloc (.cells #[] 2)) W.heap.size (.slice (some ⟨W.heap.size, 0, none⟩) 0 0) [] := World.ownsRow_made W #[] 0 (Nat.le_refl _) (Nat.zero_le _) rfl
theorem intC_map (zs : List Int) : zs.flatMap intC = zs.map (Value.int .i64) := List.map_eq_flatMap.symm
theorem RowI.form {W : World} {base : Nat} {v : Value} {zs : List Int} (h : RowI W base v zs) : ∃ a c, v = .slice a zs.length c ∧ OwnIn W (fun q => v.ownBlock = some q) a zs ∧ zs.length ≤ c ∧ (zs ≠ [] → ∃ q, a = some ⟨q, 0, none⟩) := by
  have h' := h
  rcases h.2 with ⟨rfl, h0⟩ | ⟨q, cap, cur, rfl, hb, hg, hl, _⟩
  · have hz := List.eq_nil_of_length_eq_zero h0
    exact ⟨none, 0, by rw [h0], .inl hz, by omega, fun e => absurd hz e⟩
  · refine ⟨some ⟨q, 0, none⟩, cap, rfl, .inr ⟨q, rfl, rfl, (World.ownsRow.lt h q rfl).2, fun i z ez => ?_, fun j hj => ⟨.int .i64 (zs[j]'hj), ?_, World.ownsRow.frozenAt h j⟩⟩, hl, fun _ => ⟨q, rfl⟩⟩
    · have hi := (List.getElem?_eq_some_iff.1 ez).1
      rw [Nat.zero_add, World.ownsRow.cellAt h i (by omega), intC_map, List.getElem?_map, ez]; rfl
    · rw [World.ownsRow.cellAt h j (by omega), intC_map, List.getElem?_map, List.getElem?_eq_getElem hj]; rfl
def IAns (w : World) (zs : List Int) (e : Ending) (w' : World) : Prop :=
  ∃ (a : Option Addr) (c : Nat) (P : Nat → Prop), e = .returned (.slice a zs.length c) ∧ OwnIn w' P a zs ∧ (∀ q, P q → w.heap.size ≤ q ∧ q < w'.heap.size) ∧ Below w.heap.size w w'
theorem IAns.of {w w' : World} {base : Nat} {v : Value} {zs : List Int} (h : RowI w' base v zs) (hb : w.heap.size ≤ base) (b : Below w.heap.size w w') : IAns w zs (.returned v) w' := by
  obtain ⟨a, c, e, ho, _⟩ := h.form
  exact ⟨a, c, _, by rw [e], ho, fun q hq => ⟨Nat.le_trans hb (h.lt hq).1, (h.lt hq).2⟩, b⟩
theorem IAns.none {w w' : World} (a : Option Addr) (c : Nat) (b : Below w.heap.size w w') : IAns w [] (.returned (.slice a 0 c)) w' := ⟨a, c, fun _ => False, rfl, .inl rfl, fun _ h => h.elim, b⟩
def wln (zs : List Int) : Nat → List Int
  | 0 => []
  | j + 1 => if hasB (wln zs j) (atN zs j) = true then wln zs j else wln zs j ++ [atN zs j]
def rgs (xs : List S5) : List Int := xs.map S5.region
def wantsT (t : T7) : List Int := if txB t = true then wln (rgs t.sets) t.sets.length else []
def WAns (w : World) (zs : List Int) (e : Ending) (w' : World) : Prop := ∃ v, e = .returned v ∧ RowI w' w.heap.size v zs ∧ Below w.heap.size w w'
theorem WAns.i {w : World} {zs : List Int} {e : Ending} {w' : World} (h : WAns w zs e w') : IAns w zs e w' := by
  obtain ⟨v, rfl, h1, h2⟩ := h
  exact IAns.of h1 (Nat.le_refl _) h2
theorem RowI.up {W : World} {base base' : Nat} {v : Value} {zs : List Int} (h : RowI W base' v zs) (hb : base ≤ base') : RowI W base v zs := by
  obtain ⟨h1, h2⟩ := h
  refine ⟨h1, h2.imp id ?_⟩
  rintro ⟨g, cap, cur, e, hg, r⟩
  exact ⟨g, cap, cur, e, Nat.le_trans hb hg, r⟩
end Go.Proofs.YtdmpobegobfpjaaGreat.tx
namespace Go.Proofs.YtdmpobegobfpjaaGreat
open Go.RowKit
open Go.Sort (grow)
def ordR (k : C6) : List Int := if clusterB k = true then (ordJ k k.txs.length).map fun j => (atT k.txs j).id else []
set_option maxRecDepth 100000 in
set_option maxHeartbeats 8000000 in
theorem specOrder_any (w : World) (a1 : Option Addr) (c1 : Nat) (a2 : Option Addr) (c2 : Nat) (a3 : Option Addr) (c3 : Nat) (k : C6) (hl : KCl.L k) (h : KCl.Rd w a1 c1 a2 c2 a3 c3 k) :
    Calls Tryz.prog 8 #[.agg #[.int .i64 k.config, .int .i64 k.clock, .slice a1 k.places.length c1, .slice a2 k.machines.length c2, .slice a3 k.txs.length c3, .bool k.lost]] w (tx.WAns w (ordR k)) := by
  obtain ⟨U, hU⟩ : ∃ Y, Y = w.alloc (.cells #[.int .i64 k.config, .int .i64 k.clock, .slice a1 k.places.length c1, .slice a2 k.machines.length c2, .slice a3 k.txs.length c3, .bool k.lost] 34) := ⟨_, rfl⟩
  have bU : Below w.heap.size w U := by rw [hU]; exact (Below.refl _ _).alloc (Nat.le_refl _) _
  have sU : U.heap.size = w.heap.size + 1 := by rw [hU]; simp
  obtain ⟨V, hV⟩ : ∃ Y, Y = U.alloc (.cells #[] 2) := ⟨_, rfl⟩
  have bV : Below U.heap.size U V := by rw [hV]; exact (Below.refl _ _).alloc (Nat.le_refl _) _
  have RV : Hid (tx.RowI V (w.heap.size + 1) (.slice (some ⟨w.heap.size + 1, 0, none⟩) 0 0) []) := by unfold Hid; rw [hV, ← sU]; exact tx.RowI.made U
  have FA : Hid (Bx V w.heap.size [.int .i64 k.config, .int .i64 k.clock, .slice a1 k.places.length c1, .slice a2 k.machines.length c2, .slice a3 k.txs.length c3, .bool k.lost]) := by
    have : Bx U w.heap.size [.int .i64 k.config, .int .i64 k.clock, .slice a1 k.places.length c1, .slice a2 k.machines.length c2, .slice a3 k.txs.length c3, .bool k.lost] := by rw [hU]; exact Bx.made w [.int .i64 k.config, .int .i64 k.clock, .slice a1 k.places.length c1, .slice a2 k.machines.length c2, .slice a3 k.txs.length c3, .bool k.lost] _
    exact this.later bV
  have BV : Hid (Below w.heap.size w V) := bstep bU bV
  have HR : Hid (KCl.Rd V a1 c1 a2 c2 a3 c3 k ∧ KCl.L k) := ⟨h.later BV.out, hl⟩
  have SV : Hid (V.heap.size = w.heap.size + 2) := by unfold Hid; rw [hV]; simp [sU]
  have hVV : V = (w.alloc (.cells #[.int .i64 k.config, .int .i64 k.clock, .slice a1 k.places.length c1, .slice a2 k.machines.length c2, .slice a3 k.txs.length c3, .bool k.lost] 34)).alloc (.cells #[] 2) := by rw [hV, hU]
  have hc := specClusterOk_any V a1 c1 a2 c2 a3 c3 k hl HR.out.1
  have p0 := FA.out.1 0 _ rfl
  have p1 := FA.out.1 1 _ rfl
  have p2 := FA.out.1 2 _ rfl
  have p3 := FA.out.1 3 _ rfl
  have p4 := FA.out.1 4 _ rfl
  have p5 := FA.out.1 5 _ rfl
  rw [hVV] at p0 p1 p2 p3 p4 p5
  clear bU sU bV hU hV h hl
  go_enter Tryz.func8, Tryz.ntmps8
  go_wp2_with fail
  rw [← hVV]
  clear hVV p0 p1 p2 p3 p4 p5
  refine hc.mono ?_
  clear hc
  rintro e W1 ⟨rfl, b1⟩
  have B1 : Hid (Below V.heap.size V W1) := b1
  have R1 : Hid (tx.RowI W1 (w.heap.size + 1) (.slice (some ⟨w.heap.size + 1, 0, none⟩) 0 0) []) := RV.out.later b1
  clear b1 RV
  cases hk : clusterB k with
  | false =>
    have HO : Hid (ordR k = []) := by unfold Hid ordR; rw [hk]; rfl
    clear hk
    go_wp2
    go_ret
    rw [HO.out]
    exact ⟨_, rfl, R1.out.up (by omega), bstep BV.out B1.out⟩
  | true =>
  have HO : Hid (ordR k = (ordJ k k.txs.length).map fun j => (atT k.txs j).id) := by unfold Hid ordR; rw [if_pos hk]
  have hn60 := (CSm.of hk).t
  obtain ⟨tv, htv⟩ := txs_at (HR.out.1.later B1.out).t
  have ho := l13Order_any W1 a1 c1 a2 c2 a3 c3 k tv hk HR.out.2 htv
  have hlen : (ordX k tv k.txs.length).length ≤ 60 := by rw [ordX_len]; exact Nat.le_trans (ordJ_len k _) hn60
  have p0 := (FA.out.later B1.out).1 0 _ rfl
  have p1 := (FA.out.later B1.out).1 1 _ rfl
  have p2 := (FA.out.later B1.out).1 2 _ rfl
  have p3 := (FA.out.later B1.out).1 3 _ rfl
  have p4 := (FA.out.later B1.out).1 4 _ rfl
  have p5 := (FA.out.later B1.out).1 5 _ rfl
  clear hk htv hn60
  go_wp2_with fail
  refine ho.mono ?_
  clear ho p0 p1 p2 p3 p4 p5
  rintro e W2 ⟨b, c, rfl, hrx, b2⟩
  have hat := RowX.at hrx
  have HXS : Hid ((ordX k tv k.txs.length).map (fun x => x.2.id) = ordR k) := by unfold Hid; rw [HO.out, ordX, List.map_map]; rfl
  have K2 : Hid (AtX W2 b 0 (ordX k tv k.txs.length) ∧ b < W2.heap.size ∧ W1.heap.size ≤ b) := ⟨hat.1, hat.2.2.1, hat.2.1⟩
  have R2 : Hid (tx.RowI W2 (w.heap.size + 1) (.slice (some ⟨w.heap.size + 1, 0, none⟩) 0 0) []) := R1.out.later b2
  have B2 : Hid (Below V.heap.size V W2) := bstep B1.out b2
  clear hrx hat b2 R1
  generalize ordX k tv k.txs.length = xs at *
  go_wp2
  go_loopw [3, 5] (fun v3 v5 wr => ∃ j : Nat, j ≤ xs.length ∧ v5 = .int .i64 j ∧ tx.RowI wr (w.heap.size + 1) v3 ((xs.take j).map fun x => x.2.id) ∧ Below (w.heap.size + 1) W2 wr ∧ AtX wr b 0 xs ∧ b < wr.heap.size ∧ Below w.heap.size w wr ∧ v3.ownBlock ≠ some b) (fun _ v5 _ => xs.length - (intOf v5).toNat)
  case atStart => exact ⟨0, Nat.zero_le _, rfl, by simpa using R2.out, Below.refl _ _, K2.out.1, K2.out.2.1, bstep BV.out B2.out, by have := K2.out.2.2; have := SV.out; have := B1.out.size; simp [Value.ownBlock]; omega⟩
  case round =>
    obtain ⟨j, hj, rfl, hrow, hbl, hat, hbl2, hbw, hne⟩ := hrel
    by_cases hlt : j < xs.length
    · obtain ⟨x, hx⟩ : ∃ x, xs[j]? = some x := ⟨_, List.getElem?_eq_getElem hlt⟩
      have c0 := hat j x hx 0 _ rfl
      rw [Nat.zero_add, Nat.add_zero] at c0
      obtain ⟨V1, hV1⟩ : ∃ Y, Y = wr.alloc (.cells #[.int .i64 x.2.id] 2) := ⟨_, rfl⟩
      have bV1 : Below wr.heap.size wr V1 := by rw [hV1]; exact (Below.refl _ _).alloc (Nat.le_refl _) _
      have hone : V1.cell? ⟨wr.heap.size, 0, none⟩ = some (.int .i64 x.2.id) := by rw [hV1]; go_simp
      have hlk : ((xs.take j).map fun x => x.2.id).length + 1 ≤ 1048576 := by rw [List.length_map, List.length_take]; omega
      obtain ⟨v', Y, hr, hrow', hgr, hlies⟩ := tx.pushI (hrow.later bV1) x.2.id hlk 28 wr.heap.size 1 hone (by have := hbl.size; have := B2.out.size; have := SV.out; have := bV1.size; omega)
      have KE : Hid (tx.RowI Y (w.heap.size + 1) v' ((xs.take (j + 1)).map fun x => x.2.id) ∧ AtX Y b 0 xs ∧ b < Y.heap.size ∧ Below w.heap.size w Y ∧ Below (w.heap.size + 1) W2 Y ∧ v'.ownBlock ≠ some b) := by
        have hs1 := hbl.size
        have hs2 := B2.out.size
        have hs3 := SV.out
        have hs4 := bV1.size
        have hbk : Y.heap[b]? = wr.heap[b]? := (hgr.block b (by omega) (fun e => hne e.symm)).trans (bV1.block b hbl2)
        refine ⟨by rw [List.take_add_one, hx, Option.toList_some, List.map_append]; exact hrow', fun z y hy t u hu => (World.cell?_of_block (a := ⟨b, 0 + z * 7 + t, none⟩) hbk).trans (hat z y hy t u hu), by have := hgr.size; omega, (hbw.trans (bV1.mono hbw.size)).grown hgr (by omega) (fun z e => by have := (hrow.lt e).1; omega), (hbl.trans (bV1.mono (by omega))).grown hgr (by omega) (fun z e => (hrow.lt e).1), ?_⟩
        rcases hlies with e | e
        · rw [e]; exact hne
        · rw [e]; intro e'; cases e'; omega
      rw [hV1] at hr
      clear hV1 bV1 hone hrow' hgr hlies hrow hbl hat hbw hlk
      go_wp2_with (at_builtin; refine append_known _ rfl (.tmp 19) (.tmp 25) 28 rfl _ _ _ _ rfl rfl hr ?_)
      exact ⟨⟨j + 1, by omega, by simp, KE.out.1, KE.out.2.2.2.2.1, KE.out.2.1, KE.out.2.2.1, KE.out.2.2.2.1, KE.out.2.2.2.2.2⟩, by simp [intOf]; omega⟩
    · obtain rfl : j = xs.length := by omega
      have hd : decide ((xs.length : Int) < (xs.length : Int)) = false := by simp
      rw [List.take_length] at hrow
      obtain ⟨va, vc, rfl, -⟩ := hrow.form
      have KE : Hid (Below w.heap.size w wr ∧ tx.RowI wr w.heap.size (.slice va (xs.map fun x => x.2.id).length vc) (xs.map fun x => x.2.id)) := ⟨hbw, hrow.up (by omega)⟩
      clear hrow hbl hat hbw hne
      go_wp2
      go_ret
      rw [← HXS.out]
      exact ⟨_, rfl, KE.out.2, KE.out.1⟩
end Go.Proofs.YtdmpobegobfpjaaGreat
namespace Go.Proofs.YtdmpobegobfpjaaGreat
open Go.RowKit
def tolJ (k : C6) : Nat → List Nat
  | 0 => []
  | n + 1 => if tx.toldR (atT k.txs n) = 1 then tolJ k n ++ [n] else tolJ k n
theorem tolJ_len (k : C6) : ∀ n, (tolJ k n).length ≤ n
  | 0 => Nat.le_refl _
  | n + 1 => by
    have := tolJ_len k n
    rw [tolJ]
    split
    · rw [List.length_append]; simp; omega
    · omega
theorem tolJ_lt (k : C6) : ∀ n, ∀ j ∈ tolJ k n, j < n
  | 0 => fun j hj => by simp [tolJ] at hj
  | n + 1 => fun j hj => by
    have ih := tolJ_lt k n
    rw [tolJ] at hj
    split at hj
    · rw [List.mem_append, List.mem_singleton] at hj
      rcases hj with hj | rfl
      · have := ih j hj; omega
      · omega
    · have := ih j hj; omega
theorem tolJ_rise (k : C6) : ∀ n, (tolJ k n).Pairwise (· < ·)
  | 0 => List.Pairwise.nil
  | n + 1 => by
    have ih := tolJ_rise k n
    rw [tolJ]
    split
    · rw [List.pairwise_append]
      exact ⟨ih, List.pairwise_singleton _ _, fun a ha b hb => by rw [List.mem_singleton] at hb; rw [hb]; exact tolJ_lt k n a ha⟩
    · exact ih
def srtJ (k : C6) (l : List Nat) : Nat → List Nat
  | 0 => []
  | e + 1 => insJ k (l[e]?.getD 0) (srtJ k l e)
theorem srtJ_len (k : C6) (l : List Nat) : ∀ e, (srtJ k l e).length = e
  | 0 => rfl
  | e + 1 => by rw [srtJ, insJ_len, srtJ_len k l e]
theorem srtJ_mem (k : C6) (l : List Nat) : ∀ e, e ≤ l.length → ∀ j ∈ srtJ k l e, j ∈ l.take e
  | 0 => fun _ j hj => by simp [srtJ] at hj
  | e + 1 => fun he j hj => by
    have ih := srtJ_mem k l e (by omega)
    have hx : l[e]? = some l[e] := List.getElem?_eq_getElem (by omega)
    rw [List.take_add_one, hx, Option.toList_some, List.mem_append, List.mem_singleton]
    rw [srtJ, hx, Option.getD_some] at hj
    simp only [insJ, List.mem_append, List.mem_singleton] at hj
    rcases hj with (hj | hj) | hj
    · exact .inl (ih j (List.mem_of_mem_take hj))
    · exact .inr hj
    · exact .inl (ih j (List.mem_of_mem_drop hj))
theorem srtJ_app (k : C6) (l m : List Nat) : ∀ e, e ≤ l.length → srtJ k (l ++ m) e = srtJ k l e
  | 0 => fun _ => rfl
  | e + 1 => fun he => by rw [srtJ, srtJ, srtJ_app k l m e (by omega), List.getElem?_append_left (by omega)]
theorem srt_ord (k : C6) : ∀ n, srtJ k (tolJ k n) (tolJ k n).length = ordJ k n
  | 0 => rfl
  | n + 1 => by
    have ih := srt_ord k n
    rw [tolJ, ordJ]
    split
    · rw [List.length_append, List.length_singleton, srtJ, srtJ_app k _ _ _ (Nat.le_refl _), ih, List.getElem?_append_right (Nat.le_refl _), Nat.sub_self]
      rfl
    · exact ih
def curJ (k : C6) (l : List Nat) (e a : Nat) : List Nat := (srtJ k l e).take a ++ (l[e]?.getD 0) :: (srtJ k l e).drop a ++ l.drop (e + 1)
def bakJ (k : C6) (l : List Nat) (e : Nat) : List Nat := srtJ k l e ++ l.drop e
theorem curJ_len (k : C6) {l : List Nat} {e a : Nat} (he : e < l.length) (ha : a ≤ e) : (curJ k l e a).length = l.length := by
  simp only [curJ, List.length_append, List.length_cons, List.length_take, List.length_drop, srtJ_len]; omega
theorem curJ_start (k : C6) {l : List Nat} {e : Nat} (he : e < l.length) : curJ k l e e = bakJ k l e := by
  have h1 : (srtJ k l e).take e = srtJ k l e := List.take_of_length_le (by rw [srtJ_len]; exact Nat.le_refl _)
  have h2 : (srtJ k l e).drop e = [] := List.drop_eq_nil_of_le (by rw [srtJ_len]; exact Nat.le_refl _)
  rw [curJ, bakJ, h1, h2, List.getElem?_eq_getElem he, Option.getD_some, List.drop_eq_getElem_cons he]
  simp
theorem curJ_at (k : C6) {l : List Nat} {e a : Nat} (ha : a ≤ e) : (curJ k l e a)[a]? = some (l[e]?.getD 0) := by
  have h1 : ((srtJ k l e).take a).length = a := by rw [List.length_take, srtJ_len]; omega
  rw [curJ, List.append_assoc, List.getElem?_append_right (by omega), h1, Nat.sub_self]
  rfl
theorem curJ_low (k : C6) {l : List Nat} {e p : Nat} (ha : p + 1 ≤ e) : (curJ k l e (p + 1))[p]? = some ((srtJ k l e)[p]?.getD 0) := by
  have h1 : ((srtJ k l e).take (p + 1)).length = p + 1 := by rw [List.length_take, srtJ_len]; omega
  rw [curJ, List.append_assoc, List.getElem?_append_left (by omega), List.getElem?_take, if_pos (by omega), List.getElem?_eq_getElem (by rw [srtJ_len]; omega)]
  rfl
theorem curJ_swap (k : C6) {l : List Nat} {e p : Nat} (ha : p + 1 ≤ e) : ((curJ k l e (p + 1)).set (p + 1) ((srtJ k l e)[p]?.getD 0)).set p (l[e]?.getD 0) = curJ k l e p := by
  have hp : p < (srtJ k l e).length := by rw [srtJ_len]; omega
  have h1 : ((srtJ k l e).take p).length = p := by rw [List.length_take, srtJ_len]; omega
  have e1 : (srtJ k l e).take (p + 1) = (srtJ k l e).take p ++ [(srtJ k l e)[p]] := by rw [List.take_add_one, List.getElem?_eq_getElem hp]; rfl
  have e2 : (srtJ k l e).drop p = (srtJ k l e)[p] :: (srtJ k l e).drop (p + 1) := List.drop_eq_getElem_cons hp
  have e3 : (srtJ k l e)[p]?.getD 0 = (srtJ k l e)[p] := by rw [List.getElem?_eq_getElem hp]; rfl
  rw [curJ, curJ, e1, e2, e3]
  generalize (srtJ k l e).take p = A at *
  generalize (srtJ k l e)[p] = y at *
  generalize (srtJ k l e).drop (p + 1) = B at *
  generalize l[e]?.getD 0 = x at *
  generalize l.drop (e + 1) = C at *
  have g1 : A ++ [y] ++ x :: B ++ C = A ++ (y :: x :: (B ++ C)) := by simp
  have g2 : A ++ x :: (y :: B) ++ C = A ++ (x :: y :: (B ++ C)) := by simp
  rw [g1, g2, List.set_append_right _ _ (by omega), List.set_append_right _ _ (by omega), h1, show p + 1 - p = 1 by omega, show p - p = 0 by omega]
  rfl
theorem curJ_end (k : C6) {l : List Nat} {e a : Nat} (h : cutK (fun q => decide (stpJ k (l[e]?.getD 0) < stpJ k ((srtJ k l e)[q]?.getD 0))) e = a) : curJ k l e a = bakJ k l (e + 1) := by
  have h1 : srtJ k l (e + 1) = insJ k (l[e]?.getD 0) (srtJ k l e) := rfl
  rw [bakJ, h1, insJ, srtJ_len, h, curJ]
  simp
theorem ids_rise {k : C6} (hk : clusterB k = true) {i j : Nat} (hij : i < j) (hj : j < k.txs.length) : (atT k.txs i).id < (atT k.txs j).id := by
  simp only [clusterB, Bool.and_eq_true] at hk
  have ht := hk.2
  have step : ∀ m, m + 1 < k.txs.length → (atT k.txs m).id < (atT k.txs (m + 1)).id := fun m hm => by
    have := List.all_eq_true.1 ht (m + 1) (List.mem_range.2 hm)
    simp only [txAtB, Bool.and_eq_true, Bool.or_eq_true, decide_eq_true_eq] at this
    have h2 := this.1.1.1.1.2
    rcases h2 with h2 | h2
    · omega
    · exact h2
  induction j with
  | zero => omega
  | succ j ih =>
    rcases Nat.lt_or_ge i j with h | h
    · exact Int.lt_trans (ih h (by omega)) (step j hj)
    · have : i = j := by omega
      subst this
      exact step i hj
theorem met_less {k : C6} (hk : clusterB k = true) {n e q : Nat} (hn : n ≤ k.txs.length) (he : e < (tolJ k n).length) (hq : q < e) : (atT k.txs ((srtJ k (tolJ k n) e)[q]?.getD 0)).id < (atT k.txs ((tolJ k n)[e]?.getD 0)).id := by
  have hp : q < (srtJ k (tolJ k n) e).length := by rw [srtJ_len]; exact hq
  have hm := srtJ_mem k (tolJ k n) e (by omega) _ (List.getElem_mem hp)
  rw [List.getElem?_eq_getElem hp, List.getElem?_eq_getElem he, Option.getD_some, Option.getD_some]
  obtain ⟨z, hz, hze⟩ := List.getElem_of_mem hm
  rw [List.length_take] at hz
  rw [List.getElem_take] at hze
  have hr := List.pairwise_iff_getElem.1 (tolJ_rise k n) z e (by omega) he (by omega)
  rw [← hze]
  exact ids_rise hk hr (Nat.lt_of_lt_of_le (tolJ_lt k n _ (List.getElem_mem he)) hn)
theorem nan_any (w : World) (x : Int) : Calls Tryz.prog 166 #[.int .i64 x] w fun e w' => e = .returned (.bool false) ∧ w' = w := by
  have h : (x != x) = false := by simp
  go_enter Tryz.func166, Tryz.ntmps166
  go_wp2
  go_ret
  exact ⟨rfl, rfl⟩
def cmpI (x y : Int) : Int := if x < y then -1 else if y < x then 1 else 0
theorem compare_any (w : World) (x y : Int) : Calls Tryz.prog 126 #[.int .i64 x, .int .i64 y] w fun e w' => e = .returned (.int .i64 (cmpI x y)) ∧ w' = w := by
  by_cases h1 : x < y
  · have e : cmpI x y = -1 := if_pos h1
    rw [e]
    go_enter Tryz.func126, Tryz.ntmps126
    go_wp2_with (go_at_call 166; refine (nan_any _ _).mono ?_; rintro e w' ⟨rfl, rfl⟩)
    go_ret
    exact ⟨rfl, rfl⟩
  · have d1 : decide (x < y) = false := by simp; omega
    by_cases h2 : y < x
    · have e : cmpI x y = 1 := by rw [cmpI, if_neg h1, if_pos h2]
      have d2 : decide (y < x) = true := by simp [h2]
      rw [e]
      clear h1
      go_enter Tryz.func126, Tryz.ntmps126
      go_wp2_with (go_at_call 166; refine (nan_any _ _).mono ?_; rintro e w' ⟨rfl, rfl⟩)
      go_ret
      exact ⟨rfl, rfl⟩
    · have e : cmpI x y = 0 := by rw [cmpI, if_neg h1, if_neg h2]
      have d2 : decide (y < x) = false := by simp; omega
      rw [e]
      clear h1 h2
      go_enter Tryz.func126, Tryz.ntmps126
      go_wp2_with (go_at_call 166; refine (nan_any _ _).mono ?_; rintro e w' ⟨rfl, rfl⟩)
      go_ret
      exact ⟨rfl, rfl⟩
end Go.Proofs.YtdmpobegobfpjaaGreat
namespace Go.Proofs.YtdmpobegobfpjaaGreat
def lateB (n : Nat) (Z : Nat → Bool) (L : Array Bool) : Bool := (List.range n).any fun z => Z z && L.getD z false
theorem lateB_set {n : Nat} {Z : Nat → Bool} {L : Array Bool} {i : Nat} (hz : Z i = false) : lateB n Z (L.setIfInBounds i true) = lateB n Z L := by
  unfold lateB
  congr 1
  funext z
  by_cases e : i = z
  · subst e; simp [hz]
  · rw [getD_set_ne false e]
def wpZ (P : Program) (md : Region.Mode) (ops : Array Oper) (Q : Exit → Act → World → Prop) (S : World → Prop) (Z : Nat → Bool) : Nat → Array Bool → Act → World → Prop
  | 0, L, a, w => Region.ready md ops L = [] ∧ Q .normal a w
  | f + 1, L, a, w => (Region.ready md ops L = [] → Q .normal a w) ∧ ∀ i ∈ Region.ready md ops L, wpOp P ops Q i (fun a' w' => (lateB ops.size Z (L.setIfInBounds i true) = false → S w') ∧ wpZ P md ops Q S Z f (L.setIfInBounds i true) a' w') a w
theorem wpAny_of_z {P : Program} {ops : Array Oper} {Q : Exit → Act → World → Prop} {md : Region.Mode} {S : World → Prop} {Z : Nat → Bool} : ∀ (f : Nat) (L : Array Bool) (a : Act) (w : World), wpZ P md ops Q S Z f L a w → wpAny P md ops Q f L a w := by
  intro f
  induction f with
  | zero => exact fun _ _ _ h => h
  | succ f ih => exact fun L a w h => ⟨h.1, fun i hi => wpOp_mono (fun a' w' k => ih _ a' w' k.2) (h.2 i hi)⟩
def waitsZ (md : Region.Mode) (ops : Array Oper) (s i : Nat) : Bool := match ops[s]? with
  | some o => o.after.any fun e => Region.binds md e && e.on == i
  | none => false
theorem not_readyZ {md : Region.Mode} {ops : Array Oper} {i j : Nat} {oj : Oper} {L : Array Bool} (hr : i ∈ Region.ready md ops L) (hall : ∀ e ∈ oj.after, Region.binds md e = true → L.getD e.on false = true) (hj : ops[j]? = some oj) (hw : waitsZ md ops j i = true) : False := by
  simp only [waitsZ, hj, Array.any_eq_true, Bool.and_eq_true, beq_iff_eq] at hw
  obtain ⟨k, hk, hb, he⟩ := hw
  have h1 := hall _ (Array.getElem_mem hk) hb
  have h0 := (mem_ready.1 hr).1
  rw [he] at h1
  rcases Nat.lt_or_ge i L.size with h | h
  · simp [h] at h0 h1; rw [h0] at h1; cases h1
  · simp [Array.getElem?_eq_none h] at h1
def waitAll (md : Region.Mode) (ops : Array Oper) (Z : Nat → Bool) (i : Nat) : Bool := (List.range ops.size).all fun z => !Z z || waitsZ md ops z i
theorem waitAll_spec {md : Region.Mode} {ops : Array Oper} {Z : Nat → Bool} {i : Nat} (h : waitAll md ops Z i = true) {z : Nat} {o : Oper} (ho : ops[z]? = some o) (hz : Z z = true) : waitsZ md ops z i = true := by
  have hlt : z < ops.size := by
    rcases Nat.lt_or_ge z ops.size with h | h
    · exact h
    · rw [Array.getElem?_eq_none h] at ho; cases ho
  have := List.all_eq_true.1 h z (List.mem_range.2 hlt)
  simpa [hz] using this
theorem noWait {md : Region.Mode} {ops : Array Oper} {i j : Nat} {oj : Oper} {L : Array Bool} (hr : i ∈ Region.ready md ops L) (hall : ∀ e ∈ oj.after, Region.binds md e = true → L.getD e.on false = true) (hoj : ops[j]? = some oj) : ∀ x ∈ oj.after, Region.binds md x = true → x.on ≠ i := fun x hx hb he => not_readyZ hr hall hoj (by
  simp only [waitsZ, hoj, Array.any_eq_true, Bool.and_eq_true, beq_iff_eq]
  obtain ⟨k, hk, rfl⟩ := Array.getElem_of_mem hx
  exact ⟨k, hk, hb, he⟩)
theorem wpZ_first {P : Program} {ops : Array Oper} {Q : Exit → Act → World → Prop} {md : Region.Mode} {S : World → Prop} {Z : Nat → Bool} {i : Nat} {o : Oper} {v : Value} (ho : ops[i]? = some o) (hzi : Z i = false) (hw : waitAll md ops Z i = true) (hsel : ∀ (j : Nat) (o : Oper) cs b, ops[j]? = some o → o.op ≠ .select cs b) (hQ : ∀ c a w, Q (.panic c) (a.put o.dst v) w → Q (.panic c) a w) :
    ∀ (f : Nat) (L : Array Bool) (a : Act) (w : World), lateB ops.size Z L = false →
      (∀ j oj, ops[j]? = some oj → j ≠ i → L.getD j true = false → (∀ e ∈ oj.after, Region.binds md e = true → e.on ≠ i) → o.apart ops oj = true) →
      i ∈ Region.ready md ops L → YieldsIf P ops S o v a → S w → wpZ P md ops Q S Z f (L.setIfInBounds i true) (a.put o.dst v) w → wpZ P md ops Q S Z (f + 1) L a w := by
  intro f
  induction f with
  | zero =>
    intro L a w hL _ hr hy hS H
    refine ⟨fun h => absurd hr (by rw [h]; simp), fun j hj => ?_⟩
    by_cases e : j = i
    · rw [e]; exact hy.wpOp ho hS ⟨fun _ => hS, H⟩
    · have := ready_mono hj e
      rw [H.1] at this
      cases this
  | succ f ih =>
    intro L a w hL hfree hr hy hS H
    refine ⟨fun h => absurd hr (by rw [h]; simp), fun j hj => ?_⟩
    by_cases e : j = i
    · rw [e]; exact hy.wpOp ho hS ⟨fun _ => hS, H⟩
    · obtain ⟨hun, oj, hoj, hall⟩ := mem_ready.1 hj
      have hjs : Z j = false := by
        cases hz : Z j with
        | false => rfl
        | true => exact (not_readyZ hr hall hoj (waitAll_spec hw hoj hz)).elim
      have step := wpOp_putIf hoj (hfree j oj hoj e hun (noWait hr hall hoj)) (fun cs b => hsel i o cs b ho) (fun cs b => hsel j oj cs b hoj) hQ hy (H.2 j (ready_mono hj e))
      refine wpOp_mono (fun a' w' k => ?_) step
      have hS' : S w' := k.2.1 (by rw [lateB_set hjs, lateB_set hzi]; exact hL)
      refine ⟨fun _ => hS', ih _ a' w' (by rw [lateB_set hjs]; exact hL) (fun x ox hx hxi hxu hxn => hfree x ox hx hxi ?_ hxn) (ready_mono hr (Ne.symm e)) k.1 hS' ?_⟩
      · by_cases h : j = x
        · rw [← h]; exact hun
        · rw [getD_set_ne true h] at hxu; exact hxu
      · rw [Array.setIfInBounds_comm _ _ e]; exact k.2.2
theorem wpZ_pure {P : Program} {ops : Array Oper} {Q : Exit → Act → World → Prop} {md : Region.Mode} {S : World → Prop} {Z : Nat → Bool} {i : Nat} {o : Oper} {v : Value} (ho : ops[i]? = some o) (hzi : Z i = false) (hsel : ∀ (j : Nat) (o : Oper) cs b, ops[j]? = some o → o.op ≠ .select cs b) (hQ : ∀ c a w, Q (.panic c) (a.put o.dst v) w → Q (.panic c) a w) :
    ∀ (f : Nat) (L : Array Bool) (a : Act) (w : World),
      (∀ j oj, ops[j]? = some oj → j ≠ i → L.getD j true = false → (∀ e ∈ oj.after, Region.binds md e = true → e.on ≠ i) → o.apart ops oj = true) →
      i ∈ Region.ready md ops L → YieldsIf P ops (fun _ => True) o v a → (lateB ops.size Z L = false → S w) → wpZ P md ops Q S Z f (L.setIfInBounds i true) (a.put o.dst v) w → wpZ P md ops Q S Z (f + 1) L a w := by
  intro f
  induction f with
  | zero =>
    intro L a w _ hr hy hS H
    refine ⟨fun h => absurd hr (by rw [h]; simp), fun j hj => ?_⟩
    by_cases e : j = i
    · rw [e]; exact hy.wpOp ho trivial ⟨fun h => hS (by rw [← lateB_set hzi]; exact h), H⟩
    · have := ready_mono hj e
      rw [H.1] at this
      cases this
  | succ f ih =>
    intro L a w hfree hr hy hS H
    refine ⟨fun h => absurd hr (by rw [h]; simp), fun j hj => ?_⟩
    by_cases e : j = i
    · rw [e]; exact hy.wpOp ho trivial ⟨fun h => hS (by rw [← lateB_set hzi]; exact h), H⟩
    · obtain ⟨hun, oj, hoj, hall⟩ := mem_ready.1 hj
      have step := wpOp_putIf hoj (hfree j oj hoj e hun (noWait hr hall hoj)) (fun cs b => hsel i o cs b ho) (fun cs b => hsel j oj cs b hoj) hQ hy (H.2 j (ready_mono hj e))
      refine wpOp_mono (fun a' w' k => ?_) step
      have hS' : lateB ops.size Z (L.setIfInBounds j true) = false → S w' := fun h => k.2.1 (by rw [Array.setIfInBounds_comm _ _ (Ne.symm e), lateB_set hzi]; exact h)
      refine ⟨hS', ih _ a' w' (fun x ox hx hxi hxu hxn => hfree x ox hx hxi ?_ hxn) (ready_mono hr (Ne.symm e)) k.1 hS' ?_⟩
      · by_cases h : j = x
        · rw [← h]; exact hun
        · rw [getD_set_ne true h] at hxu; exact hxu
      · rw [Array.setIfInBounds_comm _ _ e]; exact k.2.2
theorem wpZ_take {P : Program} {ops : Array Oper} {Q : Exit → Act → World → Prop} {md : Region.Mode} {S : World → Prop} {Z : Nat → Bool} {i : Nat} {o : Oper} {v : Value} {f : Nat} {L : Array Bool} {a : Act} {w : World} (ho : ops[i]? = some o) (hc : (!Z i && !lateB ops.size Z L && waitAll md ops Z i && Region.noSelect ops && Region.free md ops L i && (Region.ready md ops L).contains i) = true)
    (hQ : ∀ c a w, Q (.panic c) (a.put o.dst v) w → Q (.panic c) a w) (hy : YieldsIf P ops S o v a) (hS : S w) (h : wpZ P md ops Q S Z f (L.setIfInBounds i true) (a.put o.dst v) w) : wpZ P md ops Q S Z (f + 1) L a w := by
  simp only [Bool.and_eq_true, Bool.not_eq_true'] at hc
  obtain ⟨⟨⟨⟨⟨h0, hl⟩, h1⟩, h2⟩, h3⟩, h4⟩ := hc
  exact wpZ_first ho h0 h1 (Region.noSelect_spec h2) hQ f L a w hl (Region.free_spec ho h3) (by simpa using h4) hy hS h
theorem wpZ_takeP {P : Program} {ops : Array Oper} {Q : Exit → Act → World → Prop} {md : Region.Mode} {S : World → Prop} {Z : Nat → Bool} {i : Nat} {o : Oper} {v : Value} {f : Nat} {L : Array Bool} {a : Act} {w : World} (ho : ops[i]? = some o) (hc : (!Z i && Region.noSelect ops && Region.free md ops L i && (Region.ready md ops L).contains i) = true)
    (hQ : ∀ c a w, Q (.panic c) (a.put o.dst v) w → Q (.panic c) a w) (hy : YieldsIf P ops (fun _ => True) o v a) (hS : S w) (h : wpZ P md ops Q S Z f (L.setIfInBounds i true) (a.put o.dst v) w) : wpZ P md ops Q S Z (f + 1) L a w := by
  simp only [Bool.and_eq_true, Bool.not_eq_true'] at hc
  obtain ⟨⟨⟨h0, h2⟩, h3⟩, h4⟩ := hc
  exact wpZ_pure ho h0 (Region.noSelect_spec h2) hQ f L a w (Region.free_spec ho h3) (by simpa using h4) hy (fun _ => hS) h
def AllZ (P : Program) (md : Region.Mode) (ops : Array Oper) (Q : Exit → Act → World → Prop) (S : World → Prop) (Z : Nat → Bool) (f : Nat) (L : Array Bool) (a : Act) (w : World) (rs : List Nat) : Prop :=
  ∀ i ∈ rs, wpOp P ops Q i (fun a' w' => (lateB ops.size Z (L.setIfInBounds i true) = false → S w') ∧ wpZ P md ops Q S Z f (L.setIfInBounds i true) a' w') a w
theorem AllZ.nil {P : Program} {ops : Array Oper} {Q : Exit → Act → World → Prop} {md : Region.Mode} {S : World → Prop} {Z : Nat → Bool} {f : Nat} {L : Array Bool} {a : Act} {w : World} : AllZ P md ops Q S Z f L a w [] := fun _ h => by cases h
theorem AllZ.cons {P : Program} {ops : Array Oper} {Q : Exit → Act → World → Prop} {md : Region.Mode} {S : World → Prop} {Z : Nat → Bool} {f : Nat} {L : Array Bool} {a : Act} {w : World} {i : Nat} {o : Oper} {rs : List Nat} (ho : ops[i]? = some o)
    (h : ∀ K' : Act → World → Prop, Shut (∀ a w, (lateB ops.size Z (L.setIfInBounds i true) = false → S w) → wpZ P md ops Q S Z f (L.setIfInBounds i true) a w → K' a w) → if Region.wanted o (yielded ops a.tmps) = true then Oper.wp P o a w K' Q else K' (a.put o.dst undef) w)
    (hs : AllZ P md ops Q S Z f L a w rs) : AllZ P md ops Q S Z f L a w (i :: rs) := fun j hj => by
  rcases List.mem_cons.1 hj with rfl | hj
  · exact wpOp_step ho (fun K' hK => h K' (fun a w hS hW => hK a w ⟨hS, hW⟩))
  · exact hs j hj
theorem wpZ_ready {P : Program} {ops : Array Oper} {Q : Exit → Act → World → Prop} {md : Region.Mode} {S : World → Prop} {Z : Nat → Bool} {rs : List Nat} {f : Nat} {L : Array Bool} {a : Act} {w : World} (hr : Region.ready md ops L = rs) (hne : rs ≠ []) (h : AllZ P md ops Q S Z f L a w rs) : wpZ P md ops Q S Z (f + 1) L a w :=
  ⟨fun h0 => absurd (hr.symm.trans h0) hne, fun i hi => h i (by rw [← hr]; exact hi)⟩
theorem wpZ_done {P : Program} {ops : Array Oper} {Q : Exit → Act → World → Prop} {md : Region.Mode} {S : World → Prop} {Z : Nat → Bool} {L : Array Bool} {a : Act} {w : World} (hr : Region.ready md ops L = []) (h : Q .normal a w) (f : Nat) : wpZ P md ops Q S Z f L a w := by
  cases f with
  | zero => exact ⟨hr, h⟩
  | succ f => exact ⟨fun _ => h, fun i hi => by rw [hr] at hi; cases hi⟩
theorem wp_region_z {P : Program} {ops : Array Oper} {Q : Exit → Act → World → Prop} {id : Nat} {a : Act} {w : World} (Z : Nat → Bool) (S : World → Prop) (hm : P.follows .mixedOrders = true) (h : wpZ P .any ops Q S Z ops.size (Array.replicate ops.size false) a w.drew) : (Code.region id ops true).wp P Q a w :=
  wp_region_any hm (wpAny_of_z _ _ _ _ h)
end Go.Proofs.YtdmpobegobfpjaaGreat
namespace Go.Proofs.YtdmpobegobfpjaaGreat
open Go.RowKit
open Go.Sort (grow)
def RwX (W : World) (base b : Nat) (xs : List (tx.TV × tx.T7)) : Prop := AtX W b 0 xs ∧ Room W b (xs.length * 7) ∧ base ≤ b ∧ b < W.heap.size
theorem RwX.later {W W' : World} {base b : Nat} {xs : List (tx.TV × tx.T7)} (h : RwX W base b xs) (hb : Below W.heap.size W W') : RwX W' base b xs := ⟨h.1.below hb h.2.2.2, h.2.1.below hb h.2.2.2, h.2.2.1, Nat.lt_of_lt_of_le h.2.2.2 hb.size⟩
theorem RwX.put {W : World} {base b i : Nat} {xs : List (tx.TV × tx.T7)} (h : RwX W base b xs) (hi : i < xs.length) (y : tx.TV × tx.T7) : RwX (putB W b (i * 7) (cellsT y)) base b (xs.set i y) := by
  refine ⟨fun j x hx t u hu => ?_, by rw [List.length_set]; exact putB_room _ _ _ h.2.1, h.2.2.1, by rw [putB_size]; exact h.2.2.2⟩
  have ht : t < 7 := by have := (List.getElem?_eq_some_iff.1 hu).1; rwa [cellsT_len] at this
  rw [Nat.zero_add]
  by_cases e : i = j
  · subst e
    rw [List.getElem?_set_self hi] at hx
    cases hx
    exact putB_cell (cellsT y) W (i * 7) (fun j h1 h2 => by
      rw [cellsT_len] at h2
      obtain ⟨v, hv, _⟩ := h.2.1 j (by omega)
      exact ⟨v, hv⟩) t u hu
  · rw [List.getElem?_set_ne e] at hx
    have := h.1 j x hx t u hu
    rw [Nat.zero_add] at this
    rw [putB_out _ _ _ (by rw [cellsT_len]; omega)]
    exact this
theorem RowX.rw {W : World} {base b c : Nat} {xs : List (tx.TV × tx.T7)} (h : RowX W base (.slice (some ⟨b, 0, none⟩) xs.length c) xs) : RwX W base b xs := by
  have ha := RowX.at h
  refine ⟨ha.1, fun j hj => ?_, ha.2.1, ha.2.2.1⟩
  rcases h.2 with ⟨e, h0⟩ | ⟨q, cap, cur, e, hb, hg, hl, hm, hsz, hcur⟩
  · cases e
  · cases e
    have hj' : j < cur.size := by rw [hsz]; exact Nat.lt_of_lt_of_le hj (Nat.mul_le_mul_right _ hl)
    exact ⟨cur[j], by simp [World.cell?, hg, hj'], by simp [World.frozen?, hg]⟩
set_option maxHeartbeats 2000000 in
theorem cmpOr_any (w : World) (b : Nat) (x y : Int) (h0 : w.cell? ⟨b, 0, none⟩ = some (.int .i64 x)) (h1 : w.cell? ⟨b, 1, none⟩ = some (.int .i64 y)) :
    Calls Tryz.prog 125 #[.slice (some ⟨b, 0, none⟩) 2 2] w fun e w' => e = .returned (.int .i64 (if x = 0 then y else x)) ∧ w' = w := by
  obtain ⟨z, hz⟩ : ∃ z, z = if x = 0 then y else x := ⟨_, rfl⟩
  rw [← hz]
  have HZ := hidOf hz
  clear hz
  go_enter Tryz.func125, Tryz.ntmps125
  go_wp2
  go_loopw [8] (fun v wr => ∃ j : Nat, j ≤ 2 ∧ v = .int .i64 j ∧ wr = w ∧ (1 ≤ j → x = 0) ∧ (2 ≤ j → y = 0)) (fun v _ => 2 - (intOf v).toNat)
  case atStart => exact ⟨0, by omega, rfl, rfl, fun h => absurd h (by omega), fun h => absurd h (by omega)⟩
  case round =>
    obtain ⟨j, hj, rfl, rfl, hx, hy⟩ := hrel
    rcases j with _ | _ | _ | j
    · by_cases e : x = 0
      · have d : (x != 0) = false := by simp [e]
        have HX := hidOf e
        clear hx hy e
        go_wp2
        exact ⟨⟨1, by omega, by simp, by simp, fun _ => HX.out, fun h => absurd h (by omega)⟩, by simp [intOf]⟩
      · have d : (x != 0) = true := by simp [e]
        have HX := hidOf e
        clear hx hy e
        go_wp2
        go_ret
        exact ⟨by rw [HZ.out, if_neg HX.out]; rfl, rfl⟩
    · have HX : Hid (x = 0) := hx (by omega)
      by_cases e : y = 0
      · have d : (y != 0) = false := by simp [e]
        have HY := hidOf e
        clear hx hy e
        go_wp2
        exact ⟨⟨2, by omega, by simp, by simp, fun _ => HX.out, fun _ => HY.out⟩, by simp [intOf]⟩
      · have d : (y != 0) = true := by simp [e]
        clear hx hy e
        go_wp2
        go_ret
        exact ⟨by rw [HZ.out, if_pos HX.out]; rfl, rfl⟩
    · have HX : Hid (x = 0 ∧ y = 0) := ⟨hx (by omega), hy (by omega)⟩
      clear hx hy
      go_wp2
      go_ret
      exact ⟨by rw [HZ.out, if_pos HX.out.1, HX.out.2]; rfl, rfl⟩
    · omega
def stmC (a b : tx.T7) : Int := if cmpI a.stamp b.stamp = 0 then cmpI a.id b.id else cmpI a.stamp b.stamp
theorem stmC_less {a b : tx.T7} (h : b.id < a.id) : decide (stmC a b < 0) = decide (a.stamp < b.stamp) := by
  unfold stmC cmpI
  by_cases h1 : a.stamp < b.stamp
  · simp [h1]
  · by_cases h2 : b.stamp < a.stamp
    · simp [h1, h2]
    · have h3 : ¬ a.id < b.id := by omega
      simp [h1, h2, h3, h]
set_option maxRecDepth 100000 in
set_option maxHeartbeats 8000000 in
theorem byStamp_any (w : World) (u v : tx.TV) (s t : tx.T7) :
    Calls Tryz.prog 71 #[.agg #[.int .i64 s.id, .int .i64 s.home, .int .i64 s.phase, .int .i64 s.count, .slice u.ar s.reads.length u.cr, .slice u.ah s.sets.length u.ch, .int .i64 s.stamp], .agg #[.int .i64 t.id, .int .i64 t.home, .int .i64 t.phase, .int .i64 t.count, .slice v.ar t.reads.length v.cr, .slice v.ah t.sets.length v.ch, .int .i64 t.stamp]] w fun e w' => e = .returned (.int .i64 (stmC s t)) ∧ Below w.heap.size w w' := by
  obtain ⟨U, hU⟩ : ∃ Y, Y = (w.alloc (.cells #[.int .i64 s.id, .int .i64 s.home, .int .i64 s.phase, .int .i64 s.count, .slice u.ar s.reads.length u.cr, .slice u.ah s.sets.length u.ch, .int .i64 s.stamp] 55)).alloc (.cells #[.int .i64 t.id, .int .i64 t.home, .int .i64 t.phase, .int .i64 t.count, .slice v.ar t.reads.length v.cr, .slice v.ah t.sets.length v.ch, .int .i64 t.stamp] 55) := ⟨_, rfl⟩
  obtain ⟨U0, hU0⟩ : ∃ Y, Y = w.alloc (.cells #[.int .i64 s.id, .int .i64 s.home, .int .i64 s.phase, .int .i64 s.count, .slice u.ar s.reads.length u.cr, .slice u.ah s.sets.length u.ch, .int .i64 s.stamp] 55) := ⟨_, rfl⟩
  have b0 : Below w.heap.size w U0 := by rw [hU0]; exact (Below.refl _ _).alloc (Nat.le_refl _) _
  have s0 : U0.heap.size = w.heap.size + 1 := by rw [hU0]; simp
  have x0 : Bx U0 w.heap.size [.int .i64 s.id, .int .i64 s.home, .int .i64 s.phase, .int .i64 s.count, .slice u.ar s.reads.length u.cr, .slice u.ah s.sets.length u.ch, .int .i64 s.stamp] := by rw [hU0]; exact Bx.made w [.int .i64 s.id, .int .i64 s.home, .int .i64 s.phase, .int .i64 s.count, .slice u.ar s.reads.length u.cr, .slice u.ah s.sets.length u.ch, .int .i64 s.stamp] _
  have hU1 : U = U0.alloc (.cells #[.int .i64 t.id, .int .i64 t.home, .int .i64 t.phase, .int .i64 t.count, .slice v.ar t.reads.length v.cr, .slice v.ah t.sets.length v.ch, .int .i64 t.stamp] 55) := by rw [hU, hU0]
  have b1 : Below U0.heap.size U0 U := by rw [hU1]; exact (Below.refl _ _).alloc (Nat.le_refl _) _
  have x1 : Bx U (w.heap.size + 1) [.int .i64 t.id, .int .i64 t.home, .int .i64 t.phase, .int .i64 t.count, .slice v.ar t.reads.length v.cr, .slice v.ah t.sets.length v.ch, .int .i64 t.stamp] := by rw [hU1, ← s0]; exact Bx.made U0 [.int .i64 t.id, .int .i64 t.home, .int .i64 t.phase, .int .i64 t.count, .slice v.ar t.reads.length v.cr, .slice v.ah t.sets.length v.ch, .int .i64 t.stamp] _
  have BU : Hid (Below w.heap.size w U ∧ w.heap.size + 1 < U.heap.size) := ⟨bstep b0 b1, x1.2.2⟩
  have x0' := x0.later b1
  have hS : (fun X : World => Below U.heap.size U X ∧ X.cell? ⟨w.heap.size, 6, none⟩ = some (.int .i64 s.stamp) ∧ X.cell? ⟨w.heap.size, 0, none⟩ = some (.int .i64 s.id) ∧ X.cell? ⟨w.heap.size + 1, 6, none⟩ = some (.int .i64 t.stamp) ∧ X.cell? ⟨w.heap.size + 1, 0, none⟩ = some (.int .i64 t.id)) U.drew := ⟨(Below.refl _ _).drew, x0'.1 6 _ rfl, x0'.1 0 _ rfl, x1.1 6 _ rfl, x1.1 0 _ rfl⟩
  have KS : Hid (stmC s t = if cmpI s.stamp t.stamp = 0 then cmpI s.id t.id else cmpI s.stamp t.stamp) := rfl
  clear hU0 hU1 b0 b1 x0 x0' x1 s0 U0
  generalize stmC s t = sc at *
  go_enter Tryz.func71, Tryz.ntmps71
  go_wp2_with fail
  rw [← hU]
  clear hU
  refine wp_region_z (fun _ => false) (fun X : World => Below U.heap.size U X ∧ X.cell? ⟨w.heap.size, 6, none⟩ = some (.int .i64 s.stamp) ∧ X.cell? ⟨w.heap.size, 0, none⟩ = some (.int .i64 s.id) ∧ X.cell? ⟨w.heap.size + 1, 6, none⟩ = some (.int .i64 t.stamp) ∧ X.cell? ⟨w.heap.size + 1, 0, none⟩ = some (.int .i64 t.id)) (by kernel_rfl) ?_
  generalize U.drew = Wd at *
  refine wpZ_takeP (i := 0) (v := ?_) rfl (by kernel_rfl) (fun _ _ _ h => h) (Or.inl ⟨by rfl, ?_⟩) hS ?_
  rotate_left
  · (intro w _; go_simp; first | done | with_reducible rfl)
  simp only [Act.put]
  refine wpZ_take (i := 1) (v := ?_) rfl (by kernel_rfl) (fun _ _ _ h => h) (Or.inl ⟨by rfl, ?_⟩) hS ?_
  rotate_left
  · (intro w hSw; obtain ⟨-, s0, s1, s2, s3⟩ := hSw; go_simp; first | done | with_reducible rfl)
  simp only [Act.put]
  refine wpZ_takeP (i := 2) (v := ?_) rfl (by kernel_rfl) (fun _ _ _ h => h) (Or.inl ⟨by rfl, ?_⟩) hS ?_
  rotate_left
  · (intro w _; go_simp; first | done | with_reducible rfl)
  simp only [Act.put]
  refine wpZ_take (i := 3) (v := ?_) rfl (by kernel_rfl) (fun _ _ _ h => h) (Or.inl ⟨by rfl, ?_⟩) hS ?_
  rotate_left
  · (intro w hSw; obtain ⟨-, s0, s1, s2, s3⟩ := hSw; go_simp; first | done | with_reducible rfl)
  simp only [Act.put]
  refine wpZ_takeP (i := 5) (v := ?_) rfl (by kernel_rfl) (fun _ _ _ h => h) (Or.inl ⟨by rfl, ?_⟩) hS ?_
  rotate_left
  · (intro w _; go_simp; first | done | with_reducible rfl)
  simp only [Act.put]
  refine wpZ_take (i := 6) (v := ?_) rfl (by kernel_rfl) (fun _ _ _ h => h) (Or.inl ⟨by rfl, ?_⟩) hS ?_
  rotate_left
  · (intro w hSw; obtain ⟨-, s0, s1, s2, s3⟩ := hSw; go_simp; first | done | with_reducible rfl)
  simp only [Act.put]
  refine wpZ_takeP (i := 7) (v := ?_) rfl (by kernel_rfl) (fun _ _ _ h => h) (Or.inl ⟨by rfl, ?_⟩) hS ?_
  rotate_left
  · (intro w _; go_simp; first | done | with_reducible rfl)
  simp only [Act.put]
  refine wpZ_take (i := 8) (v := ?_) rfl (by kernel_rfl) (fun _ _ _ h => h) (Or.inl ⟨by rfl, ?_⟩) hS ?_
  rotate_left
  · (intro w hSw; obtain ⟨-, s0, s1, s2, s3⟩ := hSw; go_simp; first | done | with_reducible rfl)
  simp only [Act.put]
  refine wpZ_ready (rs := [4]) (by kernel_rfl) (by simp) ?_
  refine AllZ.cons rfl (fun K hK => ?_) AllZ.nil
  go_simp
  refine (compare_any _ _ _).mono ?_
  rintro e X2 ⟨rfl, rfl⟩
  refine hK.out _ _ (fun _ => hS) ?_
  clear hK K
  refine wpZ_ready (rs := [9]) (by kernel_rfl) (by simp) ?_
  refine AllZ.cons rfl (fun K hK => ?_) AllZ.nil
  go_simp
  refine (compare_any _ _ _).mono ?_
  rintro e X2 ⟨rfl, rfl⟩
  refine hK.out _ _ (fun _ => hS) ?_
  clear hK K
  generalize cmpI s.stamp t.stamp = c1 at *
  generalize cmpI s.id t.id = c2 at *
  refine wpZ_ready (rs := [10]) (by kernel_rfl) (by simp) ?_
  refine AllZ.cons rfl (fun K hK => ?_) AllZ.nil
  go_simp
  have hA : ∀ o, Below U.heap.size U (X2.alloc o) ∧ (X2.alloc o).cell? ⟨w.heap.size, 6, none⟩ = some (.int .i64 s.stamp) ∧ (X2.alloc o).cell? ⟨w.heap.size, 0, none⟩ = some (.int .i64 s.id) ∧ (X2.alloc o).cell? ⟨w.heap.size + 1, 6, none⟩ = some (.int .i64 t.stamp) ∧ (X2.alloc o).cell? ⟨w.heap.size + 1, 0, none⟩ = some (.int .i64 t.id) := fun o => by
    have h1 := hS.1.size
    have h2 := BU.out.2
    have b : Below X2.heap.size X2 (X2.alloc o) := (Below.refl _ _).alloc (Nat.le_refl _) o
    have hc : ∀ q j, q < X2.heap.size → (X2.alloc o).cell? ⟨q, j, none⟩ = X2.cell? ⟨q, j, none⟩ := fun q j hq => b.cell (p := ⟨q, j, none⟩) hq
    exact ⟨hS.1.alloc h1 o, (hc _ _ (by omega)).trans hS.2.1, (hc _ _ (by omega)).trans hS.2.2.1, (hc _ _ (by omega)).trans hS.2.2.2.1, (hc _ _ (by omega)).trans hS.2.2.2.2⟩
  refine hK.out _ _ (fun _ => hA _) ?_
  clear hK K
  refine wpZ_ready (rs := [11]) (by kernel_rfl) (by simp) ?_
  refine AllZ.cons rfl (fun K hK => ?_) AllZ.nil
  go_simp
  refine (cmpOr_any _ _ c1 c2 (by go_simp) (by go_simp)).mono ?_
  rintro e X3 ⟨rfl, rfl⟩
  refine hK.out _ _ (fun _ => hA _) ?_
  clear hK K
  refine wpZ_ready (rs := [12]) (by kernel_rfl) (by simp) ?_
  refine AllZ.cons rfl (fun K hK => ?_) AllZ.nil
  go_simp
  refine hK.out _ _ (fun _ => hA _) ?_
  clear hK K
  refine wpZ_done (by kernel_rfl) ?_ _
  rw [← KS.out]
  have HE : Hid (∀ o, Below w.heap.size w (X2.alloc o)) := fun o => bstep BU.out.1 (hA o).1
  clear hA hS KS
  go_wp2
  go_ret
  exact ⟨rfl, HE.out _⟩
end Go.Proofs.YtdmpobegobfpjaaGreat