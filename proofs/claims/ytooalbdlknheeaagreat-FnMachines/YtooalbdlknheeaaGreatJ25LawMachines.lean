/- MclI; StrM; NumP: joined. -/
import Derived.Test.YtooalbdlknheeaaGreatRows
import Derived.Test.YtooalbdlknheeaaGreatJ24LawMachines
import Derived.Test.YtooalbdlknheeaaGreatJ23LawMachines
import Derived.WalkKit
import Derived.WalkSpells
import Derived.WalkLawsBesides
import Derived.Below
import Derived.Lib.QuietBelow
import Derived.BigQuiet
import Derived.Deep.CutRange
import Derived.Test.YtooalbdlknheeaaGreatJ12LawMachines
import Derived.Test.YtooalbdlknheeaaGreatOwnIJ
import Derived.Maps.AppendAt
import Derived.Laws.OwnMore
import Derived.Deep.AppendLies
import Derived.Deep.Heap
/- An Id marked as cleared, by the program. -/
namespace Go.Proofs.YtooalbdlknheeaaGreat
open Go.RowKit
open Go.Sort (grow)
theorem owns_form {w : World} {base n : Nat} {v : Value} {zs : List Int} (h : w.ownsRow base 2 1 v n (zs.map (Value.int .i64))) (hn : zs.length = n) : ∃ a c, v = .slice a n c ∧ SlN w w.heap.size a n zs := by
  have h' := h
  obtain ⟨_, hc⟩ := h
  rcases hc with ⟨rfl, h0⟩ | ⟨g, cap, cur, rfl, _⟩
  · subst h0
    exact ⟨none, 0, rfl, hn, .inl rfl⟩
  · obtain ⟨_, hr, _, _, _, hl⟩ := blk_of_owns h'
    exact ⟨_, cap, rfl, hn, .inr ⟨g, 0, rfl, hl, fun j z hz => by rw [Nat.zero_add]; exact hr j _ (by rw [List.getElem?_map, hz]; rfl)⟩⟩
theorem owns_keep {w w' : World} {base n : Nat} {v : Value} {xs : List Value} {T : TypeId} {sz : Nat} (h : w.ownsRow base T sz v n xs) (hk : ∀ q, v.ownBlock = some q → w'.heap[q]? = w.heap[q]?) : w'.ownsRow base T sz v n xs := by
  obtain ⟨h1, h2⟩ := h
  refine ⟨h1, h2.imp id ?_⟩
  rintro ⟨g, cap, cur, rfl, r1, r2, r3⟩
  exact ⟨g, cap, cur, rfl, r1, (hk g rfl).trans r2, r3⟩
theorem owns_lt {w : World} {base n q : Nat} {v : Value} {xs : List Value} {T : TypeId} {sz : Nat} (h : w.ownsRow base T sz v n xs) (e : v.ownBlock = some q) : q < w.heap.size := (World.ownsRow.lt h q e).2
/-- The Ids that are cleared, with one more under way. -/
def McAns (w : World) (s base : Nat) (vd : Value) (zs : List Int) (y : Int) (e : Ending) (w' : World) : Prop :=
  (hasN zs y = true ∧ e = .returned (.bool true) ∧ w' = w) ∨ (hasN zs y = false ∧ zs.length = 60 ∧ e = .returned (.bool false) ∧ w' = w) ∨
  (hasN zs y = false ∧ zs.length < 60 ∧ ∃ (i : Nat) (vd' : Value) (W : World), PosN zs y i ∧ e = .returned (.bool true) ∧ W.ownsRow base 2 1 vd' (zs.length + 1) ((insZ zs i y).map (Value.int .i64)) ∧ w.grownBy W vd.ownBlock ∧ (vd'.ownBlock = vd.ownBlock ∨ ∃ q, vd'.ownBlock = some q ∧ w.heap.size ≤ q) ∧ w' = W.setCell ⟨s, 3, none⟩ vd')
set_option maxRecDepth 100000 in
set_option maxHeartbeats 4000000 in
theorem markCleared_any (w : World) (s base : Nat) (vd : Value) (zs : List Int) (y : Int) (hs : w.cell? ⟨s, 3, none⟩ = some vd) (hf : w.frozen? ⟨s, 3, none⟩ = false) (hsl : s < w.heap.size) (hds : vd.ownBlock ≠ some s) (hown : w.ownsRow base 2 1 vd zs.length (zs.map (Value.int .i64))) (hn : zs.length ≤ 60) (hu : UpN zs) (hbase : base ≤ w.heap.size) :
    Calls Tryz.prog 73 #[.pointer (some ⟨s, 0, none⟩), .int .i64 y] w (McAns w s base vd zs y) := by
  obtain ⟨a, c, rfl, hsn⟩ := owns_form hown rfl
  have hb := bsearchN_any w a zs.length c zs y (by omega) hu hsn
  have H : Hid (w.ownsRow base 2 1 (.slice a zs.length c) zs.length (zs.map (Value.int .i64)) ∧ UpN zs ∧ base ≤ w.heap.size ∧ (Value.slice a zs.length c).ownBlock ≠ some s) := ⟨hown, hu, hbase, hds⟩
  clear hsn hown hu hbase hds
  go_enter Tryz.func73, Tryz.ntmps73
  go_wp2_with fail
  refine hb.mono ?_
  clear hb
  rintro e w1 ⟨i, rfl, hp, rfl⟩
  have HF := hasN_found H.out.2.1 hp
  have HP := hidOf hp
  cases hh : hasN zs y with
  | true =>
    rw [hh] at HF
    rw [HF]
    clear HF hp
    go_wp2
    go_ret
    exact .inl ⟨hh, rfl, rfl⟩
  | false =>
    rw [hh] at HF
    rw [HF]
    clear HF hp
    by_cases h60 : zs.length = 60
    · have q : ((zs.length : Int) == 60) = true := by simp; omega
      go_wp2
      go_ret
      exact .inr (.inl ⟨hh, h60, rfl, rfl⟩)
    · have q : ((zs.length : Int) == 60) = false := by simp; omega
      obtain ⟨W0, hW0⟩ : ∃ X, X = w1.alloc (.cells #[.int .i64 y] 2) := ⟨_, rfl⟩
      have b0 : Below w1.heap.size w1 W0 := by rw [hW0]; exact (Below.refl _ _).alloc (Nat.le_refl _) _
      have hV : Blk W0 w1.heap.size 2 1 := ⟨#[.int .i64 y], by rw [hW0]; show (w1.heap.push _)[w1.heap.size]? = _; simp, rfl⟩
      have hv : W0.cell? ⟨w1.heap.size, 0, none⟩ = some (.int .i64 y) := by rw [hW0]; go_simp
      have hz : W0.heap.size = w1.heap.size + 1 := by rw [hW0]; simp
      have hc := insN_any W0 base (.slice a zs.length c) zs y i w1.heap.size 1 (owns_keep H.out.1 (fun q hq => b0.block q (owns_lt H.out.1 hq))) (by omega) HP.out.le hV (by omega) hv (fun e => by have := owns_lt H.out.1 e; omega) (by have := H.out.2.2.1; omega)
      have KB : Hid (Below w1.heap.size w1 W0 ∧ W0.heap.size = w1.heap.size + 1) := ⟨b0, hz⟩
      have HS : Hid (w1.cell? ⟨s, 3, none⟩ = some (.slice a zs.length c) ∧ w1.frozen? ⟨s, 3, none⟩ = false) := ⟨hs, hf⟩
      clear b0 hV hv hz
      go_wp2_with fail
      rw [← hW0]
      clear hW0
      refine hc.mono ?_
      clear hc hs hf
      rintro e W ⟨v', rfl, ho, hg, hl⟩
      have hne : (Value.slice a zs.length c).ownBlock ≠ some s := H.out.2.2.2
      have hbl : W.heap[s]? = w1.heap[s]? := (hg.block s (by have := KB.out.2; omega) (fun e => hne e.symm)).trans (KB.out.1.block s hsl)
      have c3 := (World.cell?_of_block (a := ⟨s, 3, none⟩) hbl).trans HS.out.1
      have f3 := (World.frozen?_of_block (a := ⟨s, 3, none⟩) hbl).trans HS.out.2
      obtain ⟨a', c', rfl, _⟩ := owns_form ho (insZ_len HP.out.le)
      have KW : Hid (W.ownsRow base 2 1 (.slice a' (zs.length + 1) c') (zs.length + 1) ((insZ zs i y).map (Value.int .i64)) ∧ w1.grownBy W (Value.slice a zs.length c).ownBlock ∧ ((Value.slice a' (zs.length + 1) c').ownBlock = (Value.slice a zs.length c).ownBlock ∨ ∃ q, (Value.slice a' (zs.length + 1) c').ownBlock = some q ∧ w1.heap.size ≤ q)) := ⟨ho, ⟨hg.os.trans KB.out.1.os, hg.tape.trans KB.out.1.tape, hg.output.trans KB.out.1.output, Nat.le_trans KB.out.1.size hg.size, fun k hk hx => (hg.block k (by have := KB.out.2; omega) hx).trans (KB.out.1.block k hk)⟩, hl.imp id (fun e => ⟨_, e, by have := KB.out.2; omega⟩)⟩
      clear ho hg hl hbl hne
      go_wp2
      go_ret
      exact .inr (.inr ⟨hh, by omega, i, _, W, HP.out, rfl, KW.out.1, KW.out.2.1, KW.out.2.2, rfl⟩)
end Go.Proofs.YtooalbdlknheeaaGreat
/- A machine under way: records struck out, an Id cleared. -/
namespace Go.Proofs.YtooalbdlknheeaaGreat
open Go.RowKit
open Go.Sort (grow)
theorem struck_sub {b n cap : Nat} {rs : List R4} {gr : Nat → Nat} {K : List Nat} (hl : rs.length = n) (hKn : ∀ (x i : Nat), K[x]? = some i → i < n) {q : Nat} (h : blocksG (.slice (some ⟨b, 0, none⟩) K.length cap) (K.map (atR rs)) (fun x => gr (K[x]?.getD 0)) q) : blocksG (.slice (some ⟨b, 0, none⟩) n cap) rs gr q := by
  rcases h with h | ⟨x, hx, h⟩
  · exact .inl h
  · have h1 := List.getElem?_eq_getElem (l := K) (i := x) (by simpa using hx)
    refine .inr ⟨K[x]'(by simpa using hx), ?_, ?_⟩
    · have := hKn x _ h1; omega
    · simpa only [h1, Option.getD_some] using h
/-- A machine under way whose records are struck out. -/
theorem MR.struck {base p : Nat} {X W : World} {vk vd : Value} {b n cap : Nat} {ks : List K2} {rs : List R4} {zs : List Int} {gk gr : Nat → Nat} {caps : Nat → Nat} {K : List Nat} (h : MR base p X vk (.slice (some ⟨b, 0, none⟩) n cap) vd ks rs zs gk gr) (hl : rs.length = n) (hcp : ∀ i, i < n → lnR (atR rs i) ≤ caps i) (hcap : cap ≤ maxLen) (hbb : base ≤ b) (hKn : ∀ (x i : Nat), K[x]? = some i → i < n) (hKd : K.Nodup) (hKl : K.length ≤ cap) (ht : Turned b X W) (hB : Blk W b 41 (cap * 4)) (hat : ∀ (x i : Nat), K[x]? = some i → At W b (x * 4) (rc (atR rs i) (some ⟨gr i, 0, none⟩) (caps i))) :
    MR base p W vk (.slice (some ⟨b, 0, none⟩) K.length cap) vd ks (K.map (atR rs)) zs gk (fun x => gr (K[x]?.getD 0)) := by
  have hbr : blocksG (.slice (some ⟨b, 0, none⟩) n cap) rs gr b := .inl rfl
  exact ⟨h.gK.keep AtK.of_block ht.size (fun q hq hb => ht.block q hq (fun e => h.kr q hb (e ▸ hbr))), h.gR.struck hl hcp hcap hbb hKn hKd hKl ht hB hat,
    owns_keep h.gD (fun q hq => ht.block q (owns_lt h.gD hq) (fun e => h.rd b hbr (e ▸ hq))),
    fun q hq hr => h.kr q hq (struck_sub hl hKn hr), h.kd, fun q hq => h.rd q (struck_sub hl hKn hq), h.kp, fun q hq => h.rp q (struck_sub hl hKn hq), h.dp⟩
/-- A machine under way with other Ids cleared. -/
theorem MR.cleared {base p : Nat} {X W : World} {vk vr vd vd' : Value} {ks : List K2} {rs : List R4} {zs zs' : List Int} {gk gr : Nat → Nat} (h : MR base p X vk vr vd ks rs zs gk gr) (hp : p < X.heap.size) (hg : X.grownBy W vd.ownBlock) (ho : W.ownsRow base 2 1 vd' zs'.length (zs'.map (Value.int .i64))) (hl : vd'.ownBlock = vd.ownBlock ∨ ∃ q, vd'.ownBlock = some q ∧ X.heap.size ≤ q) : MR base p W vk vr vd' ks rs zs' gk gr := by
  have hk : ∀ q, blocksG vk ks gk q → q < X.heap.size := fun q hq => (h.gK.blocks hq).2
  have hr : ∀ q, blocksG vr rs gr q → q < X.heap.size := fun q hq => (h.gR.blocks hq).2
  have out : ∀ q, q < X.heap.size → vd.ownBlock ≠ some q → vd'.ownBlock ≠ some q := fun q hq hne e => by
    rcases hl with hl | ⟨x, hx, hxl⟩
    · exact hne (hl ▸ e)
    · rw [hx] at e; injection e with e; omega
  exact ⟨h.gK.keep AtK.of_block hg.size (fun q hq hb => hg.block q hq (fun e => h.kd q hb e.symm)), h.gR.keep AtR.of_block hg.size (fun q hq hb => hg.block q hq (fun e => h.rd q hb e.symm)), ho, h.kr, fun q hq => out q (hk q hq) (h.kd q hq), fun q hq => out q (hr q hq) (h.rd q hq), h.kp, h.rp, out p hp h.dp⟩
end Go.Proofs.YtooalbdlknheeaaGreat
/- Rows of numbers that append makes longer, and where a number is put into a row that rises. -/
namespace Go.Proofs.YtooalbdlknheeaaGreat
open Go.RowKit
/-- A row of numbers of the call's own. -/
def RowZ (W : World) (base : Nat) (v : Value) (zs : List Int) : Prop := W.ownsRow base 2 1 v zs.length (zs.map (Value.int .i64))
theorem RowZ.lt {W : World} {base : Nat} {v : Value} {zs : List Int} (h : RowZ W base v zs) {q : Nat} (e : v.ownBlock = some q) : base ≤ q ∧ q < W.heap.size := World.ownsRow.lt h q e
theorem RowZ.keep {W W' : World} {base : Nat} {v : Value} {zs : List Int} (h : RowZ W base v zs) (hk : ∀ q, v.ownBlock = some q → W'.heap[q]? = W.heap[q]?) : RowZ W' base v zs := owns_keep h hk
theorem RowZ.later {W W' : World} {base : Nat} {v : Value} {zs : List Int} (h : RowZ W base v zs) (hb : Below W.heap.size W W') : RowZ W' base v zs := owns_keep h (fun q e => hb.block q (owns_lt h e))
theorem RowZ.made (W : World) : RowZ (W.alloc (.cells #[] 2)) W.heap.size (.slice (some ⟨W.heap.size, 0, none⟩) 0 0) [] := World.ownsRow_made W #[] 0 (Nat.le_refl _) (Nat.zero_le _) rfl
theorem RowZ.form {W : World} {base : Nat} {v : Value} {zs : List Int} (h : RowZ W base v zs) : ∃ a c, v = .slice a zs.length c ∧ zs.length ≤ c ∧ SlN W W.heap.size a zs.length zs := by
  obtain ⟨a, c, rfl, hs⟩ := owns_form h rfl
  refine ⟨a, c, rfl, ?_, hs⟩
  rcases h.2 with ⟨e, h0⟩ | ⟨q, cap, cur, e, _, _, hl, _⟩
  · omega
  · injection e with _ _ e3; omega
theorem pushZ {W : World} {base : Nat} {v : Value} {zs : List Int} (h : RowZ W base v zs) (ys : List Int) (hm : zs.length + ys.length ≤ 1048576) (ty : TypeId) (a : Option Addr) (k : Nat) (src : SlN W W.heap.size a ys.length ys) (hbase : base ≤ W.heap.size) :
    ∃ a' c' W', (Builtin.append_ #[26, 26] ty #[v, .slice a ys.length k]).run Tryz.prog W = .ok (.slice a' (zs ++ ys).length c') W' ∧ RowZ W' base (.slice a' (zs ++ ys).length c') (zs ++ ys) ∧ W.grownBy W' v.ownBlock ∧ ((Value.slice a' (zs ++ ys).length c').ownBlock = v.ownBlock ∨ (Value.slice a' (zs ++ ys).length c').ownBlock = some W.heap.size) := by
  obtain ⟨i0, hi0, hz0, hz1, hz2⟩ := partsOf infoI64
  obtain ⟨a0, c0, rfl, hle, -⟩ := h.form
  by_cases e : ys = []
  · subst e
    simp only [List.append_nil]
    refine ⟨a0, c0, W, ?_, h, ⟨rfl, rfl, rfl, Nat.le_refl _, fun _ _ _ => rfl⟩, .inl rfl⟩
    refine run_append_nothing W 26 26 ty 2 i0 Tryz.underlying26 hi0 a0 zs.length c0 hle (.slice a 0 k) ?_
    cases a with
    | none => exact Src.ofNil W Tryz.underlying26 k
    | some x => exact Src.ofSlice W Tryz.underlying26 x 0 k [] (by simp) (fun j u hu => by simp at hu) (fun u hu => by cases hu)
  · have hpos : 0 < ys.length := List.length_pos_iff.2 e
    obtain ⟨_, src⟩ := src
    rcases src with src | ⟨b, off, rfl, hb, hx⟩
    · omega
    have hadd : ∀ (b o j : Nat), (⟨b, o, none⟩ : Addr).add j = ⟨b, o + j, none⟩ := fun b o j => by unfold Addr.add; split <;> simp_all
    obtain ⟨v', W', hrun, hown, hg, _, hlies⟩ := run_append_own_at (P := Tryz.prog) W base 26 ty 2 i0 _ 1 8 Tryz.underlying26 hi0 hz0 hz1 hz2 rfl (by omega)
      _ zs.length _ h ⟨b, off, none⟩ ys.length k (ys.map (Value.int .i64)) (by simp) (fun j u hu => by
        rw [List.getElem?_map] at hu
        obtain ⟨z, hz, rfl⟩ := Option.map_eq_some_iff.1 hu
        rw [hadd]
        exact hx j z hz)
      (fun u hu => by obtain ⟨s, _, rfl⟩ := List.mem_map.1 hu; rfl) (by unfold maxLen; omega) (by omega) hbase
    rw [← List.map_append, ← List.length_append] at hown
    have hown' : RowZ W' base v' (zs ++ ys) := hown
    obtain ⟨a', c', rfl, -, -⟩ := hown'.form
    exact ⟨a', c', W', hrun, hown', hg, hlies⟩
/-- Where y is put into a row that rises. -/
def posZ (zs : List Int) (y : Int) : Nat := zs.findIdx fun z => !decide (z < y)
theorem atN_get {zs : List Int} {i : Nat} (h : i < zs.length) : atN zs i = zs[i] := by have := atN_of h; rw [List.getElem?_eq_getElem h] at this; exact (Option.some.inj this).symm
theorem posZ_at {zs : List Int} {y : Int} {k : Nat} (hk : k < zs.length) (h : ¬ atN zs k < y) (hall : ∀ j, j < k → atN zs j < y) : posZ zs y = k := by
  unfold posZ
  rw [List.findIdx_eq hk]
  refine ⟨by rw [← atN_get hk]; simpa using h, fun j hj => ?_⟩
  rw [← atN_get (by omega)]
  simpa using hall j hj
theorem posZ_all {zs : List Int} {y : Int} (hall : ∀ j, j < zs.length → atN zs j < y) : posZ zs y = zs.length := by
  unfold posZ
  rw [List.findIdx_eq_length]
  intro x hx
  obtain ⟨i, hi, rfl⟩ := List.getElem_of_mem hx
  have := hall i hi
  rw [atN_get hi] at this
  simpa using this
theorem posZ_of {zs : List Int} {y : Int} {i : Nat} (h : PosN zs y i) : posZ zs y = i := by
  by_cases e : i < zs.length
  · exact posZ_at e (by have := h.hi i (Nat.le_refl _) e; omega) h.lo
  · obtain rfl : i = zs.length := by have := h.le; omega
    exact posZ_all h.lo
/-- A number put into a row that rises. -/
def putZ (zs : List Int) (y : Int) : List Int := if hasN zs y = true then zs else insZ zs (posZ zs y) y
theorem putZ_of {zs : List Int} {y : Int} {i : Nat} (h : PosN zs y i) (hh : hasN zs y = false) : insZ zs i y = putZ zs y := by rw [putZ, if_neg (by simp [hh]), posZ_of h]
theorem putZ_has {zs : List Int} {y : Int} (hh : hasN zs y = true) : putZ zs y = zs := by rw [putZ, if_pos hh]
/-- What Clear answers. -/
def clearB (m : M4) (t : Int) (d : Bool) : Bool := machB m && inB 1 1000000 t && (!d || hasN m.cleared t || !decide (m.cleared.length = 60))
def clearD (m : M4) (t : Int) (d : Bool) : List Int := if d = true then putZ m.cleared t else m.cleared
def clearM (m : M4) (t g : Int) (d : Bool) : M4 := if clearB m t d = true then ⟨m.alive, m.copies, m.log.filter (fun r => !ofB t g r), clearD m t d⟩ else ⟨false, [], [], []⟩
theorem mach_upN {m : M4} (h : machB m = true) : UpN m.cleared := by
  simp only [machB, Bool.and_eq_true] at h
  refine UpN.of_all (List.all_eq_true.2 fun i hi => ?_)
  have h2 := List.all_eq_true.1 (show (List.range m.cleared.length).all (idAt m.cleared) = true from h.1.1.2) i hi
  cases i with
  | zero => rfl
  | succ i => simp [idAt] at h2; simp [upN]; omega
end Go.Proofs.YtooalbdlknheeaaGreat
