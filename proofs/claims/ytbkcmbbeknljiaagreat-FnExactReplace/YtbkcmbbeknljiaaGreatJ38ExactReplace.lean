/- InsB; MclI; StrM: joined. -/
import Derived.Test.YtbkcmbbeknljiaaGreatRows
import Derived.Test.YtbkcmbbeknljiaaGreatJ36ExactReplace
import Derived.WalkKit
import Derived.WalkSpells
import Derived.WalkLawsBesides
import Derived.Below
import Derived.Lib.QuietBelow
import Derived.BigQuiet
import Derived.Deep.CutRange
import Derived.Test.YtbkcmbbeknljiaaGreatJ34ExactReplace
import Derived.Test.YtbkcmbbeknljiaaGreatJ15ExactReplace
/- A number put into an own row of numbers: every road. -/
namespace Go.Proofs.YtbkcmbbeknljiaaGreat
open Go.RowKit
open Go.Sort (grow)
/-- Nothing but the row's block is turned; blocks may come. -/
theorem grown_of {w X : World} {b : Nat} (h : Turned b w X) : w.grownBy X (some b) := ⟨h.os, h.tape, h.output, h.size, fun k hk hne => h.block k hk (fun e => hne (by rw [e]))⟩
set_option maxHeartbeats 1000000 in
theorem insN_any (w : World) (base : Nat) (v : Value) (zs : List Int) (y : Int) (i vb vc : Nat) (hown : w.ownsRow base 2 1 v zs.length (zs.map (Value.int .i64))) (hn : zs.length ≤ 1000) (hi : i ≤ zs.length) (hV : Blk w vb 2 1) (hvl : vb < w.heap.size) (hv : w.cell? ⟨vb, 0, none⟩ = some (.int .i64 y)) (hne : v.ownBlock ≠ some vb) (hbase : base ≤ w.heap.size) :
    Calls Tryz.prog 136 #[v, .int .i64 (i : Int), .slice (some ⟨vb, 0, none⟩) 1 vc] w fun e w' => ∃ v', e = .returned v' ∧ w'.ownsRow base 2 1 v' (zs.length + 1) ((insZ zs i y).map (Value.int .i64)) ∧ w.grownBy w' v.ownBlock ∧ (v'.ownBlock = v.ownBlock ∨ v'.ownBlock = some w.heap.size) := by
  by_cases hend : i = zs.length
  · subst hend
    obtain ⟨i0, hi0, hzz⟩ := Option.map_eq_some_iff.1 infoN
    simp only [Prod.mk.injEq] at hzz
    obtain ⟨hz0, hz1, hz2⟩ := hzz
    obtain ⟨v', W', hr, ho, hg, _, hl⟩ := run_append_own_at (P := Tryz.prog) w base 26 26 2 i0 _ 1 8 Tryz.underlying26 hi0 hz0 hz1 hz2 rfl (by decide) v zs.length _ hown ⟨vb, 0, none⟩ 1 vc [.int .i64 y] rfl (fun j u hu => by
      rcases j with _ | j
      · simp at hu; subst hu; rw [Addr.add_lit]; exact hv
      · simp at hu) (fun u hu => by simp at hu; subst hu; rfl) (by unfold maxLen; omega) (by omega) hbase
    have he : (zs.map (Value.int .i64)) ++ [.int .i64 y] = (insZ zs zs.length y).map (Value.int .i64) := by simp [insZ]
    rw [he] at ho
    have hown' := hown
    obtain ⟨_, hcase⟩ := hown
    rcases hcase with ⟨rfl, h0⟩ | ⟨g, cap, cur, rfl, _, _, hc, _⟩
    · rw [h0]
      refine (insN_nil w W' vb vc v' hr).mono ?_
      rintro e w' ⟨rfl, rfl⟩
      rw [h0] at ho
      exact ⟨v', rfl, ho, hg, hl⟩
    · refine (insN_end w W' g zs.length cap vb vc v' hc hr).mono ?_
      rintro e w' ⟨rfl, rfl⟩
      exact ⟨v', rfl, ho, hg, hl⟩
  · have hlt : i < zs.length := by omega
    obtain ⟨hl0, hcase⟩ := hown
    rcases hcase with ⟨rfl, h0⟩ | ⟨g, cap, cur, rfl, hg1, hg2, hg3, hg4, hg5, hg6⟩
    · omega
    obtain ⟨hB, hrow, -, -, -, hgl⟩ := blk_of_owns (X := w) (base := base) (g := g) (n := zs.length) (cap := cap) (T := 2) (xs := zs.map (Value.int .i64)) ⟨hl0, .inr ⟨g, cap, cur, rfl, hg1, hg2, hg3, hg4, hg5, hg6⟩⟩
    have hr : ∀ j z, zs[j]? = some z → w.cell? ⟨g, j, none⟩ = some (.int .i64 z) := fun j z hz => hrow j _ (by rw [List.getElem?_map, hz]; rfl)
    have hvg : vb ≠ g := fun e => hne (by rw [e]; rfl)
    by_cases hcap : zs.length + 1 ≤ cap
    · refine (insN_shift w g zs.length cap i vb vc zs y hlt rfl hcap (by unfold maxLen at hg4; omega) hvg hB hV hr hv).mono ?_
      rintro e w' ⟨rfl, rfl⟩
      have hB1 : Blk (w.drew.setCells g (i + 1) ((zs.drop i).map (Value.int .i64))) g 2 cap := by rw [setCells_put]; exact Blk.put _ _ (Blk.keep hB rfl)
      refine ⟨_, rfl, owns_of_blk (by rw [setCells_put]; exact Blk.put _ _ hB1) (fun j u hu => ?_) (by simp [insZ_len hi]) hcap hg4 hg1, grown_of (by
        rw [setCells_put, setCells_put]
        exact Turned.put _ _ (Turned.put _ _ (Turned.refl g w).drew)), .inl rfl⟩
      rw [setCells_put, setCells_put]
      rcases insZ_at hi hu with ⟨h1, z, hz, rfl⟩ | ⟨rfl, rfl⟩ | ⟨h1, z, hz, rfl⟩
      · rw [putB_out _ _ _ (.inl h1), putB_out _ _ _ (.inl (by omega))]
        exact hr j z hz
      · have := putB_cell (s := g) [Value.int .i64 y] (putB w.drew g (j + 1) ((zs.drop j).map (Value.int .i64))) j (fun x h1 h2 => by
          obtain ⟨v, hv, _⟩ := (Blk.put ((zs.drop j).map (Value.int .i64)) (j + 1) (Blk.keep (Y := w.drew) hB rfl)).room x (by simp at h2; omega)
          exact ⟨v, hv⟩) 0 _ rfl
        simpa using this
      · rw [putB_out _ _ _ (.inr (by simp; omega))]
        have := putB_cell (s := g) ((zs.drop i).map (Value.int .i64)) w.drew (i + 1) (fun x h1 h2 => by
          obtain ⟨v, hv, _⟩ := (Blk.keep (Y := w.drew) hB rfl).room x (by simp at h2; omega)
          exact ⟨v, hv⟩) (j - (i + 1)) (.int .i64 z) (by rw [List.getElem?_map, List.getElem?_drop, show i + (j - (i + 1)) = j - 1 by omega, hz]; rfl)
        rwa [show i + 1 + (j - (i + 1)) = j by omega] at this
    · obtain rfl : cap = zs.length := by omega
      refine (insN_grow w g zs.length i vb vc zs y hlt rfl hn hgl hvl hr hv).mono ?_
      rintro e w' ⟨G, A0, k1, k2, k3, k4, k5, k6, rfl, rfl⟩
      have hB1 : Blk (A0.setCells w.heap.size i [.int .i64 y]).drew w.heap.size 2 G := by rw [setCells_put]; exact Blk.keep (Blk.put _ _ k5) rfl
      refine ⟨_, rfl, owns_of_blk (by rw [setCells_put]; exact Blk.put _ _ hB1) (fun j u hu => ?_) (by simp [insZ_len hi]) k1 k2 (Nat.le_trans hbase (Nat.le_refl _)), ?_, .inr rfl⟩
      · rw [setCells_put]
        have hj := (List.getElem?_eq_some_iff.1 hu).1
        simp [insZ_len hi] at hj
        rcases insZ_at hi hu with ⟨h1, z, hz, rfl⟩ | ⟨rfl, rfl⟩ | ⟨h1, z, hz, rfl⟩
        · rw [putB_out _ _ _ (.inl (by omega))]
          show (A0.setCells w.heap.size i [.int .i64 y]).cell? _ = _
          rw [setCells_put, putB_out _ _ _ (.inl h1)]
          exact k6 j z (by rw [List.getElem?_take, if_pos h1]; exact hz)
        · rw [putB_out _ _ _ (.inl (by omega))]
          show (A0.setCells w.heap.size j [.int .i64 y]).cell? _ = _
          rw [setCells_put]
          have := putB_cell (s := w.heap.size) [Value.int .i64 y] A0 j (fun x h1 h2 => by
            obtain ⟨v, hv, _⟩ := k5.room x (by simp at h2; omega)
            exact ⟨v, hv⟩) 0 _ rfl
          simpa using this
        · have := putB_cell (s := w.heap.size) ((zs.drop i).map (Value.int .i64)) (A0.setCells w.heap.size i [.int .i64 y]).drew (i + 1) (fun x h1 h2 => by
            obtain ⟨v, hv, _⟩ := hB1.room x (by simp at h2; omega)
            exact ⟨v, hv⟩) (j - (i + 1)) (.int .i64 z) (by rw [List.getElem?_map, List.getElem?_drop, show i + (j - (i + 1)) = j - 1 by omega, hz]; rfl)
          rwa [show i + 1 + (j - (i + 1)) = j by omega] at this
      · have hb : Below w.heap.size w ((A0.setCells w.heap.size i [.int .i64 y]).drew.setCells w.heap.size (i + 1) ((zs.drop i).map (Value.int .i64))) := by
          rw [setCells_put]
          refine putB_below (Nat.le_refl _) _ _ _ ?_
          rw [setCells_put]
          exact (putB_below (Nat.le_refl _) _ _ _ k4).drew
        exact ⟨hb.os, hb.tape, hb.output, hb.size, fun q hq _ => hb.block q hq⟩
end Go.Proofs.YtbkcmbbeknljiaaGreat
/- An Id marked as cleared, by the program. -/
namespace Go.Proofs.YtbkcmbbeknljiaaGreat
open Go.RowKit
open Go.Sort (grow)
theorem owns_form {w : World} {base n : Nat} {v : Value} {zs : List Int} (h : w.ownsRow base 2 1 v n (zs.map (Value.int .i64))) (hn : zs.length = n) : ∃ a c, v = .slice a n c ∧ SlN w w.heap.size a n zs := by
  have h' := h
  obtain ⟨_, hc⟩ := h
  rcases hc with ⟨rfl, h0⟩ | ⟨g, cap, cur, rfl, _⟩
  · subst h0
    exact ⟨none, 0, rfl, hn, .inl rfl⟩
  · obtain ⟨_, hr, _, _, _, hl⟩ := blk_of_owns h'
    exact ⟨_, cap, rfl, hn, .inr ⟨g, 0, rfl, hl, fun j z hz => by rw [Nat.zero_add]; exact hr j _ (by rw [List.getElem?_map, hz]; rfl)⟩⟩
theorem owns_keep {w w' : World} {base n : Nat} {v : Value} {xs : List Value} {T : TypeId} {sz : Nat} (h : w.ownsRow base T sz v n xs) (hk : ∀ q, v.ownBlock = some q → w'.heap[q]? = w.heap[q]?) : w'.ownsRow base T sz v n xs := by
  obtain ⟨h1, h2⟩ := h
  refine ⟨h1, h2.imp id ?_⟩
  rintro ⟨g, cap, cur, rfl, r1, r2, r3⟩
  exact ⟨g, cap, cur, rfl, r1, (hk g rfl).trans r2, r3⟩
theorem owns_lt {w : World} {base n q : Nat} {v : Value} {xs : List Value} {T : TypeId} {sz : Nat} (h : w.ownsRow base T sz v n xs) (e : v.ownBlock = some q) : q < w.heap.size := (World.ownsRow.lt h q e).2
/-- The Ids that are cleared, with one more under way. -/
def McAns (w : World) (s base : Nat) (vd : Value) (zs : List Int) (y : Int) (e : Ending) (w' : World) : Prop :=
  (hasN zs y = true ∧ e = .returned (.bool true) ∧ w' = w) ∨ (hasN zs y = false ∧ zs.length = 60 ∧ e = .returned (.bool false) ∧ w' = w) ∨
  (hasN zs y = false ∧ zs.length < 60 ∧ ∃ (i : Nat) (vd' : Value) (W : World), PosN zs y i ∧ e = .returned (.bool true) ∧ W.ownsRow base 2 1 vd' (zs.length + 1) ((insZ zs i y).map (Value.int .i64)) ∧ w.grownBy W vd.ownBlock ∧ (vd'.ownBlock = vd.ownBlock ∨ ∃ q, vd'.ownBlock = some q ∧ w.heap.size ≤ q) ∧ w' = W.setCell ⟨s, 3, none⟩ vd')
set_option maxRecDepth 100000 in
set_option maxHeartbeats 4000000 in
theorem markCleared_any (w : World) (s base : Nat) (vd : Value) (zs : List Int) (y : Int) (hs : w.cell? ⟨s, 3, none⟩ = some vd) (hf : w.frozen? ⟨s, 3, none⟩ = false) (hsl : s < w.heap.size) (hds : vd.ownBlock ≠ some s) (hown : w.ownsRow base 2 1 vd zs.length (zs.map (Value.int .i64))) (hn : zs.length ≤ 60) (hu : UpN zs) (hbase : base ≤ w.heap.size) :
    Calls Tryz.prog 67 #[.pointer (some ⟨s, 0, none⟩), .int .i64 y] w (McAns w s base vd zs y) := by
  obtain ⟨a, c, rfl, hsn⟩ := owns_form hown rfl
  have hb := bsearchN_any w a zs.length c zs y (by omega) hu hsn
  have H : Hid (w.ownsRow base 2 1 (.slice a zs.length c) zs.length (zs.map (Value.int .i64)) ∧ UpN zs ∧ base ≤ w.heap.size ∧ (Value.slice a zs.length c).ownBlock ≠ some s) := ⟨hown, hu, hbase, hds⟩
  clear hsn hown hu hbase hds
  go_enter Tryz.func67, Tryz.ntmps67
  go_wp2_with fail
  refine hb.mono ?_
  clear hb
  rintro e w1 ⟨i, rfl, hp, rfl⟩
  have HF := hasN_found H.out.2.1 hp
  have HP := hidOf hp
  cases hh : hasN zs y with
  | true =>
    rw [hh] at HF
    rw [HF]
    clear HF hp
    go_wp2
    go_ret
    exact .inl ⟨hh, rfl, rfl⟩
  | false =>
    rw [hh] at HF
    rw [HF]
    clear HF hp
    by_cases h60 : zs.length = 60
    · have q : ((zs.length : Int) == 60) = true := by simp; omega
      go_wp2
      go_ret
      exact .inr (.inl ⟨hh, h60, rfl, rfl⟩)
    · have q : ((zs.length : Int) == 60) = false := by simp; omega
      obtain ⟨W0, hW0⟩ : ∃ X, X = w1.alloc (.cells #[.int .i64 y] 2) := ⟨_, rfl⟩
      have b0 : Below w1.heap.size w1 W0 := by rw [hW0]; exact (Below.refl _ _).alloc (Nat.le_refl _) _
      have hV : Blk W0 w1.heap.size 2 1 := ⟨#[.int .i64 y], by rw [hW0]; show (w1.heap.push _)[w1.heap.size]? = _; simp, rfl⟩
      have hv : W0.cell? ⟨w1.heap.size, 0, none⟩ = some (.int .i64 y) := by rw [hW0]; go_simp
      have hz : W0.heap.size = w1.heap.size + 1 := by rw [hW0]; simp
      have hc := insN_any W0 base (.slice a zs.length c) zs y i w1.heap.size 1 (owns_keep H.out.1 (fun q hq => b0.block q (owns_lt H.out.1 hq))) (by omega) HP.out.le hV (by omega) hv (fun e => by have := owns_lt H.out.1 e; omega) (by have := H.out.2.2.1; omega)
      have KB : Hid (Below w1.heap.size w1 W0 ∧ W0.heap.size = w1.heap.size + 1) := ⟨b0, hz⟩
      have HS : Hid (w1.cell? ⟨s, 3, none⟩ = some (.slice a zs.length c) ∧ w1.frozen? ⟨s, 3, none⟩ = false) := ⟨hs, hf⟩
      clear b0 hV hv hz
      go_wp2_with fail
      rw [← hW0]
      clear hW0
      refine hc.mono ?_
      clear hc hs hf
      rintro e W ⟨v', rfl, ho, hg, hl⟩
      have hne : (Value.slice a zs.length c).ownBlock ≠ some s := H.out.2.2.2
      have hbl : W.heap[s]? = w1.heap[s]? := (hg.block s (by have := KB.out.2; omega) (fun e => hne e.symm)).trans (KB.out.1.block s hsl)
      have c3 := (World.cell?_of_block (a := ⟨s, 3, none⟩) hbl).trans HS.out.1
      have f3 := (World.frozen?_of_block (a := ⟨s, 3, none⟩) hbl).trans HS.out.2
      obtain ⟨a', c', rfl, _⟩ := owns_form ho (insZ_len HP.out.le)
      have KW : Hid (W.ownsRow base 2 1 (.slice a' (zs.length + 1) c') (zs.length + 1) ((insZ zs i y).map (Value.int .i64)) ∧ w1.grownBy W (Value.slice a zs.length c).ownBlock ∧ ((Value.slice a' (zs.length + 1) c').ownBlock = (Value.slice a zs.length c).ownBlock ∨ ∃ q, (Value.slice a' (zs.length + 1) c').ownBlock = some q ∧ w1.heap.size ≤ q)) := ⟨ho, ⟨hg.os.trans KB.out.1.os, hg.tape.trans KB.out.1.tape, hg.output.trans KB.out.1.output, Nat.le_trans KB.out.1.size hg.size, fun k hk hx => (hg.block k (by have := KB.out.2; omega) hx).trans (KB.out.1.block k hk)⟩, hl.imp id (fun e => ⟨_, e, by have := KB.out.2; omega⟩)⟩
      clear ho hg hl hbl hne
      go_wp2
      go_ret
      exact .inr (.inr ⟨hh, by omega, i, _, W, HP.out, rfl, KW.out.1, KW.out.2.1, KW.out.2.2, rfl⟩)
end Go.Proofs.YtbkcmbbeknljiaaGreat
/- A machine under way: records struck out, an Id cleared. -/
namespace Go.Proofs.YtbkcmbbeknljiaaGreat
open Go.RowKit
open Go.Sort (grow)
theorem struck_sub {b n cap : Nat} {rs : List R4} {gr : Nat → Nat} {K : List Nat} (hl : rs.length = n) (hKn : ∀ (x i : Nat), K[x]? = some i → i < n) {q : Nat} (h : blocksG (.slice (some ⟨b, 0, none⟩) K.length cap) (K.map (atR rs)) (fun x => gr (K[x]?.getD 0)) q) : blocksG (.slice (some ⟨b, 0, none⟩) n cap) rs gr q := by
  rcases h with h | ⟨x, hx, h⟩
  · exact .inl h
  · have h1 := List.getElem?_eq_getElem (l := K) (i := x) (by simpa using hx)
    refine .inr ⟨K[x]'(by simpa using hx), ?_, ?_⟩
    · have := hKn x _ h1; omega
    · simpa only [h1, Option.getD_some] using h
/-- A machine under way whose records are struck out. -/
theorem MR.struck {base p : Nat} {X W : World} {vk vd : Value} {b n cap : Nat} {ks : List K2} {rs : List R4} {zs : List Int} {gk gr : Nat → Nat} {caps : Nat → Nat} {K : List Nat} (h : MR base p X vk (.slice (some ⟨b, 0, none⟩) n cap) vd ks rs zs gk gr) (hl : rs.length = n) (hcp : ∀ i, i < n → lnR (atR rs i) ≤ caps i) (hcap : cap ≤ maxLen) (hbb : base ≤ b) (hKn : ∀ (x i : Nat), K[x]? = some i → i < n) (hKd : K.Nodup) (hKl : K.length ≤ cap) (ht : Turned b X W) (hB : Blk W b 41 (cap * 4)) (hat : ∀ (x i : Nat), K[x]? = some i → At W b (x * 4) (rc (atR rs i) (some ⟨gr i, 0, none⟩) (caps i))) :
    MR base p W vk (.slice (some ⟨b, 0, none⟩) K.length cap) vd ks (K.map (atR rs)) zs gk (fun x => gr (K[x]?.getD 0)) := by
  have hbr : blocksG (.slice (some ⟨b, 0, none⟩) n cap) rs gr b := .inl rfl
  exact ⟨h.gK.keep AtK.of_block ht.size (fun q hq hb => ht.block q hq (fun e => h.kr q hb (e ▸ hbr))), h.gR.struck hl hcp hcap hbb hKn hKd hKl ht hB hat,
    owns_keep h.gD (fun q hq => ht.block q (owns_lt h.gD hq) (fun e => h.rd b hbr (e ▸ hq))),
    fun q hq hr => h.kr q hq (struck_sub hl hKn hr), h.kd, fun q hq => h.rd q (struck_sub hl hKn hq), h.kp, fun q hq => h.rp q (struck_sub hl hKn hq), h.dp⟩
/-- A machine under way with other Ids cleared. -/
theorem MR.cleared {base p : Nat} {X W : World} {vk vr vd vd' : Value} {ks : List K2} {rs : List R4} {zs zs' : List Int} {gk gr : Nat → Nat} (h : MR base p X vk vr vd ks rs zs gk gr) (hp : p < X.heap.size) (hg : X.grownBy W vd.ownBlock) (ho : W.ownsRow base 2 1 vd' zs'.length (zs'.map (Value.int .i64))) (hl : vd'.ownBlock = vd.ownBlock ∨ ∃ q, vd'.ownBlock = some q ∧ X.heap.size ≤ q) : MR base p W vk vr vd' ks rs zs' gk gr := by
  have hk : ∀ q, blocksG vk ks gk q → q < X.heap.size := fun q hq => (h.gK.blocks hq).2
  have hr : ∀ q, blocksG vr rs gr q → q < X.heap.size := fun q hq => (h.gR.blocks hq).2
  have out : ∀ q, q < X.heap.size → vd.ownBlock ≠ some q → vd'.ownBlock ≠ some q := fun q hq hne e => by
    rcases hl with hl | ⟨x, hx, hxl⟩
    · exact hne (hl ▸ e)
    · rw [hx] at e; injection e with e; omega
  exact ⟨h.gK.keep AtK.of_block hg.size (fun q hq hb => hg.block q hq (fun e => h.kd q hb e.symm)), h.gR.keep AtR.of_block hg.size (fun q hq hb => hg.block q hq (fun e => h.rd q hb e.symm)), ho, h.kr, fun q hq => out q (hk q hq) (h.kd q hq), fun q hq => out q (hr q hq) (h.rd q hq), h.kp, h.rp, out p hp h.dp⟩
end Go.Proofs.YtbkcmbbeknljiaaGreat
