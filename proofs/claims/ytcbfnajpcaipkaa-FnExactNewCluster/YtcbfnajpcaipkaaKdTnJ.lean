import Derived.Test.YtcbfnajpcaipkaaRows
import Derived.Test.YtcbfnajpcaipkaaJ25ExactNewCluster
import Derived.Test.YtcbfnajpcaipkaaKdMnJ
import Derived.WalkKit
import Derived.WalkSpells
import Derived.WalkLawsBesides
import Derived.Below
import Derived.Lib.QuietBelow
import Derived.BigQuiet
import Derived.Deep.CutRange
namespace Go.Proofs.Ytcbfnajpcaipkaa
open Go.RowKit
open Go.Sort (grow)
def mkTk (t : tx.T7) (kk : Int) : tx.T7 := ⟨kk, kk + 1, kk + 1 + 1, kk + 1 + 1 + 1, tx.mkNotes (kk + 1 + 1 + 1 + 1) t.reads.length, tx.mkSets (kk + 1 + 1 + 1 + 1 + 5 * (t.reads.length : Int)) t.sets.length, kk + 1 + 1 + 1 + 1 + 5 * (t.reads.length : Int) + 5 * (t.sets.length : Int)⟩
def mkTi (ts : List tx.T7) (k : Int) (i : Nat) : tx.T7 := mkTk (atT ts i) (k + offG cT ts i)
def mkTs (ts : List tx.T7) (k : Int) : List tx.T7 := (List.range ts.length).map (mkTi ts k)
theorem mkTs_len (ts : List tx.T7) (k : Int) : (mkTs ts k).length = ts.length := by simp [mkTs]
theorem mkTs_at {ts : List tx.T7} {k : Int} {j : Nat} (h : j < ts.length) : (mkTs ts k)[j]? = some (mkTi ts k j) := by simp [mkTs, h]
theorem At.far {X : World} {b o p : Nat} {cs : List Value} (h : At X b o cs) (hp : p < o ∨ o + cs.length ≤ p) (u : Value) : At (X.setCell ⟨b, p, none⟩ u) b o cs := fun j v hv => by
  have := (List.getElem?_eq_some_iff.1 hv).1
  exact (cell_set_other (by omega)).trans (h j v hv)
theorem At.put {X : World} {b o i : Nat} {cs : List Value} (h : At X b o cs) (hi : i < cs.length) (u : Value) : At (X.setCell ⟨b, o + i, none⟩ u) b o (cs.set i u) := fun j v hv => by
  by_cases hj : i = j
  · subst hj
    rw [List.getElem?_set_self hi] at hv
    obtain rfl := Option.some.inj hv
    exact cell_set_same (h i _ (List.getElem?_eq_getElem hi))
  · rw [List.getElem?_set_ne hj] at hv
    exact (cell_set_other (by omega)).trans (h j v hv)
structure TRn (w X : World) (B b : Nat) (ts : List tx.T7) (g : Nat → Nat → Prop) (P : Nat → Prop) (f : Nat → tx.T7) (j : Nat) (cs : List Value) (a1 a2 : Option Addr) (ns : List tx.N5) (ss : List S5) (PR PS : Nat → Prop) : Prop where
  r : tx.OwnNo X PR a1 ns
  s : tx.OwnSe X PS a2 ss
  at_ : At X b (j * 7) cs
  rest : KTk.Rest X B b ts.length ts g (j + 1)
  done : KTk.Done X B b ts g f j
  kp : KeptP P w X
  lt : b < X.heap.size
theorem TRn.put {w X : World} {B b : Nat} {ts : List tx.T7} {g : Nat → Nat → Prop} {P : Nat → Prop} {f : Nat → tx.T7} {j : Nat} {cs : List Value} {a1 a2 : Option Addr} {ns : List tx.N5} {ss : List S5} {PR PS : Nat → Prop} (h : TRn w X B b ts g P f j cs a1 a2 ns ss PR PS) (hj : j < ts.length) (hPb : P b) (h1 : ∀ q, PR q → g j q) (h2 : ∀ q, PS q → g j q) (i : Nat) (hi : i < cs.length) (h7 : i < 7) (u : Value) : TRn w (X.setCell ⟨b, j * 7 + i, none⟩ u) B b ts g P f j (cs.set i u) a1 a2 ns ss PR PS := by
  have hsz : X.heap.size ≤ (X.setCell ⟨b, j * 7 + i, none⟩ u).heap.size := by simp [World.setCell]
  exact ⟨h.r.keep hsz (fun q _ hp => Below.heap_setCell _ _ _ _ (h.rest.ne j q hj (h1 q hp))), h.s.keep hsz (fun q _ hp => Below.heap_setCell _ _ _ _ (h.rest.ne j q hj (h2 q hp))), h.at_.put hi u, h.rest.set (show j * 7 + i < (j + 1) * 7 by omega) u, h.done.set h.rest.ne (show j * 7 ≤ j * 7 + i by omega) u, h.kp.trans (KeptP.of_set X u hPb), Nat.lt_of_lt_of_le h.lt hsz⟩
theorem TRn.step {w X Y : World} {B b : Nat} {ts : List tx.T7} {g : Nat → Nat → Prop} {P : Nat → Prop} {f : Nat → tx.T7} {j : Nat} {cs : List Value} {a1 a2 : Option Addr} {ns ns' : List tx.N5} {ss ss' : List S5} {PR PS Q : Nat → Prop} (h : TRn w X B b ts g P f j cs a1 a2 ns ss PR PS) (hj : j < ts.length) (hk : KeptP Q X Y) (hQ : ∀ q, Q q → g j q) (hP : ∀ q, g j q → P q) (r' : tx.OwnNo Y PR a1 ns') (s' : tx.OwnSe Y PS a2 ss') : TRn w Y B b ts g P f j cs a1 a2 ns' ss' PR PS := by
  have hbk := hk.block b h.lt (fun e => h.rest.ne j b hj (hQ b e) rfl)
  exact ⟨r', s', h.at_.of_block hbk, h.rest.kept hk h.lt hj hQ, h.done.kept h.rest.ne h.rest.ap hk h.lt hj hQ, h.kp.trans (hk.mono (fun q hq => hP q (hQ q hq))), Nat.lt_of_lt_of_le h.lt hk.size⟩
set_option maxRecDepth 100000 in
set_option maxHeartbeats 4000000 in
theorem markTn (w : World) (B b cap : Nat) (ts : List tx.T7) (g : Nat → Nat → Prop) (P : Nat → Prop) (k : Int) (hk : 0 ≤ k) (hk' : k + (offG cT ts ts.length : Int) ≤ 100000000) (hn : ts.length ≤ 1048576) (ht : ∀ t ∈ ts, KT.S t) (hb : b < w.heap.size) (hPb : P b) (hPg : ∀ i q, i < ts.length → g i q → P q) (h : KTk.Part w B b ts.length ts g) :
    Calls Try.prog 37 #[.slice (some ⟨b, 0, none⟩) ts.length cap, .int .i64 k] w fun e w' => e = .returned (.int .i64 (k + (offG cT ts ts.length : Int))) ∧ KeptP P w w' ∧ KTk.Part w' B b ts.length (mkTs ts k) g := by
  have H : Hid ((∀ t ∈ ts, KT.S t) ∧ b < w.heap.size ∧ P b ∧ (∀ i q, i < ts.length → g i q → P q) ∧ KTk.Part w B b ts.length ts g) := ⟨ht, hb, hPb, hPg, h⟩
  clear ht hb hPb hPg h
  go_enter Try.func37, Try.ntmps37
  go_wp2
  go_loopw [1, 5] (fun v1 v5 wr => ∃ j : Nat, j ≤ ts.length ∧ v5 = .int .i64 j ∧ v1 = .int .i64 (k + (offG cT ts j : Int)) ∧ KeptP P w wr ∧ KTk.Rest wr B b ts.length ts g j ∧ KTk.Done wr B b ts g (mkTi ts k) j) (fun _ v5 _ => ts.length - (intOf v5).toNat)
  case atStart => exact ⟨0, Nat.zero_le _, rfl, by rw [offG_zero]; simp, KeptP.refl _ _, H.out.2.2.2.2.rest, fun i hi => absurd hi (Nat.not_lt_zero i)⟩
  case round =>
    obtain ⟨j, hj, rfl, rfl, hkp, hrs, hdn⟩ := hrel
    have hb2 := offG_le cT ts j
    by_cases hlt : j < ts.length
    · have hd := atT_of hlt
      obtain ⟨⟨t0, t1, t2, t3⟩, hat, how⟩ := hrs.at_ j _ (Nat.le_refl _) hd
      obtain ⟨PR, PS, om, hsub, hbd⟩ := how
      obtain ⟨z0, d0, f0⟩ : ∃ v, wr.cell? ⟨b, j * 7, none⟩ = some v ∧ wr.frozen? ⟨b, j * 7, none⟩ = false := hrs.rm (j * 7 + 0) (show _ < ts.length * 7 by omega)
      obtain ⟨z1, d1, f1⟩ : ∃ v, wr.cell? ⟨b, j * 7 + 1, none⟩ = some v ∧ wr.frozen? ⟨b, j * 7 + 1, none⟩ = false := hrs.rm (j * 7 + 1) (show _ < ts.length * 7 by omega)
      obtain ⟨z2, d2, f2⟩ : ∃ v, wr.cell? ⟨b, j * 7 + 2, none⟩ = some v ∧ wr.frozen? ⟨b, j * 7 + 2, none⟩ = false := hrs.rm (j * 7 + 2) (show _ < ts.length * 7 by omega)
      obtain ⟨z3, d3, f3⟩ : ∃ v, wr.cell? ⟨b, j * 7 + 3, none⟩ = some v ∧ wr.frozen? ⟨b, j * 7 + 3, none⟩ = false := hrs.rm (j * 7 + 3) (show _ < ts.length * 7 by omega)
      have e4 : wr.cell? ⟨b, j * 7 + 4, none⟩ = some (.slice t0 (atT ts j).reads.length t1) := hat 4 _ rfl
      have hT := H.out.1 _ (List.mem_of_getElem? hd)
      have hoff : offG cT ts (j + 1) = offG cT ts j + cT (atT ts j) := offG_succ cT hd
      have hle := offG_le cT ts (j + 1)
      have HO : Hid (offG cT ts (j + 1) = offG cT ts j + (5 + (5 * (atT ts j).reads.length + 5 * (atT ts j).sets.length)) ∧ k + (offG cT ts (j + 1) : Int) ≤ 100000000) := ⟨hoff, by omega⟩
      have bl : b < wr.heap.size := Nat.lt_of_lt_of_le H.out.2.1 hkp.size
      have HI : Hid (mkTi ts k j = mkTk (atT ts j) (k + (offG cT ts j : Int))) := rfl
      have HG : Hid ((∀ q, PR q → g j q) ∧ (∀ q, PS q → g j q) ∧ (∀ q, PR q → ¬ PS q) ∧ (∀ q, g j q → P q) ∧ (∀ q, PR q → B ≤ q) ∧ (∀ q, PS q → B ≤ q) ∧ (∀ q, g j q → B ≤ q ∧ q < wr.heap.size)) := ⟨fun q hq => hsub q (.inl hq), fun q hq => hsub q (.inr hq), om.rs, fun q hq => H.out.2.2.2.1 j q hlt hq, fun q hq => (om.rB q hq).1, fun q hq => (om.sB q hq).1, hbd⟩
      have S0 : TRn w wr B b ts g P (mkTi ts k) j [.int .i64 (atT ts j).id, .int .i64 (atT ts j).home, .int .i64 (atT ts j).phase, .int .i64 (atT ts j).count, .slice t0 (atT ts j).reads.length t1, .slice t2 (atT ts j).sets.length t3, .int .i64 (atT ts j).stamp] t0 t2 (atT ts j).reads (atT ts j).sets PR PS := ⟨om.r, om.s, hat, hrs.up, hdn, hkp, bl⟩
      obtain ⟨V, hV⟩ : ∃ V, V = ((((wr.setCell ⟨b, j * 7, none⟩ (.int .i64 (k + (offG cT ts j : Int)))).setCell ⟨b, j * 7 + 1, none⟩ (.int .i64 (k + (offG cT ts j : Int) + 1))).setCell ⟨b, j * 7 + 2, none⟩ (.int .i64 (k + (offG cT ts j : Int) + 1 + 1))).setCell ⟨b, j * 7 + 3, none⟩ (.int .i64 (k + (offG cT ts j : Int) + 1 + 1 + 1))) := ⟨_, rfl⟩
      have S1 : Hid (TRn w V B b ts g P (mkTi ts k) j [.int .i64 (k + (offG cT ts j : Int)), .int .i64 (k + (offG cT ts j : Int) + 1), .int .i64 (k + (offG cT ts j : Int) + 1 + 1), .int .i64 (k + (offG cT ts j : Int) + 1 + 1 + 1), .slice t0 (atT ts j).reads.length t1, .slice t2 (atT ts j).sets.length t3, .int .i64 (atT ts j).stamp] t0 t2 (atT ts j).reads (atT ts j).sets PR PS ∧ wr.heap.size ≤ V.heap.size) := by
        rw [hV]
        exact ⟨(((S0.put hlt H.out.2.2.1 HG.out.1 HG.out.2.1 0 (by simp) (by omega) _).put hlt H.out.2.2.1 HG.out.1 HG.out.2.1 1 (by simp) (by omega) _).put hlt H.out.2.2.1 HG.out.1 HG.out.2.1 2 (by simp) (by omega) _).put hlt H.out.2.2.1 HG.out.1 HG.out.2.1 3 (by simp) (by omega) _, by simp [World.setCell]⟩
      have HT : Hid (KT.S (atT ts j)) := hT
      have jn : (j : Int) < (ts.length : Int) := by omega
      have g0 : 0 ≤ k + (offG cT ts j : Int) := by omega
      have g1 : k + (offG cT ts j : Int) ≤ 100000000 := by omega
      clear hkp hrs hdn hat om hsub hbd hd hoff hle hT bl hb2 S0
      generalize hK : k + (offG cT ts j : Int) = kj at *
      have tr := HT.out.1
      have ts' := HT.out.2
      go_wp2_with fail
      rw [← hV]
      clear hV
      refine (tx.markNo V PR t0 t1 (atT ts j).reads _ (by omega) (by omega) HT.out.1 S1.out.1.r).mono ?_
      rintro e w1 ⟨rfl, k1, o1⟩
      have k1 := kp_of k1
      have R1 : Hid (TRn w w1 B b ts g P (mkTi ts k) j [.int .i64 kj, .int .i64 (kj + 1), .int .i64 (kj + 1 + 1), .int .i64 (kj + 1 + 1 + 1), .slice t0 (atT ts j).reads.length t1, .slice t2 (atT ts j).sets.length t3, .int .i64 (atT ts j).stamp] t0 t2 (tx.mkNotes (kj + 1 + 1 + 1 + 1) (atT ts j).reads.length) (atT ts j).sets PR PS ∧ wr.heap.size ≤ w1.heap.size) := ⟨S1.out.1.step hlt k1 HG.out.1 HG.out.2.2.2.1 o1 (S1.out.1.s.keep k1.size (fun q hq hp => k1.block q hq (fun e => HG.out.2.2.1 q e hp))), Nat.le_trans S1.out.2 k1.size⟩
      clear k1 o1 S1 d0 f0 d1 f1 d2 f2 d3 f3 e4
      have e5 : w1.cell? ⟨b, j * 7 + 5, none⟩ = some (.slice t2 (atT ts j).sets.length t3) := R1.out.1.at_ 5 _ rfl
      go_wp2_with fail
      refine (tx.markSe w1 PS t2 t3 (atT ts j).sets _ (by omega) (by omega) HT.out.2 R1.out.1.s).mono ?_
      rintro e w2 ⟨rfl, k2, o2⟩
      have k2 := kp_of k2
      have R2 : Hid (TRn w w2 B b ts g P (mkTi ts k) j [.int .i64 kj, .int .i64 (kj + 1), .int .i64 (kj + 1 + 1), .int .i64 (kj + 1 + 1 + 1), .slice t0 (atT ts j).reads.length t1, .slice t2 (atT ts j).sets.length t3, .int .i64 (atT ts j).stamp] t0 t2 (tx.mkNotes (kj + 1 + 1 + 1 + 1) (atT ts j).reads.length) (tx.mkSets (kj + 1 + 1 + 1 + 1 + 5 * ((atT ts j).reads.length : Int)) (atT ts j).sets.length) PR PS ∧ wr.heap.size ≤ w2.heap.size) := ⟨R1.out.1.step hlt k2 HG.out.2.1 HG.out.2.2.2.1 (R1.out.1.r.keep k2.size (fun q hq hp => k2.block q hq (fun e => HG.out.2.2.1 q hp e))) o2, Nat.le_trans R1.out.2 k2.size⟩
      clear k2 o2 R1 e5
      obtain ⟨z6, d6, f6⟩ : ∃ v, w2.cell? ⟨b, j * 7 + 6, none⟩ = some v ∧ w2.frozen? ⟨b, j * 7 + 6, none⟩ = false := R2.out.1.rest.rm (j * 7 + 6) (show _ < ts.length * 7 by omega)
      have R3 : Hid (∀ Y, Y = w2.setCell ⟨b, j * 7 + 6, none⟩ (.int .i64 (kj + 1 + 1 + 1 + 1 + 5 * ((atT ts j).reads.length : Int) + 5 * ((atT ts j).sets.length : Int))) → KTk.Rest Y B b ts.length ts g (j + 1) ∧ KeptP P w Y ∧ KTk.Done Y B b ts g (mkTi ts k) (j + 1)) := fun Y hY => by
        have R0 := R2.out.1.put hlt H.out.2.2.1 HG.out.1 HG.out.2.1 6 (by simp) (by omega) (.int .i64 (kj + 1 + 1 + 1 + 1 + 5 * ((atT ts j).reads.length : Int) + 5 * ((atT ts j).sets.length : Int)))
        rw [← hY] at R0
        obtain ⟨h1, h2, h3, h4, h5, h6, h7⟩ := HG.out
        have hsz : wr.heap.size ≤ Y.heap.size := by rw [hY]; simpa [World.setCell] using R2.out.2
        refine ⟨R0.rest, R0.kp, R0.done.step ⟨t0, t1, t2, t3⟩ ?_ ?_⟩
        · rw [HI.out]
          have := R0.at_
          simpa [KTk, mkTk, tx.mkNotes_len, tx.mkSets_len] using this
        · rw [HI.out]
          exact ⟨PR, PS, ⟨R0.r, R0.s, h3, fun q hq => ⟨h5 q hq, by have := (h7 q (h1 q hq)).2; omega⟩, fun q hq => ⟨h6 q hq, by have := (h7 q (h2 q hq)).2; omega⟩⟩, fun q hq => by rcases hq with hq | hq; exact h1 q hq; exact h2 q hq, fun q hq => ⟨(h7 q hq).1, by have := (h7 q hq).2; omega⟩⟩
      go_wp2
      exact ⟨⟨j + 1, by omega, by simp, by have := HO.out.1; rw [this]; congr 1; omega, (R3.out _ rfl).2.1, (R3.out _ rfl).1, (R3.out _ rfl).2.2⟩, by simp [intOf]; omega⟩
    · obtain rfl : j = ts.length := by omega
      have hd : decide ((ts.length : Int) < (ts.length : Int)) = false := by simp
      have KH : Hid (KeptP P w wr ∧ KTk.Part wr B b ts.length (mkTs ts k) g) := ⟨hkp, hdn.part hrs⟩
      clear hkp hrs hdn
      go_wp2
      go_ret
      exact ⟨rfl, KH.out.1, KH.out.2⟩
set_option maxRecDepth 100000 in
set_option maxHeartbeats 4000000 in
theorem heldTn (w : World) (a : Option Addr) (cap : Nat) (ts : List tx.T7) (k : Int) (hk : 0 ≤ k) (hk' : k + (offG cT ts ts.length : Int) ≤ 100000000) (hn : ts.length ≤ 1048576) (ht : ∀ t ∈ ts, KT.S t) (h : KTk.RdS w a (mkTs ts k)) :
    Calls Try.prog 39 #[.slice a ts.length cap, .int .i64 k] w fun e w' => e = .returned (.int .i64 (k + (offG cT ts ts.length : Int))) ∧ Below w.heap.size w w' := by
  have H : Hid ((∀ t ∈ ts, KT.S t) ∧ KTk.RdS w a (mkTs ts k)) := ⟨ht, h⟩
  clear ht h
  go_enter Try.func39, Try.ntmps39
  go_wp2
  go_loopw [1, 5] (fun v1 v5 wr => ∃ j : Nat, j ≤ ts.length ∧ v5 = .int .i64 j ∧ v1 = .int .i64 (k + (offG cT ts j : Int)) ∧ Below w.heap.size w wr) (fun _ v5 _ => ts.length - (intOf v5).toNat)
  case atStart => exact ⟨0, Nat.zero_le _, rfl, by rw [offG_zero]; simp, Below.refl _ _⟩
  case round =>
    obtain ⟨j, hj, rfl, rfl, hbl⟩ := hrel
    have hb2 := offG_le cT ts j
    by_cases hlt : j < ts.length
    · have hd := atT_of hlt
      have hrd := H.out.2.later hbl
      rcases hrd with h0 | ⟨b, off, rfl, hb, hrd⟩
      · have := mkTs_len ts k; rw [h0] at this; simp at this; omega
      obtain ⟨⟨t0, t1, t2, t3⟩, hat, how⟩ := hrd j _ (mkTs_at hlt)
      have e0 : wr.cell? ⟨b, off + j * 7, none⟩ = some (.int .i64 (k + (offG cT ts j : Int))) := hat 0 _ rfl
      have e1 : wr.cell? ⟨b, off + j * 7 + 1, none⟩ = some (.int .i64 (k + (offG cT ts j : Int) + 1)) := hat 1 _ rfl
      have e2 : wr.cell? ⟨b, off + j * 7 + 2, none⟩ = some (.int .i64 (k + (offG cT ts j : Int) + 1 + 1)) := hat 2 _ rfl
      have e3 : wr.cell? ⟨b, off + j * 7 + 3, none⟩ = some (.int .i64 (k + (offG cT ts j : Int) + 1 + 1 + 1)) := hat 3 _ rfl
      have e4 : wr.cell? ⟨b, off + j * 7 + 4, none⟩ = some (.slice t0 (mkTi ts k j).reads.length t1) := hat 4 _ rfl
      have e5 : wr.cell? ⟨b, off + j * 7 + 5, none⟩ = some (.slice t2 (mkTi ts k j).sets.length t3) := hat 5 _ rfl
      have e6 : wr.cell? ⟨b, off + j * 7 + 6, none⟩ = some (.int .i64 (k + (offG cT ts j : Int) + 1 + 1 + 1 + 1 + 5 * ((atT ts j).reads.length : Int) + 5 * ((atT ts j).sets.length : Int))) := hat 6 _ rfl
      have l1 : (mkTi ts k j).reads.length = (atT ts j).reads.length := tx.mkNotes_len _ _
      have l2 : (mkTi ts k j).sets.length = (atT ts j).sets.length := tx.mkSets_len _ _
      rw [l1] at e4
      rw [l2] at e5
      obtain ⟨sr, ss⟩ := how
      simp only at sr ss
      rw [l1] at sr
      rw [l2] at ss
      have hT := H.out.1 _ (List.mem_of_getElem? hd)
      have hoff : offG cT ts (j + 1) = offG cT ts j + cT (atT ts j) := offG_succ cT hd
      have hle := offG_le cT ts (j + 1)
      have HO : Hid (offG cT ts (j + 1) = offG cT ts j + (5 + (5 * (atT ts j).reads.length + 5 * (atT ts j).sets.length)) ∧ k + (offG cT ts (j + 1) : Int) ≤ 100000000) := ⟨hoff, by omega⟩
      have S : Hid (Below w.heap.size w wr ∧ tx.SlNo wr wr.heap.size t0 (atT ts j).reads.length (tx.mkNotes (k + (offG cT ts j : Int) + 1 + 1 + 1 + 1) (atT ts j).reads.length) ∧ tx.Sl wr wr.heap.size t2 (atT ts j).sets.length (tx.mkSets (k + (offG cT ts j : Int) + 1 + 1 + 1 + 1 + 5 * ((atT ts j).reads.length : Int)) (atT ts j).sets.length) ∧ b < wr.heap.size) := ⟨hbl, sr, ss, hb⟩
      have HT : Hid (KT.S (atT ts j)) := hT
      have jn : (j : Int) < (ts.length : Int) := by omega
      have g0 : 0 ≤ k + (offG cT ts j : Int) := by omega
      have g1 : k + (offG cT ts j : Int) ≤ 100000000 := by omega
      clear hbl hrd hat sr ss hd hoff hle hT hb l1 l2 hb2
      have tr := HT.out.1
      have ts' := HT.out.2
      generalize hK : k + (offG cT ts j : Int) = kj at *
      have x0 : (kj != kj) = false := by simp
      have x1 : (kj + 1 != kj + 1) = false := by simp
      have x2 : (kj + 1 + 1 != kj + 1 + 1) = false := by simp
      have x3 : (kj + 1 + 1 + 1 != kj + 1 + 1 + 1) = false := by simp
      have d1 : decide (kj + 1 + 1 + 1 + 1 + 5 * ((atT ts j).reads.length : Int) < 0) = false := by simp; omega
      have d2 : decide (kj + 1 + 1 + 1 + 1 + 5 * ((atT ts j).reads.length : Int) + 5 * ((atT ts j).sets.length : Int) < 0) = false := by simp; omega
      have x6 : (kj + 1 + 1 + 1 + 1 + 5 * ((atT ts j).reads.length : Int) + 5 * ((atT ts j).sets.length : Int) != kj + 1 + 1 + 1 + 1 + 5 * ((atT ts j).reads.length : Int) + 5 * ((atT ts j).sets.length : Int)) = false := by simp
      go_wp2_with fail
      refine (tx.heldNoteS_k wr t0 (atT ts j).reads.length t1 _ HT.out.1 (by omega) (by omega) S.out.2.1).mono ?_
      rintro e w1 ⟨rfl, rfl⟩
      go_wp2_with fail
      refine (tx.heldSetS_k w1 t2 (atT ts j).sets.length t3 _ HT.out.2 (by omega) (by omega) S.out.2.2.1).mono ?_
      rintro e w2 ⟨rfl, rfl⟩
      go_wp2
      exact ⟨⟨j + 1, by omega, by simp, by have := HO.out.1; rw [this]; congr 1; omega, S.out.1⟩, by simp [intOf]; omega⟩
    · obtain rfl : j = ts.length := by omega
      have hd : decide ((ts.length : Int) < (ts.length : Int)) = false := by simp
      have KH : Hid (Below w.heap.size w wr) := hbl
      clear hbl
      go_wp2
      go_ret
      exact ⟨rfl, KH.out⟩
end Go.Proofs.Ytcbfnajpcaipkaa
