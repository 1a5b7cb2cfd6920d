/- ToM; KdM0; MacSl; KdMk; KdMS: joined. -/
import Derived.Test.YtcbfnajpcaipkaaRows
import Derived.Test.YtcbfnajpcaipkaaJ9ExactNewCluster
import Derived.Test.YtcbfnajpcaipkaaJ5ExactNewCluster
import Derived.WalkKit
import Derived.WalkSpells
import Derived.WalkLawsBesides
import Derived.Below
import Derived.Test.YtcbfnajpcaipkaaJ10ExactNewCluster
import Derived.Test.YtcbfnajpcaipkaaMacEqJ
import Derived.Lib.QuietBelow
import Derived.BigQuiet
namespace Go.Proofs.Ytcbfnajpcaipkaa
open Go.RowKit
theorem OM.mono {w : World} {B B' : Nat} {v : MV} {m : M4} {PK PR PD : Nat → Prop} (h : OM w B v m PK PR PD) (hb : B' ≤ B) : OM w B' v m PK PR PD := ⟨h.k, h.r, h.n, h.kr, h.kd, h.rd, fun q hq => Nat.le_trans hb (h.kB q hq), fun q hq => Nat.le_trans hb (h.rB q hq), fun q hq => Nat.le_trans hb (h.dB q hq)⟩
theorem MT.ml {m : M4} (h : MT m) : ML m := ⟨by have := h.k; unfold maxLen; omega, fun c hc => by have := h.ks c hc; unfold maxLen; omega, by have := h.r; unfold maxLen; omega, fun c hc => by have := h.rs c hc; unfold maxLen; omega, by have := h.n; unfold maxLen; omega⟩
theorem bkept {A X Y : World} {P : Nat → Prop} (h : Below A.heap.size A X) (k : KeptP P X Y) (hp : ∀ q, P q → A.heap.size ≤ q) : Below A.heap.size A Y := h.trans (k.below hp h.size)
def KM.Ow (w : World) (B : Nat) (a : Option Addr) (b : Nat) (c : Option Addr) (d : Nat) (e : Option Addr) (f : Nat) (m : M4) (P : Nat → Prop) : Prop := ∃ PK PR PD, OM w B ⟨a, b, c, d, e, f⟩ m PK PR PD ∧ (∀ q, OfM PK PR PD q → P q) ∧ (∀ q, P q → B ≤ q ∧ q < w.heap.size)
theorem KM.Ow.of {w : World} {B : Nat} {a : Option Addr} {b : Nat} {c : Option Addr} {d : Nat} {e : Option Addr} {f : Nat} {m : M4} {P : Nat → Prop} (h : KM.Ow w B a b c d e f m P) {q : Nat} (hq : P q) : B ≤ q ∧ q < w.heap.size := by obtain ⟨_, _, _, _, _, h3⟩ := h; exact h3 q hq
theorem KM.Ow.sl {w : World} {B : Nat} {a : Option Addr} {b : Nat} {c : Option Addr} {d : Nat} {e : Option Addr} {f : Nat} {m : M4} {P : Nat → Prop} (h : KM.Ow w B a b c d e f m P) : SlM w ⟨a, b, c, d, e, f⟩ m := by obtain ⟨_, _, _, h1, _, _⟩ := h; exact h1.sl
theorem KM.Ow.keep {w w' : World} {B : Nat} {a : Option Addr} {b : Nat} {c : Option Addr} {d : Nat} {e : Option Addr} {f : Nat} {m : M4} {P : Nat → Prop} (h : KM.Ow w B a b c d e f m P) (hs : w.heap.size ≤ w'.heap.size) (hk : ∀ q, P q → w'.heap[q]? = w.heap[q]?) : KM.Ow w' B a b c d e f m P := by
  obtain ⟨PK, PR, PD, h1, h2, h3⟩ := h
  exact ⟨PK, PR, PD, h1.keep hs (fun q _ hq => hk q (h2 q hq)), h2, fun q hq => ⟨(h3 q hq).1, Nat.lt_of_lt_of_le (h3 q hq).2 hs⟩⟩
theorem KM.Ow.later {w w' : World} {B : Nat} {a : Option Addr} {b : Nat} {c : Option Addr} {d : Nat} {e : Option Addr} {f : Nat} {m : M4} {P : Nat → Prop} (h : KM.Ow w B a b c d e f m P) (hb : Below w.heap.size w w') : KM.Ow w' B a b c d e f m P := h.keep hb.size (fun q hq => hb.block q (h.of hq).2)
theorem KM.Ow.low {w : World} {B B' : Nat} {a : Option Addr} {b : Nat} {c : Option Addr} {d : Nat} {e : Option Addr} {f : Nat} {m : M4} {P : Nat → Prop} (h : KM.Ow w B a b c d e f m P) (hb : B' ≤ B) : KM.Ow w B' a b c d e f m P := by
  obtain ⟨PK, PR, PD, h1, h2, h3⟩ := h
  exact ⟨PK, PR, PD, h1.mono hb, h2, fun q hq => ⟨Nat.le_trans hb (h3 q hq).1, (h3 q hq).2⟩⟩
theorem KM.of {w : World} {B : Nat} {a : Option Addr} {b : Nat} {c : Option Addr} {d : Nat} {e : Option Addr} {f : Nat} {m : M4} {PK PR PD : Nat → Prop} (h : OM w B ⟨a, b, c, d, e, f⟩ m PK PR PD) (hl : ∀ q, OfM PK PR PD q → q < w.heap.size) : KM.Ow w B a b c d e f m (OfM PK PR PD) :=
  ⟨PK, PR, PD, h, fun _ hq => hq, fun q hq => ⟨by rcases hq with hq | hq | hq; exact h.kB q hq; exact h.rB q hq; exact h.dB q hq, hl q hq⟩⟩
theorem KM.eq (X : World) (a : Option Addr) (b : Nat) (c : Option Addr) (d : Nat) (e : Option Addr) (f : Nat) (a' : Option Addr) (b' : Nat) (c' : Option Addr) (d' : Nat) (e' : Option Addr) (f' : Nat) (m : M4) (ht : MT m) (h1 : SlM X ⟨a, b, c, d, e, f⟩ m) (h2 : SlM X ⟨a', b', c', d', e', f'⟩ m) : Calls Try.prog 76 #[.agg #[.bool m.alive, .slice a m.copies.length b, .slice c m.log.length d, .slice e m.cleared.length f], .agg #[.bool m.alive, .slice a' m.copies.length b', .slice c' m.log.length d', .slice e' m.cleared.length f']] X fun r w' => r = .returned (.bool true) ∧ Below X.heap.size X w' := by
  have hh := eqMachine_same X ⟨a, b, c, d, e, f⟩ ⟨a', b', c', d', e', f'⟩ m ht.ml h1 h2
  simp only [MV.val] at hh
  exact hh
def KMk : Kd M4 MV where
  n := 4
  cells v m := [.bool m.alive, .slice v.ac m.copies.length v.cc, .slice v.al m.log.length v.cl, .slice v.ad m.cleared.length v.cd]
  len := fun _ _ => rfl
  Rd := SlM
  Ow w B v m P := KM.Ow w B v.ac v.cc v.al v.cl v.ad v.cd m P
  later := fun h b => h.later b
  sl := fun h => h.sl
  of := fun h hq => h.of hq
  keep := fun h hs hk => h.keep hs hk
  low := fun h hb => h.low hb
end Go.Proofs.Ytcbfnajpcaipkaa
namespace Go.Proofs.Ytcbfnajpcaipkaa
open Go.RowKit
open Go.Sort (grow)
theorem info_KMS : (Try.prog.info? 61).map (fun i => (i.zero, i.size, i.bytes)) = some (some (.agg #[.bool false, .slice none 0 0, .slice none 0 0, .slice none 0 0]), 4, 80) := by kernel_rfl
theorem make_KMS (n : Nat) (hn : n ≤ 1048576) (w : World) : (Instr.makeSlice 23 (.int .i64 (n : Int)) (.int .i64 (n : Int))).run Try.prog w = .ok (.slice (some ⟨w.heap.size, 0, none⟩) n n) (w.alloc (.cells (madeCells #[.bool false, .slice none 0 0, .slice none 0 0, .slice none 0 0] (n * 4)) 61)) := by
  obtain ⟨i, hi, hzz⟩ := Option.map_eq_some_iff.1 info_KMS
  simp only [Prod.mk.injEq] at hzz
  obtain ⟨hz, hs, hb⟩ := hzz
  have := run_make (P := Try.prog) w 23 61 i _ Try.underlying23 hi hz .i64 .i64 (n : Int) (n : Int) (by omega) (by omega) (by rw [hb]; omega) (by omega)
  rw [hs] at this
  simpa [Value.cells] using this
set_option maxRecDepth 100000 in
set_option maxHeartbeats 4000000 in
theorem KMS.eq (w : World) (a a' : Option Addr) (cap cap' : Nat) (xs : List M4) (hn : xs.length ≤ 1048576) (ht : ∀ d ∈ xs, MT d) (h1 : KMk.RdS w a xs) (h2 : KMk.RdS w a' xs) : Calls Try.prog 34 #[.slice a xs.length cap, .slice a' xs.length cap'] w fun e w' => e = .returned (.bool true) ∧ Below w.heap.size w w' := by
  go_enter Try.func34, Try.ntmps34
  go_wp2
  go_loopw [5] (fun i wr => ∃ j : Nat, j ≤ xs.length ∧ i = .int .i64 j ∧ Below w.heap.size w wr) (fun i _ => xs.length - (intOf i).toNat)
  case atStart => exact ⟨0, Nat.zero_le _, rfl, Below.refl _ _⟩
  case round =>
    obtain ⟨j, hj, rfl, hbl⟩ := hrel
    by_cases hlt : j < xs.length
    · obtain ⟨d, hd⟩ : ∃ d, xs[j]? = some d := ⟨_, List.getElem?_eq_getElem hlt⟩
      rcases h1 with h1 | ⟨b, off, rfl, hb, h1⟩
      · rw [h1] at hlt; simp at hlt
      · rcases h2 with h2 | ⟨b', off', rfl, hb', h2⟩
        · rw [h2] at hlt; simp at hlt
        · obtain ⟨⟨c0, c1, c2, c3, c4, c5⟩, hat, hrd⟩ := h1 j d hd
          obtain ⟨⟨b0, b1, b2, b3, b4, b5⟩, hat', hrd'⟩ := h2 j d hd
          have x0 : ∀ dd os, (grow (redrawn wr dd) os).cell? ⟨b, off + j * 4, none⟩ = some (.bool d.alive) := fun dd os => ((below_regrown wr dd os).cell (p := ⟨b, off + j * 4, none⟩) (Nat.lt_of_lt_of_le hb hbl.size)).trans ((hbl.cell (p := ⟨b, off + j * 4, none⟩) hb).trans (hat 0 _ rfl))
          have x1 : ∀ dd os, (grow (redrawn wr dd) os).cell? ⟨b, off + j * 4 + 1, none⟩ = some (.slice c0 d.copies.length c1) := fun dd os => ((below_regrown wr dd os).cell (p := ⟨b, off + j * 4 + 1, none⟩) (Nat.lt_of_lt_of_le hb hbl.size)).trans ((hbl.cell (p := ⟨b, off + j * 4 + 1, none⟩) hb).trans (hat 1 _ rfl))
          have x2 : ∀ dd os, (grow (redrawn wr dd) os).cell? ⟨b, off + j * 4 + 2, none⟩ = some (.slice c2 d.log.length c3) := fun dd os => ((below_regrown wr dd os).cell (p := ⟨b, off + j * 4 + 2, none⟩) (Nat.lt_of_lt_of_le hb hbl.size)).trans ((hbl.cell (p := ⟨b, off + j * 4 + 2, none⟩) hb).trans (hat 2 _ rfl))
          have x3 : ∀ dd os, (grow (redrawn wr dd) os).cell? ⟨b, off + j * 4 + 3, none⟩ = some (.slice c4 d.cleared.length c5) := fun dd os => ((below_regrown wr dd os).cell (p := ⟨b, off + j * 4 + 3, none⟩) (Nat.lt_of_lt_of_le hb hbl.size)).trans ((hbl.cell (p := ⟨b, off + j * 4 + 3, none⟩) hb).trans (hat 3 _ rfl))
          have y0 : ∀ dd os, (grow (redrawn wr dd) os).cell? ⟨b', off' + j * 4, none⟩ = some (.bool d.alive) := fun dd os => ((below_regrown wr dd os).cell (p := ⟨b', off' + j * 4, none⟩) (Nat.lt_of_lt_of_le hb' hbl.size)).trans ((hbl.cell (p := ⟨b', off' + j * 4, none⟩) hb').trans (hat' 0 _ rfl))
          have y1 : ∀ dd os, (grow (redrawn wr dd) os).cell? ⟨b', off' + j * 4 + 1, none⟩ = some (.slice b0 d.copies.length b1) := fun dd os => ((below_regrown wr dd os).cell (p := ⟨b', off' + j * 4 + 1, none⟩) (Nat.lt_of_lt_of_le hb' hbl.size)).trans ((hbl.cell (p := ⟨b', off' + j * 4 + 1, none⟩) hb').trans (hat' 1 _ rfl))
          have y2 : ∀ dd os, (grow (redrawn wr dd) os).cell? ⟨b', off' + j * 4 + 2, none⟩ = some (.slice b2 d.log.length b3) := fun dd os => ((below_regrown wr dd os).cell (p := ⟨b', off' + j * 4 + 2, none⟩) (Nat.lt_of_lt_of_le hb' hbl.size)).trans ((hbl.cell (p := ⟨b', off' + j * 4 + 2, none⟩) hb').trans (hat' 2 _ rfl))
          have y3 : ∀ dd os, (grow (redrawn wr dd) os).cell? ⟨b', off' + j * 4 + 3, none⟩ = some (.slice b4 d.cleared.length b5) := fun dd os => ((below_regrown wr dd os).cell (p := ⟨b', off' + j * 4 + 3, none⟩) (Nat.lt_of_lt_of_le hb' hbl.size)).trans ((hbl.cell (p := ⟨b', off' + j * 4 + 3, none⟩) hb').trans (hat' 3 _ rfl))
          have cQ : ∀ dd os, Calls Try.prog 76 #[.agg #[.bool d.alive, .slice c0 d.copies.length c1, .slice c2 d.log.length c3, .slice c4 d.cleared.length c5], .agg #[.bool d.alive, .slice b0 d.copies.length b1, .slice b2 d.log.length b3, .slice b4 d.cleared.length b5]] (grow (redrawn wr dd) os) fun e w'' => e = .returned (.bool true) ∧ ∃ p : Regrown, w'' = grow (redrawn wr p.d) p.os := fun dd os => Calls.regrown_of (KM.eq _ c0 c1 c2 c3 c4 c5 b0 b1 b2 b3 b4 b5 d (ht d (List.mem_of_getElem? hd)) (KMk.later hrd (hbl.trans ((below_regrown wr dd os).mono hbl.size))) (KMk.later hrd' (hbl.trans ((below_regrown wr dd os).mono hbl.size))))
          have K : Hid (Below w.heap.size w wr) := hbl
          have jn : (j : Int) < (xs.length : Int) := by omega
          clear hat hat' hrd hrd' hbl h1 h2 ht hd
          go_wp2_with fail
          refine wp_region_quiet_below (by kernel_rfl) (by kernel_rfl) ?_
          repeat (go_big_quiet_step (exact cQ _ _))
          refine wpQuiet_nil ?_
          intro _ hw'
          obtain ⟨⟨dq, osq⟩, hw''⟩ := hw'
          subst hw''
          have bq := below_regrown wr dq osq
          go_wp2
          exact ⟨⟨j + 1, by omega, by simp, K.out.trans (bq.mono K.out.size)⟩, by simp [intOf]; omega⟩
    · obtain rfl : j = xs.length := by omega
      have hd : decide ((xs.length : Int) < (xs.length : Int)) = false := by simp
      clear h1 h2 ht
      go_wp2
      go_ret
      exact ⟨rfl, hbl⟩
def KMS.szs (xs : List M4) : Nat := (xs.map fun d => szM d).sum
end Go.Proofs.Ytcbfnajpcaipkaa