/- NcJ; PlsL; KdClS; MacOk1; HdU; CellOk; Oks; Oks2; MacOk2; Oks3; MacOkI; L6At; NumHas; Mach; PlacesS; YTxS: joined. -/
import Derived.Test.YtcbfnajpcaipkaaRows
import Derived.Test.YtcbfnajpcaipkaaNmJJ
import Derived.Test.YtcbfnajpcaipkaaSpreadIJ
import Derived.WalkKit
import Derived.WalkSpells
import Derived.WalkLawsBesides
import Derived.Below
import Derived.Lib.QuietBelow
import Derived.BigQuiet
import Derived.Deep.CutRange
import Derived.LaidEql
import Derived.RowKitTokens
import Derived.Deep.Upon
import Derived.Deep.RegionWith
import Derived.Test.YtcbfnajpcaipkaaJ2ExactNewCluster
import Derived.Deep.QuietTactic
import Derived.Test.YtcbfnajpcaipkaaJ17ExactNewCluster
import Derived.Test.YtcbfnajpcaipkaaJ0ExactNewCluster
import Derived.Test.YtcbfnajpcaipkaaJ1ExactNewCluster
import Derived.Test.YtcbfnajpcaipkaaJ7ExactNewCluster
import Derived.Test.YtcbfnajpcaipkaaJ3ExactNewCluster
import Derived.Test.YtcbfnajpcaipkaaMacEqJ
import Derived.Test.YtcbfnajpcaipkaaJ14ExactNewCluster
namespace Go.Proofs.Ytcbfnajpcaipkaa
open Go.RowKit
open Go.Sort (grow)
theorem ncOw {X : World} {B S b cap n m : Nat} {zss : List (List Int)} {g : Nat → Nat} {P : Nat → Prop} {Ms : List M4} (hp : OwnP X B b n zss g) (hb : B ≤ b) (hbS : b < S) (hgS : ∀ i, i < n → g i < S) (hBS : B ≤ S) (hm : KMk.OwS X S (some ⟨S, 0, none⟩) Ms P) (hX : S ≤ X.heap.size) : ∃ Q, (∀ q, Q q → B ≤ q) ∧ KCl.Ow X B (some ⟨b, 0, none⟩) cap (some ⟨S, 0, none⟩) m none 0 ⟨1, 0, zss, Ms, [], false⟩ Q := by
  have hn := hp.len
  have p1 : ∀ q, (q = b ∨ ∃ i, i < n ∧ g i = q) → B ≤ q ∧ q < S := fun q hq => by
    rcases hq with rfl | ⟨i, hi, rfl⟩
    · exact ⟨hb, hbS⟩
    · exact ⟨hp.low i hi, hgS i hi⟩
  have p2 : ∀ q, P q → S ≤ q ∧ q < X.heap.size := fun q hq => hm.of hq
  refine ⟨fun q => (q = b ∨ ∃ i, i < n ∧ g i = q) ∨ P q, fun q hq => ?_, ⟨fun q => q = b ∨ ∃ i, i < n ∧ g i = q, P, fun _ => False, ⟨⟨g, .inr ⟨b, rfl, hb, Nat.lt_of_lt_of_le hbS hX, by rw [hn]; exact hp⟩, fun x hx => .inl (by cases hx; rfl), fun i hi => .inr ⟨i, by rw [← hn]; exact hi, rfl⟩⟩, fun q hq => ⟨(p1 q hq).1, Nat.lt_of_lt_of_le (p1 q hq).2 hX⟩⟩, hm.low hBS, ⟨.inl rfl, fun q hq => hq.elim⟩, fun q hq => .inl hq, fun q hq => .inr hq, fun q hq => hq.elim, fun q h1 h2 => ?_, fun q _ h2 => h2, fun q _ h2 => h2⟩, fun q hq => ?_⟩
  · rcases hq with hq | hq
    · exact (p1 q hq).1
    · have := (p2 q hq).1; omega
  · have := p1 q h1; have := p2 q h2; omega
  · rcases hq with hq | hq
    · have := p1 q hq; omega
    · have := p2 q hq; omega
set_option maxRecDepth 100000 in
set_option maxHeartbeats 4000000 in
theorem implNewCluster_in (w : World) (n m : Nat) (hn1 : 1 ≤ n) (hn6 : n ≤ 6) (hm1 : 1 ≤ m) (hm8 : m ≤ 8) :
    Calls Try.prog 9 #[.int .i64 (n : Int), .int .i64 (m : Int)] w (CbAns w ⟨1, 0, (spreadN n m), ncMs (spreadN n m) n m, [], false⟩ true) := by
  obtain ⟨W0, hW0⟩ : ∃ Y, Y = w.alloc (.cells #[.int .i64 0, .int .i64 0, .slice none 0 0, .slice none 0 0, .slice none 0 0, .bool false] 26) := ⟨_, rfl⟩
  have b0 : Below w.heap.size w W0 := by rw [hW0]; exact (Below.refl _ _).alloc (Nat.le_refl _) _
  have x0 : Bx W0 w.heap.size [.int .i64 0, .int .i64 0, .slice none 0 0, .slice none 0 0, .slice none 0 0, .bool false] := by rw [hW0]; exact Bx.made w [.int .i64 0, .int .i64 0, .slice none 0 0, .slice none 0 0, .slice none 0 0, .bool false] _
  have s0 : W0.heap.size = w.heap.size + 1 := by rw [hW0]; simp
  have hc := implSpread_in W0 n m hn1 hn6 hm1 hm8
  have H : Hid (Below w.heap.size w W0 ∧ Bx W0 w.heap.size [.int .i64 0, .int .i64 0, .slice none 0 0, .slice none 0 0, .slice none 0 0, .bool false] ∧ W0.heap.size = w.heap.size + 1) := ⟨b0, x0, s0⟩
  clear b0 x0 s0
  go_enter Try.func9, Try.ntmps9
  go_wp2_with fail
  rw [← hW0]
  clear hW0
  refine hc.mono ?_
  clear hc
  rintro e w1 ⟨g, rfl, hpl, hbl, b1⟩
  have hnm := newMachines_in w1 W0.heap.size W0.heap.size n n m g hn6 hm1 hm8 hpl hbl
  have H1 : Hid (OwnP w1 W0.heap.size W0.heap.size n (spreadN n m) g ∧ W0.heap.size < w1.heap.size ∧ Below W0.heap.size W0 w1) := ⟨hpl, hbl, b1⟩
  clear hpl hbl b1
  go_wp2_with fail
  refine hnm.mono ?_
  clear hnm
  rintro e w2 ⟨rfl, ⟨P, hP⟩, b2⟩
  obtain ⟨h1, h2, h3⟩ := H.out
  obtain ⟨p1, p2, p3⟩ := H1.out
  obtain ⟨Q, hQ, how⟩ := ncOw (cap := n) (m := m) (p1.later b2 p2) (Nat.le_refl _) p2 p1.lt (Nat.le_of_lt p2) hP b2.size
  have y0 := (h2.later p3).later b2
  have r0 := y0.1 0 _ rfl
  have r1 := y0.1 1 _ rfl
  have r2 := y0.1 2 _ rfl
  have r3 := y0.1 3 _ rfl
  have r4 := y0.1 4 _ rfl
  have r5 := y0.1 5 _ rfl
  have f0 := y0.2.1 0
  have f1 := y0.2.1 1
  have f2 := y0.2.1 2
  have f3 := y0.2.1 3
  have f4 := y0.2.1 4
  have f5 := y0.2.1 5
  have KE : Hid (KCl.Ow w2 W0.heap.size (some ⟨W0.heap.size, 0, none⟩) n (some ⟨w1.heap.size, 0, none⟩) m none 0 ⟨1, 0, (spreadN n m), ncMs (spreadN n m) n m, [], false⟩ Q ∧ (∀ q, Q q → W0.heap.size ≤ q) ∧ Below w.heap.size w w2 ∧ W0.heap.size = w.heap.size + 1) := ⟨how, hQ, bstep (bstep h1 p3) b2, h3⟩
  have L1 : Hid ((spreadN n m).length = n ∧ (ncMs (spreadN n m) n m).length = m) := ⟨spreadN_len n m, by simp [ncMs]⟩
  clear h1 h2 h3 p1 p2 p3 hQ how y0 b2 hP H H1
  generalize W0.heap.size = S0 at *
  generalize w1.heap.size = S1 at *
  go_wp2
  refine bodyPost_ret (v := .tuple #[.agg #[.int .i64 1, .int .i64 0, .slice (some ⟨S0, 0, none⟩) n n, .slice (some ⟨S1, 0, none⟩) m m, .slice none 0 0, .bool false], .bool true]) (by simp [results, Try.results9, go_sem, r0, r1, r2, r3, r4, r5]) rfl ?_
  refine ⟨some ⟨S0, 0, none⟩, n, some ⟨S1, 0, none⟩, m, none, 0, Q, ?_, ?_, ?_⟩
  · simp only [L1.out.1, L1.out.2, List.length_nil]
  · exact (KE.out.1.low0 (by have := KE.out.2.2.2; omega)).keep (w' := putB w2 w.heap.size 0 [.int .i64 1, .int .i64 0, .slice (some ⟨S0, 0, none⟩) n n, .slice (some ⟨S1, 0, none⟩) m m, .slice none 0 0, .bool false]) (by rw [putB_size]; exact Nat.le_refl _) (fun q hq => putB_block (fun e => by have := KE.out.2.1 q hq; have := KE.out.2.2.2; omega) _ _ _)
  · exact putB_below (w := w) (Nat.le_refl _) [.int .i64 1, .int .i64 0, .slice (some ⟨S0, 0, none⟩) n n, .slice (some ⟨S1, 0, none⟩) m m, .slice none 0 0, .bool false] w2 0 KE.out.2.2.1
set_option maxHeartbeats 1000000 in
theorem implNewCluster_any (w : World) (R M : Int) :
    Calls Try.prog 9 #[.int .i64 R, .int .i64 M] w (CbAns w (newC R M) (spreadB R M)) := by
  cases h : spreadB R M with
  | true =>
    obtain ⟨n, m, rfl, rfl, h1, h2, h3, h4⟩ := spread_bd h
    have hL : newC (n : Int) (m : Int) = ⟨1, 0, (spreadN n m), ncMs (spreadN n m) n m, [], false⟩ := by simp [newC, h]
    rw [hL]
    exact implNewCluster_in w n m h1 h2 h3 h4
  | false =>
    have hL : newC R M = noC := by simp [newC, h]
    rw [hL]
    obtain ⟨W0, hW0⟩ : ∃ Y, Y = w.alloc (.cells #[.int .i64 0, .int .i64 0, .slice none 0 0, .slice none 0 0, .slice none 0 0, .bool false] 26) := ⟨_, rfl⟩
    have b0 : Below w.heap.size w W0 := by rw [hW0]; exact (Below.refl _ _).alloc (Nat.le_refl _) _
    have x0 : Bx W0 w.heap.size [.int .i64 0, .int .i64 0, .slice none 0 0, .slice none 0 0, .slice none 0 0, .bool false] := by rw [hW0]; exact Bx.made w [.int .i64 0, .int .i64 0, .slice none 0 0, .slice none 0 0, .slice none 0 0, .bool false] _
    have hc := implSpread_out W0 R M h
    have B1 : Hid (Below w.heap.size w W0) := b0
    have r0 := x0.1 0 _ rfl
    have r1 := x0.1 1 _ rfl
    have r2 := x0.1 2 _ rfl
    have r3 := x0.1 3 _ rfl
    have r4 := x0.1 4 _ rfl
    have r5 := x0.1 5 _ rfl
    have f0 := x0.2.1 0
    have f1 := x0.2.1 1
    have f2 := x0.2.1 2
    have f3 := x0.2.1 3
    have f4 := x0.2.1 4
    have f5 := x0.2.1 5
    clear b0 x0
    go_enter Try.func9, Try.ntmps9
    go_wp2_with fail
    rw [← hW0]
    clear hW0
    refine hc.mono ?_
    clear hc
    rintro e w1 ⟨rfl, hw1⟩
    subst w1
    go_wp2
    refine bodyPost_ret (v := .tuple #[.agg #[.int .i64 0, .int .i64 0, .slice none 0 0, .slice none 0 0, .slice none 0 0, .bool false], .bool false]) (by simp [results, Try.results9, go_sem, r0, r1, r2, r3, r4, r5]) rfl ?_
    exact ⟨none, 0, none, 0, none, 0, fun _ => False, rfl, noC_ow _ _, putB_below (w := w) (Nat.le_refl _) [.int .i64 0, .int .i64 0, .slice none 0 0, .slice none 0 0, .slice none 0 0, .bool false] W0 0 B1.out⟩
def szR (n : Nat) (zss : List (List Int)) : Int := if n + lens zss ≤ 1048576 then ((1048576 - (n + lens zss) : Nat) : Int) else -1
end Go.Proofs.Ytcbfnajpcaipkaa
namespace Go.Proofs.Ytcbfnajpcaipkaa
open Go.RowKit
def szC (k : C6) : Nat := (k.places.length + lens k.places) + (k.machines.length + KMS.szs k.machines) + (k.txs.length + KTS.szs k.txs)
structure KCl.L (k : C6) : Prop where
  p : k.places.length ≤ maxLen
  ps : ∀ zs ∈ k.places, zs.length ≤ maxLen
  m : k.machines.length ≤ maxLen
  ms : ∀ m ∈ k.machines, ML m
  t : k.txs.length ≤ maxLen
  ts : ∀ t ∈ k.txs, tx.TL t
theorem sum_has {α : Type} (f : α → Nat) {x : α} : ∀ {l : List α}, x ∈ l → f x ≤ (l.map f).sum
  | y :: l, h => by
    simp only [List.map_cons, List.sum_cons]
    rcases List.mem_cons.1 h with rfl | h
    · omega
    · have := sum_has f h; omega
theorem KCl.S.of {k : C6} (h : szC k ≤ 1048576) : KCl.S k := by
  unfold szC at h
  refine ⟨by omega, fun zs hz => ?_, by omega, fun m hm => MT.of_sz ?_, by omega, fun t ht => ?_⟩
  · have := lens_mem hz; omega
  · have := sum_has (fun m => szM m) hm; unfold KMS.szs at h; omega
  · have h1 := sum_has (fun t => tx.szT t) ht
    unfold KTS.szs at h
    have h2 : tx.szT t = t.reads.length + t.sets.length := rfl
    exact ⟨by omega, by omega⟩
end Go.Proofs.Ytcbfnajpcaipkaa
namespace Go.Proofs.Ytcbfnajpcaipkaa
open Go.RowKit
open Go.Sort (grow)
def idAt (zs : List Int) (i : Nat) : Bool := inB 1 1000000 (atN zs i) && (decide (i = 0) || decide (atN zs (i - 1) < atN zs i))
def idsB (zs : List Int) : Bool := (List.range zs.length).all (idAt zs)
end Go.Proofs.Ytcbfnajpcaipkaa
namespace Go.Proofs.Ytcbfnajpcaipkaa
open Go.RowKit
def cellB (c : C2) : Bool := inB 0 4000003 c.head && inB (-1000000000) 1000000000 c.value && (usedB c.head || decide (c.value = 0))
def cellsB (xs : List C2) : Bool := decide (xs.length = 6) && xs.all cellB
end Go.Proofs.Ytcbfnajpcaipkaa
namespace Go.Proofs.Ytcbfnajpcaipkaa
open Go.RowKit
open Go.Sort (grow)
def at5 (xs : List S5) (i : Nat) : S5 := xs[i]?.getD ⟨0, 0, 0, false, 0⟩
def riseAt (xs : List S5) (i : Nat) : Bool := setOkB (at5 xs i) && (decide (i = 0) || decide ((at5 xs (i - 1)).slot < (at5 xs i).slot))
def l2At (xs : List S5) (i : Nat) : Bool := riseAt xs i && (decide (i = 0) || decide ((at5 xs i).region = (at5 xs 0).region))
def riseB (xs : List S5) : Bool := (List.range xs.length).all (riseAt xs)
def l2B (xs : List S5) : Bool := (List.range xs.length).all (l2At xs)
def sameB (r : Int) (xs : List S5) : Bool := xs.all (fun s => decide (s.region = r))
def recB (k t r : Int) (xs : List S5) : Bool := inB 1 3 k && inB 1 1000000 t && inB 0 5 r && decide (1 ≤ xs.length) && decide (xs.length ≤ 12) && riseB xs && sameB r xs
def specB (k t r : Int) (xs : List S5) : Bool := inB 1 3 k && inB 1 1000000 t && inB 0 5 r && decide (1 ≤ xs.length) && decide (xs.length ≤ 12) && l2B xs && decide ((at5 xs 0).region = r)
def copB (ks : List K2) (i : Nat) : Bool := inB 0 5 (atK ks i).region && cellsB (atK ks i).cells && (decide (i = 0) || decide ((atK ks (i - 1)).region < (atK ks i).region))
def logB (rs : List R4) (i : Nat) : Bool := recB (atR rs i).kind (atR rs i).tx (atR rs i).region (atR rs i).sets
def machB (m : M4) : Bool := decide (m.copies.length ≤ 6) && decide (m.log.length ≤ 200) && decide (m.cleared.length ≤ 60) && idsB m.cleared && (List.range m.copies.length).all (copB m.copies) && (List.range m.log.length).all (logB m.log)
def upK (ks : List K2) (i : Nat) : Bool := decide (i = 0) || decide ((atK ks (i - 1)).region < (atK ks i).region)
def upN (zs : List Int) (i : Nat) : Bool := decide (i = 0) || decide (atN zs (i - 1) < atN zs i)
def oneK (k : K2) : Bool := inB 0 5 k.region && cellsB k.cells
def copsB (ks : List K2) : Bool := (List.range ks.length).all (copB ks)
def logsB (rs : List R4) : Bool := decide (rs.length ≤ 200) && (List.range rs.length).all (logB rs)
def clrB (zs : List Int) : Bool := decide (zs.length ≤ 60) && idsB zs
end Go.Proofs.Ytcbfnajpcaipkaa
namespace Go.Proofs.Ytcbfnajpcaipkaa
open Go.RowKit
theorem first_ex (f : Nat → Bool) : ∀ n, ∃ i, FirstAt f n i
  | 0 => ⟨-1, .inl ⟨rfl, fun j hj => by omega⟩⟩
  | n + 1 => by
    obtain ⟨i, h⟩ := first_ex f n
    rcases h with ⟨rfl, h⟩ | ⟨k, rfl, hk, h1, h2⟩
    · by_cases e : f n = true
      · exact ⟨n, .inr ⟨n, rfl, by omega, e, h⟩⟩
      · refine ⟨-1, .inl ⟨rfl, fun j hj => ?_⟩⟩
        by_cases ej : j = n
        · rw [ej]; simpa using e
        · exact h j (by omega)
    · exact ⟨k, .inr ⟨k, rfl, by omega, h1, h2⟩⟩
noncomputable def idxC (m : M4) (y : Int) : Int := Classical.choose (first_ex (fun j => decide ((atK m.copies j).region = y)) m.copies.length)
def hasC (m : M4) (y : Int) : Bool := !((List.range m.copies.length).all fun j => !decide ((atK m.copies j).region = y))
def goodAt (zs : List Int) (k : Nat) : Bool := inB 0 7 (atN zs k) && !hasB (zs.take k) (atN zs k)
def placeB (zs : List Int) : Bool := decide (1 ≤ zs.length) && decide (zs.length ≤ 3) && (List.range zs.length).all (goodAt zs)
def placesB (zss : List (List Int)) : Bool := decide (1 ≤ zss.length) && decide (zss.length ≤ 6) && (List.range zss.length).all (fun i => placeB (atP zss i))
end Go.Proofs.Ytcbfnajpcaipkaa
namespace Go.Proofs.Ytcbfnajpcaipkaa.tx
open Go.RowKit
open Go.Sort (grow)
def noteOkB (n : N5) : Bool := inB 0 5 n.region && inB 0 5 n.slot && inB 0 1000000 n.version && inB (-1000000000) 1000000000 n.value
def lessB (r s q t : Int) : Bool := decide (r < q) || (decide (r = q) && decide (s < t))
def atNo (xs : List N5) (i : Nat) : N5 := xs[i]?.getD ⟨0, 0, 0, 0, false⟩
def atSe (xs : List S5) (i : Nat) : S5 := xs[i]?.getD ⟨0, 0, 0, false, 0⟩
def noAt (xs : List N5) (i : Nat) : Bool := noteOkB (atNo xs i) && (decide (i = 0) || lessB (atNo xs (i - 1)).region (atNo xs (i - 1)).slot (atNo xs i).region (atNo xs i).slot)
def seAt (xs : List S5) (i : Nat) : Bool := setOkB (atSe xs i) && (decide (i = 0) || lessB (atSe xs (i - 1)).region (atSe xs (i - 1)).slot (atSe xs i).region (atSe xs i).slot)
def headB (t : T7) : Bool := inB 1 1000000 t.id && inB 0 7 t.home && inB 1 9 t.phase && inB 0 1000 t.count && inB 0 1000000 t.stamp
def txB (t : T7) : Bool := headB t && decide (t.reads.length ≤ 12) && decide (t.sets.length ≤ 12) && (List.range t.reads.length).all (noAt t.reads) && (List.range t.sets.length).all (seAt t.sets)
end Go.Proofs.Ytcbfnajpcaipkaa.tx