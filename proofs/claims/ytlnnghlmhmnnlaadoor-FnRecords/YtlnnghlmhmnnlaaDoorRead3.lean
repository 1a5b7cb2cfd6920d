/- What the program's readNumbers answers at every text: the numbers that its states read. -/
import Derived.Test.YtlnnghlmhmnnlaaDoorRows
import Derived.Test.YtlnnghlmhmnnlaaDoorRead1
import Derived.Test.YtlnnghlmhmnnlaaDoorRead2
import Derived.WalkKit
import Derived.WalkSpells
import Derived.WalkLawsBesides
import Derived.WalkMore
import Derived.Scope
import Derived.Below
import Derived.Deep.AppendLies
import Derived.Deep.Heap
namespace Go.Proofs.YtlnnghlmhmnnlaaDoor
open Go.RowKit
def mkAct (s : ByteArray) (v6 : Value) (sg nb dg : Int) (p : Nat) (u : Nat → Value) : Act :=
  { tmps := #[.string s, .int .i64 52, undef, undef, .slice none 0 0, .bool false, v6, .int .i64 sg, .int .i64 nb, .int .i64 dg, .int .i64 p, u 11, u 12, u 13, u 14, u 15, u 16, u 17, u 18, u 19, u 20, u 21, u 22, u 23, u 24, u 25, u 26, u 27, u 28, u 29, u 30, u 31, u 32, u 33, u 34, u 35, u 36, u 37, u 38, u 39, u 40, u 41, u 42, u 43, u 44, u 45, u 46, u 47, u 48, u 49, u 50, u 51, u 52, u 53, u 54, u 55, u 56, u 57, u 58, u 59, u 60, u 61, u 62, u 63, u 64, u 65, u 66, u 67, u 68, u 69, u 70, u 71, u 72, u 73, u 74, u 75, u 76, u 77, u 78, u 79, u 80, u 81, u 82, u 83, u 84, u 85, u 86, u 87, u 88, u 89, u 90, u 91, u 92, u 93, u 94, u 95], defers := [] }
def isAct (a : Act) (s : ByteArray) (v6 : Value) (sg nb dg : Int) (p : Nat) : Prop := a = mkAct s v6 sg nb dg p (fun i => a.tmps.getD i undef)
def intsOf (zs : List Int) : List Value := zs.map (Value.int .i64)
def rank : Nat → Nat | 0 => 3 | 3 => 2 | 2 => 1 | _ => 0
def inv (R : Option (List Int)) (bs : List UInt8) (l : Nat) (ns : List Int) (sg nb dg : Int) (p : Nat) : Prop :=
  (l = 0 ∧ R = atBegin 52 ns (bs.drop p)) ∨ (l = 1 ∧ R = none) ∨
  (l = 2 ∧ ns.length ≠ 52 ∧ (sg = 1 ∨ sg = -1) ∧ 0 ≤ nb ∧ nb < 10 ^ 10 ∧ R = atEnd 52 ns (sg * nb) (bs.drop p)) ∨
  (l = 3 ∧ ns.length ≠ 52 ∧ (sg = 1 ∨ sg = -1) ∧ ∃ d : Nat, dg = d ∧ d ≤ 10 ∧ 0 ≤ nb ∧ nb < 10 ^ d ∧ p < bs.length ∧ R = atDigit 52 ns sg nb d (bs.drop p))
def Jn (R : Option (List Int)) (w : World) (bs : List UInt8) (l : Nat) (a : Act) (wr : World) : Prop :=
  ∃ (ns : List Int) (n : Nat) (av : Option Addr) (cap : Nat) (sg nb dg : Int) (p : Nat), isAct a ⟨bs.toArray⟩ (.slice av n cap) sg nb dg p ∧ ns.length = n ∧ p ≤ bs.length ∧ wr.ownsRow w.heap.size 2 1 (.slice av n cap) n (intsOf ns) ∧ Below w.heap.size w wr ∧ ns.length ≤ 52 ∧ inv R bs l ns sg nb dg p
def mu (bs : List UInt8) (l : Nat) (a : Act) (_ : World) : Nat := 4 * (bs.length - (intOf (a.tmps.getD 10 undef)).toNat) + rank l
theorem info_num : (Tryd.prog.info? 2).map (fun i => (i.zero, i.size, i.bytes)) = some (some (.int .i64 0), 1, 8) := by kernel_rfl
theorem pow_nine {d : Nat} (h : d < 10) : (10 : Int) ^ d ≤ 10 ^ 9 := by
  have : (10 : Nat) ^ d ≤ 10 ^ 9 := Nat.pow_le_pow_right (by omega) (by omega)
  exact_mod_cast this
theorem own_from {w : World} {B : Nat} {t : TypeId} {v : Value} {n : Nat} {vs : List Value} (h : w.ownsRow B t 1 v n vs) : ∀ q, v.ownBlock = some q → B ≤ q := by
  intro q hq
  rcases h.2 with ⟨h0, _⟩ | ⟨g, cap', cur, hv, hb, _⟩
  · rw [h0] at hq; cases hq
  · rw [hv] at hq; cases hq; exact hb
set_option maxRecDepth 100000 in
set_option maxHeartbeats 4000000 in
theorem readNumbers_any (w : World) (bs : List UInt8) (hl : bs.length ≤ 1048576) :
    Calls Tryd.prog 27 #[.string ⟨bs.toArray⟩, .int .i64 52] w fun e w' => Below w.heap.size w w' ∧ ((atBegin 52 [] bs = none ∧ e = .returned (.tuple #[.slice none 0 0, .bool false])) ∨
      ∃ (ns : List Int) (av : Option Addr) (cap : Nat), atBegin 52 [] bs = some ns ∧ e = .returned (.tuple #[.slice av ns.length cap, .bool true]) ∧ w'.ownsRow w.heap.size 2 1 (.slice av ns.length cap) ns.length (intsOf ns)) := by
  generalize hR : atBegin 52 [] bs = R
  go_enter Tryd.func27, Tryd.ntmps27
  go_wp2
  refine wp_scope_labels (Jn R w bs) (mu bs) ?_ ?_
  · have HR : Hid (R = atBegin 52 [] (bs.drop 0)) := by unfold Hid; rw [List.drop_zero]; exact hR.symm
    clear hR
    go_wp2
    go_step3
    by_cases hend : bs.length = 0
    · have q2 : ((0 : Int) == (bs.length : Int)) = true := by simp; omega
      have HD : Hid (bs.drop 0 = []) := by unfold Hid; exact List.drop_eq_nil_iff.2 (by omega)
      go_wp2
      go_step3
      exact ⟨[], 0, none, 0, 1, 0, 0, 0, rfl, rfl, by omega, ⟨rfl, .inl ⟨rfl, rfl⟩⟩, Below.refl _ _, by simp, .inr (.inl ⟨rfl, by rw [HR.out, HD.out]; exact begin_nil _⟩)⟩
    · have hlt : 0 < bs.length := by omega
      have q2 : ((0 : Int) == (bs.length : Int)) = false := by simp; omega
      have HD : Hid (bs.drop 0 = bs[0] :: bs.drop (1)) := List.drop_eq_getElem_cons hlt
      obtain ⟨x, hx⟩ : ∃ x : Nat, x = bs[0].toNat := ⟨_, rfl⟩
      have hbyte : ((ByteArray.mk bs.toArray)[0]'(by show 0 < bs.length; exact hlt)).toNat = x := by rw [hx]; rfl
      have q3 : (0 : Int) < (bs.length : Int) := by omega
      by_cases h48 : bs[0] = 48
      · have q4 : ((x : Int) == 48) = true := by rw [hx, h48]; rfl
        have HR2 : Hid (R = atEnd 52 [] 0 (bs.drop (1))) := by unfold Hid; rw [HR.out, HD.out, h48]; exact begin_zero (by simp) _
        clear h48 hx
        go_wp2
        go_step3
        exact ⟨[], 0, none, 0, 1, 0, 0, 1, rfl, rfl, by omega, ⟨rfl, .inl ⟨rfl, rfl⟩⟩, Below.refl _ _, by simp, .inr (.inr (.inl ⟨rfl, (by simp), .inl rfl, by omega, by omega, by simpa using HR2.out⟩))⟩
      · have q4 : ((x : Int) == 48) = false := by
          simp only [beq_eq_false_iff_ne, ne_eq]
          intro e
          exact h48 (UInt8.toNat_inj.1 (by show bs[0].toNat = 48; omega))
        have q4' : ((x : Int) != 48) = true := by simp only [bne, q4]; rfl
        by_cases h45 : bs[0] = 45
        · have q5 : ((x : Int) == 45) = true := by rw [hx, h45]; rfl
          have HD1 : Hid (bs.drop 0 = 45 :: bs.drop (1)) := by have := HD.out; rw [h45] at this; exact this
          clear h45 h48 hx
          by_cases hend1 : bs.length = 1
          · have q6 : decide ((1 : Int) < (bs.length : Int)) = false := by simp; omega
            have HD2 : Hid (bs.drop (1) = []) := by unfold Hid; exact List.drop_eq_nil_iff.2 (by omega)
            go_wp2
            go_step3
            exact ⟨[], 0, none, 0, (-1), 0, 0, 1, rfl, rfl, by omega, ⟨rfl, .inl ⟨rfl, rfl⟩⟩, Below.refl _ _, by simp, .inr (.inl ⟨rfl, by rw [HR.out, HD1.out, HD2.out]; exact begin_minus_nil⟩)⟩
          · have hlt1 : 1 < bs.length := by omega
            have q6 : (1 : Int) < (bs.length : Int) := by omega
            have HD2 : Hid (bs.drop (1) = bs[1] :: bs.drop (1 + 1)) := List.drop_eq_getElem_cons hlt1
            obtain ⟨y, hy⟩ : ∃ y : Nat, y = bs[1].toNat := ⟨_, rfl⟩
            have hbyte2 : ((ByteArray.mk bs.toArray)[1]'(by show 1 < bs.length; exact hlt1)).toNat = y := by rw [hy]; rfl
            by_cases g48 : bs[1] = 48
            · have q7 : ((y : Int) == 48) = true := by rw [hy, g48]; rfl
              have q7' : ((y : Int) != 48) = false := by rw [hy, g48]; rfl
              have HN : Hid (R = none) := by unfold Hid; rw [HR.out, HD1.out, HD2.out, g48]; exact begin_minus_zero _
              clear g48 hy
              go_wp2
              go_step3
              exact ⟨[], 0, none, 0, (-1), 0, 0, 1, rfl, rfl, by omega, ⟨rfl, .inl ⟨rfl, rfl⟩⟩, Below.refl _ _, by simp, .inr (.inl ⟨rfl, HN.out⟩)⟩
            · have q7 : ((y : Int) == 48) = false := by
                simp only [beq_eq_false_iff_ne, ne_eq]
                intro e
                exact g48 (UInt8.toNat_inj.1 (by show bs[1].toNat = 48; omega))
              have q7' : ((y : Int) != 48) = true := by simp only [bne, q7]; rfl
              have HN : Hid (R = atDigit 52 [] (-1) 0 0 (bs.drop (1))) := by unfold Hid; rw [HR.out, HD1.out, HD2.out]; exact begin_minus (by simp) g48 _
              clear g48 hy
              go_wp2
              go_step3
              exact ⟨[], 0, none, 0, (-1), 0, 0, 1, rfl, rfl, by omega, ⟨rfl, .inl ⟨rfl, rfl⟩⟩, Below.refl _ _, by simp, .inr (.inr (.inr ⟨rfl, (by simp), .inr rfl, 0, rfl, by omega, by omega, by simp, hlt1, HN.out⟩))⟩
        · have q5 : ((x : Int) == 45) = false := by
            simp only [beq_eq_false_iff_ne, ne_eq]
            intro e
            exact h45 (UInt8.toNat_inj.1 (by show bs[0].toNat = 45; omega))
          have HN : Hid (R = atDigit 52 [] 1 0 0 (bs.drop 0)) := by unfold Hid; rw [HR.out, HD.out]; exact begin_digit (by simp) h48 h45 _
          clear h45 h48 hx
          go_wp2
          go_step3
          exact ⟨[], 0, none, 0, 1, 0, 0, 0, rfl, rfl, by omega, ⟨rfl, .inl ⟨rfl, rfl⟩⟩, Below.refl _ _, by simp, .inr (.inr (.inr ⟨rfl, (by simp), .inl rfl, 0, rfl, by omega, by omega, by simp, hlt, HN.out⟩))⟩
  · rintro l a wr ⟨ns, n, av, cap, sg, nb, dg, p, ha, hlen, hp, hown, hbl, h52, hinv⟩
    obtain ⟨u, rfl⟩ : ∃ u, a = mkAct ⟨bs.toArray⟩ (.slice av n cap) sg nb dg p u := ⟨_, ha⟩
    clear ha
    have K : Hid (wr.ownsRow w.heap.size 2 1 (.slice av n cap) n (intsOf ns) ∧ Below w.heap.size w wr) := ⟨hown, hbl⟩
    clear hown hbl
    rcases hinv with ⟨rfl, hR'⟩ | ⟨rfl, hR'⟩ | ⟨rfl, hne, hsg, hn0, hn1, hR'⟩ | ⟨rfl, hne, hsg, d, rfl, hd, hn0, hn1, hlt, hR'⟩
    · refine ⟨_, rfl, ?_⟩
      have HR : Hid (R = atBegin 52 ns (bs.drop p)) := hR'
      clear hR' hR
      unfold mkAct
      by_cases h52' : n = 52
      · have q1 : ((n : Int) == 52) = true := by rw [h52']; rfl
        have HN : Hid (R = none) := by unfold Hid; rw [HR.out]; exact begin_full (by omega) _
        clear h52'
        go_wp2
        go_step3
        exact ⟨⟨ns, n, av, cap, 1, 0, 0, p, rfl, hlen, hp, K.out.1, K.out.2, h52, .inr (.inl ⟨rfl, HN.out⟩)⟩, by simp [mu, rank, intOf]⟩
      · have q1 : ((n : Int) == 52) = false := by simp; omega
        by_cases hend : bs.length = p
        · have q2 : ((p : Int) == (bs.length : Int)) = true := by simp; omega
          have HD : Hid (bs.drop p = []) := by unfold Hid; exact List.drop_eq_nil_iff.2 (by omega)
          go_wp2
          go_step3
          exact ⟨⟨ns, n, av, cap, 1, 0, 0, p, rfl, hlen, by omega, K.out.1, K.out.2, h52, .inr (.inl ⟨rfl, by rw [HR.out, HD.out]; exact begin_nil _⟩)⟩, by simp [mu, rank, intOf]⟩
        · have hlt : p < bs.length := by omega
          have q2 : ((p : Int) == (bs.length : Int)) = false := by simp; omega
          have HD : Hid (bs.drop p = bs[p] :: bs.drop (p + 1)) := List.drop_eq_getElem_cons hlt
          obtain ⟨x, hx⟩ : ∃ x : Nat, x = bs[p].toNat := ⟨_, rfl⟩
          have hbyte : ((ByteArray.mk bs.toArray)[p]'(by show p < bs.length; exact hlt)).toNat = x := by rw [hx]; rfl
          have q3 : (p : Int) < (bs.length : Int) := by omega
          by_cases h48 : bs[p] = 48
          · have q4 : ((x : Int) == 48) = true := by rw [hx, h48]; rfl
            have HR2 : Hid (R = atEnd 52 ns 0 (bs.drop (p + 1))) := by unfold Hid; rw [HR.out, HD.out, h48]; exact begin_zero (by rw [hlen]; exact h52') _
            clear h48 hx
            go_wp2
            go_step3
            exact ⟨⟨ns, n, av, cap, 1, 0, 0, p + 1, rfl, hlen, by omega, K.out.1, K.out.2, h52, .inr (.inr (.inl ⟨rfl, (by rw [hlen]; exact h52'), .inl rfl, by omega, by omega, by simpa using HR2.out⟩))⟩, by simp [mu, rank, intOf]; omega⟩
          · have q4 : ((x : Int) == 48) = false := by
              simp only [beq_eq_false_iff_ne, ne_eq]
              intro e
              exact h48 (UInt8.toNat_inj.1 (by show bs[p].toNat = 48; omega))
            have q4' : ((x : Int) != 48) = true := by simp only [bne, q4]; rfl
            by_cases h45 : bs[p] = 45
            · have q5 : ((x : Int) == 45) = true := by rw [hx, h45]; rfl
              have HD1 : Hid (bs.drop p = 45 :: bs.drop (p + 1)) := by have := HD.out; rw [h45] at this; exact this
              clear h45 h48 hx
              by_cases hend1 : bs.length = p + 1
              · have q6 : decide (((p : Int) + 1) < (bs.length : Int)) = false := by simp; omega
                have HD2 : Hid (bs.drop (p + 1) = []) := by unfold Hid; exact List.drop_eq_nil_iff.2 (by omega)
                go_wp2
                go_step3
                exact ⟨⟨ns, n, av, cap, (-1), 0, 0, p + 1, rfl, hlen, by omega, K.out.1, K.out.2, h52, .inr (.inl ⟨rfl, by rw [HR.out, HD1.out, HD2.out]; exact begin_minus_nil⟩)⟩, by simp [mu, rank, intOf]; omega⟩
              · have hlt1 : p + 1 < bs.length := by omega
                have q6 : ((p : Int) + 1) < (bs.length : Int) := by omega
                have HD2 : Hid (bs.drop (p + 1) = bs[p + 1] :: bs.drop (p + 1 + 1)) := List.drop_eq_getElem_cons hlt1
                obtain ⟨y, hy⟩ : ∃ y : Nat, y = bs[p + 1].toNat := ⟨_, rfl⟩
                have hbyte2 : ((ByteArray.mk bs.toArray)[p + 1]'(by show p + 1 < bs.length; exact hlt1)).toNat = y := by rw [hy]; rfl
                by_cases g48 : bs[p + 1] = 48
                · have q7 : ((y : Int) == 48) = true := by rw [hy, g48]; rfl
                  have q7' : ((y : Int) != 48) = false := by rw [hy, g48]; rfl
                  have HN : Hid (R = none) := by unfold Hid; rw [HR.out, HD1.out, HD2.out, g48]; exact begin_minus_zero _
                  clear g48 hy
                  go_wp2
                  go_step3
                  exact ⟨⟨ns, n, av, cap, (-1), 0, 0, p + 1, rfl, hlen, by omega, K.out.1, K.out.2, h52, .inr (.inl ⟨rfl, HN.out⟩)⟩, by simp [mu, rank, intOf]; omega⟩
                · have q7 : ((y : Int) == 48) = false := by
                    simp only [beq_eq_false_iff_ne, ne_eq]
                    intro e
                    exact g48 (UInt8.toNat_inj.1 (by show bs[p + 1].toNat = 48; omega))
                  have q7' : ((y : Int) != 48) = true := by simp only [bne, q7]; rfl
                  have HN : Hid (R = atDigit 52 ns (-1) 0 0 (bs.drop (p + 1))) := by unfold Hid; rw [HR.out, HD1.out, HD2.out]; exact begin_minus (by rw [hlen]; exact h52') g48 _
                  clear g48 hy
                  go_wp2
                  go_step3
                  exact ⟨⟨ns, n, av, cap, (-1), 0, 0, p + 1, rfl, hlen, by omega, K.out.1, K.out.2, h52, .inr (.inr (.inr ⟨rfl, (by rw [hlen]; exact h52'), .inr rfl, 0, rfl, by omega, by omega, by simp, hlt1, HN.out⟩))⟩, by simp [mu, rank, intOf]; omega⟩
            · have q5 : ((x : Int) == 45) = false := by
                simp only [beq_eq_false_iff_ne, ne_eq]
                intro e
                exact h45 (UInt8.toNat_inj.1 (by show bs[p].toNat = 45; omega))
              have HN : Hid (R = atDigit 52 ns 1 0 0 (bs.drop p)) := by unfold Hid; rw [HR.out, HD.out]; exact begin_digit (by rw [hlen]; exact h52') h48 h45 _
              clear h45 h48 hx
              go_wp2
              go_step3
              exact ⟨⟨ns, n, av, cap, 1, 0, 0, p, rfl, hlen, by omega, K.out.1, K.out.2, h52, .inr (.inr (.inr ⟨rfl, (by rw [hlen]; exact h52'), .inl rfl, 0, rfl, by omega, by omega, by simp, hlt, HN.out⟩))⟩, by simp [mu, rank, intOf]⟩
    · refine ⟨_, rfl, ?_⟩
      have HR : Hid (R = none) := hR'
      clear hR' hR
      unfold mkAct
      go_wp2
      simp only [jumpTo]
      go_ret2
      exact ⟨K.out.2, .inl ⟨HR.out, rfl⟩⟩
    · refine ⟨_, rfl, ?_⟩
      have hn1' : nb < 10000000000 := hn1
      clear hn1
      rcases hsg with rfl | rfl
      · have HRe : Hid (R = atEnd 52 ns (nb) (bs.drop p)) := by unfold Hid; simpa using hR'
        clear hR' hR
        unfold mkAct
        by_cases hend : p = bs.length
        · subst hend
          have q1 : ((bs.length : Int) == (bs.length : Int)) = true := by simp
          have HDe : Hid (bs.drop bs.length = []) := List.drop_length
          have hownA : Hid ((wr.alloc (.cells #[.int .i64 (nb)] 2)).ownsRow w.heap.size 2 1 (.slice av n cap) n (intsOf ns)) := K.out.1.alloc _
          have hnewsA : Hid (∀ (j : Nat) (v : Value), ([.int .i64 (nb)] : List Value)[j]? = some v → (wr.alloc (.cells #[.int .i64 (nb)] 2)).cell? ((⟨wr.heap.size, 0, none⟩ : Addr).add j) = some v) := World.news_of_block (w := wr.alloc (.cells #[.int .i64 (nb)] 2)) (B := wr.heap.size) (cs := #[.int .i64 (nb)]) (t := 2) (fr := (0, 0)) (Go.Deep.blk_alloc_new wr _)
          have hA1 : Hid (n + 1 ≤ maxLen) := by unfold Hid maxLen; omega
          have hA2 : Hid ((n + 1) * 8 ≤ 140737488355328) := by unfold Hid; omega
          have hA3 : Hid (w.heap.size ≤ (wr.alloc (.cells #[.int .i64 (nb)] 2)).heap.size) := by unfold Hid; simp; have := K.out.2.size; omega
          have hA4 : Hid ((wr.alloc (.cells #[.int .i64 (nb)] 2)).heap.size = wr.heap.size + 1) := by unfold Hid; simp
          have hA5 : Hid (∀ q, (Value.slice av n cap).ownBlock = some q → w.heap.size ≤ q) := own_from K.out.1
          obtain ⟨i0, hi0, hz0, hz1, hz2⟩ := info_parts info_num
          go_wp2_with (at_builtin; refine wpList_append_lies (wr.alloc (.cells #[.int .i64 (nb)] 2)) rfl (.tmp 79) (.tmp 83) 40 rfl w.heap.size 2 i0 (.int .i64 0) 1 8 Tryd.underlying40 hi0 hz0 hz1 hz2 rfl (by decide) (.slice av n cap) n _ rfl hownA.out ⟨wr.heap.size, 0, none⟩ 1 1 [.int .i64 (nb)] rfl rfl hnewsA.out (by intro v hv; simp at hv; subst hv; rfl) (by decide) hA1.out hA2.out hA3.out (wr.heap.size + 1) hA4.out ?_; intro g2 cap2 w2 hown2 hgrow hat2 hlt2; have K2 : Hid (w2.ownsRow w.heap.size 2 1 (.slice (some ⟨g2, 0, none⟩) (n + 1) cap2) (n + 1) (intsOf ns ++ [.int .i64 (nb)]) ∧ World.grownBy (wr.alloc (.cells #[.int .i64 (nb)] 2)) w2 (Value.slice av n cap).ownBlock) := ⟨hown2, hgrow⟩; clear hown2 hgrow hat2 hlt2)
          simp only [jumpTo]
          go_ret2
          exact ⟨Below.grown (K.out.2.alloc K.out.2.size _) K2.out.2 hA3.out hA5.out, .inr ⟨ns ++ [nb], some ⟨g2, 0, none⟩, cap2, by rw [HRe.out, HDe.out]; rfl, by rw [List.length_append, hlen]; rfl, by rw [List.length_append, hlen]; exact (by have := K2.out.1; simpa [intsOf] using this)⟩⟩
        · have hlt : p < bs.length := by omega
          have q1 : ((p : Int) == (bs.length : Int)) = false := by simp; omega
          have HDe : Hid (bs.drop p = bs[p] :: bs.drop (p + 1)) := List.drop_eq_getElem_cons hlt
          obtain ⟨x, hx⟩ : ∃ x : Nat, x = bs[p].toNat := ⟨_, rfl⟩
          have hbyte : ((ByteArray.mk bs.toArray)[p]'(by show p < bs.length; exact hlt)).toNat = x := by rw [hx]; rfl
          by_cases h32 : bs[p] = 32
          · have q2 : ((x : Int) == 32) = true := by rw [hx, h32]; rfl
            have HDe : Hid (bs.drop p = 32 :: bs.drop (p + 1)) := by have := HDe.out; rw [h32] at this; exact this
            clear h32 hx
            have hownA : Hid ((wr.alloc (.cells #[.int .i64 (nb)] 2)).ownsRow w.heap.size 2 1 (.slice av n cap) n (intsOf ns)) := K.out.1.alloc _
            have hnewsA : Hid (∀ (j : Nat) (v : Value), ([.int .i64 (nb)] : List Value)[j]? = some v → (wr.alloc (.cells #[.int .i64 (nb)] 2)).cell? ((⟨wr.heap.size, 0, none⟩ : Addr).add j) = some v) := World.news_of_block (w := wr.alloc (.cells #[.int .i64 (nb)] 2)) (B := wr.heap.size) (cs := #[.int .i64 (nb)]) (t := 2) (fr := (0, 0)) (Go.Deep.blk_alloc_new wr _)
            have hA1 : Hid (n + 1 ≤ maxLen) := by unfold Hid maxLen; omega
            have hA2 : Hid ((n + 1) * 8 ≤ 140737488355328) := by unfold Hid; omega
            have hA3 : Hid (w.heap.size ≤ (wr.alloc (.cells #[.int .i64 (nb)] 2)).heap.size) := by unfold Hid; simp; have := K.out.2.size; omega
            have hA4 : Hid ((wr.alloc (.cells #[.int .i64 (nb)] 2)).heap.size = wr.heap.size + 1) := by unfold Hid; simp
            have hA5 : Hid (∀ q, (Value.slice av n cap).ownBlock = some q → w.heap.size ≤ q) := own_from K.out.1
            obtain ⟨i0, hi0, hz0, hz1, hz2⟩ := info_parts info_num
            go_wp2_with (at_builtin; refine wpList_append_lies (wr.alloc (.cells #[.int .i64 (nb)] 2)) rfl (.tmp 79) (.tmp 83) 40 rfl w.heap.size 2 i0 (.int .i64 0) 1 8 Tryd.underlying40 hi0 hz0 hz1 hz2 rfl (by decide) (.slice av n cap) n _ rfl hownA.out ⟨wr.heap.size, 0, none⟩ 1 1 [.int .i64 (nb)] rfl rfl hnewsA.out (by intro v hv; simp at hv; subst hv; rfl) (by decide) hA1.out hA2.out hA3.out (wr.heap.size + 1) hA4.out ?_; intro g2 cap2 w2 hown2 hgrow hat2 hlt2; have K2 : Hid (w2.ownsRow w.heap.size 2 1 (.slice (some ⟨g2, 0, none⟩) (n + 1) cap2) (n + 1) (intsOf ns ++ [.int .i64 (nb)]) ∧ World.grownBy (wr.alloc (.cells #[.int .i64 (nb)] 2)) w2 (Value.slice av n cap).ownBlock) := ⟨hown2, hgrow⟩; clear hown2 hgrow hat2 hlt2)
            go_step3
            exact ⟨⟨ns ++ [nb], n + 1, some ⟨g2, 0, none⟩, cap2, 1, nb, dg, p + 1, rfl, by simp [hlen], by omega, (by have := K2.out.1; simpa [intsOf] using this), Below.grown (K.out.2.alloc K.out.2.size _) K2.out.2 hA3.out hA5.out, by simp; omega, .inl ⟨rfl, by rw [HRe.out, HDe.out]; rfl⟩⟩, by simp [mu, rank, intOf]; omega⟩
          · have q2 : ((x : Int) == 32) = false := by
              simp only [beq_eq_false_iff_ne, ne_eq]
              intro e
              exact h32 (UInt8.toNat_inj.1 (by show bs[p].toNat = 32; omega))
            have HNe : Hid (¬ bs[p] = 32) := h32
            clear h32 hx
            have hownA : Hid ((wr.alloc (.cells #[.int .i64 (nb)] 2)).ownsRow w.heap.size 2 1 (.slice av n cap) n (intsOf ns)) := K.out.1.alloc _
            have hnewsA : Hid (∀ (j : Nat) (v : Value), ([.int .i64 (nb)] : List Value)[j]? = some v → (wr.alloc (.cells #[.int .i64 (nb)] 2)).cell? ((⟨wr.heap.size, 0, none⟩ : Addr).add j) = some v) := World.news_of_block (w := wr.alloc (.cells #[.int .i64 (nb)] 2)) (B := wr.heap.size) (cs := #[.int .i64 (nb)]) (t := 2) (fr := (0, 0)) (Go.Deep.blk_alloc_new wr _)
            have hA1 : Hid (n + 1 ≤ maxLen) := by unfold Hid maxLen; omega
            have hA2 : Hid ((n + 1) * 8 ≤ 140737488355328) := by unfold Hid; omega
            have hA3 : Hid (w.heap.size ≤ (wr.alloc (.cells #[.int .i64 (nb)] 2)).heap.size) := by unfold Hid; simp; have := K.out.2.size; omega
            have hA4 : Hid ((wr.alloc (.cells #[.int .i64 (nb)] 2)).heap.size = wr.heap.size + 1) := by unfold Hid; simp
            have hA5 : Hid (∀ q, (Value.slice av n cap).ownBlock = some q → w.heap.size ≤ q) := own_from K.out.1
            obtain ⟨i0, hi0, hz0, hz1, hz2⟩ := info_parts info_num
            go_wp2_with (at_builtin; refine wpList_append_lies (wr.alloc (.cells #[.int .i64 (nb)] 2)) rfl (.tmp 79) (.tmp 83) 40 rfl w.heap.size 2 i0 (.int .i64 0) 1 8 Tryd.underlying40 hi0 hz0 hz1 hz2 rfl (by decide) (.slice av n cap) n _ rfl hownA.out ⟨wr.heap.size, 0, none⟩ 1 1 [.int .i64 (nb)] rfl rfl hnewsA.out (by intro v hv; simp at hv; subst hv; rfl) (by decide) hA1.out hA2.out hA3.out (wr.heap.size + 1) hA4.out ?_; intro g2 cap2 w2 hown2 hgrow hat2 hlt2; have K2 : Hid (w2.ownsRow w.heap.size 2 1 (.slice (some ⟨g2, 0, none⟩) (n + 1) cap2) (n + 1) (intsOf ns ++ [.int .i64 (nb)]) ∧ World.grownBy (wr.alloc (.cells #[.int .i64 (nb)] 2)) w2 (Value.slice av n cap).ownBlock) := ⟨hown2, hgrow⟩; clear hown2 hgrow hat2 hlt2)
            go_step3
            go_wp2
            simp only [jumpTo]
            go_ret2
            exact ⟨Below.grown (K.out.2.alloc K.out.2.size _) K2.out.2 hA3.out hA5.out, .inl ⟨by rw [HRe.out, HDe.out, atEnd, if_neg HNe.out], rfl⟩⟩
      · have HRe : Hid (R = atEnd 52 ns (-nb) (bs.drop p)) := by unfold Hid; simpa using hR'
        clear hR' hR
        unfold mkAct
        by_cases hend : p = bs.length
        · subst hend
          have q1 : ((bs.length : Int) == (bs.length : Int)) = true := by simp
          have HDe : Hid (bs.drop bs.length = []) := List.drop_length
          have hownA : Hid ((wr.alloc (.cells #[.int .i64 (-nb)] 2)).ownsRow w.heap.size 2 1 (.slice av n cap) n (intsOf ns)) := K.out.1.alloc _
          have hnewsA : Hid (∀ (j : Nat) (v : Value), ([.int .i64 (-nb)] : List Value)[j]? = some v → (wr.alloc (.cells #[.int .i64 (-nb)] 2)).cell? ((⟨wr.heap.size, 0, none⟩ : Addr).add j) = some v) := World.news_of_block (w := wr.alloc (.cells #[.int .i64 (-nb)] 2)) (B := wr.heap.size) (cs := #[.int .i64 (-nb)]) (t := 2) (fr := (0, 0)) (Go.Deep.blk_alloc_new wr _)
          have hA1 : Hid (n + 1 ≤ maxLen) := by unfold Hid maxLen; omega
          have hA2 : Hid ((n + 1) * 8 ≤ 140737488355328) := by unfold Hid; omega
          have hA3 : Hid (w.heap.size ≤ (wr.alloc (.cells #[.int .i64 (-nb)] 2)).heap.size) := by unfold Hid; simp; have := K.out.2.size; omega
          have hA4 : Hid ((wr.alloc (.cells #[.int .i64 (-nb)] 2)).heap.size = wr.heap.size + 1) := by unfold Hid; simp
          have hA5 : Hid (∀ q, (Value.slice av n cap).ownBlock = some q → w.heap.size ≤ q) := own_from K.out.1
          obtain ⟨i0, hi0, hz0, hz1, hz2⟩ := info_parts info_num
          go_wp2_with (at_builtin; refine wpList_append_lies (wr.alloc (.cells #[.int .i64 (-nb)] 2)) rfl (.tmp 79) (.tmp 83) 40 rfl w.heap.size 2 i0 (.int .i64 0) 1 8 Tryd.underlying40 hi0 hz0 hz1 hz2 rfl (by decide) (.slice av n cap) n _ rfl hownA.out ⟨wr.heap.size, 0, none⟩ 1 1 [.int .i64 (-nb)] rfl rfl hnewsA.out (by intro v hv; simp at hv; subst hv; rfl) (by decide) hA1.out hA2.out hA3.out (wr.heap.size + 1) hA4.out ?_; intro g2 cap2 w2 hown2 hgrow hat2 hlt2; have K2 : Hid (w2.ownsRow w.heap.size 2 1 (.slice (some ⟨g2, 0, none⟩) (n + 1) cap2) (n + 1) (intsOf ns ++ [.int .i64 (-nb)]) ∧ World.grownBy (wr.alloc (.cells #[.int .i64 (-nb)] 2)) w2 (Value.slice av n cap).ownBlock) := ⟨hown2, hgrow⟩; clear hown2 hgrow hat2 hlt2)
          simp only [jumpTo]
          go_ret2
          exact ⟨Below.grown (K.out.2.alloc K.out.2.size _) K2.out.2 hA3.out hA5.out, .inr ⟨ns ++ [-nb], some ⟨g2, 0, none⟩, cap2, by rw [HRe.out, HDe.out]; rfl, by rw [List.length_append, hlen]; rfl, by rw [List.length_append, hlen]; exact (by have := K2.out.1; simpa [intsOf] using this)⟩⟩
        · have hlt : p < bs.length := by omega
          have q1 : ((p : Int) == (bs.length : Int)) = false := by simp; omega
          have HDe : Hid (bs.drop p = bs[p] :: bs.drop (p + 1)) := List.drop_eq_getElem_cons hlt
          obtain ⟨x, hx⟩ : ∃ x : Nat, x = bs[p].toNat := ⟨_, rfl⟩
          have hbyte : ((ByteArray.mk bs.toArray)[p]'(by show p < bs.length; exact hlt)).toNat = x := by rw [hx]; rfl
          by_cases h32 : bs[p] = 32
          · have q2 : ((x : Int) == 32) = true := by rw [hx, h32]; rfl
            have HDe : Hid (bs.drop p = 32 :: bs.drop (p + 1)) := by have := HDe.out; rw [h32] at this; exact this
            clear h32 hx
            have hownA : Hid ((wr.alloc (.cells #[.int .i64 (-nb)] 2)).ownsRow w.heap.size 2 1 (.slice av n cap) n (intsOf ns)) := K.out.1.alloc _
            have hnewsA : Hid (∀ (j : Nat) (v : Value), ([.int .i64 (-nb)] : List Value)[j]? = some v → (wr.alloc (.cells #[.int .i64 (-nb)] 2)).cell? ((⟨wr.heap.size, 0, none⟩ : Addr).add j) = some v) := World.news_of_block (w := wr.alloc (.cells #[.int .i64 (-nb)] 2)) (B := wr.heap.size) (cs := #[.int .i64 (-nb)]) (t := 2) (fr := (0, 0)) (Go.Deep.blk_alloc_new wr _)
            have hA1 : Hid (n + 1 ≤ maxLen) := by unfold Hid maxLen; omega
            have hA2 : Hid ((n + 1) * 8 ≤ 140737488355328) := by unfold Hid; omega
            have hA3 : Hid (w.heap.size ≤ (wr.alloc (.cells #[.int .i64 (-nb)] 2)).heap.size) := by unfold Hid; simp; have := K.out.2.size; omega
            have hA4 : Hid ((wr.alloc (.cells #[.int .i64 (-nb)] 2)).heap.size = wr.heap.size + 1) := by unfold Hid; simp
            have hA5 : Hid (∀ q, (Value.slice av n cap).ownBlock = some q → w.heap.size ≤ q) := own_from K.out.1
            obtain ⟨i0, hi0, hz0, hz1, hz2⟩ := info_parts info_num
            go_wp2_with (at_builtin; refine wpList_append_lies (wr.alloc (.cells #[.int .i64 (-nb)] 2)) rfl (.tmp 79) (.tmp 83) 40 rfl w.heap.size 2 i0 (.int .i64 0) 1 8 Tryd.underlying40 hi0 hz0 hz1 hz2 rfl (by decide) (.slice av n cap) n _ rfl hownA.out ⟨wr.heap.size, 0, none⟩ 1 1 [.int .i64 (-nb)] rfl rfl hnewsA.out (by intro v hv; simp at hv; subst hv; rfl) (by decide) hA1.out hA2.out hA3.out (wr.heap.size + 1) hA4.out ?_; intro g2 cap2 w2 hown2 hgrow hat2 hlt2; have K2 : Hid (w2.ownsRow w.heap.size 2 1 (.slice (some ⟨g2, 0, none⟩) (n + 1) cap2) (n + 1) (intsOf ns ++ [.int .i64 (-nb)]) ∧ World.grownBy (wr.alloc (.cells #[.int .i64 (-nb)] 2)) w2 (Value.slice av n cap).ownBlock) := ⟨hown2, hgrow⟩; clear hown2 hgrow hat2 hlt2)
            go_step3
            exact ⟨⟨ns ++ [-nb], n + 1, some ⟨g2, 0, none⟩, cap2, -1, nb, dg, p + 1, rfl, by simp [hlen], by omega, (by have := K2.out.1; simpa [intsOf] using this), Below.grown (K.out.2.alloc K.out.2.size _) K2.out.2 hA3.out hA5.out, by simp; omega, .inl ⟨rfl, by rw [HRe.out, HDe.out]; rfl⟩⟩, by simp [mu, rank, intOf]; omega⟩
          · have q2 : ((x : Int) == 32) = false := by
              simp only [beq_eq_false_iff_ne, ne_eq]
              intro e
              exact h32 (UInt8.toNat_inj.1 (by show bs[p].toNat = 32; omega))
            have HNe : Hid (¬ bs[p] = 32) := h32
            clear h32 hx
            have hownA : Hid ((wr.alloc (.cells #[.int .i64 (-nb)] 2)).ownsRow w.heap.size 2 1 (.slice av n cap) n (intsOf ns)) := K.out.1.alloc _
            have hnewsA : Hid (∀ (j : Nat) (v : Value), ([.int .i64 (-nb)] : List Value)[j]? = some v → (wr.alloc (.cells #[.int .i64 (-nb)] 2)).cell? ((⟨wr.heap.size, 0, none⟩ : Addr).add j) = some v) := World.news_of_block (w := wr.alloc (.cells #[.int .i64 (-nb)] 2)) (B := wr.heap.size) (cs := #[.int .i64 (-nb)]) (t := 2) (fr := (0, 0)) (Go.Deep.blk_alloc_new wr _)
            have hA1 : Hid (n + 1 ≤ maxLen) := by unfold Hid maxLen; omega
            have hA2 : Hid ((n + 1) * 8 ≤ 140737488355328) := by unfold Hid; omega
            have hA3 : Hid (w.heap.size ≤ (wr.alloc (.cells #[.int .i64 (-nb)] 2)).heap.size) := by unfold Hid; simp; have := K.out.2.size; omega
            have hA4 : Hid ((wr.alloc (.cells #[.int .i64 (-nb)] 2)).heap.size = wr.heap.size + 1) := by unfold Hid; simp
            have hA5 : Hid (∀ q, (Value.slice av n cap).ownBlock = some q → w.heap.size ≤ q) := own_from K.out.1
            obtain ⟨i0, hi0, hz0, hz1, hz2⟩ := info_parts info_num
            go_wp2_with (at_builtin; refine wpList_append_lies (wr.alloc (.cells #[.int .i64 (-nb)] 2)) rfl (.tmp 79) (.tmp 83) 40 rfl w.heap.size 2 i0 (.int .i64 0) 1 8 Tryd.underlying40 hi0 hz0 hz1 hz2 rfl (by decide) (.slice av n cap) n _ rfl hownA.out ⟨wr.heap.size, 0, none⟩ 1 1 [.int .i64 (-nb)] rfl rfl hnewsA.out (by intro v hv; simp at hv; subst hv; rfl) (by decide) hA1.out hA2.out hA3.out (wr.heap.size + 1) hA4.out ?_; intro g2 cap2 w2 hown2 hgrow hat2 hlt2; have K2 : Hid (w2.ownsRow w.heap.size 2 1 (.slice (some ⟨g2, 0, none⟩) (n + 1) cap2) (n + 1) (intsOf ns ++ [.int .i64 (-nb)]) ∧ World.grownBy (wr.alloc (.cells #[.int .i64 (-nb)] 2)) w2 (Value.slice av n cap).ownBlock) := ⟨hown2, hgrow⟩; clear hown2 hgrow hat2 hlt2)
            go_step3
            go_wp2
            simp only [jumpTo]
            go_ret2
            exact ⟨Below.grown (K.out.2.alloc K.out.2.size _) K2.out.2 hA3.out hA5.out, .inl ⟨by rw [HRe.out, HDe.out, atEnd, if_neg HNe.out], rfl⟩⟩
    · refine ⟨_, rfl, ?_⟩
      have HR : Hid (R = atDigit 52 ns sg nb d (bs.drop p)) := hR'
      obtain ⟨x, hx⟩ : ∃ x : Nat, x = bs[p].toNat := ⟨_, rfl⟩
      have hbyte : ((ByteArray.mk bs.toArray)[p]'(by show p < bs.length; exact hlt)).toNat = x := by rw [hx]; rfl
      have HD : Hid (bs.drop p = bs[p] :: bs.drop (p + 1)) := List.drop_eq_getElem_cons hlt
      have HX : Hid (x = bs[p].toNat) := hx
      clear hR' hR hx
      by_cases q1 : x < 48
      · have q1' : (x : Int) < 48 := by omega
        unfold mkAct
        go_wp2
        go_step3
        exact ⟨⟨ns, n, av, cap, sg, nb, d, p, rfl, hlen, hp, K.out.1, K.out.2, h52, .inr (.inl ⟨rfl, by rw [HR.out, HD.out]; exact digit_no (.inl (by have := HX.out; simp [isDig]; omega)) _⟩)⟩, by simp [mu, rank, intOf]⟩
      · have q1' : decide ((x : Int) < 48) = false := by simp; omega
        by_cases q2 : 57 < x
        · have q2' : (57 : Int) < (x : Int) := by omega
          unfold mkAct
          go_wp2
          go_step3
          exact ⟨⟨ns, n, av, cap, sg, nb, d, p, rfl, hlen, hp, K.out.1, K.out.2, h52, .inr (.inl ⟨rfl, by rw [HR.out, HD.out]; exact digit_no (.inl (by have := HX.out; simp [isDig]; omega)) _⟩)⟩, by simp [mu, rank, intOf]⟩
        · have q2' : decide ((57 : Int) < (x : Int)) = false := by simp; omega
          by_cases q3 : d = 10
          · have q3' : ((d : Int) == 10) = true := by rw [q3]; rfl
            have H10 : Hid (d = 10) := q3
            clear q3
            unfold mkAct
            go_wp2
            go_step3
            exact ⟨⟨ns, n, av, cap, sg, nb, d, p, rfl, hlen, hp, K.out.1, K.out.2, h52, .inr (.inl ⟨rfl, by rw [HR.out, HD.out]; exact digit_no (.inr (by have := H10.out; omega)) _⟩)⟩, by simp [mu, rank, intOf]⟩
          · have q3' : ((d : Int) == 10) = false := by simp; omega
            have hpow : (10 : Int) ^ d ≤ 1000000000 := pow_nine (by omega)
            have hpow1 : (10 : Int) ^ (d + 1) = 10 ^ d * 10 := Int.pow_succ 10 d
            obtain ⟨m, hm⟩ : ∃ m : Int, nb * 10 + ((x : Int) - 48) = m := ⟨_, rfl⟩
            have hm0 : 0 ≤ m := by omega
            have HM : Hid (m < 10 ^ (d + 1)) := by unfold Hid; rw [hpow1]; omega
            have hm1 : m < 10000000000 := by omega
            have HG : Hid (isDig bs[p] = true ∧ nb * 10 + ((bs[p].toNat : Int) - 48) = m) := ⟨by have := HX.out; simp [isDig]; omega, by have := HX.out; omega⟩
            have hnb : nb < 1000000000 := by omega
            clear hpow1 hpow hn1
            unfold mkAct
            by_cases hend : p + 1 = bs.length
            · have q4 : decide ((p : Int) + 1 < (bs.length : Int)) = false := by simp; omega
              have q5 : ((p : Int) + 1 == (bs.length : Int)) = true := by simp; omega
              have HDe : Hid (bs.drop (p + 1) = []) := by unfold Hid; rw [hend]; exact List.drop_length
              have HRs : Hid (R = atEnd 52 ns (sg * m) (bs.drop (p + 1))) := by unfold Hid; rw [HR.out, HD.out, ← HG.out.2]; exact digit_last HG.out.1 (by omega) (.inl HDe.out)
              rcases hsg with rfl | rfl
              · have HRe : Hid (R = atEnd 52 ns (m) (bs.drop (p + 1))) := by unfold Hid; simpa using HRs.out
                go_wp2
                go_step3
                have hownA : Hid ((wr.alloc (.cells #[.int .i64 (m)] 2)).ownsRow w.heap.size 2 1 (.slice av n cap) n (intsOf ns)) := K.out.1.alloc _
                have hnewsA : Hid (∀ (j : Nat) (v : Value), ([.int .i64 (m)] : List Value)[j]? = some v → (wr.alloc (.cells #[.int .i64 (m)] 2)).cell? ((⟨wr.heap.size, 0, none⟩ : Addr).add j) = some v) := World.news_of_block (w := wr.alloc (.cells #[.int .i64 (m)] 2)) (B := wr.heap.size) (cs := #[.int .i64 (m)]) (t := 2) (fr := (0, 0)) (Go.Deep.blk_alloc_new wr _)
                have hA1 : Hid (n + 1 ≤ maxLen) := by unfold Hid maxLen; omega
                have hA2 : Hid ((n + 1) * 8 ≤ 140737488355328) := by unfold Hid; omega
                have hA3 : Hid (w.heap.size ≤ (wr.alloc (.cells #[.int .i64 (m)] 2)).heap.size) := by unfold Hid; simp; have := K.out.2.size; omega
                have hA4 : Hid ((wr.alloc (.cells #[.int .i64 (m)] 2)).heap.size = wr.heap.size + 1) := by unfold Hid; simp
                have hA5 : Hid (∀ q, (Value.slice av n cap).ownBlock = some q → w.heap.size ≤ q) := own_from K.out.1
                obtain ⟨i0, hi0, hz0, hz1, hz2⟩ := info_parts info_num
                go_wp2_with (at_builtin; refine wpList_append_lies (wr.alloc (.cells #[.int .i64 (m)] 2)) rfl (.tmp 79) (.tmp 83) 40 rfl w.heap.size 2 i0 (.int .i64 0) 1 8 Tryd.underlying40 hi0 hz0 hz1 hz2 rfl (by decide) (.slice av n cap) n _ rfl hownA.out ⟨wr.heap.size, 0, none⟩ 1 1 [.int .i64 (m)] rfl rfl hnewsA.out (by intro v hv; simp at hv; subst hv; rfl) (by decide) hA1.out hA2.out hA3.out (wr.heap.size + 1) hA4.out ?_; intro g2 cap2 w2 hown2 hgrow hat2 hlt2; have K2 : Hid (w2.ownsRow w.heap.size 2 1 (.slice (some ⟨g2, 0, none⟩) (n + 1) cap2) (n + 1) (intsOf ns ++ [.int .i64 (m)]) ∧ World.grownBy (wr.alloc (.cells #[.int .i64 (m)] 2)) w2 (Value.slice av n cap).ownBlock) := ⟨hown2, hgrow⟩; clear hown2 hgrow hat2 hlt2)
                simp only [jumpTo]
                go_ret2
                exact ⟨Below.grown (K.out.2.alloc K.out.2.size _) K2.out.2 hA3.out hA5.out, .inr ⟨ns ++ [m], some ⟨g2, 0, none⟩, cap2, by rw [HRe.out, HDe.out]; rfl, by rw [List.length_append, hlen]; rfl, by rw [List.length_append, hlen]; exact (by have := K2.out.1; simpa [intsOf] using this)⟩⟩
              · have HRe : Hid (R = atEnd 52 ns (-m) (bs.drop (p + 1))) := by unfold Hid; simpa using HRs.out
                go_wp2
                go_step3
                have hownA : Hid ((wr.alloc (.cells #[.int .i64 (-m)] 2)).ownsRow w.heap.size 2 1 (.slice av n cap) n (intsOf ns)) := K.out.1.alloc _
                have hnewsA : Hid (∀ (j : Nat) (v : Value), ([.int .i64 (-m)] : List Value)[j]? = some v → (wr.alloc (.cells #[.int .i64 (-m)] 2)).cell? ((⟨wr.heap.size, 0, none⟩ : Addr).add j) = some v) := World.news_of_block (w := wr.alloc (.cells #[.int .i64 (-m)] 2)) (B := wr.heap.size) (cs := #[.int .i64 (-m)]) (t := 2) (fr := (0, 0)) (Go.Deep.blk_alloc_new wr _)
                have hA1 : Hid (n + 1 ≤ maxLen) := by unfold Hid maxLen; omega
                have hA2 : Hid ((n + 1) * 8 ≤ 140737488355328) := by unfold Hid; omega
                have hA3 : Hid (w.heap.size ≤ (wr.alloc (.cells #[.int .i64 (-m)] 2)).heap.size) := by unfold Hid; simp; have := K.out.2.size; omega
                have hA4 : Hid ((wr.alloc (.cells #[.int .i64 (-m)] 2)).heap.size = wr.heap.size + 1) := by unfold Hid; simp
                have hA5 : Hid (∀ q, (Value.slice av n cap).ownBlock = some q → w.heap.size ≤ q) := own_from K.out.1
                obtain ⟨i0, hi0, hz0, hz1, hz2⟩ := info_parts info_num
                go_wp2_with (at_builtin; refine wpList_append_lies (wr.alloc (.cells #[.int .i64 (-m)] 2)) rfl (.tmp 79) (.tmp 83) 40 rfl w.heap.size 2 i0 (.int .i64 0) 1 8 Tryd.underlying40 hi0 hz0 hz1 hz2 rfl (by decide) (.slice av n cap) n _ rfl hownA.out ⟨wr.heap.size, 0, none⟩ 1 1 [.int .i64 (-m)] rfl rfl hnewsA.out (by intro v hv; simp at hv; subst hv; rfl) (by decide) hA1.out hA2.out hA3.out (wr.heap.size + 1) hA4.out ?_; intro g2 cap2 w2 hown2 hgrow hat2 hlt2; have K2 : Hid (w2.ownsRow w.heap.size 2 1 (.slice (some ⟨g2, 0, none⟩) (n + 1) cap2) (n + 1) (intsOf ns ++ [.int .i64 (-m)]) ∧ World.grownBy (wr.alloc (.cells #[.int .i64 (-m)] 2)) w2 (Value.slice av n cap).ownBlock) := ⟨hown2, hgrow⟩; clear hown2 hgrow hat2 hlt2)
                simp only [jumpTo]
                go_ret2
                exact ⟨Below.grown (K.out.2.alloc K.out.2.size _) K2.out.2 hA3.out hA5.out, .inr ⟨ns ++ [-m], some ⟨g2, 0, none⟩, cap2, by rw [HRe.out, HDe.out]; rfl, by rw [List.length_append, hlen]; rfl, by rw [List.length_append, hlen]; exact (by have := K2.out.1; simpa [intsOf] using this)⟩⟩
            · have hlt2 : p + 1 < bs.length := by omega
              have q4 : (p : Int) + 1 < (bs.length : Int) := by omega
              have q5 : ((p : Int) + 1 == (bs.length : Int)) = false := by simp; omega
              obtain ⟨y, hy⟩ : ∃ y : Nat, y = bs[p + 1].toNat := ⟨_, rfl⟩
              have hbyte2 : ((ByteArray.mk bs.toArray)[p + 1]'(by show p + 1 < bs.length; exact hlt2)).toNat = y := by rw [hy]; rfl
              have HD2 : Hid (bs.drop (p + 1) = bs[p + 1] :: bs.drop (p + 1 + 1)) := List.drop_eq_getElem_cons hlt2
              by_cases h32 : bs[p + 1] = 32
              · have q6 : ((y : Int) == 32) = true := by rw [hy, h32]; rfl
                have q6' : ((y : Int) != 32) = false := by rw [hy, h32]; rfl
                have HDe : Hid (bs.drop (p + 1) = 32 :: bs.drop (p + 1 + 1)) := by have := HD2.out; rw [h32] at this; exact this
                have HRs : Hid (R = atEnd 52 ns (sg * m) (bs.drop (p + 1))) := by unfold Hid; rw [HR.out, HD.out, ← HG.out.2]; exact digit_last HG.out.1 (by omega) (.inr (by rw [HDe.out]; rfl))
                clear h32 hy
                rcases hsg with rfl | rfl
                · have HRe : Hid (R = atEnd 52 ns (m) (bs.drop (p + 1))) := by unfold Hid; simpa using HRs.out
                  go_wp2
                  go_step3
                  have hownA : Hid ((wr.alloc (.cells #[.int .i64 (m)] 2)).ownsRow w.heap.size 2 1 (.slice av n cap) n (intsOf ns)) := K.out.1.alloc _
                  have hnewsA : Hid (∀ (j : Nat) (v : Value), ([.int .i64 (m)] : List Value)[j]? = some v → (wr.alloc (.cells #[.int .i64 (m)] 2)).cell? ((⟨wr.heap.size, 0, none⟩ : Addr).add j) = some v) := World.news_of_block (w := wr.alloc (.cells #[.int .i64 (m)] 2)) (B := wr.heap.size) (cs := #[.int .i64 (m)]) (t := 2) (fr := (0, 0)) (Go.Deep.blk_alloc_new wr _)
                  have hA1 : Hid (n + 1 ≤ maxLen) := by unfold Hid maxLen; omega
                  have hA2 : Hid ((n + 1) * 8 ≤ 140737488355328) := by unfold Hid; omega
                  have hA3 : Hid (w.heap.size ≤ (wr.alloc (.cells #[.int .i64 (m)] 2)).heap.size) := by unfold Hid; simp; have := K.out.2.size; omega
                  have hA4 : Hid ((wr.alloc (.cells #[.int .i64 (m)] 2)).heap.size = wr.heap.size + 1) := by unfold Hid; simp
                  have hA5 : Hid (∀ q, (Value.slice av n cap).ownBlock = some q → w.heap.size ≤ q) := own_from K.out.1
                  obtain ⟨i0, hi0, hz0, hz1, hz2⟩ := info_parts info_num
                  go_wp2_with (at_builtin; refine wpList_append_lies (wr.alloc (.cells #[.int .i64 (m)] 2)) rfl (.tmp 79) (.tmp 83) 40 rfl w.heap.size 2 i0 (.int .i64 0) 1 8 Tryd.underlying40 hi0 hz0 hz1 hz2 rfl (by decide) (.slice av n cap) n _ rfl hownA.out ⟨wr.heap.size, 0, none⟩ 1 1 [.int .i64 (m)] rfl rfl hnewsA.out (by intro v hv; simp at hv; subst hv; rfl) (by decide) hA1.out hA2.out hA3.out (wr.heap.size + 1) hA4.out ?_; intro g2 cap2 w2 hown2 hgrow hat2 hlt2; have K2 : Hid (w2.ownsRow w.heap.size 2 1 (.slice (some ⟨g2, 0, none⟩) (n + 1) cap2) (n + 1) (intsOf ns ++ [.int .i64 (m)]) ∧ World.grownBy (wr.alloc (.cells #[.int .i64 (m)] 2)) w2 (Value.slice av n cap).ownBlock) := ⟨hown2, hgrow⟩; clear hown2 hgrow hat2 hlt2)
                  go_step3
                  exact ⟨⟨ns ++ [m], n + 1, some ⟨g2, 0, none⟩, cap2, 1, m, ((d : Int) + 1), (p + 1) + 1, rfl, by simp [hlen], by omega, (by have := K2.out.1; simpa [intsOf] using this), Below.grown (K.out.2.alloc K.out.2.size _) K2.out.2 hA3.out hA5.out, by simp; omega, .inl ⟨rfl, by rw [HRe.out, HDe.out]; rfl⟩⟩, by simp [mu, rank, intOf]; omega⟩
                · have HRe : Hid (R = atEnd 52 ns (-m) (bs.drop (p + 1))) := by unfold Hid; simpa using HRs.out
                  go_wp2
                  go_step3
                  have hownA : Hid ((wr.alloc (.cells #[.int .i64 (-m)] 2)).ownsRow w.heap.size 2 1 (.slice av n cap) n (intsOf ns)) := K.out.1.alloc _
                  have hnewsA : Hid (∀ (j : Nat) (v : Value), ([.int .i64 (-m)] : List Value)[j]? = some v → (wr.alloc (.cells #[.int .i64 (-m)] 2)).cell? ((⟨wr.heap.size, 0, none⟩ : Addr).add j) = some v) := World.news_of_block (w := wr.alloc (.cells #[.int .i64 (-m)] 2)) (B := wr.heap.size) (cs := #[.int .i64 (-m)]) (t := 2) (fr := (0, 0)) (Go.Deep.blk_alloc_new wr _)
                  have hA1 : Hid (n + 1 ≤ maxLen) := by unfold Hid maxLen; omega
                  have hA2 : Hid ((n + 1) * 8 ≤ 140737488355328) := by unfold Hid; omega
                  have hA3 : Hid (w.heap.size ≤ (wr.alloc (.cells #[.int .i64 (-m)] 2)).heap.size) := by unfold Hid; simp; have := K.out.2.size; omega
                  have hA4 : Hid ((wr.alloc (.cells #[.int .i64 (-m)] 2)).heap.size = wr.heap.size + 1) := by unfold Hid; simp
                  have hA5 : Hid (∀ q, (Value.slice av n cap).ownBlock = some q → w.heap.size ≤ q) := own_from K.out.1
                  obtain ⟨i0, hi0, hz0, hz1, hz2⟩ := info_parts info_num
                  go_wp2_with (at_builtin; refine wpList_append_lies (wr.alloc (.cells #[.int .i64 (-m)] 2)) rfl (.tmp 79) (.tmp 83) 40 rfl w.heap.size 2 i0 (.int .i64 0) 1 8 Tryd.underlying40 hi0 hz0 hz1 hz2 rfl (by decide) (.slice av n cap) n _ rfl hownA.out ⟨wr.heap.size, 0, none⟩ 1 1 [.int .i64 (-m)] rfl rfl hnewsA.out (by intro v hv; simp at hv; subst hv; rfl) (by decide) hA1.out hA2.out hA3.out (wr.heap.size + 1) hA4.out ?_; intro g2 cap2 w2 hown2 hgrow hat2 hlt2; have K2 : Hid (w2.ownsRow w.heap.size 2 1 (.slice (some ⟨g2, 0, none⟩) (n + 1) cap2) (n + 1) (intsOf ns ++ [.int .i64 (-m)]) ∧ World.grownBy (wr.alloc (.cells #[.int .i64 (-m)] 2)) w2 (Value.slice av n cap).ownBlock) := ⟨hown2, hgrow⟩; clear hown2 hgrow hat2 hlt2)
                  go_step3
                  exact ⟨⟨ns ++ [-m], n + 1, some ⟨g2, 0, none⟩, cap2, -1, m, ((d : Int) + 1), (p + 1) + 1, rfl, by simp [hlen], by omega, (by have := K2.out.1; simpa [intsOf] using this), Below.grown (K.out.2.alloc K.out.2.size _) K2.out.2 hA3.out hA5.out, by simp; omega, .inl ⟨rfl, by rw [HRe.out, HDe.out]; rfl⟩⟩, by simp [mu, rank, intOf]; omega⟩
              · have q6 : ((y : Int) == 32) = false := by
                  simp only [beq_eq_false_iff_ne, ne_eq]
                  intro e
                  exact h32 (UInt8.toNat_inj.1 (by show bs[p + 1].toNat = 32; omega))
                have q6' : ((y : Int) != 32) = true := by simp only [bne, q6]; rfl
                have HRd : Hid (R = atDigit 52 ns sg m (d + 1) (bs.drop (p + 1))) := by unfold Hid; rw [HR.out, HD.out, ← HG.out.2, HD2.out]; exact digit_on HG.out.1 (by omega) h32 _
                clear h32 hy
                go_wp2
                go_step3
                exact ⟨⟨ns, n, av, cap, sg, m, (d : Int) + 1, p + 1, rfl, hlen, by omega, K.out.1, K.out.2, h52, .inr (.inr (.inr ⟨rfl, hne, hsg, d + 1, by simp, by omega, hm0, HM.out, hlt2, HRd.out⟩))⟩, by simp [mu, rank, intOf]; omega⟩
end Go.Proofs.YtlnnghlmhmnnlaaDoor
