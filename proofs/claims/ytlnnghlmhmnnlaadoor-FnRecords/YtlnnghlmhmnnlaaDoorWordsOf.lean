/- What the specification's l2Words answers: the words between blanks, in new memory. -/
import Derived.Test.YtlnnghlmhmnnlaaDoorRows
import Derived.Test.YtlnnghlmhmnnlaaDoorWords
import Derived.WalkKit
import Derived.WalkSpells
import Derived.WalkLawsBesides
import Derived.Below
import Derived.Deep.AppendLies
import Derived.Deep.Heap
namespace Go.Proofs.YtlnnghlmhmnnlaaDoor
open Go.RowKit
def strVals (ws : List (List UInt8)) : List Value := ws.map fun x => Value.string ⟨x.toArray⟩
theorem info_str9 : (Tryd.prog.info? 9).map (fun i => (i.zero, i.size, i.bytes)) = some (some (.string ⟨#[]⟩), 1, 16) := by kernel_rfl
/-- What is out, then the word that is being read, then the rest. -/
def WordsAt (bs : List UInt8) (ws0 : List (List UInt8)) (fr i : Nat) : Prop :=
  (i ≤ bs.length ∧ fr ≤ i ∧ splitW bs = ws0 ++ ((bs.drop fr).take (i - fr) ++ hd (bs.drop i)) :: tl (bs.drop i)) ∨ (i = bs.length + 1 ∧ splitW bs = ws0)
theorem extract_eq (bs : List UInt8) (a b : Nat) : (ByteArray.mk bs.toArray).extract a b = ⟨((bs.drop a).take (b - a)).toArray⟩ := by
  apply ByteArray.ext
  rw [ByteArray.data_extract]
  apply Array.ext'
  simp
set_option maxHeartbeats 4000000 in
theorem l2Words_any (w : World) (bs : List UInt8) (hl : bs.length ≤ 1048576) :
    Calls Tryd.prog 33 #[.string ⟨bs.toArray⟩] w fun e w' => ∃ g cap, e = .returned (.slice (some ⟨g, 0, none⟩) (splitW bs).length cap) ∧ Below w.heap.size w w' ∧ w.heap.size ≤ g ∧ g < w'.heap.size ∧ w'.ownsRow w.heap.size 9 1 (.slice (some ⟨g, 0, none⟩) (splitW bs).length cap) (splitW bs).length (strVals (splitW bs)) := by
  go_enter Tryd.func33, Tryd.ntmps33
  go_wp2
  go_loopw [3, 4, 5] (fun v3 v4 v5 wr => ∃ (i fr g cap : Nat) (ws0 : List (List UInt8)), v5 = .int .i64 i ∧ v4 = .int .i64 fr ∧ v3 = .slice (some ⟨g, 0, none⟩) ws0.length cap ∧ Below w.heap.size w wr ∧ w.heap.size ≤ g ∧ g < wr.heap.size ∧ wr.ownsRow w.heap.size 9 1 (.slice (some ⟨g, 0, none⟩) ws0.length cap) ws0.length (strVals ws0) ∧ ws0.length ≤ i ∧ WordsAt bs ws0 fr i)
    (fun _ _ v5 _ => bs.length + 1 - (intOf v5).toNat)
  case atStart => exact ⟨0, 0, w.heap.size, 0, [], rfl, rfl, rfl, (Below.refl _ _).alloc (Nat.le_refl _) _, Nat.le_refl _, by simp, ⟨rfl, .inr ⟨w.heap.size, 0, #[], rfl, Nat.le_refl _, Go.Deep.blk_alloc_new w _, Nat.le_refl _, Nat.zero_le _, rfl, rfl⟩⟩, Nat.le_refl _, .inl ⟨Nat.zero_le _, Nat.le_refl _, by simpa using split_eq bs⟩⟩
  case round =>
    obtain ⟨i, fr, g, cap, ws0, rfl, rfl, rfl, hbl, hg1, hg2, hown, hcnt, hat⟩ := hrel
    rcases hat with ⟨hi, hfr, hsp⟩ | ⟨hi, hsp⟩
    · by_cases hend : i = bs.length
      · subst hend
        have hsp2 : splitW bs = ws0 ++ [(bs.drop fr).take (bs.length - fr)] := by rw [hsp, List.drop_length, hd_nil, tl_nil, List.append_nil]
        have HSP : Hid (splitW bs = ws0 ++ [(bs.drop fr).take (bs.length - fr)]) := hsp2
        clear hsp2
        have q0 : decide ((bs.length : Int) ≤ (bs.length : Int)) = true := by simp
        have q1 : ((bs.length : Int) == (bs.length : Int)) = true := by simp
        have hownA : Hid ((wr.alloc (.cells #[(.string ((ByteArray.mk bs.toArray).extract fr bs.length))] 9)).ownsRow w.heap.size 9 1 (.slice (some ⟨g, 0, none⟩) ws0.length cap) ws0.length (strVals ws0)) := hown.alloc _
        have hnewsA : Hid (∀ (j : Nat) (u : Value), ([(.string ((ByteArray.mk bs.toArray).extract fr bs.length))] : List Value)[j]? = some u → (wr.alloc (.cells #[(.string ((ByteArray.mk bs.toArray).extract fr bs.length))] 9)).cell? ((⟨wr.heap.size, 0, none⟩ : Addr).add j) = some u) := World.news_of_block (w := wr.alloc (.cells #[(.string ((ByteArray.mk bs.toArray).extract fr bs.length))] 9)) (B := wr.heap.size) (cs := #[(.string ((ByteArray.mk bs.toArray).extract fr bs.length))]) (t := 9) (fr := (0, 0)) (Go.Deep.blk_alloc_new wr _)
        have hA1 : Hid (ws0.length + 1 ≤ maxLen) := by unfold Hid maxLen; omega
        have hA2 : Hid ((ws0.length + 1) * 16 ≤ 140737488355328) := by unfold Hid; omega
        have hA3 : Hid (w.heap.size ≤ (wr.alloc (.cells #[(.string ((ByteArray.mk bs.toArray).extract fr bs.length))] 9)).heap.size) := by unfold Hid; simp; have := hbl.size; omega
        have hA4 : Hid ((wr.alloc (.cells #[(.string ((ByteArray.mk bs.toArray).extract fr bs.length))] 9)).heap.size = wr.heap.size + 1) := by unfold Hid; simp
        have KB : Hid (Below w.heap.size w wr) := hbl
        obtain ⟨i0, hi0, hz0, hz1, hz2⟩ := info_parts info_str9
        clear hown hsp hbl
        go_wp2_with (at_builtin; refine wpList_append_lies (wr.alloc (.cells #[(.string ((ByteArray.mk bs.toArray).extract fr bs.length))] 9)) rfl (.tmp 23) (.tmp 28) 57 rfl w.heap.size 9 i0 (.string ⟨#[]⟩) 1 16 Tryd.underlying57 hi0 hz0 hz1 hz2 rfl (by decide) (.slice (some ⟨g, 0, none⟩) ws0.length cap) ws0.length _ rfl hownA.out ⟨wr.heap.size, 0, none⟩ 1 1 [(.string ((ByteArray.mk bs.toArray).extract fr bs.length))] rfl rfl hnewsA.out (by intro u hu; simp at hu; subst hu; rfl) (by decide) hA1.out hA2.out hA3.out (wr.heap.size + 1) hA4.out ?_; intro g2 cap2 w2 hown2 hgrow hat2 hlt2; have K2 : Hid (w2.ownsRow w.heap.size 9 1 (.slice (some ⟨g2, 0, none⟩) (ws0.length + 1) cap2) (ws0.length + 1) (strVals ws0 ++ [(.string ((ByteArray.mk bs.toArray).extract fr bs.length))]) ∧ (g = g2 ∨ g2 = wr.heap.size + 1) ∧ g2 < w2.heap.size ∧ World.grownBy (wr.alloc (.cells #[(.string ((ByteArray.mk bs.toArray).extract fr bs.length))] 9)) w2 (some g)) := ⟨hown2, (by rcases hat2 with h | h; exact .inl (Option.some.inj h); exact .inr h), hlt2, hgrow⟩; clear hown2 hgrow hat2 hlt2)
        obtain ⟨o2, hat2, hlt2, hgrow⟩ := K2.out
        have hb2 : Below w.heap.size w w2 := Below.grown (KB.out.alloc KB.out.size _) hgrow hA3.out (fun q e => by cases e; exact hg1)
        have hg2' : w.heap.size ≤ g2 := by have := KB.out.size; rcases hat2 with h | h <;> omega
        rw [extract_eq] at o2
        refine ⟨⟨bs.length + 1, bs.length + 1, g2, cap2, ws0 ++ [(bs.drop fr).take (bs.length - fr)], by simp, by simp, by simp, hb2, hg2', hlt2, by simpa [strVals] using o2, by simp; omega, .inr ⟨rfl, HSP.out⟩⟩, by simp [intOf]⟩
      · have hlt : i < bs.length := by omega
        have hdrop : bs.drop i = bs[i] :: bs.drop (i + 1) := List.drop_eq_getElem_cons hlt
        obtain ⟨x, hx⟩ : ∃ x : Nat, x = bs[i].toNat := ⟨_, rfl⟩
        have hbyte : ((ByteArray.mk bs.toArray)[i]'(by show i < bs.length; exact hlt)).toNat = x := by rw [hx]; rfl
        have q0 : (i : Int) ≤ (bs.length : Int) := by omega
        have q1 : ((i : Int) == (bs.length : Int)) = false := by simp; omega
        have htake : (bs.drop fr).take (i + 1 - fr) = (bs.drop fr).take (i - fr) ++ [bs[i]] := by
          rw [show i + 1 - fr = (i - fr) + 1 by omega, List.take_add_one, List.getElem?_drop, show fr + (i - fr) = i by omega, List.getElem?_eq_getElem hlt]; rfl
        by_cases h32 : bs[i] = 32
        · have q2 : ((x : Int) == 32) = true := by rw [hx, h32]; rfl
          have HSP : Hid (splitW bs = (ws0 ++ [(bs.drop fr).take (i - fr)]) ++ (hd (bs.drop (i + 1)) :: tl (bs.drop (i + 1)))) := by
            unfold Hid
            rw [hsp, hdrop, h32, hd_blank, tl_blank, split_eq (bs.drop (i + 1))]; simp
          clear hdrop htake h32 hx
          have hownA : Hid ((wr.alloc (.cells #[(.string ((ByteArray.mk bs.toArray).extract fr i))] 9)).ownsRow w.heap.size 9 1 (.slice (some ⟨g, 0, none⟩) ws0.length cap) ws0.length (strVals ws0)) := hown.alloc _
          have hnewsA : Hid (∀ (j : Nat) (u : Value), ([(.string ((ByteArray.mk bs.toArray).extract fr i))] : List Value)[j]? = some u → (wr.alloc (.cells #[(.string ((ByteArray.mk bs.toArray).extract fr i))] 9)).cell? ((⟨wr.heap.size, 0, none⟩ : Addr).add j) = some u) := World.news_of_block (w := wr.alloc (.cells #[(.string ((ByteArray.mk bs.toArray).extract fr i))] 9)) (B := wr.heap.size) (cs := #[(.string ((ByteArray.mk bs.toArray).extract fr i))]) (t := 9) (fr := (0, 0)) (Go.Deep.blk_alloc_new wr _)
          have hA1 : Hid (ws0.length + 1 ≤ maxLen) := by unfold Hid maxLen; omega
          have hA2 : Hid ((ws0.length + 1) * 16 ≤ 140737488355328) := by unfold Hid; omega
          have hA3 : Hid (w.heap.size ≤ (wr.alloc (.cells #[(.string ((ByteArray.mk bs.toArray).extract fr i))] 9)).heap.size) := by unfold Hid; simp; have := hbl.size; omega
          have hA4 : Hid ((wr.alloc (.cells #[(.string ((ByteArray.mk bs.toArray).extract fr i))] 9)).heap.size = wr.heap.size + 1) := by unfold Hid; simp
          have KB : Hid (Below w.heap.size w wr) := hbl
          obtain ⟨i0, hi0, hz0, hz1, hz2⟩ := info_parts info_str9
          clear hown hsp hbl
          go_wp2_with (at_builtin; refine wpList_append_lies (wr.alloc (.cells #[(.string ((ByteArray.mk bs.toArray).extract fr i))] 9)) rfl (.tmp 23) (.tmp 28) 57 rfl w.heap.size 9 i0 (.string ⟨#[]⟩) 1 16 Tryd.underlying57 hi0 hz0 hz1 hz2 rfl (by decide) (.slice (some ⟨g, 0, none⟩) ws0.length cap) ws0.length _ rfl hownA.out ⟨wr.heap.size, 0, none⟩ 1 1 [(.string ((ByteArray.mk bs.toArray).extract fr i))] rfl rfl hnewsA.out (by intro u hu; simp at hu; subst hu; rfl) (by decide) hA1.out hA2.out hA3.out (wr.heap.size + 1) hA4.out ?_; intro g2 cap2 w2 hown2 hgrow hat2 hlt2; have K2 : Hid (w2.ownsRow w.heap.size 9 1 (.slice (some ⟨g2, 0, none⟩) (ws0.length + 1) cap2) (ws0.length + 1) (strVals ws0 ++ [(.string ((ByteArray.mk bs.toArray).extract fr i))]) ∧ (g = g2 ∨ g2 = wr.heap.size + 1) ∧ g2 < w2.heap.size ∧ World.grownBy (wr.alloc (.cells #[(.string ((ByteArray.mk bs.toArray).extract fr i))] 9)) w2 (some g)) := ⟨hown2, (by rcases hat2 with h | h; exact .inl (Option.some.inj h); exact .inr h), hlt2, hgrow⟩; clear hown2 hgrow hat2 hlt2)
          obtain ⟨o2, hat2, hlt2, hgrow⟩ := K2.out
          have hb2 : Below w.heap.size w w2 := Below.grown (KB.out.alloc KB.out.size _) hgrow hA3.out (fun q e => by cases e; exact hg1)
          have hg2' : w.heap.size ≤ g2 := by have := KB.out.size; rcases hat2 with h | h <;> omega
          rw [extract_eq] at o2
          refine ⟨⟨i + 1, i + 1, g2, cap2, ws0 ++ [(bs.drop fr).take (i - fr)], by simp, by simp, by simp, hb2, hg2', hlt2, by simpa [strVals] using o2, by simp; omega, .inl ⟨by omega, Nat.le_refl _, by rw [Nat.sub_self, List.take_zero, List.nil_append]; exact HSP.out⟩⟩, by simp [intOf]; omega⟩
        · have q2 : ((x : Int) == 32) = false := by
            simp only [beq_eq_false_iff_ne, ne_eq]
            intro e
            exact h32 (UInt8.toNat_inj.1 (by show bs[i].toNat = 32; omega))
          have HSP : Hid (splitW bs = ws0 ++ ((bs.drop fr).take (i + 1 - fr) ++ hd (bs.drop (i + 1))) :: tl (bs.drop (i + 1))) := by
            unfold Hid
            rw [hsp, hdrop, hd_cons h32, tl_cons h32, htake]; simp
          clear hdrop htake h32 hx hsp
          have HO : Hid (wr.ownsRow w.heap.size 9 1 (.slice (some ⟨g, 0, none⟩) ws0.length cap) ws0.length (strVals ws0) ∧ Below w.heap.size w wr) := ⟨hown, hbl⟩
          clear hown hbl
          go_wp2
          exact ⟨⟨i + 1, fr, g, cap, ws0, by simp, rfl, rfl, HO.out.2, hg1, hg2, HO.out.1, by omega, .inl ⟨by omega, by omega, HSP.out⟩⟩, by simp [intOf]; omega⟩
    · subst hi
      have q0 : decide (((bs.length + 1 : Nat) : Int) ≤ (bs.length : Int)) = false := by simp; omega
      have q0' : decide ((bs.length : Int) + 1 ≤ (bs.length : Int)) = false := by simp; omega
      have HO : Hid (wr.ownsRow w.heap.size 9 1 (.slice (some ⟨g, 0, none⟩) ws0.length cap) ws0.length (strVals ws0) ∧ Below w.heap.size w wr ∧ splitW bs = ws0) := ⟨hown, hbl, hsp⟩
      clear hown hbl hsp
      go_wp2
      go_ret
      exact ⟨g, cap, by rw [HO.out.2.2]; rfl, HO.out.2.1, hg1, hg2, by rw [HO.out.2.2]; exact HO.out.1⟩
end Go.Proofs.YtlnnghlmhmnnlaaDoor
