/- What the specification draws for Places: whatever comes, a row of few rows of few numbers, in memory of its own. -/
import Derived.Test.YtgohihcpmjfhdaaRows
import Derived.Test.YtgohihcpmjfhdaaOutO
import Derived.Test.YtgohihcpmjfhdaaNumRow
import Derived.Test.YtgohihcpmjfhdaaUntil
import Derived.WalkKit
import Derived.WalkSpells
import Derived.WalkLawsBesides
import Derived.Below
import Derived.Deep.RegionHeldLaw
namespace Go.Proofs.Ytgohihcpmjfhdaa
open Go.RowKit
def DrawPost (w : World) (c : Nat) (a : Option Addr) (n k : Nat) (e : Ending) (w' : World) : Prop :=
  ∃ x m cap zss, e = .returned (.slice x m cap) ∧ SlPc c w' x m zss ∧ m ≤ 7 ∧ (∀ zs ∈ zss, zs.length ≤ 4) ∧ Cur w' c a n k ∧ Turned c w w'
/-- What has been drawn, between two rounds. -/
structure DS (w : World) (c : Nat) (a : Option Addr) (n k : Nat) (v : Value) (zss : List (List Int)) (g : Nat → Nat) (W : World) : Prop where
  out : OutO W w.heap.size v zss g
  cur : Cur W c a n k
  tur : Turned c w W
  rows : ∀ zs ∈ zss, 1 ≤ zs.length ∧ zs.length ≤ 3
  inj : ∀ i j, i < zss.length → j < zss.length → g i = g j → i = j
theorem DS.turned {w : World} {c : Nat} {a : Option Addr} {n k : Nat} {v : Value} {zss : List (List Int)} {g : Nat → Nat} {W W' : World} (h : DS w c a n k v zss g W) (hc : c < w.heap.size) (cur : Cur W' c a n k) (ht : Turned c W W') : DS w c a n k v zss g W' :=
  ⟨h.out.turned ht hc, cur, h.tur.trans ht, h.rows, h.inj⟩
theorem DS.over {w : World} {c : Nat} {a : Option Addr} {n k : Nat} {v : Value} {zss : List (List Int)} {g : Nat → Nat} {W W' : World} (h : DS w c a n k v zss g W) (hc : c < w.heap.size) (hb : Below W.heap.size W W') : DS w c a n k v zss g W' :=
  ⟨h.out.below hb, h.cur.of_block hb.size (hb.block c (Nat.lt_of_lt_of_le hc h.tur.size)), h.tur.over (hb.mono h.tur.size), h.rows, h.inj⟩
theorem zs_mem_push {zss : List (List Int)} {zs : List Int} {P : List Int → Prop} (h : ∀ y ∈ zss, P y) (hz : P zs) : ∀ y ∈ zss ++ [zs], P y := fun y hy => by
  rcases List.mem_append.1 hy with h' | h'
  · exact h y h'
  · simp at h'; subst h'; exact hz
/-- The end of the first switch: a number more at the end of row m. -/
theorem draw0_end {w : World} {c : Nat} {a : Option Addr} {n k b cp m q2 cp2 : Nat} {zss : List (List Int)} {zm : List Int} {x : Int} {g : Nat → Nat} {A W' : World} (hcw : c < w.heap.size) (hm : zss[m]? = some zm) (h3 : zm.length ≤ 3) (hb4 : w.heap.size ≤ b) (h4 : zss.length ≤ 7) (ds : DS w c a n k (.slice (some ⟨b, 0, none⟩) zss.length cp) zss g A) (ho : ON W' w.heap.size (.slice (some ⟨q2, 0, none⟩) (zm.length + 1) cp2) (zm ++ [x])) (hg : A.grownBy W' (some (g m))) (hl : q2 = g m ∨ q2 = A.heap.size) (eb : W'.heap[b]? = A.heap[b]?) :
    DrawPost w c a n k (.returned (.slice (some ⟨b, 0, none⟩) zss.length cp)) (W'.setCell ⟨b, m, none⟩ (.slice (some ⟨q2, 0, none⟩) (zm.length + 1) cp2)) := by
  have hml : m < zss.length := (List.getElem?_eq_some_iff.1 hm).1
  have hlen : (zm ++ [x]).length = zm.length + 1 := by simp
  have gm := ds.out.lt hml
  have bl := ds.out.lies (q := b) rfl
  obtain ⟨s1, s2⟩ := ho.sl0 hcw
  have hp := ds.out.put (V := W') hcw rfl hml (some ⟨q2, 0, none⟩) (zm ++ [x]) cp2 hg.size eb (fun i hi hne => hg.block _ (ds.out.lt hi).2 (fun e => hne (ds.inj i m hi hml (Option.some.inj e)))) s1 (fun y e => by
    cases e
    show q2 ≠ b
    rcases hl with e | e
    · rw [e]; exact fun e' => ds.out.ne m hml (by rw [e']; rfl)
    · omega) s2
  rw [hlen] at hp
  have tW : Turned c w W' := ds.tur.grown hg (fun q e => by cases e; exact gm.1)
  have cW : Cur W' c a n k := ds.cur.of_block hg.size (hg.block c (Nat.lt_of_lt_of_le hcw ds.tur.size) (fun e => by have := Option.some.inj e; omega))
  have bS : Below w.heap.size W' (W'.setCell ⟨b, m, none⟩ (.slice (some ⟨q2, 0, none⟩) (zm.length + 1) cp2)) := (Below.refl _ _).setCell (p := ⟨b, m, none⟩) hb4 _
  refine ⟨_, _, _, zss.set m (zm ++ [x]), rfl, hp, h4, fun zs h => ?_, cW.of_block bS.size (bS.block c hcw), tW.over bS⟩
  rcases List.mem_or_eq_of_mem_set h with h | h
  · have := ds.rows zs h; omega
  · rw [h, hlen]; omega
set_option maxRecDepth 100000 in
set_option maxHeartbeats 8000000 in
theorem l5Draw_any (w : World) (B c : Nat) (a : Option Addr) (n k : Nat) (hc : Cur w c a n k) (hb : Bytes w B a n) (hB : B ≤ c) :
    Calls Try.prog 36 #[.pointer (some ⟨c, 0, none⟩)] w fun e w' => DrawPost w c a n k e w' := by
  have hcw : c < w.heap.size := hc.lt
  have HB : Hid (Bytes w B a n ∧ B ≤ c ∧ c < w.heap.size) := ⟨hb, hB, hcw⟩
  have bel : Hid (∀ W, Turned c w W → Bytes W B a n) := fun W ht => HB.out.1.below (ht.below hB (by omega))
  have HC : Hid (Cur w c a n k) := hc
  clear hc hb hB
  go_enter Try.func36, Try.ntmps36
  go_wp2_with fail
  have t0 : Turned c w (w.alloc (.cells #[] 40)) := (Turned.refl _ _).alloc _
  refine (l1Below_any _ B c a n k 4 (HC.out.alloc _) (bel.out _ t0) HB.out.2.1 (by omega)).mono ?_
  rintro e w1 ⟨y1, rfl, y10, y14, c1, t1⟩
  obtain ⟨j1, rfl⟩ := Int.eq_ofNat_of_zero_le y10
  have D1 : Hid (DS w c a n k (.slice (some ⟨w.heap.size, 0, none⟩) 0 0) [] (fun _ => 0) w1) := ⟨(OutO.empty w _ (Nat.le_refl _) _).turned t1 hcw, c1, t0.trans t1, (fun _ h => by cases h), fun i j h => by simp at h⟩
  clear c1 t1 t0
  go_wp2
  go_loopw [3, 4] (fun v3 v4 wr => ∃ (j : Nat) (zss : List (List Int)) (g : Nat → Nat) (b cp : Nat), v4 = .int .i64 (j : Int) ∧ v3 = .slice (some ⟨b, 0, none⟩) zss.length cp ∧ DS w c a n k v3 zss g wr ∧ zss.length + j ≤ 4 ∧ (1 ≤ j ∨ 1 ≤ zss.length)) (fun _ v4 _ => (intOf v4).toNat)
  case atStart => exact ⟨1 + j1, [], _, _, _, by simp, rfl, D1.out, by simp; omega, by omega⟩
  case round =>
    clear D1
    obtain ⟨j, zss, g, b, cp, rfl, rfl, ds, hjl, hj1⟩ := hrel
    by_cases hj0 : 0 < j
    · have hj0' : (0 : Int) < (j : Int) := by omega
      have KD : Hid (DS w c a n k (.slice (some ⟨b, 0, none⟩) zss.length cp) zss g wr) := ds
      clear ds
      go_wp2_with fail
      have tA : Turned c wr (wr.alloc (.cells #[.slice none 0 0] 40)) := (Turned.refl _ _).alloc _
      refine (l1Below_any _ B c a n k 3 (KD.out.cur.alloc _) (bel.out _ (KD.out.tur.trans tA)) HB.out.2.1 (by omega)).mono ?_
      rintro e w2 ⟨y2, rfl, y20, y23, c2, t2⟩
      obtain ⟨k2, rfl⟩ := Int.eq_ofNat_of_zero_le y20
      have K2 : Hid (PB w2 wr.heap.size wr.heap.size (.slice none 0 0) [] ∧ Cur w2 c a n k ∧ Turned c wr w2) := ⟨(PB.new wr _ (Nat.le_refl _)).turned t2 (Nat.lt_of_lt_of_le hcw KD.out.tur.size), c2, tA.trans t2⟩
      clear c2 t2 tA
      go_wp2
      generalize wr = W1 at *
      go_loopw [6] (fun v6 wr => ∃ (i : Nat) (v : Value) (zs : List Int), v6 = .int .i64 (i : Int) ∧ PB wr W1.heap.size W1.heap.size v zs ∧ Cur wr c a n k ∧ Turned c W1 wr ∧ zs.length + i ≤ 3 ∧ (1 ≤ i ∨ 1 ≤ zs.length)) (fun v6 _ => (intOf v6).toNat)
      case atStart => exact ⟨1 + k2, _, [], by simp, K2.out.1, K2.out.2.1, K2.out.2.2, by simp; omega, by omega⟩
      case round =>
        clear K2
        obtain ⟨i, v, zs, rfl, hpb, hcur, htur, hil, hi1⟩ := hrel
        have hcW : Hid (c < W1.heap.size) := Nat.lt_of_lt_of_le hcw KD.out.tur.size
        by_cases hi0 : 0 < i
        · have hi0' : (0 : Int) < (i : Int) := by omega
          have KP : Hid (PB wr W1.heap.size W1.heap.size v zs ∧ Cur wr c a n k ∧ Turned c W1 wr) := ⟨hpb, hcur, htur⟩
          clear hpb hcur htur
          go_wp2_with fail
          refine (l1Below_any _ B c a n k 6 KP.out.2.1 (bel.out _ (KD.out.tur.trans KP.out.2.2)) HB.out.2.1 (by omega)).mono ?_
          rintro e w3 ⟨z, rfl, z0, z6, c3, t3⟩
          have K3 : Hid (PB w3 W1.heap.size W1.heap.size v zs ∧ Cur w3 c a n k ∧ Turned c W1 w3) := ⟨KP.out.1.turned t3 hcW.out, c3, KP.out.2.2.trans t3⟩
          clear c3 t3 KP
          have pc := K3.out.1.cell
          have pf := K3.out.1.frz
          have plt := K3.out.1.lt
          obtain ⟨av, cv, rfl⟩ : ∃ av cv, v = .slice av zs.length cv := by
            rcases K3.out.1.on.form with ⟨rfl, e⟩ | ⟨q, cq, e, _⟩
            · exact ⟨none, 0, by rw [e]; rfl⟩
            · exact ⟨_, cq, e⟩
          have hsn : SlN w3 w3.heap.size av zs.length zs := by
            rcases K3.out.1.on.form with ⟨e, e0⟩ | ⟨q, cq, e, _, h2, _, h4, _⟩
            · subst e0; cases e; exact ⟨rfl, .inl rfl⟩
            · cases e; exact ⟨rfl, .inr ⟨_, 0, rfl, h2, h4⟩⟩
          have hhas := l3Has_any w3 av zs.length cv z zs (by unfold maxLen; omega) hsn
          clear hsn
          cases hh : hasB zs z with
          | true =>
            have hz1 : 1 ≤ zs.length := by
              cases zs with
              | nil => cases hh
              | cons x r => simp
            rw [hh] at hhas
            go_wp2_with fail
            refine hhas.mono ?_
            clear hhas
            rintro e w3 ⟨rfl, rfl⟩
            go_wp2
            obtain ⟨p1, p2, p3⟩ := K3.out
            exact ⟨⟨i - 1, _, zs, by congr 1; omega, p1, p2, p3, by omega, by omega⟩, by simp [intOf]; omega⟩
          | false =>
            rw [hh] at hhas
            obtain ⟨v', W', hr, p1, p2, hp2, hb2, _⟩ := K3.out.1.stepP z (by omega) 28
            obtain ⟨q2, cp2, rfl⟩ : ∃ q2 cp2, v' = .slice (some ⟨q2, 0, none⟩) (zs.length + 1) cp2 := by
              rcases hp2.on.form with ⟨_, e⟩ | ⟨q2, cp2, e, _⟩
              · simp at e
              · exact ⟨q2, cp2, by rw [e]; simp⟩
            have HP2 : Hid (PB (W'.setCell ⟨W1.heap.size, 0, none⟩ (.slice (some ⟨q2, 0, none⟩) (zs.length + 1) cp2)) W1.heap.size W1.heap.size (.slice (some ⟨q2, 0, none⟩) (zs.length + 1) cp2) (zs ++ [z]) ∧ Cur (W'.setCell ⟨W1.heap.size, 0, none⟩ (.slice (some ⟨q2, 0, none⟩) (zs.length + 1) cp2)) c a n k ∧ Turned c W1 (W'.setCell ⟨W1.heap.size, 0, none⟩ (.slice (some ⟨q2, 0, none⟩) (zs.length + 1) cp2))) :=
              ⟨hp2, K3.out.2.1.of_block hb2.size (hb2.block c hcW.out), K3.out.2.2.over hb2⟩
            clear hp2 hb2
            go_wp2_with fail
            refine hhas.mono ?_
            clear hhas
            rintro e w3 ⟨rfl, rfl⟩
            go_wp2_with (at_builtin; refine append_known _ rfl (.tmp 33) (.tmp 35) 28 rfl _ _ _ _ rfl rfl hr ?_)
            obtain ⟨p1, p2, p3⟩ := HP2.out
            exact ⟨⟨i - 1, _, zs ++ [z], by congr 1; omega, p1, p2, p3, by simp; omega, by simp⟩, by simp [intOf]; omega⟩
        · obtain rfl : i = 0 := by omega
          have hz1 : 1 ≤ zs.length := by omega
          have hd : decide ((0 : Int) < ((0 : Nat) : Int)) = false := by simp
          obtain ⟨q, cq, rfl, q1, q2⟩ : ∃ q cq, v = .slice (some ⟨q, 0, none⟩) zs.length cq ∧ W1.heap.size ≤ q ∧ q < wr.heap.size := by
            rcases hpb.on.form with ⟨_, e⟩ | ⟨q, cq, e, h1, h2, _⟩
            · rw [e] at hz1; simp at hz1
            · exact ⟨q, cq, e, h1, h2⟩
          have hcell := hpb.cell
          have hPlt := hpb.lt
          have dsr : DS w c a n k (.slice (some ⟨b, 0, none⟩) zss.length cp) zss g wr := KD.out.turned hcw hcur htur
          have bB : Below wr.heap.size wr (wr.alloc (.cells #[.slice (some ⟨q, 0, none⟩) zs.length cq] 40)) := (Below.refl _ _).alloc (Nat.le_refl _) _
          have dsA := dsr.over hcw bB
          have qne : (Value.slice (some ⟨b, 0, none⟩) zss.length cp).ownBlock ≠ some q := fun e => by have := (KD.out.out.lies e).2; omega
          obtain ⟨v2, W2, hr, ho2, hg2, hl2, b2, cp2, rfl⟩ := dsA.out.push (e := wr.heap.size) zs q cq (by omega) 24 (by go_simp) ((hpb.on.below bB).lower KD.out.tur.size) qne (by have := dsA.tur.size; omega)
          have HK2 : Hid (DS w c a n k (.slice (some ⟨b2, 0, none⟩) (zss.length + 1) cp2) (zss ++ [zs]) (fun i => if i = zss.length then q else g i) W2) := by
            refine ⟨ho2, dsA.cur.of_block hg2.size (hg2.block c (Nat.lt_of_lt_of_le hcw dsA.tur.size) (fun e => ?_)), ⟨hg2.os.trans dsA.tur.os, hg2.tape.trans dsA.tur.tape, hg2.output.trans dsA.tur.output, Nat.le_trans dsA.tur.size hg2.size, fun x hx hxc => (hg2.block x (Nat.lt_of_lt_of_le hx dsA.tur.size) (fun e => ?_)).trans (dsA.tur.block x hx hxc)⟩, zs_mem_push dsr.rows ⟨hz1, by omega⟩, fun i i' hi hi' e => ?_⟩
            · have := (KD.out.out.lies e.symm).1; omega
            · have := (KD.out.out.lies e.symm).1; omega
            · simp at hi hi'
              by_cases ei : i = zss.length <;> by_cases ei' : i' = zss.length
              · omega
              · simp only [if_pos ei, if_neg ei'] at e; have := (KD.out.out.lt (i := i') (by omega)).2; omega
              · simp only [if_neg ei, if_pos ei'] at e; have := (KD.out.out.lt (i := i) (by omega)).2; omega
              · simp only [if_neg ei, if_neg ei'] at e; exact KD.out.inj i i' (by omega) (by omega) e
          clear ho2 hg2 hl2 dsA dsr bB hpb hcur htur qne
          go_wp2_with (at_builtin; refine append_known _ rfl (.tmp 38) (.tmp 40) 24 rfl _ _ _ _ rfl rfl hr ?_)
          exact ⟨⟨j - 1, zss ++ [zs], _, b2, cp2, by congr 1; omega, by simp, HK2.out, by simp; omega, by simp⟩, by simp [intOf]; omega⟩
    · obtain rfl : j = 0 := by omega
      have hz1 : 1 ≤ zss.length := by omega
      have hd : decide ((0 : Int) < ((0 : Nat) : Int)) = false := by simp
      have KD : Hid (DS w c a n k (.slice (some ⟨b, 0, none⟩) zss.length cp) zss g wr) := ds
      clear ds
      go_wp2_with fail
      refine (l1Once_any _ B c a n k 10 KD.out.cur (bel.out _ KD.out.tur) HB.out.2.1 (by omega)).mono ?_
      rintro e w2 ⟨y2, rfl, c2, t2⟩
      have D2 : Hid (DS w c a n k (.slice (some ⟨b, 0, none⟩) zss.length cp) zss g w2) := KD.out.turned hcw c2 t2
      clear c2 t2 KD
      cases y2 with
      | false =>
        go_wp2
        go_ret
        exact ⟨_, _, _, zss, rfl, D2.out.out.sl rfl hcw, by omega, fun zs h => by have := D2.out.rows zs h; omega, D2.out.cur, D2.out.tur⟩
      | true =>
        go_wp2_with fail
        refine (l1Below_any _ B c a n k (zss.length : Int) D2.out.cur (bel.out _ D2.out.tur) HB.out.2.1 (by omega)).mono ?_
        rintro e w3 ⟨y3, rfl, y30, y3l, c3, t3⟩
        obtain ⟨m, rfl⟩ := Int.eq_ofNat_of_zero_le y30
        have D3 : Hid (DS w c a n k (.slice (some ⟨b, 0, none⟩) zss.length cp) zss g w3) := D2.out.turned hcw c3 t3
        clear c3 t3 D2
        have hml : m < zss.length := by omega
        go_wp2_with fail
        refine (l1Below_any _ B c a n k 3 D3.out.cur (bel.out _ D3.out.tur) HB.out.2.1 (by omega)).mono ?_
        rintro e w4 ⟨y4, rfl, y40, y43, c4, t4⟩
        have D4 : Hid (DS w c a n k (.slice (some ⟨b, 0, none⟩) zss.length cp) zss g w4) := D3.out.turned hcw c4 t4
        clear c4 t4 D3
        have hmz : zss[m]? = some (zss[m]'hml) := List.getElem?_eq_getElem hml
        generalize (zss[m]'hml) = zm at hmz
        obtain ⟨cm, cc, cf, con⟩ := D4.out.out.cell rfl hmz
        have ZM : Hid (zss[m]? = some zm ∧ ON w4 w.heap.size (.slice (some ⟨g m, 0, none⟩) zm.length cm) zm ∧ 1 ≤ zm.length ∧ zm.length ≤ 3 ∧ m < zss.length) := ⟨hmz, con, (D4.out.rows zm (List.mem_of_getElem? hmz)).1, (D4.out.rows zm (List.mem_of_getElem? hmz)).2, hml⟩
        have blt : b < w4.heap.size := (D4.out.out.lies rfl).2
        have hb4 : w.heap.size ≤ b := (D4.out.out.lies rfl).1
        clear hmz con
        by_cases h0 : y4 = 0
        · subst h0
          go_wp2_with fail
          have hz0 := atN_of (show 0 < zm.length from ZM.out.2.2.1)
          have cq : w4.drew.cell? ⟨g m, 0, none⟩ = some (.int .i64 (atN zm 0)) := by
            rcases ZM.out.2.1.form with ⟨e, _⟩ | ⟨q, cq, e, _, _, _, h4, _⟩
            · cases e
            · cases e; exact h4 0 _ hz0
          have l0 : (0 : Int) < (zm.length : Int) := by have := ZM.out.2.2.1; omega
          have hS0 : (fun w' : World => w'.cell? ⟨b, m, none⟩ = some (.slice (some ⟨g m, 0, none⟩) zm.length cm)) w4.drew := cc
          have KW : Hid (DS w c a n k (.slice (some ⟨b, 0, none⟩) zss.length cp) zss g w4.drew ∧ ON w4.drew w.heap.size (.slice (some ⟨g m, 0, none⟩) zm.length cm) zm) := ⟨D4.out.over hcw ((Below.refl _ _).drew), ZM.out.2.1.below ((Below.refl _ _).drew)⟩
          have gml : g m < w4.heap.size := (D4.out.out.lt ZM.out.2.2.2.2).2
          have gmb : g m ≠ b := fun e => D4.out.out.ne m ZM.out.2.2.2.2 (by rw [e]; rfl)
          refine wp_region_until 20 (fun w' : World => w'.cell? ⟨b, m, none⟩ = some (.slice (some ⟨g m, 0, none⟩) zm.length cm)) (by kernel_rfl) ?_
          clear cc cf D4 hz0
          generalize atN zm 0 = z9 at *
          have s4 : Hid (w4.heap.size = w4.drew.heap.size) := rfl
          generalize w4.drew = W4 at *
          rw [s4.out] at gml blt
          clear s4
          refine wpUntil_take (i := 0) (v := ?_) rfl (by kernel_rfl) (fun _ _ _ h => h) (Or.inl ⟨by rfl, ?_⟩) hS0 ?_
          rotate_left
          · (intro w hSw; go_simp; first | done | with_reducible rfl | exact hSw | (rw [if_pos (by omega)]))
          simp only [Act.put]
          refine wpUntil_take (i := 1) (v := ?_) rfl (by kernel_rfl) (fun _ _ _ h => h) (Or.inl ⟨by rfl, ?_⟩) hS0 ?_
          rotate_left
          · (intro w hSw; go_simp; first | done | with_reducible rfl | exact hSw | (rw [if_pos (by omega)]))
          simp only [Act.put]
          refine wpUntil_take (i := 2) (v := ?_) rfl (by kernel_rfl) (fun _ _ _ h => h) (Or.inl ⟨by rfl, ?_⟩) hS0 ?_
          rotate_left
          · (intro w hSw; go_simp; first | done | with_reducible rfl | exact hSw | (rw [if_pos (by omega)]))
          simp only [Act.put]
          refine wpUntil_take (i := 3) (v := ?_) rfl (by kernel_rfl) (fun _ _ _ h => h) (Or.inl ⟨by rfl, ?_⟩) hS0 ?_
          rotate_left
          · (intro w hSw; go_simp; first | done | with_reducible rfl | exact hSw | (rw [if_pos (by omega)]))
          simp only [Act.put]
          refine wpUntil_take (i := 4) (v := ?_) rfl (by kernel_rfl) (fun _ _ _ h => h) (Or.inl ⟨by rfl, ?_⟩) hS0 ?_
          rotate_left
          · (intro w hSw; go_simp; first | done | with_reducible rfl | exact hSw | (rw [if_pos (by omega)]))
          simp only [Act.put]
          refine wpUntil_take (i := 5) (v := ?_) rfl (by kernel_rfl) (fun _ _ _ h => h) (Or.inl ⟨by rfl, ?_⟩) hS0 ?_
          rotate_left
          · (intro w hSw; go_simp; first | done | with_reducible rfl | exact hSw | (rw [if_pos (by omega)]))
          simp only [Act.put]
          refine wpUntil_take (i := 6) (v := ?_) rfl (by kernel_rfl) (fun _ _ _ h => h) (Or.inl ⟨by rfl, ?_⟩) hS0 ?_
          rotate_left
          · (intro w hSw; go_simp; first | done | with_reducible rfl | exact hSw | (rw [if_pos (by omega)]))
          simp only [Act.put]
          refine wpUntil_take (i := 7) (v := ?_) rfl (by kernel_rfl) (fun _ _ _ h => h) (Or.inl ⟨by rfl, ?_⟩) hS0 ?_
          rotate_left
          · (intro w hSw; go_simp; first | done | with_reducible rfl | exact hSw | (rw [if_pos (by omega)]))
          simp only [Act.put]
          refine wpUntil_take (i := 8) (v := ?_) rfl (by kernel_rfl) (fun _ _ _ h => h) (Or.inl ⟨by rfl, ?_⟩) hS0 ?_
          rotate_left
          · (intro w hSw; go_simp; first | done | with_reducible rfl | exact hSw | (rw [if_pos (by omega)]))
          simp only [Act.put]
          refine wpUntil_take (i := 9) (v := ?_) rfl (by kernel_rfl) (fun _ _ _ h => h) (Or.inl ⟨by rfl, ?_⟩) hS0 ?_
          rotate_left
          · (intro w hSw; go_simp; first | done | with_reducible rfl | exact hSw | (rw [if_pos (by omega)]))
          simp only [Act.put]
          refine wpUntil_take (i := 12) (v := ?_) rfl (by kernel_rfl) (fun _ _ _ h => h) (Or.inl ⟨by rfl, ?_⟩) hS0 ?_
          rotate_left
          · (intro w hSw; go_simp; first | done | with_reducible rfl | exact hSw | (rw [if_pos (by omega)]))
          simp only [Act.put]
          refine wpUntil_ready (rs := [10, 13]) (by kernel_rfl) (by simp) ?_
          refine AllU.cons rfl (fun K hK => ?_) (AllU.cons rfl (fun K hK => ?_) AllU.nil)
          · go_simp
            refine hK.out _ _ (fun _ => hS0) ?_
            clear hK K
            refine wpUntil_ready (rs := [11, 13]) (by kernel_rfl) (by simp) ?_
            refine AllU.cons rfl (fun K hK => ?_) (AllU.cons rfl (fun K hK => ?_) AllU.nil)
            · go_simp
              have bA : Below W4.heap.size W4 (W4.alloc (.cells #[.int .i64 (-1), .int .i64 7, .int .i64 8, .int .i64 z9] 2)) := (Below.refl _ _).alloc (Nat.le_refl _) _
              have sA : (W4.alloc (.cells #[.int .i64 (-1), .int .i64 7, .int .i64 8, .int .i64 z9] 2)).heap.size = W4.heap.size + 1 := by simp
              have hSA0 : (fun w' : World => w'.cell? ⟨b, m, none⟩ = some (.slice (some ⟨g m, 0, none⟩) zm.length cm)) (W4.alloc (.cells #[.int .i64 (-1), .int .i64 7, .int .i64 8, .int .i64 z9] 2)) := (bA.cell (p := ⟨b, m, none⟩) blt).trans hS0
              refine hK.out _ _ (fun _ => hSA0) ?_
              clear hK K
              have KA : Hid (DS w c a n k (.slice (some ⟨b, 0, none⟩) zss.length cp) zss g (W4.alloc (.cells #[.int .i64 (-1), .int .i64 7, .int .i64 8, .int .i64 z9] 2)) ∧ ON (W4.alloc (.cells #[.int .i64 (-1), .int .i64 7, .int .i64 8, .int .i64 z9] 2)) w.heap.size (.slice (some ⟨g m, 0, none⟩) zm.length cm) zm) := ⟨KW.out.1.over hcw bA, KW.out.2.below bA⟩
              have cA : ∀ i : Nat, i < 4 → ∃ x : Int, (W4.alloc (.cells #[.int .i64 (-1), .int .i64 7, .int .i64 8, .int .i64 z9] 2)).cell? ⟨W4.heap.size, i, none⟩ = some (.int .i64 x) := fun i hi => by
                obtain rfl | rfl | rfl | rfl : i = 0 ∨ i = 1 ∨ i = 2 ∨ i = 3 := by omega
                · exact ⟨-1, by go_simp⟩
                · exact ⟨7, by go_simp⟩
                · exact ⟨8, by go_simp⟩
                · exact ⟨z9, by go_simp⟩
              refine wpUntil_ready (rs := [13]) (by kernel_rfl) (by simp) ?_
              refine AllU.cons rfl (fun K hK => ?_) AllU.nil
              go_simp
              refine (l1Below_any (W4.alloc (.cells #[.int .i64 (-1), .int .i64 7, .int .i64 8, .int .i64 z9] 2)) B c a n k 4 KA.out.1.cur (bel.out _ KA.out.1.tur) HB.out.2.1 (by omega)).mono ?_
              rintro e w5 ⟨y5, rfl, y50, y54, c5, t5⟩
              obtain ⟨y, rfl⟩ := Int.eq_ofNat_of_zero_le y50
              obtain ⟨x, cx0⟩ := cA y (by omega)
              have cne : W4.heap.size ≠ c := by have := KW.out.1.tur.size; omega
              have cx : w5.cell? ⟨W4.heap.size, y, none⟩ = some (.int .i64 x) := (t5.cell (p := ⟨W4.heap.size, y, none⟩) (by show W4.heap.size < _; omega) cne).trans cx0
              have bne : b ≠ c := by have := hb4; omega
              have hSX : (fun w' : World => w'.cell? ⟨b, m, none⟩ = some (.slice (some ⟨g m, 0, none⟩) zm.length cm)) w5 := (t5.cell (p := ⟨b, m, none⟩) (by show b < _; omega) bne).trans hSA0
              have KX : Hid (DS w c a n k (.slice (some ⟨b, 0, none⟩) zss.length cp) zss g w5 ∧ ON w5 w.heap.size (.slice (some ⟨g m, 0, none⟩) zm.length cm) zm) := ⟨KA.out.1.turned hcw c5 t5, KA.out.2.kept fun q e => by obtain rfl : g m = q := Option.some.inj e; exact t5.block (g m) (by omega) (by have := (KW.out.1.out.lt ZM.out.2.2.2.2).1; omega)⟩
              refine hK.out _ _ (fun _ => hSX) ?_
              clear hK K c5 t5 cA cx0 KA bA sA hSA0
              generalize w5 = X at *
              refine wpUntil_take (i := 14) (v := ?_) rfl (by kernel_rfl) (fun _ _ _ h => h) (Or.inl ⟨by rfl, ?_⟩) hSX ?_
              rotate_left
              · (intro w hSw; go_simp; first | done | with_reducible rfl | exact hSw | (rw [if_pos (by omega)]))
              simp only [Act.put]
              refine wpUntil_ready (rs := [15]) (by kernel_rfl) (by simp) ?_
              refine AllU.cons rfl (fun K hK => ?_) AllU.nil
              go_simp
              refine hK.out _ _ (fun _ => hSX) ?_
              clear hK K
              have bXA : Below X.heap.size X (X.alloc (.cells #[.int .i64 x] 2)) := (Below.refl _ _).alloc (Nat.le_refl _) _
              have sXA : (X.alloc (.cells #[.int .i64 x] 2)).heap.size = X.heap.size + 1 := by simp
              have dsA := KX.out.1.over hcw bXA
              have cz : NumsAt (X.alloc (.cells #[.int .i64 x] 2)) X.heap.size 0 [x] := fun i t e => by
                obtain ⟨rfl, rfl⟩ : i = 0 ∧ t = x := by
                  cases i with
                  | zero => simp at e; exact ⟨rfl, e.symm⟩
                  | succ i => simp at e
                go_simp
              obtain ⟨v', W', hr, ho, hg, hl⟩ := on_append (X.alloc (.cells #[.int .i64 x] 2)) w.heap.size (.slice (some ⟨g m, 0, none⟩) zm.length cm) zm [x] X.heap.size 0 1 28 (KX.out.2.below bXA) cz (by have := ZM.out.2.2.2.1; simp; omega) (by have := dsA.tur.size; omega)
              obtain ⟨q2, cp2, rfl⟩ : ∃ q2 cp2, v' = .slice (some ⟨q2, 0, none⟩) (zm.length + 1) cp2 := by
                rcases ho.form with ⟨_, e⟩ | ⟨q2, cp2, e, _⟩
                · simp at e
                · exact ⟨q2, cp2, by rw [e]; simp⟩
              have bXl : b < X.heap.size := (KX.out.1.out.lies rfl).2
              have hSA : (fun w' : World => w'.cell? ⟨b, m, none⟩ = some (.slice (some ⟨g m, 0, none⟩) zm.length cm)) (X.alloc (.cells #[.int .i64 x] 2)) := (bXA.cell (p := ⟨b, m, none⟩) bXl).trans hSX
              have eb : W'.heap[b]? = (X.alloc (.cells #[.int .i64 x] 2)).heap[b]? := hg.block b (by omega) (fun e => gmb (Option.some.inj e).symm)
              have hSW : (fun w' : World => w'.cell? ⟨b, m, none⟩ = some (.slice (some ⟨g m, 0, none⟩) zm.length cm)) W' := (World.cell?_of_block (a := ⟨b, m, none⟩) eb).trans hSA
              obtain ⟨_, _, cf, _⟩ := dsA.out.cell rfl ZM.out.1
              have fW : W'.frozen? ⟨b, m, none⟩ = false := (World.frozen?_of_block (a := ⟨b, m, none⟩) eb).trans cf
              have KF : Hid (DS w c a n k (.slice (some ⟨b, 0, none⟩) zss.length cp) zss g (X.alloc (.cells #[.int .i64 x] 2)) ∧ ON W' w.heap.size (.slice (some ⟨q2, 0, none⟩) (zm.length + 1) cp2) (zm ++ [x]) ∧ (X.alloc (.cells #[.int .i64 x] 2)).grownBy W' (some (g m)) ∧ (q2 = g m ∨ q2 = (X.alloc (.cells #[.int .i64 x] 2)).heap.size) ∧ W'.heap[b]? = (X.alloc (.cells #[.int .i64 x] 2)).heap[b]?) := ⟨dsA, ho, hg, hl.imp Option.some.inj Option.some.inj, eb⟩
              clear dsA ho hg hl cz bXA sXA eb cf
              refine wpUntil_ready (rs := [16]) (by kernel_rfl) (by simp) ?_
              refine AllU.cons rfl (fun K hK => ?_) AllU.nil
              go_simp
              refine hK.out _ _ (fun _ => hSA) ?_
              clear hK K
              refine wpUntil_ready (rs := [17]) (by kernel_rfl) (by simp) ?_
              refine AllU.cons rfl (fun K hK => ?_) AllU.nil
              refine step_known _ rfl (.tmp 58) (.tmp 70) 28 rfl _ _ _ _ (by first | rfl | simp [Act.eval, Act.put]) (by first | rfl | simp [Act.eval, Act.put]) hr ?_
              refine hK.out _ _ (fun _ => hSW) ?_
              clear hK K
              simp only [Act.put]
              refine wpUntil_ready (rs := [18]) (by kernel_rfl) (by simp) ?_
              refine AllU.cons rfl (fun K hK => ?_) AllU.nil
              go_simp
              refine hK.out _ _ (fun _ => hSW) ?_
              clear hK K
              refine wpUntil_ready (rs := [19]) (by kernel_rfl) (by simp) ?_
              refine AllU.cons rfl (fun K hK => ?_) AllU.nil
              go_simp
              refine hK.out _ _ (fun _ => hSW) ?_
              clear hK K
              refine wpUntil_ready (rs := [20]) (by kernel_rfl) (by simp) ?_
              refine AllU.cons rfl (fun K hK => ?_) AllU.nil
              have cW : W'.cell? ⟨b, m, none⟩ = some (.slice (some ⟨g m, 0, none⟩) zm.length cm) := hSW
              go_simp
              refine hK.out _ _ (fun h => absurd rfl h) ?_
              clear hK K
              refine wpUntil_done (by kernel_rfl) ?_ _
              go_wp2
              go_ret
              exact draw0_end hcw ZM.out.1 ZM.out.2.2.2.1 hb4 (by omega) KF.out.1 KF.out.2.1 KF.out.2.2.1 KF.out.2.2.2.1 KF.out.2.2.2.2
            · go_simp
              refine (l1Below_any W4 B c a n k 4 KW.out.1.cur (bel.out _ KW.out.1.tur) HB.out.2.1 (by omega)).mono ?_
              rintro e w5 ⟨y5, rfl, y50, y54, c5, t5⟩
              obtain ⟨y, rfl⟩ := Int.eq_ofNat_of_zero_le y50
              have bne : b ≠ c := by have := hb4; omega
              have hS5 : (fun w' : World => w'.cell? ⟨b, m, none⟩ = some (.slice (some ⟨g m, 0, none⟩) zm.length cm)) w5 := (t5.cell (p := ⟨b, m, none⟩) blt bne).trans hS0
              have K5 : Hid (DS w c a n k (.slice (some ⟨b, 0, none⟩) zss.length cp) zss g w5 ∧ ON w5 w.heap.size (.slice (some ⟨g m, 0, none⟩) zm.length cm) zm) := ⟨KW.out.1.turned hcw c5 t5, KW.out.2.kept fun q e => by obtain rfl : g m = q := Option.some.inj e; exact t5.block (g m) gml (by have := (KW.out.1.out.lt ZM.out.2.2.2.2).1; omega)⟩
              have cq5 : w5.cell? ⟨g m, 0, none⟩ = some (.int .i64 z9) := (t5.cell (p := ⟨g m, 0, none⟩) gml (by have := (KW.out.1.out.lt ZM.out.2.2.2.2).1; show g m ≠ c; omega)).trans cq
              refine hK.out _ _ (fun _ => hS5) ?_
              clear hK K c5 t5
              refine wpUntil_ready (rs := [11]) (by kernel_rfl) (by simp) ?_
              refine AllU.cons rfl (fun K hK => ?_) AllU.nil
              go_simp
              have bA : Below w5.heap.size w5 (w5.alloc (.cells #[.int .i64 (-1), .int .i64 7, .int .i64 8, .int .i64 z9] 2)) := (Below.refl _ _).alloc (Nat.le_refl _) _
              have sA : (w5.alloc (.cells #[.int .i64 (-1), .int .i64 7, .int .i64 8, .int .i64 z9] 2)).heap.size = w5.heap.size + 1 := by simp
              have hSX : (fun w' : World => w'.cell? ⟨b, m, none⟩ = some (.slice (some ⟨g m, 0, none⟩) zm.length cm)) (w5.alloc (.cells #[.int .i64 (-1), .int .i64 7, .int .i64 8, .int .i64 z9] 2)) := (bA.cell (p := ⟨b, m, none⟩) (K5.out.1.out.lies rfl).2).trans hS5
              refine hK.out _ _ (fun _ => hSX) ?_
              clear hK K
              have KX : Hid (DS w c a n k (.slice (some ⟨b, 0, none⟩) zss.length cp) zss g (w5.alloc (.cells #[.int .i64 (-1), .int .i64 7, .int .i64 8, .int .i64 z9] 2)) ∧ ON (w5.alloc (.cells #[.int .i64 (-1), .int .i64 7, .int .i64 8, .int .i64 z9] 2)) w.heap.size (.slice (some ⟨g m, 0, none⟩) zm.length cm) zm) := ⟨K5.out.1.over hcw bA, K5.out.2.below bA⟩
              obtain ⟨x, cx⟩ : ∃ x : Int, (w5.alloc (.cells #[.int .i64 (-1), .int .i64 7, .int .i64 8, .int .i64 z9] 2)).cell? ⟨w5.heap.size, y, none⟩ = some (.int .i64 x) := by
                obtain rfl | rfl | rfl | rfl : y = 0 ∨ y = 1 ∨ y = 2 ∨ y = 3 := by omega
                · exact ⟨-1, by go_simp⟩
                · exact ⟨7, by go_simp⟩
                · exact ⟨8, by go_simp⟩
                · exact ⟨z9, by go_simp⟩
              clear bA sA
              generalize (w5.alloc (.cells #[.int .i64 (-1), .int .i64 7, .int .i64 8, .int .i64 z9] 2)) = X at *
              refine wpUntil_take (i := 14) (v := ?_) rfl (by kernel_rfl) (fun _ _ _ h => h) (Or.inl ⟨by rfl, ?_⟩) hSX ?_
              rotate_left
              · (intro w hSw; go_simp; first | done | with_reducible rfl | exact hSw | (rw [if_pos (by omega)]))
              simp only [Act.put]
              refine wpUntil_ready (rs := [15]) (by kernel_rfl) (by simp) ?_
              refine AllU.cons rfl (fun K hK => ?_) AllU.nil
              go_simp
              refine hK.out _ _ (fun _ => hSX) ?_
              clear hK K
              have bXA : Below X.heap.size X (X.alloc (.cells #[.int .i64 x] 2)) := (Below.refl _ _).alloc (Nat.le_refl _) _
              have sXA : (X.alloc (.cells #[.int .i64 x] 2)).heap.size = X.heap.size + 1 := by simp
              have dsA := KX.out.1.over hcw bXA
              have cz : NumsAt (X.alloc (.cells #[.int .i64 x] 2)) X.heap.size 0 [x] := fun i t e => by
                obtain ⟨rfl, rfl⟩ : i = 0 ∧ t = x := by
                  cases i with
                  | zero => simp at e; exact ⟨rfl, e.symm⟩
                  | succ i => simp at e
                go_simp
              obtain ⟨v', W', hr, ho, hg, hl⟩ := on_append (X.alloc (.cells #[.int .i64 x] 2)) w.heap.size (.slice (some ⟨g m, 0, none⟩) zm.length cm) zm [x] X.heap.size 0 1 28 (KX.out.2.below bXA) cz (by have := ZM.out.2.2.2.1; simp; omega) (by have := dsA.tur.size; omega)
              obtain ⟨q2, cp2, rfl⟩ : ∃ q2 cp2, v' = .slice (some ⟨q2, 0, none⟩) (zm.length + 1) cp2 := by
                rcases ho.form with ⟨_, e⟩ | ⟨q2, cp2, e, _⟩
                · simp at e
                · exact ⟨q2, cp2, by rw [e]; simp⟩
              have bXl : b < X.heap.size := (KX.out.1.out.lies rfl).2
              have hSA : (fun w' : World => w'.cell? ⟨b, m, none⟩ = some (.slice (some ⟨g m, 0, none⟩) zm.length cm)) (X.alloc (.cells #[.int .i64 x] 2)) := (bXA.cell (p := ⟨b, m, none⟩) bXl).trans hSX
              have eb : W'.heap[b]? = (X.alloc (.cells #[.int .i64 x] 2)).heap[b]? := hg.block b (by omega) (fun e => gmb (Option.some.inj e).symm)
              have hSW : (fun w' : World => w'.cell? ⟨b, m, none⟩ = some (.slice (some ⟨g m, 0, none⟩) zm.length cm)) W' := (World.cell?_of_block (a := ⟨b, m, none⟩) eb).trans hSA
              obtain ⟨_, _, cf, _⟩ := dsA.out.cell rfl ZM.out.1
              have fW : W'.frozen? ⟨b, m, none⟩ = false := (World.frozen?_of_block (a := ⟨b, m, none⟩) eb).trans cf
              have KF : Hid (DS w c a n k (.slice (some ⟨b, 0, none⟩) zss.length cp) zss g (X.alloc (.cells #[.int .i64 x] 2)) ∧ ON W' w.heap.size (.slice (some ⟨q2, 0, none⟩) (zm.length + 1) cp2) (zm ++ [x]) ∧ (X.alloc (.cells #[.int .i64 x] 2)).grownBy W' (some (g m)) ∧ (q2 = g m ∨ q2 = (X.alloc (.cells #[.int .i64 x] 2)).heap.size) ∧ W'.heap[b]? = (X.alloc (.cells #[.int .i64 x] 2)).heap[b]?) := ⟨dsA, ho, hg, hl.imp Option.some.inj Option.some.inj, eb⟩
              clear dsA ho hg hl cz bXA sXA eb cf
              refine wpUntil_ready (rs := [16]) (by kernel_rfl) (by simp) ?_
              refine AllU.cons rfl (fun K hK => ?_) AllU.nil
              go_simp
              refine hK.out _ _ (fun _ => hSA) ?_
              clear hK K
              refine wpUntil_ready (rs := [17]) (by kernel_rfl) (by simp) ?_
              refine AllU.cons rfl (fun K hK => ?_) AllU.nil
              refine step_known _ rfl (.tmp 58) (.tmp 70) 28 rfl _ _ _ _ (by first | rfl | simp [Act.eval, Act.put]) (by first | rfl | simp [Act.eval, Act.put]) hr ?_
              refine hK.out _ _ (fun _ => hSW) ?_
              clear hK K
              simp only [Act.put]
              refine wpUntil_ready (rs := [18]) (by kernel_rfl) (by simp) ?_
              refine AllU.cons rfl (fun K hK => ?_) AllU.nil
              go_simp
              refine hK.out _ _ (fun _ => hSW) ?_
              clear hK K
              refine wpUntil_ready (rs := [19]) (by kernel_rfl) (by simp) ?_
              refine AllU.cons rfl (fun K hK => ?_) AllU.nil
              go_simp
              refine hK.out _ _ (fun _ => hSW) ?_
              clear hK K
              refine wpUntil_ready (rs := [20]) (by kernel_rfl) (by simp) ?_
              refine AllU.cons rfl (fun K hK => ?_) AllU.nil
              have cW : W'.cell? ⟨b, m, none⟩ = some (.slice (some ⟨g m, 0, none⟩) zm.length cm) := hSW
              go_simp
              refine hK.out _ _ (fun h => absurd rfl h) ?_
              clear hK K
              refine wpUntil_done (by kernel_rfl) ?_ _
              go_wp2
              go_ret
              exact draw0_end hcw ZM.out.1 ZM.out.2.2.2.1 hb4 (by omega) KF.out.1 KF.out.2.1 KF.out.2.2.1 KF.out.2.2.2.1 KF.out.2.2.2.2
          · go_simp
            refine (l1Below_any W4 B c a n k 4 KW.out.1.cur (bel.out _ KW.out.1.tur) HB.out.2.1 (by omega)).mono ?_
            rintro e w5 ⟨y5, rfl, y50, y54, c5, t5⟩
            obtain ⟨y, rfl⟩ := Int.eq_ofNat_of_zero_le y50
            have bne : b ≠ c := by have := hb4; omega
            have hS5 : (fun w' : World => w'.cell? ⟨b, m, none⟩ = some (.slice (some ⟨g m, 0, none⟩) zm.length cm)) w5 := (t5.cell (p := ⟨b, m, none⟩) blt bne).trans hS0
            have K5 : Hid (DS w c a n k (.slice (some ⟨b, 0, none⟩) zss.length cp) zss g w5 ∧ ON w5 w.heap.size (.slice (some ⟨g m, 0, none⟩) zm.length cm) zm) := ⟨KW.out.1.turned hcw c5 t5, KW.out.2.kept fun q e => by obtain rfl : g m = q := Option.some.inj e; exact t5.block (g m) gml (by have := (KW.out.1.out.lt ZM.out.2.2.2.2).1; omega)⟩
            have cq5 : w5.cell? ⟨g m, 0, none⟩ = some (.int .i64 z9) := (t5.cell (p := ⟨g m, 0, none⟩) gml (by have := (KW.out.1.out.lt ZM.out.2.2.2.2).1; show g m ≠ c; omega)).trans cq
            refine hK.out _ _ (fun _ => hS5) ?_
            clear hK K c5 t5
            refine wpUntil_ready (rs := [10]) (by kernel_rfl) (by simp) ?_
            refine AllU.cons rfl (fun K hK => ?_) AllU.nil
            go_simp
            refine hK.out _ _ (fun _ => hS5) ?_
            clear hK K
            refine wpUntil_ready (rs := [11]) (by kernel_rfl) (by simp) ?_
            refine AllU.cons rfl (fun K hK => ?_) AllU.nil
            go_simp
            have bA : Below w5.heap.size w5 (w5.alloc (.cells #[.int .i64 (-1), .int .i64 7, .int .i64 8, .int .i64 z9] 2)) := (Below.refl _ _).alloc (Nat.le_refl _) _
            have sA : (w5.alloc (.cells #[.int .i64 (-1), .int .i64 7, .int .i64 8, .int .i64 z9] 2)).heap.size = w5.heap.size + 1 := by simp
            have hSX : (fun w' : World => w'.cell? ⟨b, m, none⟩ = some (.slice (some ⟨g m, 0, none⟩) zm.length cm)) (w5.alloc (.cells #[.int .i64 (-1), .int .i64 7, .int .i64 8, .int .i64 z9] 2)) := (bA.cell (p := ⟨b, m, none⟩) (K5.out.1.out.lies rfl).2).trans hS5
            refine hK.out _ _ (fun _ => hSX) ?_
            clear hK K
            have KX : Hid (DS w c a n k (.slice (some ⟨b, 0, none⟩) zss.length cp) zss g (w5.alloc (.cells #[.int .i64 (-1), .int .i64 7, .int .i64 8, .int .i64 z9] 2)) ∧ ON (w5.alloc (.cells #[.int .i64 (-1), .int .i64 7, .int .i64 8, .int .i64 z9] 2)) w.heap.size (.slice (some ⟨g m, 0, none⟩) zm.length cm) zm) := ⟨K5.out.1.over hcw bA, K5.out.2.below bA⟩
            obtain ⟨x, cx⟩ : ∃ x : Int, (w5.alloc (.cells #[.int .i64 (-1), .int .i64 7, .int .i64 8, .int .i64 z9] 2)).cell? ⟨w5.heap.size, y, none⟩ = some (.int .i64 x) := by
              obtain rfl | rfl | rfl | rfl : y = 0 ∨ y = 1 ∨ y = 2 ∨ y = 3 := by omega
              · exact ⟨-1, by go_simp⟩
              · exact ⟨7, by go_simp⟩
              · exact ⟨8, by go_simp⟩
              · exact ⟨z9, by go_simp⟩
            clear bA sA
            generalize (w5.alloc (.cells #[.int .i64 (-1), .int .i64 7, .int .i64 8, .int .i64 z9] 2)) = X at *
            refine wpUntil_take (i := 14) (v := ?_) rfl (by kernel_rfl) (fun _ _ _ h => h) (Or.inl ⟨by rfl, ?_⟩) hSX ?_
            rotate_left
            · (intro w hSw; go_simp; first | done | with_reducible rfl | exact hSw | (rw [if_pos (by omega)]))
            simp only [Act.put]
            refine wpUntil_ready (rs := [15]) (by kernel_rfl) (by simp) ?_
            refine AllU.cons rfl (fun K hK => ?_) AllU.nil
            go_simp
            refine hK.out _ _ (fun _ => hSX) ?_
            clear hK K
            have bXA : Below X.heap.size X (X.alloc (.cells #[.int .i64 x] 2)) := (Below.refl _ _).alloc (Nat.le_refl _) _
            have sXA : (X.alloc (.cells #[.int .i64 x] 2)).heap.size = X.heap.size + 1 := by simp
            have dsA := KX.out.1.over hcw bXA
            have cz : NumsAt (X.alloc (.cells #[.int .i64 x] 2)) X.heap.size 0 [x] := fun i t e => by
              obtain ⟨rfl, rfl⟩ : i = 0 ∧ t = x := by
                cases i with
                | zero => simp at e; exact ⟨rfl, e.symm⟩
                | succ i => simp at e
              go_simp
            obtain ⟨v', W', hr, ho, hg, hl⟩ := on_append (X.alloc (.cells #[.int .i64 x] 2)) w.heap.size (.slice (some ⟨g m, 0, none⟩) zm.length cm) zm [x] X.heap.size 0 1 28 (KX.out.2.below bXA) cz (by have := ZM.out.2.2.2.1; simp; omega) (by have := dsA.tur.size; omega)
            obtain ⟨q2, cp2, rfl⟩ : ∃ q2 cp2, v' = .slice (some ⟨q2, 0, none⟩) (zm.length + 1) cp2 := by
              rcases ho.form with ⟨_, e⟩ | ⟨q2, cp2, e, _⟩
              · simp at e
              · exact ⟨q2, cp2, by rw [e]; simp⟩
            have bXl : b < X.heap.size := (KX.out.1.out.lies rfl).2
            have hSA : (fun w' : World => w'.cell? ⟨b, m, none⟩ = some (.slice (some ⟨g m, 0, none⟩) zm.length cm)) (X.alloc (.cells #[.int .i64 x] 2)) := (bXA.cell (p := ⟨b, m, none⟩) bXl).trans hSX
            have eb : W'.heap[b]? = (X.alloc (.cells #[.int .i64 x] 2)).heap[b]? := hg.block b (by omega) (fun e => gmb (Option.some.inj e).symm)
            have hSW : (fun w' : World => w'.cell? ⟨b, m, none⟩ = some (.slice (some ⟨g m, 0, none⟩) zm.length cm)) W' := (World.cell?_of_block (a := ⟨b, m, none⟩) eb).trans hSA
            obtain ⟨_, _, cf, _⟩ := dsA.out.cell rfl ZM.out.1
            have fW : W'.frozen? ⟨b, m, none⟩ = false := (World.frozen?_of_block (a := ⟨b, m, none⟩) eb).trans cf
            have KF : Hid (DS w c a n k (.slice (some ⟨b, 0, none⟩) zss.length cp) zss g (X.alloc (.cells #[.int .i64 x] 2)) ∧ ON W' w.heap.size (.slice (some ⟨q2, 0, none⟩) (zm.length + 1) cp2) (zm ++ [x]) ∧ (X.alloc (.cells #[.int .i64 x] 2)).grownBy W' (some (g m)) ∧ (q2 = g m ∨ q2 = (X.alloc (.cells #[.int .i64 x] 2)).heap.size) ∧ W'.heap[b]? = (X.alloc (.cells #[.int .i64 x] 2)).heap[b]?) := ⟨dsA, ho, hg, hl.imp Option.some.inj Option.some.inj, eb⟩
            clear dsA ho hg hl cz bXA sXA eb cf
            refine wpUntil_ready (rs := [16]) (by kernel_rfl) (by simp) ?_
            refine AllU.cons rfl (fun K hK => ?_) AllU.nil
            go_simp
            refine hK.out _ _ (fun _ => hSA) ?_
            clear hK K
            refine wpUntil_ready (rs := [17]) (by kernel_rfl) (by simp) ?_
            refine AllU.cons rfl (fun K hK => ?_) AllU.nil
            refine step_known _ rfl (.tmp 58) (.tmp 70) 28 rfl _ _ _ _ (by first | rfl | simp [Act.eval, Act.put]) (by first | rfl | simp [Act.eval, Act.put]) hr ?_
            refine hK.out _ _ (fun _ => hSW) ?_
            clear hK K
            simp only [Act.put]
            refine wpUntil_ready (rs := [18]) (by kernel_rfl) (by simp) ?_
            refine AllU.cons rfl (fun K hK => ?_) AllU.nil
            go_simp
            refine hK.out _ _ (fun _ => hSW) ?_
            clear hK K
            refine wpUntil_ready (rs := [19]) (by kernel_rfl) (by simp) ?_
            refine AllU.cons rfl (fun K hK => ?_) AllU.nil
            go_simp
            refine hK.out _ _ (fun _ => hSW) ?_
            clear hK K
            refine wpUntil_ready (rs := [20]) (by kernel_rfl) (by simp) ?_
            refine AllU.cons rfl (fun K hK => ?_) AllU.nil
            have cW : W'.cell? ⟨b, m, none⟩ = some (.slice (some ⟨g m, 0, none⟩) zm.length cm) := hSW
            go_simp
            refine hK.out _ _ (fun h => absurd rfl h) ?_
            clear hK K
            refine wpUntil_done (by kernel_rfl) ?_ _
            go_wp2
            go_ret
            exact draw0_end hcw ZM.out.1 ZM.out.2.2.2.1 hb4 (by omega) KF.out.1 KF.out.2.1 KF.out.2.2.1 KF.out.2.2.2.1 KF.out.2.2.2.2
        · have e0 : (y4 == 0) = false := by simp [h0]
          by_cases h1 : y4 = 1
          · subst h1
            have e1 : ((1 : Int) == 1) = true := rfl
            clear e0
            go_wp2
            go_ret
            have hp := D4.out.out.put (V := w4) hcw rfl ZM.out.2.2.2.2 (some ⟨w4.heap.size, 0, none⟩) [] 0 (Nat.le_refl _) rfl (fun _ _ _ => rfl) ⟨rfl, .inl rfl⟩ (fun x e => by cases e; show w4.heap.size ≠ b; omega) (Nat.le_refl _)
            have bS : Below w.heap.size w4 (w4.setCell ⟨b, m, none⟩ (.slice (some ⟨w4.heap.size, 0, none⟩) 0 0)) := (Below.refl _ _).setCell (p := ⟨b, m, none⟩) hb4 _
            have bT := bS.alloc (by have := D4.out.tur.size; have := bS.size; omega) (.cells #[] 2)
            refine ⟨_, _, _, zss.set m [], rfl, hp.turned ((Turned.refl _ _).alloc _), by omega, fun zs h => ?_, D4.out.cur.of_block bT.size (bT.block c hcw), D4.out.tur.over bT⟩
            rcases List.mem_or_eq_of_mem_set h with h | h
            · have := D4.out.rows zs h; omega
            · rw [h]; simp
          · have h2 : y4 = 2 := by omega
            subst h2
            have KV : Hid (OutO w4 w.heap.size (.slice (some ⟨b, 0, none⟩) zss.length cp) zss g) := D4.out.out
            clear e0 h0 h1
            go_wp2
            go_loopw [3] (fun v3 wr => ∃ (yss : List (List Int)) (g' : Nat → Nat) (b' cp' : Nat), v3 = .slice (some ⟨b', 0, none⟩) yss.length cp' ∧ OutO wr w.heap.size v3 yss g' ∧ Cur wr c a n k ∧ Turned c w wr ∧ 1 ≤ yss.length ∧ yss.length ≤ 7 ∧ (∀ zs ∈ yss, zs.length ≤ 3)) (fun v3 _ => match v3 with | .slice _ l _ => 7 - l | _ => 0)
            case atStart => exact ⟨zss, g, b, cp, rfl, KV.out, D4.out.cur, D4.out.tur, hz1, by omega, fun zs h => (D4.out.rows zs h).2⟩
            case round =>
              obtain ⟨yss, g', b', cp', rfl, out, cur, tur, y1, y7, yr⟩ := hrel
              by_cases hlt : yss.length < 7
              · have hlt' : (yss.length : Int) < 7 := by omega
                have hy0 : yss[0]? = some (yss[0]'(by omega)) := List.getElem?_eq_getElem _
                generalize (yss[0]'(by omega)) = ym at hy0
                obtain ⟨cm', cc', _, con'⟩ := out.cell rfl hy0
                have bA : Below wr.heap.size wr (wr.alloc (.cells #[.slice (some ⟨g' 0, 0, none⟩) ym.length cm'] 40)) := (Below.refl _ _).alloc (Nat.le_refl _) _
                obtain ⟨v2, W2, hr, ho2, hg2, hl2, b2, cp2, rfl⟩ := (out.below bA).push (e := wr.heap.size) ym (g' 0) cm' (by omega) 24 (by go_simp) (con'.below bA) (out.ne 0 (by omega)) (by have := tur.size; have := bA.size; omega)
                have tA : Turned c w (wr.alloc (.cells #[.slice (some ⟨g' 0, 0, none⟩) ym.length cm'] 40)) := tur.over (bA.mono tur.size)
                have K2 : Hid (OutO W2 w.heap.size (.slice (some ⟨b2, 0, none⟩) (yss.length + 1) cp2) (yss ++ [ym]) (fun i => if i = yss.length then g' 0 else g' i) ∧ Cur W2 c a n k ∧ Turned c w W2 ∧ (∀ zs ∈ yss ++ [ym], zs.length ≤ 3)) := by
                  refine ⟨ho2, (cur.alloc _).of_block hg2.size (hg2.block c (Nat.lt_of_lt_of_le hcw tA.size) (fun e => ?_)), tA.grown hg2 (fun q e => (out.lies e).1), zs_mem_push yr (yr ym (List.mem_of_getElem? hy0))⟩
                  have := (out.lies e.symm).1
                  omega
                clear ho2 hg2 hl2 bA tA con' out cur tur hy0
                go_wp2_with (at_builtin; refine append_known _ rfl (.tmp 85) (.tmp 89) 24 rfl _ _ _ _ rfl rfl hr ?_)
                obtain ⟨k1, k2, k3, k4⟩ := K2.out
                exact ⟨⟨yss ++ [ym], _, b2, cp2, by simp, k1, k2, k3, by simp, by simp; omega, k4⟩, by simp; omega⟩
              · have hd : decide ((yss.length : Int) < 7) = false := by simp; omega
                have KO : Hid (OutO wr w.heap.size (.slice (some ⟨b', 0, none⟩) yss.length cp') yss g' ∧ Cur wr c a n k ∧ Turned c w wr) := ⟨out, cur, tur⟩
                clear out cur tur
                go_wp2
                go_ret
                exact ⟨_, _, _, yss, rfl, KO.out.1.sl rfl hcw, y7, fun zs h => by have := yr zs h; omega, KO.out.2.1, KO.out.2.2⟩
end Go.Proofs.Ytgohihcpmjfhdaa
