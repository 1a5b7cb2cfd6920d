import Derived.Test.YtajmlpgodcfghaaGreatDoorJ8Alloc
set_option maxHeartbeats 16000000
set_option maxRecDepth 100000
namespace Go.Proofs.YtajmlpgodcfghaaGreatDoor
open Go.RowKit
open Go.Sort (grow)
section
open Go.Proofs.Tryz
def NQ(w W0:World)(m:M4)(s3:Value)(wx:World):Prop:=∃(p:Nat) (a':OA) (c':Nat),s3=.pointer (some ⟨p,0,none⟩)/\C3 w.1.size p m.x wx (.slice none 0 0) (.slice none 0 0) (.slice a' m.ai.length c')/\MR (w.1.size+2) p wx (.slice none 0 0) (.slice none 0 0) (.slice a' m.ai.length c') [] [] m.ai gz gz/\Below (w.1.size+1) W0 wx
theorem Je(w:World)(v:MV)(m:M4)(hm:QX m)(hs:qY w v m):
  Calls prog 48 #[v.val m] w fun e w'=>∃(u:MV) (p:Nat) (gk gr:Nat->Nat),e=.returned (u.val m)/\MR (w.1.size+2) p w' (.slice u.ac m.af.length u.cc) (.slice u.al m.g.length u.cl) (.slice u.ad m.ai.length u.cd) m.af m.g m.ai gk gr/\Below w.1.size w w':=by
 obtain⟨ac,cc,al,cl,ad,cd⟩:=v;simp only[MV.val];obtain⟨W0,dS⟩:∃W0,W0=w.alloc (.cells #[.bool m.x,.slice ac m.af.length cc,.slice al m.g.length cl,.slice ad m.ai.length cd] 62):=⟨_,rfl⟩
 have b0:Below w.1.size w W0:=by subst dS;exact aN.alloc aU _
 have s0:W0.1.size=w.1.size+1:=by subst dS;simp
 have c0:∀X,Below (w.1.size+1) W0 X->X.cell? ⟨w.1.size,0,none⟩=some (.bool m.x)/\X.cell? ⟨w.1.size,1,none⟩=some (.slice ac m.af.length cc)/\X.cell? ⟨w.1.size,2,none⟩=some (.slice al m.g.length cl)/\X.cell? ⟨w.1.size,3,none⟩=some (.slice ad m.ai.length cd):=fun X hX=>by
  refine⟨(hX.cell (p:=⟨w.1.size,0,none⟩) (by simp)).trans ?_,(hX.cell (p:=⟨w.1.size,1,none⟩) (by simp)).trans ?_,(hX.cell (p:=⟨w.1.size,2,none⟩) (by simp)).trans ?_,(hX.cell (p:=⟨w.1.size,3,none⟩) (by simp)).trans ?_⟩;all_goals (subst dS;go_simp)
 have H:Hid (QX m/\qY w ⟨ac,cc,al,cl,ad,cd⟩ m/\Below w.1.size w W0/\W0.1.size=w.1.size+1):=⟨hm,hs,b0,s0⟩
 have HC:=ay c0;clear hm hs b0 s0 c0;go_enter func48,ntmps48;go_upto_region 1 with fail
 go_cut[3]from 6 to 12 (fun s3 wx=>NQ w W0 m s3 wx)
 case first=>
  obtain⟨W1,gZ⟩:∃W1,W1=(W0.alloc (.cells #[.bool false,.slice none 0 0,.slice none 0 0,.slice none 0 0] 62)).drew:=⟨_,rfl⟩
  have b1:Below W0.1.size W0 W1:=by subst gZ;exact(aN.alloc aU _).drew
  have s1:W1.1.size=w.1.size+2:=by subst gZ;simp[H.out.2.2.2]
  have b1':Below (w.1.size+1) W0 W1:=b1.mono (by rw[H.out.2.2.2];exact Nat.le_refl _);obtain⟨ca,_,_,WH⟩:=HC.out W1 b1'
  have vv:W1.1[w.1.size+1]?=some (.cells #[.bool false,.slice none 0 0,.slice none 0 0,.slice none 0 0] 62 (0,0)):=by
   subst gZ;rw[<-H.out.2.2.2];exact heap_alloc_new W0 _
  have Fj:(fun X:World=>X.cell? ⟨w.1.size,0,none⟩=some (.bool m.x)/\X.cell? ⟨w.1.size,3,none⟩=some (.slice ad m.ai.length cd)) W1:=⟨ca,WH⟩
  refine bO 8 (fun X:World=>X.cell? ⟨w.1.size,0,none⟩=some (.bool m.x)/\X.cell? ⟨w.1.size,3,none⟩=some (.slice ad m.ai.length cd)) (by kernel_rfl) ?_;have KW:Hid (Below w.1.size w W1/\Below (w.1.size+1) W0 W1/\W1.1.size=w.1.size+2/\W1.1[w.1.size+1]?=some (.cells #[.bool false,.slice none 0 0,.slice none 0 0,.slice none 0 0] 62 (0,0))/\(∀X,Below W1.1.size W1 X->(fun X:World=>X.cell? ⟨w.1.size,0,none⟩=some (.bool m.x)/\X.cell? ⟨w.1.size,3,none⟩=some (.slice ad m.ai.length cd)) X)):=⟨H.out.2.2.1.trans (b1'.mono (by omega)),b1',s1,vv,fun X hX=>⟨(hX.cell (p:=⟨w.1.size,0,none⟩) (by show w.1.size<W1.1.size;omega)).trans ca,(hX.cell (p:=⟨w.1.size,3,none⟩) (by show w.1.size<W1.1.size;omega)).trans WH⟩⟩
  clear b1 s1 b1' ca WH vv;subst dS;rw[<-gZ];clear gZ;refine eP 0 ?_ rfl ?_ Fj ?_;rotate_left
  ·(intro w aH;go_simp;first|done|with_reducible rfl|exact aH.1|exact aH.2)
  simp only[Act.put];refine eP 1 ?_ rfl ?_ Fj ?_;rotate_left
  ·(intro w aH;go_simp;first|done|with_reducible rfl|exact aH.1|exact aH.2)
  simp only[Act.put];refine eP 3 ?_ rfl ?_ Fj ?_;rotate_left
  ·(intro w aH;go_simp;first|done|with_reducible rfl|exact aH.1|exact aH.2)
  simp only[Act.put];refine eP 4 ?_ rfl ?_ Fj ?_;rotate_left
  ·(intro w aH;go_simp;first|done|with_reducible rfl|exact aH.1|exact aH.2)
  simp only[Act.put];refine lC (rs:=[2,7]) (by kernel_rfl) (by simp) ?_;refine qW.cons rfl (fun K hK=>?_) (qW.cons rfl (fun K hK=>?_) qW.nil)
  ·have bE:Below W1.1.size W1 (W1.alloc (.cells #[] 2)):=aN.alloc aU _;have sE:(W1.alloc (.cells #[] 2)).1.size=W1.1.size+1:=by simp
   have hE:(W1.alloc (.cells #[] 2)).1[W1.1.size]?=some (.cells #[] 2 (0,0)):=heap_alloc_new W1 _;have Rl:=KW.out.2.2.2.2 _ bE;go_simp;refine hK.out _ _ (fun _=>Rl) ?_;clear hK K;refine lC (rs:=[5,7]) (by kernel_rfl) (by simp) ?_;refine qW.cons rfl (fun K hK=>?_) (qW.cons rfl (fun K hK=>?_) qW.nil)
   ·obtain⟨a',c',WA,hr,hd,hg,hl⟩:=uO (W1.alloc (.cells #[] 2)) (w.1.size+2) (some ⟨W1.1.size,0,none⟩) 0 (uB hE (by have:=KW.out.2.2.1;omega)) m.ai (by have:=H.out.1.n;omega) 54 ad cd ((H.out.2.1.later KW.out.1).later bE).n (by have:=KW.out.2.2.1;omega);have bA:Below W1.1.size W1 WA:=bE.grown hg bE.size (fun k h=>by cases h;exact Nat.le_refl _);have Fp:=KW.out.2.2.2.2 _ bA;have KA:Hid (Below W1.1.size W1 WA/\WA.ownsRow (w.1.size+2) 2 1 (.slice a' m.ai.length c') m.ai.length (m.ai.map (Value.int .i64))):=⟨bA,hd⟩
    clear hd hg hl bA bE sE hE;refine bJ _ rfl (.tmp 8) (.tmp 10) 54 rfl _ _ _ _ (by first|rfl|simp[Act.eval,Act.put]) (by first|rfl|simp[Act.eval,Act.put]) hr ?_;refine hK.out _ _ (fun _=>Fp) ?_;clear hK K hr Fj Rl;simp only[Act.put];refine eP 6 ?_ rfl ?_ Fp ?_;rotate_left
    ·(intro w aH;go_simp;first|done|with_reducible rfl|exact aH.1|exact aH.2)
    simp only[Act.put];refine ed 7 rfl (fun K hK=>?_);go_simp;have bB:Below WA.1.size WA (WA.alloc (.cells #[.bool false,.slice none 0 0,.slice none 0 0,.slice none 0 0] 62)):=aN.alloc aU _;have QF:=KW.out.2.2.2.2 _ (KA.out.1.trans (bB.mono KA.out.1.size));refine hK.out _ _ (fun _=>QF) ?_;clear hK K bB QF Fp;refine ed 8 rfl (fun K hK=>?_);go_simp;refine hK.out _ _ (fun h=>absurd rfl h) ?_;clear hK K;refine cZ (by kernel_rfl) ?_ _;go_wp2_with fail;go_meet;have q1:=KA.out.1.size;have q2:=KW.out.2.2.1;obtain⟨f1,f2⟩:=OC (s:=w.1.size) (alive:=m.x) (X:=WA) (by omega) ((KA.out.1.block _ (by omega)).trans KW.out.2.2.2.1) KA.out.2;exact⟨WA.1.size,a',c',rfl,f1,f2,KW.out.2.1.trans ((KA.out.1.mono (by omega)).alloc (by omega) _)⟩
   ·have bZ:Below (W1.1.size+1) (W1.alloc (.cells #[] 2)) ((W1.alloc (.cells #[] 2)).alloc (.cells #[.bool false,.slice none 0 0,.slice none 0 0,.slice none 0 0] 62)):=aN.alloc (by rw[sE];exact Nat.le_refl _) _;have bX:Below W1.1.size W1 ((W1.alloc (.cells #[] 2)).alloc (.cells #[.bool false,.slice none 0 0,.slice none 0 0,.slice none 0 0] 62)):=bE.trans (bZ.mono (by omega));have sX:((W1.alloc (.cells #[] 2)).alloc (.cells #[.bool false,.slice none 0 0,.slice none 0 0,.slice none 0 0] 62)).1.size=W1.1.size+2:=by simp
    have hq:((W1.alloc (.cells #[] 2)).alloc (.cells #[.bool false,.slice none 0 0,.slice none 0 0,.slice none 0 0] 62)).1[W1.1.size]?=some (.cells #[] 2 (0,0)):=(bZ.block _ (by omega)).trans hE;have hp:((W1.alloc (.cells #[] 2)).alloc (.cells #[.bool false,.slice none 0 0,.slice none 0 0,.slice none 0 0] 62)).1[W1.1.size+1]?=some (.cells #[.bool false,.slice none 0 0,.slice none 0 0,.slice none 0 0] 62 (0,0)):=by rw[<-sE];exact heap_alloc_new _ _
    have dZ:=KW.out.2.2.2.2 _ bX;obtain⟨a',c',WA,hr,hd,hg,hl⟩:=uO ((W1.alloc (.cells #[] 2)).alloc (.cells #[.bool false,.slice none 0 0,.slice none 0 0,.slice none 0 0] 62)) (w.1.size+2) (some ⟨W1.1.size,0,none⟩) 0 (uB hq (by have:=KW.out.2.2.1;omega)) m.ai (by have:=H.out.1.n;omega) 54 ad cd ((H.out.2.1.later KW.out.1).later bX).n (by have:=KW.out.2.2.1;omega);have bA:Below W1.1.size W1 WA:=bX.grown hg bX.size (fun k h=>by cases h;show W1.1.size<=W1.1.size;omega);have UY:WA.1[(W1.1.size+1)]?=some (.cells #[.bool false,.slice none 0 0,.slice none 0 0,.slice none 0 0] 62 (0,0)):=(hg.block (W1.1.size+1) (by omega) (fun e=>by have e':(W1.1.size+1)=W1.1.size:=Option.some.inj e;omega)).trans hp
    have eO:(Value.slice a' m.ai.length c').ownBlock≠some (W1.1.size+1):=fun e=>by
     rcases hl with e'|e'
     ·rw[e']at e;have Me:W1.1.size=(W1.1.size+1):=Option.some.inj e;omega
     ·rw[e']at e;have:=Option.some.inj e;omega
    have Er:(W1.1.size+1)<WA.1.size:=by have:=hg.size;omega
    obtain⟨z0,z1,z2,z3,zf⟩:=pJ UY;have gn:=zf 0;have gv:=zf 1;have gw:=zf 2;have gx:=zf 3;have Fp:=KW.out.2.2.2.2 _ bA;have KA:Hid (Below W1.1.size W1 WA/\WA.ownsRow (w.1.size+2) 2 1 (.slice a' m.ai.length c') m.ai.length (m.ai.map (Value.int .i64))/\WA.1[(W1.1.size+1)]?=some (.cells #[.bool false,.slice none 0 0,.slice none 0 0,.slice none 0 0] 62 (0,0))/\(Value.slice a' m.ai.length c').ownBlock≠some (W1.1.size+1)/\(W1.1.size+1)<WA.1.size/\W1.1.size<=(W1.1.size+1)):=⟨bA,hd,UY,eO,Er,by omega⟩
    clear hd hg hl bA UY eO Er zf bX bZ hq hp bE hE;go_simp;refine hK.out _ _ (fun _=>dZ) ?_;clear hK K Fj Rl;refine ed 5 rfl (fun K hK=>?_);refine bJ _ rfl (.tmp 8) (.tmp 10) 54 rfl _ _ _ _ (by first|rfl|simp[Act.eval,Act.put]) (by first|rfl|simp[Act.eval,Act.put]) hr ?_;refine hK.out _ _ (fun _=>Fp) ?_;clear hK K hr dZ sX sE;simp only[Act.put];refine eP 6 ?_ rfl ?_ Fp ?_;rotate_left
    ·(intro w aH;go_simp;first|done|with_reducible rfl|exact aH.1|exact aH.2)
    simp only[Act.put];refine ed 8 rfl (fun K hK=>?_);go_simp;refine hK.out _ _ (fun h=>absurd rfl h) ?_;clear hK K;refine cZ (by kernel_rfl) ?_ _;go_wp2_with fail;go_meet;have q2:=KW.out.2.2.1;obtain⟨k1,k2,k3,k4,k5,k6⟩:=KA.out;obtain⟨f1,f2⟩:=FU (s:=w.1.size) (p:=(W1.1.size+1)) (alive:=m.x) (X:=WA) (by omega) k5 ((k1.block _ (by omega)).trans KW.out.2.2.2.1) k3 k2 k4;exact⟨(W1.1.size+1),a',c',rfl,f1,f2,((((KW.out.2.1.trans (k1.mono (by omega))).setCell (p:=⟨_,_,none⟩) (by simp;omega) _).setCell (p:=⟨_,_,none⟩) (by simp;omega) _).setCell (p:=⟨_,_,none⟩) (by simp;omega) _).setCell (p:=⟨_,_,none⟩) (by simp;omega) _⟩
  ·have bE:Below W1.1.size W1 (W1.alloc (.cells #[.bool false,.slice none 0 0,.slice none 0 0,.slice none 0 0] 62)):=aN.alloc aU _;have sE:(W1.alloc (.cells #[.bool false,.slice none 0 0,.slice none 0 0,.slice none 0 0] 62)).1.size=W1.1.size+1:=by simp
   have hE:(W1.alloc (.cells #[.bool false,.slice none 0 0,.slice none 0 0,.slice none 0 0] 62)).1[W1.1.size]?=some (.cells #[.bool false,.slice none 0 0,.slice none 0 0,.slice none 0 0] 62 (0,0)):=heap_alloc_new W1 _;have bZ:Below (W1.1.size+1) (W1.alloc (.cells #[.bool false,.slice none 0 0,.slice none 0 0,.slice none 0 0] 62)) ((W1.alloc (.cells #[.bool false,.slice none 0 0,.slice none 0 0,.slice none 0 0] 62)).alloc (.cells #[] 2)):=aN.alloc (by rw[sE];exact Nat.le_refl _) _;have bX:Below W1.1.size W1 ((W1.alloc (.cells #[.bool false,.slice none 0 0,.slice none 0 0,.slice none 0 0] 62)).alloc (.cells #[] 2)):=bE.trans (bZ.mono (by omega));have sX:((W1.alloc (.cells #[.bool false,.slice none 0 0,.slice none 0 0,.slice none 0 0] 62)).alloc (.cells #[] 2)).1.size=W1.1.size+2:=by simp
   have hp:((W1.alloc (.cells #[.bool false,.slice none 0 0,.slice none 0 0,.slice none 0 0] 62)).alloc (.cells #[] 2)).1[W1.1.size]?=some (.cells #[.bool false,.slice none 0 0,.slice none 0 0,.slice none 0 0] 62 (0,0)):=(bZ.block _ (by omega)).trans hE;have hq:((W1.alloc (.cells #[.bool false,.slice none 0 0,.slice none 0 0,.slice none 0 0] 62)).alloc (.cells #[] 2)).1[W1.1.size+1]?=some (.cells #[] 2 (0,0)):=by rw[<-sE];exact heap_alloc_new _ _
   have Rl:=KW.out.2.2.2.2 _ bE;have dZ:=KW.out.2.2.2.2 _ bX;obtain⟨a',c',WA,hr,hd,hg,hl⟩:=uO ((W1.alloc (.cells #[.bool false,.slice none 0 0,.slice none 0 0,.slice none 0 0] 62)).alloc (.cells #[] 2)) (w.1.size+2) (some ⟨(W1.1.size+1),0,none⟩) 0 (uB hq (by have:=KW.out.2.2.1;omega)) m.ai (by have:=H.out.1.n;omega) 54 ad cd ((H.out.2.1.later KW.out.1).later bX).n (by have:=KW.out.2.2.1;omega);have bA:Below W1.1.size W1 WA:=bX.grown hg bX.size (fun k h=>by cases h;show W1.1.size<=(W1.1.size+1);omega);have UY:WA.1[W1.1.size]?=some (.cells #[.bool false,.slice none 0 0,.slice none 0 0,.slice none 0 0] 62 (0,0)):=(hg.block W1.1.size (by omega) (fun e=>by have e':W1.1.size=(W1.1.size+1):=Option.some.inj e;omega)).trans hp
   have eO:(Value.slice a' m.ai.length c').ownBlock≠some W1.1.size:=fun e=>by
    rcases hl with e'|e'
    ·rw[e']at e;have Me:(W1.1.size+1)=W1.1.size:=Option.some.inj e;omega
    ·rw[e']at e;have:=Option.some.inj e;omega
   have Er:W1.1.size<WA.1.size:=by have:=hg.size;omega
   obtain⟨z0,z1,z2,z3,zf⟩:=pJ UY;have gn:=zf 0;have gv:=zf 1;have gw:=zf 2;have gx:=zf 3;have Fp:=KW.out.2.2.2.2 _ bA;have KA:Hid (Below W1.1.size W1 WA/\WA.ownsRow (w.1.size+2) 2 1 (.slice a' m.ai.length c') m.ai.length (m.ai.map (Value.int .i64))/\WA.1[W1.1.size]?=some (.cells #[.bool false,.slice none 0 0,.slice none 0 0,.slice none 0 0] 62 (0,0))/\(Value.slice a' m.ai.length c').ownBlock≠some W1.1.size/\W1.1.size<WA.1.size/\W1.1.size<=W1.1.size):=⟨bA,hd,UY,eO,Er,by omega⟩
   clear hd hg hl bA UY eO Er zf bX bZ hq hp bE hE;go_simp;refine hK.out _ _ (fun _=>Rl) ?_;clear hK K Fj;refine ed 2 rfl (fun K hK=>?_);go_simp;refine hK.out _ _ (fun _=>dZ) ?_;clear hK K Rl;refine ed 5 rfl (fun K hK=>?_);refine bJ _ rfl (.tmp 8) (.tmp 10) 54 rfl _ _ _ _ (by first|rfl|simp[Act.eval,Act.put]) (by first|rfl|simp[Act.eval,Act.put]) hr ?_;refine hK.out _ _ (fun _=>Fp) ?_;clear hK K hr dZ sX sE;simp only[Act.put];refine eP 6 ?_ rfl ?_ Fp ?_;rotate_left
   ·(intro w aH;go_simp;first|done|with_reducible rfl|exact aH.1|exact aH.2)
   simp only[Act.put];refine ed 8 rfl (fun K hK=>?_);go_simp;refine hK.out _ _ (fun h=>absurd rfl h) ?_;clear hK K;refine cZ (by kernel_rfl) ?_ _;go_wp2_with fail;go_meet;have q2:=KW.out.2.2.1;obtain⟨k1,k2,k3,k4,k5,k6⟩:=KA.out;obtain⟨f1,f2⟩:=FU (s:=w.1.size) (p:=W1.1.size) (alive:=m.x) (X:=WA) (by omega) k5 ((k1.block _ (by omega)).trans KW.out.2.2.2.1) k3 k2 k4;exact⟨W1.1.size,a',c',rfl,f1,f2,((((KW.out.2.1.trans (k1.mono (by omega))).setCell (p:=⟨_,_,none⟩) (by simp;omega) _).setCell (p:=⟨_,_,none⟩) (by simp;omega) _).setCell (p:=⟨_,_,none⟩) (by simp;omega) _).setCell (p:=⟨_,_,none⟩) (by simp;omega) _⟩
 case rest=>
  obtain⟨p,a',c',rfl,jC,mQ,dK⟩:=hcut;have KC:Hid (C3 w.1.size p m.x wc (.slice none 0 0) (.slice none 0 0) (.slice a' m.ai.length c')/\MR (w.1.size+2) p wc (.slice none 0 0) (.slice none 0 0) (.slice a' m.ai.length c') [] [] m.ai gz gz/\Below (w.1.size+1) W0 wc):=⟨jC,mQ,dK⟩
  have sd:m.af.length<=6:=H.out.1.k;clear jC mQ dK;go_wp2;go_loopw[4] (fun v4 wr=>∃(j:Nat) (ak:OA) (ck:Nat) (gk:Nat->Nat),j<=m.af.length/\v4=vI j/\C3 w.1.size p m.x wr (.slice ak j ck) (.slice none 0 0) (.slice a' m.ai.length c')/\MR (w.1.size+2) p wr (.slice ak j ck) (.slice none 0 0) (.slice a' m.ai.length c') (m.af.take j) [] m.ai gk gz/\Below (w.1.size+1) W0 wr) (fun v4 _=>m.af.length-(intOf v4).toNat)
  case atStart=>exact⟨0,none,0,gz,Nat.zero_le _,rfl,KC.out.1,by rw[List.take_zero];exact KC.out.2.1,KC.out.2.2⟩
  case round=>
   obtain⟨j,ak,ck,gk,hj,rfl,jC,mQ,dK⟩:=hrel;obtain⟨_,c1,_,_⟩:=HC.out wr dK;by_cases aK:j<m.af.length
   ·have qO:Below w.1.size w wr:=H.out.2.2.1.trans (dK.mono (by omega));obtain⟨_,gu⟩:=H.out.2.1.k;have um:m.af[j]?=some (dD m.af j):=eY aK;have h6:(dD m.af j).cells.length=6:=H.out.1.ks _ (List.mem_of_getElem? um);simp only[]at gu;rcases gu with gu|⟨b,off,rfl,hb,h1⟩
    ·omega
    have hr:=(h1 j _ um).below qO hb;have k0:=hr.c0;obtain⟨a1,p1,k1,gM,kL⟩:=hr.c1;have bX:Below wr.1.size wr wr.drew:=aN.drew;have hc:=Jd wr.drew a1 p1 (dD m.af j).cells (by omega) (by omega) ((gM.mono qO.size).later bX)
    have rC:∀Y:World,(∀x,x<w.1.size+1->Y.1[x]?=wr.1[x]?)->Y.1[p]?=wr.1[p]?->(fun X:World=>X.cell? ⟨p,1,none⟩=some (.slice ak j ck)/\X.cell? ⟨w.1.size,1,none⟩=some (.slice (some ⟨b,off,none⟩) m.af.length cc)/\X.cell? ⟨b,off+j*2,none⟩=some (vI (dD m.af j).a)/\X.cell? ⟨b,off+j*2+1,none⟩=some (.slice a1 (dD m.af j).cells.length p1)) Y:=fun Y h1 h2=>
     ⟨(World.cell?_of_block (a:=⟨p,1,none⟩) h2).trans jC.o1,(World.cell?_of_block (a:=⟨w.1.size,1,none⟩) (h1 w.1.size (by omega))).trans c1,(World.cell?_of_block (a:=⟨b,off+j*2,none⟩) (h1 b (by omega))).trans k0,(World.cell?_of_block (a:=⟨b,off+j*2+1,none⟩) (h1 b (by omega))).trans k1⟩
    have dZ:=rC wr.drew (fun _ _=>rfl) rfl;have KH:Hid (C3 w.1.size p m.x wr (.slice ak j ck) (.slice none 0 0) (.slice a' m.ai.length c')/\MR (w.1.size+2) p wr (.slice ak j ck) (.slice none 0 0) (.slice a' m.ai.length c') (m.af.take j) [] m.ai gk gz/\Below (w.1.size+1) W0 wr/\Below wr.1.size wr wr.drew/\m.af[j]?=some (dD m.af j)/\(∀Y:World,(∀x,x<w.1.size+1->Y.1[x]?=wr.1[x]?)->Y.1[p]?=wr.1[p]?->(fun X:World=>X.cell? ⟨p,1,none⟩=some (.slice ak j ck)/\X.cell? ⟨w.1.size,1,none⟩=some (.slice (some ⟨b,off,none⟩) m.af.length cc)/\X.cell? ⟨b,off+j*2,none⟩=some (vI (dD m.af j).a)/\X.cell? ⟨b,off+j*2+1,none⟩=some (.slice a1 (dD m.af j).cells.length p1)) Y)):=⟨jC,mQ,dK,bX,um,rC⟩
    have wI:=jC.pX;have UN:(j:Int)<(m.af.length:Int):=by omega
    clear jC mQ dK qO h1 hr gM kL bX um h6 rC;go_wp2_with fail;refine bO 19 (fun X:World=>X.cell? ⟨p,1,none⟩=some (.slice ak j ck)/\X.cell? ⟨w.1.size,1,none⟩=some (.slice (some ⟨b,off,none⟩) m.af.length cc)/\X.cell? ⟨b,off+j*2,none⟩=some (vI (dD m.af j).a)/\X.cell? ⟨b,off+j*2+1,none⟩=some (.slice a1 (dD m.af j).cells.length p1)) (by kernel_rfl) ?_;generalize Uz:wr.drew=X at *;clear Uz k0 k1 c1;refine eP 0 ?_ rfl ?_ dZ ?_;rotate_left
    ·(intro w aH;obtain⟨iH,iI,iT,iU⟩:=aH;go_simp;first|done|with_reducible rfl|exact iH|exact iI|exact iT|exact iU|(rw[if_pos (by omega)]))
    simp only[Act.put];refine eP 1 ?_ rfl ?_ dZ ?_;rotate_left
    ·(intro w aH;obtain⟨iH,iI,iT,iU⟩:=aH;go_simp;first|done|with_reducible rfl|exact iH|exact iI|exact iT|exact iU|(rw[if_pos (by omega)]))
    simp only[Act.put];refine eP 2 ?_ rfl ?_ dZ ?_;rotate_left
    ·(intro w aH;obtain⟨iH,iI,iT,iU⟩:=aH;go_simp;first|done|with_reducible rfl|exact iH|exact iI|exact iT|exact iU|(rw[if_pos (by omega)]))
    simp only[Act.put];refine eP 3 ?_ rfl ?_ dZ ?_;rotate_left
    ·(intro w aH;obtain⟨iH,iI,iT,iU⟩:=aH;go_simp;first|done|with_reducible rfl|exact iH|exact iI|exact iT|exact iU|(rw[if_pos (by omega)]))
    simp only[Act.put];refine eP 4 ?_ rfl ?_ dZ ?_;rotate_left
    ·(intro w aH;obtain⟨iH,iI,iT,iU⟩:=aH;go_simp;first|done|with_reducible rfl|exact iH|exact iI|exact iT|exact iU|(rw[if_pos (by omega)]))
    simp only[Act.put];refine eP 5 ?_ rfl ?_ dZ ?_;rotate_left
    ·(intro w aH;obtain⟨iH,iI,iT,iU⟩:=aH;go_simp;first|done|with_reducible rfl|exact iH|exact iI|exact iT|exact iU|(rw[if_pos (by omega)]))
    simp only[Act.put];refine eP 6 ?_ rfl ?_ dZ ?_;rotate_left
    ·(intro w aH;obtain⟨iH,iI,iT,iU⟩:=aH;go_simp;first|done|with_reducible rfl|exact iH|exact iI|exact iT|exact iU|(rw[if_pos (by omega)]))
    simp only[Act.put];refine eP 7 ?_ rfl ?_ dZ ?_;rotate_left
    ·(intro w aH;obtain⟨iH,iI,iT,iU⟩:=aH;go_simp;first|done|with_reducible rfl|exact iH|exact iI|exact iT|exact iU|(rw[if_pos (by omega)]))
    simp only[Act.put];refine eP 8 ?_ rfl ?_ dZ ?_;rotate_left
    ·(intro w aH;obtain⟨iH,iI,iT,iU⟩:=aH;go_simp;first|done|with_reducible rfl|exact iH|exact iI|exact iT|exact iU|(rw[if_pos (by omega)]))
    simp only[Act.put];refine eP 9 ?_ rfl ?_ dZ ?_;rotate_left
    ·(intro w aH;obtain⟨iH,iI,iT,iU⟩:=aH;go_simp;first|done|with_reducible rfl|exact iH|exact iI|exact iT|exact iU|(rw[if_pos (by omega)]))
    simp only[Act.put];refine eP 10 ?_ rfl ?_ dZ ?_;rotate_left
    ·(intro w aH;obtain⟨iH,iI,iT,iU⟩:=aH;go_simp;first|done|with_reducible rfl|exact iH|exact iI|exact iT|exact iU|(rw[if_pos (by omega)]))
    simp only[Act.put];refine eP 11 ?_ rfl ?_ dZ ?_;rotate_left
    ·(intro w aH;obtain⟨iH,iI,iT,iU⟩:=aH;go_simp;first|done|with_reducible rfl|exact iH|exact iI|exact iT|exact iU|(rw[if_pos (by omega)]))
    simp only[Act.put];refine eP 12 ?_ rfl ?_ dZ ?_;rotate_left
    ·(intro w aH;obtain⟨iH,iI,iT,iU⟩:=aH;go_simp;first|done|with_reducible rfl|exact iH|exact iI|exact iT|exact iU|(rw[if_pos (by omega)]))
    simp only[Act.put];refine eP 13 ?_ rfl ?_ dZ ?_;rotate_left
    ·(intro w aH;obtain⟨iH,iI,iT,iU⟩:=aH;go_simp;first|done|with_reducible rfl|exact iH|exact iI|exact iT|exact iU|(rw[if_pos (by omega)]))
    simp only[Act.put];refine ed 14 rfl (fun K hK=>?_);go_simp;refine hc.mono ?_;clear hc;rintro e X2 ⟨q,cp,rfl,Ja,O4,O5,O6,NA,b2⟩;obtain⟨jC,mQ,dK,bX,um,rC⟩:=KH.out;have Er:=jC.pl;have nG:Below wr.1.size wr X2:=bX.trans (b2.mono bX.size);have gF:=rC X2 (fun x hx=>nG.block x (by omega)) (nG.block p wI);have b3:Below X2.1.size X2 (X2.alloc (.cells #[vI (dD m.af j).a,.slice (some ⟨q,0,none⟩) (dD m.af j).cells.length cp] 58)):=aN.alloc aU _;have s3:(X2.alloc (.cells #[vI (dD m.af j).a,.slice (some ⟨q,0,none⟩) (dD m.af j).cells.length cp] 58)).1.size=X2.1.size+1:=by simp
    have pQ:Below wr.1.size wr (X2.alloc (.cells #[vI (dD m.af j).a,.slice (some ⟨q,0,none⟩) (dD m.af j).cells.length cp] 58)):=nG.trans (b3.mono nG.size);have jX:=rC (X2.alloc (.cells #[vI (dD m.af j).a,.slice (some ⟨q,0,none⟩) (dD m.af j).cells.length cp] 58)) (fun x hx=>pQ.block x (by omega)) (pQ.block p wI);obtain⟨v',Y,hr,mR,fI,Ep⟩:=mQ.TB pQ (by omega) wI (dD m.af j) q cp X2.1.size (by simp;omega) 59 (by go_simp) (by go_simp) (mO.aj _ _ _ _ (b3.block q O4) ⟨O6,NA⟩) O5 (by have:=bX.size;omega) (by omega);have Aa:m.af.take j++[(dD m.af j)]=m.af.take (j+1):=by rw[List.take_add_one,um];rfl
    have iq:∀x,x=p\/x<w.1.size+2->Y.1[x]?=wr.1[x]?:=fun x hx=>(fI.block x (by have:=pQ.size;omega) (fun e=>by have:=Ep x e.symm;omega)).trans (pQ.block x (by omega))
    have oF:=rC Y (fun x hx=>iq x (by omega)) (iq p (.inl rfl));have lT:(m.af.take (j+1)).length=j+1:=by rw[List.length_take];omega
    rw[Aa,List.length_take,Nat.min_eq_left (by omega)]at mR;obtain⟨yb,yc,rfl,-⟩:=iJ.own (hd:=rF) (sz:=2) (fun _=>rfl) mR.gK (fun e=>by rw[e]at lT;simp at lT);rw[lT]at hr mR;have pY:C3 w.1.size p m.x Y (.slice ak j ck) (.slice none 0 0) (.slice a' m.ai.length c'):=jC.aL (Nat.le_trans pQ.size fI.size) (iq (w.1.size+1) (.inr (by omega))) (iq p (.inl rfl));have o2:=pY.o1;have Zo:=pY.fo 1
    have KE:Hid (C3 w.1.size p m.x (Y.setCell ⟨p,1,none⟩ (.slice (some ⟨yb,0,none⟩) (j+1) yc)) (.slice (some ⟨yb,0,none⟩) (j+1) yc) (.slice none 0 0) (.slice a' m.ai.length c')/\MR (w.1.size+2) p (Y.setCell ⟨p,1,none⟩ (.slice (some ⟨yb,0,none⟩) (j+1) yc)) (.slice (some ⟨yb,0,none⟩) (j+1) yc) (.slice none 0 0) (.slice a' m.ai.length c') (m.af.take (j+1)) [] m.ai (fun i=>if i=j then q else gk i) gz/\Below (w.1.size+1) W0 (Y.setCell ⟨p,1,none⟩ (.slice (some ⟨yb,0,none⟩) (j+1) yc))):=
     ⟨pY.VU _,mR.set,((dK.trans (pQ.mono (by omega))).grown fI (by have:=pQ.size;omega) (fun x e=>by have:=Ep x e;omega)).setCell (p:=⟨p,1,none⟩) (by show w.1.size+1<=p;omega) _⟩
    refine hK.out _ _ (fun _=>gF) ?_;clear hK K jC mQ dK bX um nG b3 s3 pQ mR fI Ep Aa iq lT pY dZ b2 Ja O4 O5 O6 NA KH rC Er;refine eP 15 ?_ rfl ?_ gF ?_;rotate_left
    ·(intro w aH;obtain⟨iH,iI,iT,iU⟩:=aH;go_simp;first|done|with_reducible rfl|exact iH|exact iI|exact iT|exact iU|(rw[if_pos (by omega)]))
    simp only[Act.put];refine ed 16 rfl (fun K hK=>?_);go_simp;refine hK.out _ _ (fun _=>jX) ?_;clear hK K gF;refine ed 17 rfl (fun K hK=>?_);refine bJ _ rfl (.tmp 21) (.tmp 36) 59 rfl _ _ _ _ (by first|rfl|simp[Act.eval,Act.put]) (by first|rfl|simp[Act.eval,Act.put]) hr ?_;refine hK.out _ _ (fun _=>oF) ?_;clear hK K hr jX;simp only[Act.put];refine ed 18 rfl (fun K hK=>?_);go_simp;refine hK.out _ _ (fun _=>oF) ?_;clear hK K;refine ed 19 rfl (fun K hK=>?_);go_simp;refine hK.out _ _ (fun h=>absurd rfl h) ?_;clear hK K;refine cZ (by kernel_rfl) ?_ _;go_wp2;exact⟨⟨j+1,some ⟨yb,0,none⟩,yc,_,by omega,by simp,KE.out.1,KE.out.2.1,KE.out.2.2⟩,by simp[intOf];omega⟩
   ·obtain rfl:j=m.af.length:=by omega
    have hd:decide ((m.af.length:Int)<(m.af.length:Int))=false:=by simp
    rw[List.take_length]at mQ;have QW:Hid (C3 w.1.size p m.x wr (.slice ak m.af.length ck) (.slice none 0 0) (.slice a' m.ai.length c')/\MR (w.1.size+2) p wr (.slice ak m.af.length ck) (.slice none 0 0) (.slice a' m.ai.length c') m.af [] m.ai gk gz/\Below (w.1.size+1) W0 wr):=⟨jC,mQ,dK⟩
    have Ye:m.g.length<=200:=H.out.1.r;clear jC mQ dK KC hj aK;generalize wr=wk at *;go_wp2;clear c1;go_loopw[5] (fun v5 wr=>∃(j:Nat) (ar:OA) (cr:Nat) (gr:Nat->Nat),j<=m.g.length/\v5=vI j/\C3 w.1.size p m.x wr (.slice ak m.af.length ck) (.slice ar j cr) (.slice a' m.ai.length c')/\MR (w.1.size+2) p wr (.slice ak m.af.length ck) (.slice ar j cr) (.slice a' m.ai.length c') m.af (m.g.take j) m.ai gk gr/\Below (w.1.size+1) W0 wr) (fun v5 _=>m.g.length-(intOf v5).toNat)
    case atStart=>exact⟨0,none,0,gz,Nat.zero_le _,rfl,QW.out.1,by rw[List.take_zero];exact QW.out.2.1,QW.out.2.2⟩
    case round=>
     obtain⟨j,ar,cr,gr,hj,rfl,jC,mQ,dK⟩:=hrel;obtain⟨_,_,c2,_⟩:=HC.out wr dK;by_cases aK:j<m.g.length
     ·have qO:Below w.1.size w wr:=H.out.2.2.1.trans (dK.mono (by omega));obtain⟨_,gu⟩:=H.out.2.1.r;have um:m.g[j]?=some (atR m.g j):=jy aK;have h6:=H.out.1.rs _ (List.mem_of_getElem? um);simp only[]at gu;rcases gu with gu|⟨b,off,rfl,hb,h1⟩
      ·omega
      have hr:=(h1 j _ um).below qO hb;have k0:=hr.c0;have k1:=hr.c1;have k2:=hr.c2;obtain⟨a1,p1,k3,gM,kL⟩:=hr.c3;have bX:Below wr.1.size wr wr.drew:=aN.drew;have hc:=Ey wr.drew (atR m.g j) a1 p1 h6.1 (by omega) (((gM.mono qO.size).below bX).mono bX.size);simp only[R4.val]at hc
      have rC:∀Y:World,(∀x,x<w.1.size+1->Y.1[x]?=wr.1[x]?)->Y.1[p]?=wr.1[p]?->(fun X:World=>X.cell? ⟨p,2,none⟩=some (.slice ar j cr)/\X.cell? ⟨w.1.size,2,none⟩=some (.slice (some ⟨b,off,none⟩) m.g.length cl)/\X.cell? ⟨b,off+j*4,none⟩=some (vI (atR m.g j).kind)/\X.cell? ⟨b,off+j*4+1,none⟩=some (vI (atR m.g j).tx)/\X.cell? ⟨b,off+j*4+2,none⟩=some (vI (atR m.g j).a)/\X.cell? ⟨b,off+j*4+3,none⟩=some (.slice a1 (atR m.g j).ag.length p1)) Y:=fun Y h1 h2=>
       ⟨(World.cell?_of_block (a:=⟨p,2,none⟩) h2).trans jC.o2,(World.cell?_of_block (a:=⟨w.1.size,2,none⟩) (h1 w.1.size (by omega))).trans c2,(World.cell?_of_block (a:=⟨b,off+j*4,none⟩) (h1 b (by omega))).trans k0,(World.cell?_of_block (a:=⟨b,off+j*4+1,none⟩) (h1 b (by omega))).trans k1,(World.cell?_of_block (a:=⟨b,off+j*4+2,none⟩) (h1 b (by omega))).trans k2,(World.cell?_of_block (a:=⟨b,off+j*4+3,none⟩) (h1 b (by omega))).trans k3⟩
      have dZ:=rC wr.drew (fun _ _=>rfl) rfl;have KH:Hid (C3 w.1.size p m.x wr (.slice ak m.af.length ck) (.slice ar j cr) (.slice a' m.ai.length c')/\MR (w.1.size+2) p wr (.slice ak m.af.length ck) (.slice ar j cr) (.slice a' m.ai.length c') m.af (m.g.take j) m.ai gk gr/\Below (w.1.size+1) W0 wr/\Below wr.1.size wr wr.drew/\m.g[j]?=some (atR m.g j)/\(∀Y:World,(∀x,x<w.1.size+1->Y.1[x]?=wr.1[x]?)->Y.1[p]?=wr.1[p]?->(fun X:World=>X.cell? ⟨p,2,none⟩=some (.slice ar j cr)/\X.cell? ⟨w.1.size,2,none⟩=some (.slice (some ⟨b,off,none⟩) m.g.length cl)/\X.cell? ⟨b,off+j*4,none⟩=some (vI (atR m.g j).kind)/\X.cell? ⟨b,off+j*4+1,none⟩=some (vI (atR m.g j).tx)/\X.cell? ⟨b,off+j*4+2,none⟩=some (vI (atR m.g j).a)/\X.cell? ⟨b,off+j*4+3,none⟩=some (.slice a1 (atR m.g j).ag.length p1)) Y)):=⟨jC,mQ,dK,bX,um,rC⟩
      have wI:=jC.pX;have UN:(j:Int)<(m.g.length:Int):=by omega
      clear jC mQ dK qO h1 hr gM kL bX um h6 rC;go_wp2_with fail;refine bO 11 (fun X:World=>X.cell? ⟨p,2,none⟩=some (.slice ar j cr)/\X.cell? ⟨w.1.size,2,none⟩=some (.slice (some ⟨b,off,none⟩) m.g.length cl)/\X.cell? ⟨b,off+j*4,none⟩=some (vI (atR m.g j).kind)/\X.cell? ⟨b,off+j*4+1,none⟩=some (vI (atR m.g j).tx)/\X.cell? ⟨b,off+j*4+2,none⟩=some (vI (atR m.g j).a)/\X.cell? ⟨b,off+j*4+3,none⟩=some (.slice a1 (atR m.g j).ag.length p1)) (by kernel_rfl) ?_;generalize Uz:wr.drew=X at *;clear Uz k0 k1 k2 k3 c2;refine eP 0 ?_ rfl ?_ dZ ?_;rotate_left
      ·(intro w aH;obtain⟨iH,iI,iT,iU,Nc,Nf⟩:=aH;go_simp;first|done|with_reducible rfl|exact iH|exact iI|exact iT|exact iU|exact Nc|exact Nf|(rw[if_pos (by omega)]))
      simp only[Act.put];refine eP 1 ?_ rfl ?_ dZ ?_;rotate_left
      ·(intro w aH;obtain⟨iH,iI,iT,iU,Nc,Nf⟩:=aH;go_simp;first|done|with_reducible rfl|exact iH|exact iI|exact iT|exact iU|exact Nc|exact Nf|(rw[if_pos (by omega)]))
      simp only[Act.put];refine eP 2 ?_ rfl ?_ dZ ?_;rotate_left
      ·(intro w aH;obtain⟨iH,iI,iT,iU,Nc,Nf⟩:=aH;go_simp;first|done|with_reducible rfl|exact iH|exact iI|exact iT|exact iU|exact Nc|exact Nf|(rw[if_pos (by omega)]))
      simp only[Act.put];refine eP 3 ?_ rfl ?_ dZ ?_;rotate_left
      ·(intro w aH;obtain⟨iH,iI,iT,iU,Nc,Nf⟩:=aH;go_simp;first|done|with_reducible rfl|exact iH|exact iI|exact iT|exact iU|exact Nc|exact Nf|(rw[if_pos (by omega)]))
      simp only[Act.put];refine eP 4 ?_ rfl ?_ dZ ?_;rotate_left
      ·(intro w aH;obtain⟨iH,iI,iT,iU,Nc,Nf⟩:=aH;go_simp;first|done|with_reducible rfl|exact iH|exact iI|exact iT|exact iU|exact Nc|exact Nf|(rw[if_pos (by omega)]))
      simp only[Act.put];refine eP 5 ?_ rfl ?_ dZ ?_;rotate_left
      ·(intro w aH;obtain⟨iH,iI,iT,iU,Nc,Nf⟩:=aH;go_simp;first|done|with_reducible rfl|exact iH|exact iI|exact iT|exact iU|exact Nc|exact Nf|(rw[if_pos (by omega)]))
      simp only[Act.put];refine eP 6 ?_ rfl ?_ dZ ?_;rotate_left
      ·(intro w aH;obtain⟨iH,iI,iT,iU,Nc,Nf⟩:=aH;go_simp;first|done|with_reducible rfl|exact iH|exact iI|exact iT|exact iU|exact Nc|exact Nf|(rw[if_pos (by omega)]))
      simp only[Act.put];refine ed 7 rfl (fun K hK=>?_);go_simp;refine hc.mono ?_;clear hc;rintro e X2 ⟨q,cp,rfl,Ja,O4,O5,O6,b2⟩;obtain⟨jC,mQ,dK,bX,um,rC⟩:=KH.out;have Er:=jC.pl;have nG:Below wr.1.size wr X2:=bX.trans (b2.mono bX.size);have gF:=rC X2 (fun x hx=>nG.block x (by omega)) (nG.block p wI);have b3:Below X2.1.size X2 (X2.alloc (.cells #[vI (atR m.g j).kind,vI (atR m.g j).tx,vI (atR m.g j).a,.slice (some ⟨q,0,none⟩) (atR m.g j).ag.length cp] 144)):=aN.alloc aU _;have s3:(X2.alloc (.cells #[vI (atR m.g j).kind,vI (atR m.g j).tx,vI (atR m.g j).a,.slice (some ⟨q,0,none⟩) (atR m.g j).ag.length cp] 144)).1.size=X2.1.size+1:=by simp
      have pQ:Below wr.1.size wr (X2.alloc (.cells #[vI (atR m.g j).kind,vI (atR m.g j).tx,vI (atR m.g j).a,.slice (some ⟨q,0,none⟩) (atR m.g j).ag.length cp] 144)):=nG.trans (b3.mono nG.size);have jX:=rC (X2.alloc (.cells #[vI (atR m.g j).kind,vI (atR m.g j).tx,vI (atR m.g j).a,.slice (some ⟨q,0,none⟩) (atR m.g j).ag.length cp] 144)) (fun x hx=>pQ.block x (by omega)) (pQ.block p wI);obtain⟨v',Y,hr,mR,fI,Ep⟩:=mQ.TC pQ (by omega) wI (atR m.g j) q cp X2.1.size (by simp;omega) 60 (by go_simp) (by go_simp) (by go_simp) (by go_simp) (AtR.aj _ _ _ _ (b3.block q O4) O6) O5 (by have:=bX.size;omega) (by omega);have Aa:m.g.take j++[(atR m.g j)]=m.g.take (j+1):=by rw[List.take_add_one,um];rfl
      have iq:∀x,x=p\/x<w.1.size+2->Y.1[x]?=wr.1[x]?:=fun x hx=>(fI.block x (by have:=pQ.size;omega) (fun e=>by have:=Ep x e.symm;omega)).trans (pQ.block x (by omega))
      have oF:=rC Y (fun x hx=>iq x (by omega)) (iq p (.inl rfl));have lT:(m.g.take (j+1)).length=j+1:=by rw[List.length_take];omega
      rw[Aa,List.length_take,Nat.min_eq_left (by omega)]at mR;obtain⟨yb,yc,rfl,-⟩:=iJ.own (hd:=qP) (sz:=4) (fun _=>rfl) mR.gR (fun e=>by rw[e]at lT;simp at lT);rw[lT]at hr mR;have pY:C3 w.1.size p m.x Y (.slice ak m.af.length ck) (.slice ar j cr) (.slice a' m.ai.length c'):=jC.aL (Nat.le_trans pQ.size fI.size) (iq (w.1.size+1) (.inr (by omega))) (iq p (.inl rfl));have o2:=pY.o2;have Zo:=pY.fo 2
      have KE:Hid (C3 w.1.size p m.x (Y.setCell ⟨p,2,none⟩ (.slice (some ⟨yb,0,none⟩) (j+1) yc)) (.slice ak m.af.length ck) (.slice (some ⟨yb,0,none⟩) (j+1) yc) (.slice a' m.ai.length c')/\MR (w.1.size+2) p (Y.setCell ⟨p,2,none⟩ (.slice (some ⟨yb,0,none⟩) (j+1) yc)) (.slice ak m.af.length ck) (.slice (some ⟨yb,0,none⟩) (j+1) yc) (.slice a' m.ai.length c') m.af (m.g.take (j+1)) m.ai gk (fun i=>if i=j then q else gr i)/\Below (w.1.size+1) W0 (Y.setCell ⟨p,2,none⟩ (.slice (some ⟨yb,0,none⟩) (j+1) yc))):=
       ⟨pY.Qh _,mR.set,((dK.trans (pQ.mono (by omega))).grown fI (by have:=pQ.size;omega) (fun x e=>by have:=Ep x e;omega)).setCell (p:=⟨p,2,none⟩) (by show w.1.size+1<=p;omega) _⟩
      refine hK.out _ _ (fun _=>gF) ?_;clear hK K jC mQ dK bX um nG b3 s3 pQ mR fI Ep Aa iq lT pY dZ b2 Ja O4 O5 O6 KH rC Er;refine ed 8 rfl (fun K hK=>?_);go_simp;refine hK.out _ _ (fun _=>jX) ?_;clear hK K gF;refine ed 9 rfl (fun K hK=>?_);refine bJ _ rfl (.tmp 47) (.tmp 54) 60 rfl _ _ _ _ (by first|rfl|simp[Act.eval,Act.put]) (by first|rfl|simp[Act.eval,Act.put]) hr ?_;refine hK.out _ _ (fun _=>oF) ?_;clear hK K hr jX;simp only[Act.put];refine ed 10 rfl (fun K hK=>?_);go_simp;refine hK.out _ _ (fun _=>oF) ?_;clear hK K;refine ed 11 rfl (fun K hK=>?_);go_simp;refine hK.out _ _ (fun h=>absurd rfl h) ?_;clear hK K;refine cZ (by kernel_rfl) ?_ _;go_wp2;exact⟨⟨j+1,some ⟨yb,0,none⟩,yc,_,by omega,by simp,KE.out.1,KE.out.2.1,KE.out.2.2⟩,by simp[intOf];omega⟩
     ·obtain rfl:j=m.g.length:=by omega
      have rL:decide ((m.g.length:Int)<(m.g.length:Int))=false:=by simp
      rw[List.take_length]at mQ;have KF:Hid (MR (w.1.size+2) p wr (.slice ak m.af.length ck) (.slice ar m.g.length cr) (.slice a' m.ai.length c') m.af m.g m.ai gk gr/\Below (w.1.size+1) W0 wr):=⟨mQ,dK⟩
      obtain⟨r0,r1,r2,r3,fr,o0,o1,o2,o3,fo,pl,pX⟩:=jC;have f0:=fr 0;have f1:=fr 1;have f2:=fr 2;have f3:=fr 3;clear mQ dK QW hj aK fr fo;go_wp2;refine bodyPost_ret (v:=.agg #[.bool m.x,.slice ak m.af.length ck,.slice ar m.g.length cr,.slice a' m.ai.length c']) (by simp[results,results48,go_sem,r0,r1,r2,r3]) rfl ⟨⟨ak,ck,ar,cr,a',c'⟩,p,gk,gr,rfl,?_,?_⟩
      ·refine KF.out.1.aL (by simp[World.setCell]) (fun x _ hx _=>?_);exact(Below.heap_setCell _ _ _ _ (by show x≠w.1.size+1;omega)).trans ((Below.heap_setCell _ _ _ _ (by show x≠w.1.size+1;omega)).trans ((Below.heap_setCell _ _ _ _ (by show x≠w.1.size+1;omega)).trans (Below.heap_setCell _ _ _ _ (by show x≠w.1.size+1;omega))))
      ·exact((((H.out.2.2.1.trans (KF.out.2.mono (by omega))).setCell (p:=⟨_,_,none⟩) (by simp) _).setCell (p:=⟨_,_,none⟩) (by simp) _).setCell (p:=⟨_,_,none⟩) (by simp) _).setCell (p:=⟨_,_,none⟩) (by simp) _
end
section
open Go.Proofs.Tryz
variable {A cs:List Value}{X Y w:World}{b o:Nat}
def N8(ts:List (tx.TV×tx.T7)):Prop:=∀p∈ts,p.2.b.length<=p.1.cr/\p.2.ag.length<=p.1.ch
def TS(w:World)(k:C6)(e:Ending)(w':World):Prop:=∃(a1:OA) (c1:Nat) (a2:OA) (c2:Nat) (a3:OA) (c3:Nat) (ps:List ((Nat×Nat)×List Int)) (gp:Nat->Nat->Prop) (ms:List (MV×M4)) (gm:Nat->Nat->Prop) (ts:List (tx.TV×tx.T7)) (gt:Nat->Nat->Prop),e=.returned (.agg #[vI k.v,vI k.q,.slice a1 k.f.length c1,.slice a2 k.aa.length c2,.slice a3 k.c.length c3,.bool k.w])/\uL (w.1.size+3) (w.1.size+2) w' (.slice a1 k.f.length c1) (.slice a2 k.aa.length c2) (.slice a3 k.c.length c3) ps gp ms gm ts gt/\ps.map (·.2)=k.f/\ms.map (·.2)=k.aa/\ts.map (·.2)=k.c/\Below w.1.size w w'/\N8 ts
def Sp(w:World)(A:List Value)(b o:Nat)(cs:List Value)(X:World):Prop:=Bx X w.1.size A/\At X b o cs/\b<w.1.size
theorem Sp.of(h:Sp w A b o cs X)(hs:X.1.size<=Y.1.size)(hk:∀q,q<w.1.size+3->Y.1[q]?=X.1[q]?):Sp w A b o cs Y:=⟨h.1.aj (hk _ (by omega)) hs,h.2.1.aj (hk b (by have:=h.2.2;omega)),h.2.2⟩
theorem Sp.later(h:Sp w A b o cs X)(hb:Below X.1.size X Y):Sp w A b o cs Y:=⟨h.1.later hb,h.2.1.aj (hb.block b (by have:=h.2.2;have:=h.1.2.2;omega)),h.2.2⟩
theorem yn(w:World)(a1:OA)(c1:Nat)(a2:OA)(c2:Nat)(a3:OA)(c3:Nat)(k:C6)(hk:aF k=true)(h:cO.Rd w a1 c1 a2 c2 a3 c3 k):
  Calls prog 18 #[.agg #[vI k.v,vI k.q,.slice a1 k.f.length c1,.slice a2 k.aa.length c2,.slice a3 k.c.length c3,.bool k.w]] w (TS w k):=by
 have H:Hid (QU k/\cO.Rd w a1 c1 a2 c2 a3 c3 k):=⟨QU.of hk,h⟩
 clear hk h;obtain⟨W0,dS⟩:∃X,X=((w.alloc (.cells #[vI k.v,vI k.q,.slice a1 k.f.length c1,.slice a2 k.aa.length c2,.slice a3 k.c.length c3,.bool k.w] 32)).alloc (.cells #[vI 0,vI 0,.slice none 0 0,.slice none 0 0,.slice none 0 0,.bool false] 32)).alloc (.cells #[vI k.v,vI k.q,.slice none 0 0,.slice none 0 0,.slice none 0 0,.bool k.w] 32):=⟨_,rfl⟩
 have S0:Hid (CZ w (dR a1 c1 a2 c2 a3 c3 k) nJ k W0 (.slice none 0 0) (.slice none 0 0) (.slice none 0 0) [] jJ [] jJ [] jJ):=by
  obtain⟨U1,Cc,b1,x1,z1⟩:=jU w (dR a1 c1 a2 c2 a3 c3 k) 32;obtain⟨U2,OI,b2,x2,z2⟩:=jU U1 nJ 32;have x3:Bx W0 U2.1.size [vI k.v,vI k.q,.slice none 0 0,.slice none 0 0,.slice none 0 0,.bool k.w]:=by rw[dS,OI,Cc];exact Bx.made _ [vI k.v,vI k.q,.slice none 0 0,.slice none 0 0,.slice none 0 0,.bool k.w] _
  have b3:Below U2.1.size U2 W0:=by rw[dS,OI,Cc];exact aN.alloc aU _
  rw[show U2.1.size=w.1.size+2 by omega]at x3;rw[show U1.1.size=w.1.size+1 by omega]at x2;exact⟨(x1.later b2).later b3,x2.later b3,x3,uL.nil _ _ _,au (au b1 b2) b3⟩
 have p2:=S0.out.arg.1 2 _ rfl;rw[dS]at p2;go_enter func18,ntmps18;go_wp2;rw[<-dS];rw[<-dS]at p2;clear dS p2;go_loopw[4] (fun v wr=>∃(j:Nat) (bP:OA) (dP:Nat) (ps:List ((Nat×Nat)×List Int)) (gp:Nat->Nat->Prop),j<=k.f.length/\v=vI j/\ps.map (·.2)=k.f.take j/\CZ w (dR a1 c1 a2 c2 a3 c3 k) nJ k wr (.slice bP j dP) (.slice none 0 0) (.slice none 0 0) ps gp [] jJ [] jJ) (fun v _=>k.f.length-(intOf v).toNat)
 case atStart=>exact⟨0,none,0,[],jJ,Nat.zero_le _,rfl,by simp,S0.out⟩
 case round=>
  obtain⟨j,bP,dP,ps,gp,hj,rfl,oO,eZ⟩:=hrel;have mh:k.f.length<=1000:=by have:=H.out.1.p;omega
  have p2:=eZ.arg.1 2 _ rfl;have p3:=eZ.arg.1 3 _ rfl;have p4:=eZ.arg.1 4 _ rfl;by_cases aK:j<k.f.length
  ·skip
   have bg:=gB aK;have Gc:ps.length=j:=by have:=congrArg List.length oO;simpa[Nat.min_eq_left hj]using this
   have fG:=H.out.2.later eZ.yu;obtain⟨_,gM⟩:=fG.p;rcases gM with h0|⟨b,off,rfl,hb,gM⟩
   ·omega
   obtain⟨z0,z1,e0,⟨_,l8⟩,kL⟩:=gM j _ bg;obtain⟨lL,Io⟩:=H.out.1.ps _ (List.mem_of_getElem? bg);rcases l8 with h0|⟨zb,zo,rfl,WV,YB⟩
   ·omega
   have QE:=e0;clear gM fG
   have lS:At wr b (off+j) [.slice (some ⟨zb,zo,none⟩) (dY k.f j).length z1]:=fun i u hu=>by
    rcases i with _|i
    ·simp at hu;subst hu;exact e0
    ·simp at hu
   have qO:b<w.1.size:=by
    rcases H.out.2.p.2 with h0|⟨b',bR,e',gJ,_⟩
    ·omega
    ·cases e';exact gJ
   have dZ:(fun X:World=>Bx X (w.1.size+2) [vI k.v,vI k.q,(.slice bP j dP),(.slice none 0 0),(.slice none 0 0),.bool k.w]/\Sp w (dR (some ⟨b,off,none⟩) c1 a2 c2 a3 c3 k) b (off+j) [.slice (some ⟨zb,zo,none⟩) (dY k.f j).length z1] X) wr.drew:=⟨eZ.own.later aN.drew,⟨eZ.arg.later aN.drew,lS.aj rfl,qO⟩⟩
   have HD:Hid (Below wr.1.size wr wr.drew):=aN.drew;have jn:(j:Int)<(k.f.length:Int):=by omega
   have HN:Hid (dQ wr.drew zb zo (dY k.f j)/\zb<wr.drew.1.size):=⟨YB.below (aN.drew) WV,WV⟩
   have HS:=ay eZ;have HM:Hid (ps.map (·.2)=k.f.take j/\ps.length=j/\k.f[j]?=some (dY k.f j)):=⟨oO,Gc,bg⟩
   clear eZ oO Gc bg lS qO YB WV kL e0 QE;go_wp2_with fail;refine bO 14 (fun X:World=>Bx X (w.1.size+2) [vI k.v,vI k.q,(.slice bP j dP),(.slice none 0 0),(.slice none 0 0),.bool k.w]/\Sp w (dR (some ⟨b,off,none⟩) c1 a2 c2 a3 c3 k) b (off+j) [.slice (some ⟨zb,zo,none⟩) (dY k.f j).length z1] X) (by kernel_rfl) ?_;generalize wr.drew=XD at *;refine eP 0 ?_ rfl ?_ dZ ?_;rotate_left
   ·(intro w aH;go_simp;first|done|with_reducible rfl)
   simp only[Act.put];refine eP 1 ?_ rfl ?_ dZ ?_;rotate_left
   ·(intro w aH;have q:=aH.1.1 2 _ rfl;go_simp;first|done|with_reducible rfl|exact q)
   simp only[Act.put];refine eP 3 ?_ rfl ?_ dZ ?_;rotate_left
   ·(intro w aH;go_simp;first|done|with_reducible rfl)
   simp only[Act.put];refine eP 4 ?_ rfl ?_ dZ ?_;rotate_left
   ·(intro w aH;have q:=aH.2.1.1 2 _ rfl;go_simp;first|done|with_reducible rfl|exact q)
   simp only[Act.put];refine eP 5 ?_ rfl ?_ dZ ?_;rotate_left
   ·(intro w aH;go_simp;first|done|with_reducible rfl)
   simp only[Act.put];refine eP 6 ?_ rfl ?_ dZ ?_;rotate_left
   ·(intro w aH;go_simp;first|done|with_reducible rfl|(rw[if_pos (by omega)]))
   simp only[Act.put];refine eP 7 ?_ rfl ?_ dZ ?_;rotate_left
   ·(intro w aH;go_simp;first|done|with_reducible rfl)
   simp only[Act.put];refine eP 8 ?_ rfl ?_ dZ ?_;rotate_left
   ·(intro w aH;have q0:w.cell? ⟨b,off+j,none⟩=some (.slice (some ⟨zb,zo,none⟩) (dY k.f j).length z1):=aH.2.2.1 0 _ rfl;go_simp;first|done|with_reducible rfl|rfl)
   simp only[Act.put];refine ed 2 rfl (fun K hK=>?_);go_simp;obtain⟨XE,Zt⟩:∃X,X=XD.alloc (.cells #[] 2):=⟨_,rfl⟩
   have bE:Below XD.1.size XD XE:=by rw[Zt];exact aN.alloc aU _
   have Rl:(fun X:World=>Bx X (w.1.size+2) [vI k.v,vI k.q,(.slice bP j dP),(.slice none 0 0),(.slice none 0 0),.bool k.w]/\Sp w (dR (some ⟨b,off,none⟩) c1 a2 c2 a3 c3 k) b (off+j) [.slice (some ⟨zb,zo,none⟩) (dY k.f j).length z1] X) XE:=⟨dZ.1.later bE,dZ.2.later bE⟩
   obtain⟨v2,X2,m7,ZA,mj,mu⟩:=Dv XE XD.1.size _ [] (dY k.f j) zb zo z1 54 (by rw[Zt];exact ON.empty XD) (HN.out.1.below bE HN.out.2) (by simp;omega) bE.size;rw[List.nil_append]at ZA;have b2:Below XD.1.size XD X2:=bE.grown mj bE.size (fun k h=>by cases h;exact Nat.le_refl _)
   obtain⟨q,cp,rfl⟩:∃g cp,v2=.slice (some ⟨g,0,none⟩) (dY k.f j).length cp:=by
    rcases ZA.form with ⟨rfl,_⟩|⟨g,cp,e,_⟩
    ·rcases mu with h|h<;>cases h
    ·exact⟨g,cp,e⟩
   rw[<-Zt];refine hK.out _ _ (fun _=>Rl) ?_;clear hK K bE mj mu Zt;refine ed 9 rfl (fun K hK=>?_);refine bJ _ rfl (.tmp 23) (.tmp 29) 54 rfl _ _ _ _ (by first|rfl|simp[Act.eval,Act.put]) (by first|rfl|simp[Act.eval,Act.put]) m7 ?_;clear m7;have hO:BH.Ow X2 wr.1.size (q,cp) (dY k.f j) (fun x=>x=q):=BH.low ZA.kp HD.out.size;clear ZA Rl HN;have SH:Hid (Below wr.1.size wr XD/\True):=⟨HD.out,trivial⟩
   have HD:=SH;clear SH;have nG:Below wr.1.size wr X2:=au HD.out.1 b2;have gF:(fun X:World=>Bx X (w.1.size+2) [vI k.v,vI k.q,(.slice bP j dP),(.slice none 0 0),(.slice none 0 0),.bool k.w]/\Sp w (dR (some ⟨b,off,none⟩) c1 a2 c2 a3 c3 k) b (off+j) [.slice (some ⟨zb,zo,none⟩) (dY k.f j).length z1] X) X2:=⟨dZ.1.later b2,dZ.2.later b2⟩
   obtain⟨X3,nK,b3,x3,-⟩:=jU X2 [(.slice (some ⟨q,0,none⟩) (dY k.f j).length cp)] 102;have jX:(fun X:World=>Bx X (w.1.size+2) [vI k.v,vI k.q,(.slice bP j dP),(.slice none 0 0),(.slice none 0 0),.bool k.w]/\Sp w (dR (some ⟨b,off,none⟩) c1 a2 c2 a3 c3 k) b (off+j) [.slice (some ⟨zb,zo,none⟩) (dY k.f j).length z1] X) X3:=⟨gF.1.later b3,gF.2.later b3⟩
   obtain⟨v',Y,hr,rE,kM,iq,dO,a',c',rfl⟩:=HS.out.LG (au nG b3) (q,cp) (dY k.f j) (fun x=>x=q) X2.1.size (by rw[HM.out.2.1];omega) 28 x3.1 (BH.aL hO b3.size (fun q hq=>b3.block q (BH.of hO hq).2));have oF:(fun X:World=>Bx X (w.1.size+2) [vI k.v,vI k.q,(.slice bP j dP),(.slice none 0 0),(.slice none 0 0),.bool k.w]/\Sp w (dR (some ⟨b,off,none⟩) c1 a2 c2 a3 c3 k) b (off+j) [.slice (some ⟨zb,zo,none⟩) (dY k.f j).length z1] X) Y:=⟨kM,jX.2.of dO (fun q hq=>iq q (.inl hq))⟩
   have HE:Hid ((ps++[((q,cp),dY k.f j)]).map (·.2)=k.f.take (j+1)):=by unfold Hid;rw[List.map_append,HM.out.1];exact mM HM.out.2.2
   rw[HM.out.2.1]at hr rE;have KE:=ay rE;refine hK.out _ _ (fun _=>gF) ?_;clear hK K b2 nG b3 x3 rE kM iq dO hO dZ;refine eP 10 ?_ rfl ?_ gF ?_;rotate_left
   ·(intro w aH;go_simp;first|done|with_reducible rfl)
   simp only[Act.put];refine ed 11 rfl (fun K hK=>?_);go_simp;rw[<-nK];refine hK.out _ _ (fun _=>jX) ?_;clear hK K gF;refine ed 12 rfl (fun K hK=>?_);refine bJ _ rfl (.tmp 22) (.tmp 32) 28 rfl _ _ _ _ (by first|rfl|simp[Act.eval,Act.put]) (by first|rfl|simp[Act.eval,Act.put]) hr ?_;refine hK.out _ _ (fun _=>oF) ?_;clear hK K hr jX nK;simp only[Act.put];refine ed 13 rfl (fun K hK=>?_);go_simp;refine hK.out _ _ (fun _=>oF) ?_;clear hK K;refine ed 14 rfl (fun K hK=>?_);have o2:=oF.1.1 2 _ rfl;have Zo:=oF.1.2.1 2;go_simp;refine hK.out _ _ (fun h=>absurd rfl h) ?_;clear hK K;refine cZ (by kernel_rfl) ?_ _;go_wp2;exact⟨⟨j+1,a',c',_,_,by omega,by simp,HE.out,KE.out⟩,by simp[intOf];omega⟩
  ·obtain rfl:k.f.length=j:=by omega
   have hd:decide ((k.f.length:Int)<(k.f.length:Int))=false:=by simp
   rw[List.take_length]at oO;have EP:Hid (ps.map (·.2)=k.f):=oO;have S1:=ay eZ;clear oO eZ hj aK mh;go_wp2;clear p2 p3 p4;generalize wr=WP at *;go_loopw[5] (fun v wr=>∃(j:Nat) (bM:OA) (dM:Nat) (ms:List ((MV)×M4)) (gm:Nat->Nat->Prop),j<=k.aa.length/\v=vI j/\ms.map (·.2)=k.aa.take j/\CZ w (dR a1 c1 a2 c2 a3 c3 k) nJ k wr (.slice bP k.f.length dP) (.slice bM j dM) (.slice none 0 0) ps gp ms gm [] jJ) (fun v _=>k.aa.length-(intOf v).toNat)
   case atStart=>exact⟨0,none,0,[],jJ,Nat.zero_le _,rfl,by simp,S1.out⟩
   case round=>
    obtain⟨j,bM,dM,ms,gm,hj,rfl,oO,eZ⟩:=hrel;have mh:k.aa.length<=1000:=by have:=H.out.1.m;omega
    have p2:=eZ.arg.1 2 _ rfl;have p3:=eZ.arg.1 3 _ rfl;have p4:=eZ.arg.1 4 _ rfl;by_cases aK:j<k.aa.length
    ·skip
     have bg:=iP aK;have Gc:ms.length=j:=by have:=congrArg List.length oO;simpa[Nat.min_eq_left hj]using this
     have fG:=H.out.2.later eZ.yu;rcases fG.m with h0|⟨b,off,rfl,hb,rH⟩
     ·rw[h0]at aK;simp at aK
     obtain⟨⟨m0,m1,m2,m3,m4,m5⟩,lS,Li⟩:=rH j _ bg;have QE:wr.cell? ⟨b,off+j*4,none⟩=some (.bool (aT k.aa j).x):=lS 0 _ rfl;have Ur:wr.cell? ⟨b,off+j*4+1,none⟩=some (.slice m0 (aT k.aa j).af.length m1):=lS 1 _ rfl;have Us:wr.cell? ⟨b,off+j*4+2,none⟩=some (.slice m2 (aT k.aa j).g.length m3):=lS 2 _ rfl;have Ut:wr.cell? ⟨b,off+j*4+3,none⟩=some (.slice m4 (aT k.aa j).ai.length m5):=lS 3 _ rfl;clear rH fG lS
     have lS:At wr b (off+j*4) [.bool (aT k.aa j).x,.slice m0 (aT k.aa j).af.length m1,.slice m2 (aT k.aa j).g.length m3,.slice m4 (aT k.aa j).ai.length m5]:=fun i u hu=>by
      rcases i with _|_|_|_|i
      ·simp at hu;subst hu;exact QE
      ·simp at hu;subst hu;exact Ur
      ·simp at hu;subst hu;exact Us
      ·simp at hu;subst hu;exact Ut
      ·simp at hu
     have qO:b<w.1.size:=by
      rcases H.out.2.m with h0|⟨b',bR,e',gJ,_⟩
      ·rw[h0]at aK;simp at aK
      ·cases e';exact gJ
     have dZ:(fun X:World=>Bx X (w.1.size+2) [vI k.v,vI k.q,(.slice bP k.f.length dP),(.slice bM j dM),(.slice none 0 0),.bool k.w]/\Sp w (dR a1 c1 (some ⟨b,off,none⟩) c2 a3 c3 k) b (off+j*4) [.bool (aT k.aa j).x,.slice m0 (aT k.aa j).af.length m1,.slice m2 (aT k.aa j).g.length m3,.slice m4 (aT k.aa j).ai.length m5] X) wr.drew:=⟨eZ.own.later aN.drew,⟨eZ.arg.later aN.drew,lS.aj rfl,qO⟩⟩
     have HD:Hid (Below wr.1.size wr wr.drew):=aN.drew;have jn:(j:Int)<(k.aa.length:Int):=by omega
     have jh:=Je wr.drew ⟨m0,m1,m2,m3,m4,m5⟩ (aT k.aa j) (H.out.1.ms _ (List.mem_of_getElem? bg)) (qY.later Li aN.drew);simp only[MV.val]at jh;have HS:=ay eZ;have HM:Hid (ms.map (·.2)=k.aa.take j/\ms.length=j/\k.aa[j]?=some (aT k.aa j)):=⟨oO,Gc,bg⟩
     clear eZ oO Gc bg lS qO Li QE Ur Us Ut;go_wp2_with fail;refine bO 11 (fun X:World=>Bx X (w.1.size+2) [vI k.v,vI k.q,(.slice bP k.f.length dP),(.slice bM j dM),(.slice none 0 0),.bool k.w]/\Sp w (dR a1 c1 (some ⟨b,off,none⟩) c2 a3 c3 k) b (off+j*4) [.bool (aT k.aa j).x,.slice m0 (aT k.aa j).af.length m1,.slice m2 (aT k.aa j).g.length m3,.slice m4 (aT k.aa j).ai.length m5] X) (by kernel_rfl) ?_;generalize wr.drew=XD at *;refine eP 0 ?_ rfl ?_ dZ ?_;rotate_left
     ·(intro w aH;go_simp;first|done|with_reducible rfl)
     simp only[Act.put];refine eP 1 ?_ rfl ?_ dZ ?_;rotate_left
     ·(intro w aH;have q:=aH.1.1 3 _ rfl;go_simp;first|done|with_reducible rfl|exact q)
     simp only[Act.put];refine eP 2 ?_ rfl ?_ dZ ?_;rotate_left
     ·(intro w aH;go_simp;first|done|with_reducible rfl)
     simp only[Act.put];refine eP 3 ?_ rfl ?_ dZ ?_;rotate_left
     ·(intro w aH;have q:=aH.2.1.1 3 _ rfl;go_simp;first|done|with_reducible rfl|exact q)
     simp only[Act.put];refine eP 4 ?_ rfl ?_ dZ ?_;rotate_left
     ·(intro w aH;go_simp;first|done|with_reducible rfl)
     simp only[Act.put];refine eP 5 ?_ rfl ?_ dZ ?_;rotate_left
     ·(intro w aH;go_simp;first|done|with_reducible rfl|(rw[if_pos (by omega)]))
     simp only[Act.put];refine eP 6 ?_ rfl ?_ dZ ?_;rotate_left
     ·(intro w aH;have q0:w.cell? ⟨b,off+j*4,none⟩=some (.bool (aT k.aa j).x):=aH.2.2.1 0 _ rfl;have q1:w.cell? ⟨b,off+j*4+1,none⟩=some (.slice m0 (aT k.aa j).af.length m1):=aH.2.2.1 1 _ rfl;have q2:w.cell? ⟨b,off+j*4+2,none⟩=some (.slice m2 (aT k.aa j).g.length m3):=aH.2.2.1 2 _ rfl;have q3:w.cell? ⟨b,off+j*4+3,none⟩=some (.slice m4 (aT k.aa j).ai.length m5):=aH.2.2.1 3 _ rfl;go_simp;first|done|with_reducible rfl|rfl)
     simp only[Act.put];refine ed 7 rfl (fun K hK=>?_);go_simp;refine jh.mono ?_;clear jh;rintro e X2 ⟨⟨u0,u1,u2,u3,u4,u5⟩,pp,gk,gr,rfl,mQ,b2⟩;dsimp only;obtain⟨Q,hQ⟩:=MR.ow mQ;have hO:gQ.Ow X2 wr.1.size ⟨u0,u1,u2,u3,u4,u5⟩ (aT k.aa j) Q:=gQ.low hQ (by have:=HD.out.size;omega);clear mQ hQ;have SH:Hid (Below wr.1.size wr XD/\True):=⟨HD.out,trivial⟩
     have HD:=SH;clear SH;have nG:Below wr.1.size wr X2:=au HD.out.1 b2;have gF:(fun X:World=>Bx X (w.1.size+2) [vI k.v,vI k.q,(.slice bP k.f.length dP),(.slice bM j dM),(.slice none 0 0),.bool k.w]/\Sp w (dR a1 c1 (some ⟨b,off,none⟩) c2 a3 c3 k) b (off+j*4) [.bool (aT k.aa j).x,.slice m0 (aT k.aa j).af.length m1,.slice m2 (aT k.aa j).g.length m3,.slice m4 (aT k.aa j).ai.length m5] X) X2:=⟨dZ.1.later b2,dZ.2.later b2⟩
     obtain⟨X3,nK,b3,x3,-⟩:=jU X2 [(.bool (aT k.aa j).x),(.slice u0 (aT k.aa j).af.length u1),(.slice u2 (aT k.aa j).g.length u3),(.slice u4 (aT k.aa j).ai.length u5)] 62;have jX:(fun X:World=>Bx X (w.1.size+2) [vI k.v,vI k.q,(.slice bP k.f.length dP),(.slice bM j dM),(.slice none 0 0),.bool k.w]/\Sp w (dR a1 c1 (some ⟨b,off,none⟩) c2 a3 c3 k) b (off+j*4) [.bool (aT k.aa j).x,.slice m0 (aT k.aa j).af.length m1,.slice m2 (aT k.aa j).g.length m3,.slice m4 (aT k.aa j).ai.length m5] X) X3:=⟨gF.1.later b3,gF.2.later b3⟩
     obtain⟨v',Y,hr,rE,kM,iq,dO,a',c',rfl⟩:=HS.out.LF (au nG b3) (⟨u0,u1,u2,u3,u4,u5⟩:MV) (aT k.aa j) Q X2.1.size (by rw[HM.out.2.1];omega) 29 x3.1 (gQ.aL hO b3.size (fun q hq=>b3.block q (gQ.of hO hq).2));have oF:(fun X:World=>Bx X (w.1.size+2) [vI k.v,vI k.q,(.slice bP k.f.length dP),(.slice bM j dM),(.slice none 0 0),.bool k.w]/\Sp w (dR a1 c1 (some ⟨b,off,none⟩) c2 a3 c3 k) b (off+j*4) [.bool (aT k.aa j).x,.slice m0 (aT k.aa j).af.length m1,.slice m2 (aT k.aa j).g.length m3,.slice m4 (aT k.aa j).ai.length m5] X) Y:=⟨kM,jX.2.of dO (fun q hq=>iq q (.inl hq))⟩
     have HE:Hid ((ms++[((⟨u0,u1,u2,u3,u4,u5⟩:MV),aT k.aa j)]).map (·.2)=k.aa.take (j+1)):=by unfold Hid;rw[List.map_append,HM.out.1];exact mM HM.out.2.2
     rw[HM.out.2.1]at hr rE;have KE:=ay rE;refine hK.out _ _ (fun _=>gF) ?_;clear hK K b2 nG b3 x3 rE kM iq dO hO dZ;refine ed 8 rfl (fun K hK=>?_);go_simp;rw[<-nK];refine hK.out _ _ (fun _=>jX) ?_;clear hK K gF;refine ed 9 rfl (fun K hK=>?_);refine bJ _ rfl (.tmp 43) (.tmp 50) 29 rfl _ _ _ _ (by first|rfl|simp[Act.eval,Act.put]) (by first|rfl|simp[Act.eval,Act.put]) hr ?_;refine hK.out _ _ (fun _=>oF) ?_;clear hK K hr jX nK;simp only[Act.put];refine ed 10 rfl (fun K hK=>?_);go_simp;refine hK.out _ _ (fun _=>oF) ?_;clear hK K;refine ed 11 rfl (fun K hK=>?_);have o3:=oF.1.1 3 _ rfl;have pS:=oF.1.2.1 3;go_simp;refine hK.out _ _ (fun h=>absurd rfl h) ?_;clear hK K;refine cZ (by kernel_rfl) ?_ _;go_wp2;exact⟨⟨j+1,a',c',_,_,by omega,by simp,HE.out,KE.out⟩,by simp[intOf];omega⟩
    ·obtain rfl:k.aa.length=j:=by omega
     have hd:decide ((k.aa.length:Int)<(k.aa.length:Int))=false:=by simp
     rw[List.take_length]at oO;have EM:Hid (ms.map (·.2)=k.aa):=oO;have S1:=ay eZ;clear oO eZ hj aK mh;go_wp2;clear p2 p3 p4;generalize wr=WM at *;go_loopw[6] (fun v wr=>∃(j:Nat) (bT:OA) (dT:Nat) (ts:List ((tx.TV)×tx.T7)) (gt:Nat->Nat->Prop),j<=k.c.length/\v=vI j/\ts.map (·.2)=k.c.take j/\N8 ts/\CZ w (dR a1 c1 a2 c2 a3 c3 k) nJ k wr (.slice bP k.f.length dP) (.slice bM k.aa.length dM) (.slice bT j dT) ps gp ms gm ts gt) (fun v _=>k.c.length-(intOf v).toNat)
     case atStart=>exact⟨0,none,0,[],jJ,Nat.zero_le _,rfl,by simp,fun _ hp=>by simp at hp,S1.out⟩
     case round=>
      obtain⟨j,bT,dT,ts,gt,hj,rfl,oO,kL,eZ⟩:=hrel;have Wp:=ay kL;clear kL;have mh:k.c.length<=1000:=by have:=H.out.1.t;omega
      have p2:=eZ.arg.1 2 _ rfl;have p3:=eZ.arg.1 3 _ rfl;have p4:=eZ.arg.1 4 _ rfl;by_cases aK:j<k.c.length
      ·skip
       have bg:=ib aK;have Gc:ts.length=j:=by have:=congrArg List.length oO;simpa[Nat.min_eq_left hj]using this
       have fG:=H.out.2.later eZ.yu;rcases fG.t with h0|⟨b,off,rfl,hb,rH⟩
       ·rw[h0]at aK;simp at aK
       obtain⟨⟨t0,t1,t2,t3⟩,lS,Li⟩:=rH j _ bg;have QE:wr.cell? ⟨b,off+j*7,none⟩=some (vI (aS k.c j).id):=lS 0 _ rfl;have Ur:wr.cell? ⟨b,off+j*7+1,none⟩=some (vI (aS k.c j).l):=lS 1 _ rfl;have Us:wr.cell? ⟨b,off+j*7+2,none⟩=some (vI (aS k.c j).o):=lS 2 _ rfl;have Ut:wr.cell? ⟨b,off+j*7+3,none⟩=some (vI (aS k.c j).u):=lS 3 _ rfl;have cw:wr.cell? ⟨b,off+j*7+4,none⟩=some (.slice t0 (aS k.c j).b.length t1):=lS 4 _ rfl;have cy:wr.cell? ⟨b,off+j*7+5,none⟩=some (.slice t2 (aS k.c j).ag.length t3):=lS 5 _ rfl;have cD:wr.cell? ⟨b,off+j*7+6,none⟩=some (vI (aS k.c j).az):=lS 6 _ rfl;clear rH fG lS
       have lS:At wr b (off+j*7) (tx.nO t0 t1 t2 t3 (aS k.c j)):=fun i u hu=>by
        rcases i with _|_|_|_|_|_|_|i
        ·simp at hu;subst hu;exact QE
        ·simp at hu;subst hu;exact Ur
        ·simp at hu;subst hu;exact Us
        ·simp at hu;subst hu;exact Ut
        ·simp at hu;subst hu;exact cw
        ·simp at hu;subst hu;exact cy
        ·simp at hu;subst hu;exact cD
        ·simp at hu
       have qO:b<w.1.size:=by
        rcases H.out.2.t with h0|⟨b',bR,e',gJ,_⟩
        ·rw[h0]at aK;simp at aK
        ·cases e';exact gJ
       have dZ:(fun X:World=>Bx X (w.1.size+2) [vI k.v,vI k.q,(.slice bP k.f.length dP),(.slice bM k.aa.length dM),(.slice bT j dT),.bool k.w]/\Sp w (dR a1 c1 a2 c2 (some ⟨b,off,none⟩) c3 k) b (off+j*7) (tx.nO t0 t1 t2 t3 (aS k.c j)) X) wr.drew:=⟨eZ.own.later aN.drew,⟨eZ.arg.later aN.drew,lS.aj rfl,qO⟩⟩
       have HD:Hid (Below wr.1.size wr wr.drew):=aN.drew;have jn:(j:Int)<(k.c.length:Int):=by omega
       obtain⟨l1,l2⟩:=H.out.1.ts _ (List.mem_of_getElem? bg);have jh:=tx.rQ wr.drew ⟨t0,t1,t2,t3⟩ (aS k.c j) (by omega) (by omega) (tx.kR.later Li aN.drew);simp only[tx.TV.val]at jh;clear l1 l2;have HS:=ay eZ;have HM:Hid (ts.map (·.2)=k.c.take j/\ts.length=j/\k.c[j]?=some (aS k.c j)):=⟨oO,Gc,bg⟩
       clear eZ oO Gc bg lS qO Li QE Ur Us Ut cw cy cD;go_wp2_with fail;refine bO 11 (fun X:World=>Bx X (w.1.size+2) [vI k.v,vI k.q,(.slice bP k.f.length dP),(.slice bM k.aa.length dM),(.slice bT j dT),.bool k.w]/\Sp w (dR a1 c1 a2 c2 (some ⟨b,off,none⟩) c3 k) b (off+j*7) (tx.nO t0 t1 t2 t3 (aS k.c j)) X) (by kernel_rfl) ?_;generalize wr.drew=XD at *;refine eP 0 ?_ rfl ?_ dZ ?_;rotate_left
       ·(intro w aH;go_simp;first|done|with_reducible rfl)
       simp only[Act.put];refine eP 1 ?_ rfl ?_ dZ ?_;rotate_left
       ·(intro w aH;have q:=aH.1.1 4 _ rfl;go_simp;first|done|with_reducible rfl|exact q)
       simp only[Act.put];refine eP 2 ?_ rfl ?_ dZ ?_;rotate_left
       ·(intro w aH;go_simp;first|done|with_reducible rfl)
       simp only[Act.put];refine eP 3 ?_ rfl ?_ dZ ?_;rotate_left
       ·(intro w aH;have q:=aH.2.1.1 4 _ rfl;go_simp;first|done|with_reducible rfl|exact q)
       simp only[Act.put];refine eP 4 ?_ rfl ?_ dZ ?_;rotate_left
       ·(intro w aH;go_simp;first|done|with_reducible rfl)
       simp only[Act.put];refine eP 5 ?_ rfl ?_ dZ ?_;rotate_left
       ·(intro w aH;go_simp;first|done|with_reducible rfl|(rw[if_pos (by omega)]))
       simp only[Act.put];refine eP 6 ?_ rfl ?_ dZ ?_;rotate_left
       ·(intro w aH;have q0:w.cell? ⟨b,off+j*7,none⟩=some (vI (aS k.c j).id):=aH.2.2.1 0 _ rfl;have q1:w.cell? ⟨b,off+j*7+1,none⟩=some (vI (aS k.c j).l):=aH.2.2.1 1 _ rfl;have q2:w.cell? ⟨b,off+j*7+2,none⟩=some (vI (aS k.c j).o):=aH.2.2.1 2 _ rfl;have q3:w.cell? ⟨b,off+j*7+3,none⟩=some (vI (aS k.c j).u):=aH.2.2.1 3 _ rfl;have q4:w.cell? ⟨b,off+j*7+4,none⟩=some (.slice t0 (aS k.c j).b.length t1):=aH.2.2.1 4 _ rfl;have q5:w.cell? ⟨b,off+j*7+5,none⟩=some (.slice t2 (aS k.c j).ag.length t3):=aH.2.2.1 5 _ rfl;have q6:w.cell? ⟨b,off+j*7+6,none⟩=some (vI (aS k.c j).az):=aH.2.2.1 6 _ rfl;go_simp;first|done|with_reducible rfl|rfl)
       simp only[Act.put];refine ed 7 rfl (fun K hK=>?_);go_simp;refine jh.mono ?_;clear jh;rintro e X2 ⟨u0,u1,u2,u3,PR,PS,rfl,ho,b2,ld⟩
       have Z5:Hid (N8 (ts++[((⟨u0,u1,u2,u3⟩:tx.TV),aS k.c j)])):=fun p hp=>by
        rcases List.mem_append.1 hp with h|h
        ·exact Wp.out p h
        ·simp at h;subst h;exact ld
       clear ld;simp only[tx.TV.val];have hO:gY.Ow X2 wr.1.size ⟨u0,u1,u2,u3⟩ (aS k.c j) (tx.nC PR PS):=gY.low (KT.ow ho) HD.out.size;have SH:Hid (Below wr.1.size wr XD/\True):=⟨HD.out,trivial⟩
       have HD:=SH;clear SH;have nG:Below wr.1.size wr X2:=au HD.out.1 b2;have gF:(fun X:World=>Bx X (w.1.size+2) [vI k.v,vI k.q,(.slice bP k.f.length dP),(.slice bM k.aa.length dM),(.slice bT j dT),.bool k.w]/\Sp w (dR a1 c1 a2 c2 (some ⟨b,off,none⟩) c3 k) b (off+j*7) (tx.nO t0 t1 t2 t3 (aS k.c j)) X) X2:=⟨dZ.1.later b2,dZ.2.later b2⟩
       obtain⟨X3,nK,b3,x3,-⟩:=jU X2 [(vI (aS k.c j).id),(vI (aS k.c j).l),(vI (aS k.c j).o),(vI (aS k.c j).u),(.slice u0 (aS k.c j).b.length u1),(.slice u2 (aS k.c j).ag.length u3),(vI (aS k.c j).az)] 53;have jX:(fun X:World=>Bx X (w.1.size+2) [vI k.v,vI k.q,(.slice bP k.f.length dP),(.slice bM k.aa.length dM),(.slice bT j dT),.bool k.w]/\Sp w (dR a1 c1 a2 c2 (some ⟨b,off,none⟩) c3 k) b (off+j*7) (tx.nO t0 t1 t2 t3 (aS k.c j)) X) X3:=⟨gF.1.later b3,gF.2.later b3⟩
       obtain⟨v',Y,hr,rE,kM,iq,dO,a',c',rfl⟩:=HS.out.LH (au nG b3) (⟨u0,u1,u2,u3⟩:tx.TV) (aS k.c j) (tx.nC PR PS) X2.1.size (by rw[HM.out.2.1];omega) 30 x3.1 (gY.aL hO b3.size (fun q hq=>b3.block q (gY.of hO hq).2));have oF:(fun X:World=>Bx X (w.1.size+2) [vI k.v,vI k.q,(.slice bP k.f.length dP),(.slice bM k.aa.length dM),(.slice bT j dT),.bool k.w]/\Sp w (dR a1 c1 a2 c2 (some ⟨b,off,none⟩) c3 k) b (off+j*7) (tx.nO t0 t1 t2 t3 (aS k.c j)) X) Y:=⟨kM,jX.2.of dO (fun q hq=>iq q (.inl hq))⟩
       have HE:Hid ((ts++[((⟨u0,u1,u2,u3⟩:tx.TV),aS k.c j)]).map (·.2)=k.c.take (j+1)):=by unfold Hid;rw[List.map_append,HM.out.1];exact mM HM.out.2.2
       rw[HM.out.2.1]at hr rE;have KE:=ay rE;refine hK.out _ _ (fun _=>gF) ?_;clear hK K b2 nG b3 x3 rE kM iq dO hO dZ;refine ed 8 rfl (fun K hK=>?_);go_simp;rw[<-nK];refine hK.out _ _ (fun _=>jX) ?_;clear hK K gF;refine ed 9 rfl (fun K hK=>?_);refine bJ _ rfl (.tmp 61) (.tmp 68) 30 rfl _ _ _ _ (by first|rfl|simp[Act.eval,Act.put]) (by first|rfl|simp[Act.eval,Act.put]) hr ?_;refine hK.out _ _ (fun _=>oF) ?_;clear hK K hr jX nK;simp only[Act.put];refine ed 10 rfl (fun K hK=>?_);go_simp;refine hK.out _ _ (fun _=>oF) ?_;clear hK K;refine ed 11 rfl (fun K hK=>?_);have o4:=oF.1.1 4 _ rfl;have pT:=oF.1.2.1 4;go_simp;refine hK.out _ _ (fun h=>absurd rfl h) ?_;clear hK K;refine cZ (by kernel_rfl) ?_ _;go_wp2;exact⟨⟨j+1,a',c',_,_,by omega,by simp,HE.out,Z5.out,KE.out⟩,by simp[intOf];omega⟩
      ·obtain rfl:k.c.length=j:=by omega
       have hd:decide ((k.c.length:Int)<(k.c.length:Int))=false:=by simp
       rw[List.take_length]at oO;have ET:Hid (ts.map (·.2)=k.c):=oO;have S1:=ay eZ;clear oO eZ hj aK mh;have o0:=S1.out.own.c6;have r0:=S1.out.res.c6;have f0:=S1.out.res.f6;go_wp2;refine bodyPost_ret (v:=.agg #[vI k.v,vI k.q,.slice bP k.f.length dP,.slice bM k.aa.length dM,.slice bT k.c.length dT,.bool k.w]) (by simp[results,results18,go_sem,r0]) rfl ?_;refine⟨bP,dP,bM,dM,bT,dT,ps,gp,ms,gm,ts,gt,rfl,?_,EP.out,EM.out,ET.out,?_⟩
       ·exact S1.out.rows.aL (Y:=dU wr (w.1.size+1) 0 (dR bP dP bM dM bT dT k)) (by rw[bu];exact Nat.le_refl _) (fun q _ hb _=>aX (by omega) _ _ _)
       ·exact⟨bn (w:=w) (by omega) (dR bP dP bM dM bT dT k) wr 0 S1.out.yu,Wp.out⟩
theorem ng(w:World)(a1:OA)(c1:Nat)(a2:OA)(c2:Nat)(a3:OA)(c3:Nat)(k:C6)(hk:aF k=true)(h:cO.Rd w a1 c1 a2 c2 a3 c3 k):
  Calls prog 18 #[.agg #[vI k.v,vI k.q,.slice a1 k.f.length c1,.slice a2 k.aa.length c2,.slice a3 k.c.length c3,.bool k.w]] w (SE w k):=by
 refine(yn w a1 c1 a2 c2 a3 c3 k hk h).mono ?_;rintro e w' ⟨a,b,c,d,f,g,p1,p2,p3,p4,p5,p6,h1,h2,h3,h4,h5,h6,_⟩;exact⟨a,b,c,d,f,g,p1,p2,p3,p4,p5,p6,h1,h2,h3,h4,h5,h6⟩
end
section
open Go.Proofs.Tryz
variable {k:C6}{y:Int}
def VP(k:C6)(y:Int):Int:=if gW k y=0 then(iO k.c y:Int)else -1
theorem vK(h:gW k y≠0):VP k y=-1:=if_neg h
theorem G8(h:gW k y=0):VP k y=(iO k.c y:Int):=if_pos h
theorem Gt(w:World)(a1:OA)(c1:Nat)(a2:OA)(c2:Nat)(a3:OA)(c3:Nat)(k:C6)(n:Int)(h:cO.Rd w a1 c1 a2 c2 a3 c3 k)(hk:aF k=true\/n=1)(hn:aF k=true->n≠1):
  Calls prog 16 #[.agg #[vI k.v,vI k.q,.slice a1 k.f.length c1,.slice a2 k.aa.length c2,.slice a3 k.c.length c3,.bool k.w],vI n] w (Xg w (kg k) n):=by
 obtain⟨W0,dS⟩:∃Y,Y=(w.alloc (.cells #[vI k.v,vI k.q,.slice a1 k.f.length c1,.slice a2 k.aa.length c2,.slice a3 k.c.length c3,.bool k.w] 32)).alloc (.cells #[vI 0,vI 0,.slice none 0 0,.slice none 0 0,.slice none 0 0,.bool false] 32):=⟨_,rfl⟩
 have b0:Below w.1.size w W0:=by rw[dS];exact(aN.alloc aU _).alloc (by simp) _
 have s0:W0.1.size=w.1.size+2:=by rw[dS];simp
 have x0:Bx W0 w.1.size (dR a1 c1 a2 c2 a3 c3 k):=by
  have:=(Bx.made w (dR a1 c1 a2 c2 a3 c3 k) 32).later (aN.alloc aU (.cells #[vI 0,vI 0,.slice none 0 0,.slice none 0 0,.slice none 0 0,.bool false] 32));rw[dS];exact this
 have x1:Bx W0 (w.1.size+1) nJ:=by
  have h:=Bx.made (w.alloc (.cells #[vI k.v,vI k.q,.slice a1 k.f.length c1,.slice a2 k.aa.length c2,.slice a3 k.c.length c3,.bool k.w] 32)) nJ 32;rw[show(w.alloc (.cells #[vI k.v,vI k.q,.slice a1 k.f.length c1,.slice a2 k.aa.length c2,.slice a3 k.c.length c3,.bool k.w] 32)).1.size=w.1.size+1 by simp]at h;rw[dS];exact h
 have H:Hid (Below w.1.size w W0/\W0.1.size=w.1.size+2/\Bx W0 (w.1.size+1) nJ):=⟨b0,s0,x1⟩
 cases SX:aF k with
 | false=>
  obtain rfl:n=1:=by rcases hk with h1|h1;rw[h1]at SX;cases SX;exact h1
  have nQ:kg k=zC:=by simp[kg,SX]
  have HL:=ay nQ;have r0:=x1.1 0 _ rfl;have r1:=x1.1 1 _ rfl;have r2:=x1.1 2 _ rfl;have r3:=x1.1 3 _ rfl;have r4:=x1.1 4 _ rfl;have r5:=x1.1 5 _ rfl;have f0:=x1.2.1 0;have f1:=x1.2.1 1;have f2:=x1.2.1 2;have f3:=x1.2.1 3;have f4:=x1.2.1 4;have f5:=x1.2.1 5;have q0:=r0;have q1:=r1;have q2:=r2;have q3:=r3;have q4:=r4;have q5:=r5;rw[dS]at r0 r1 r2 r3 r4 r5 f0 f1 f2 f3 f4 f5;clear b0 s0 x0 x1 h hk hn nQ SX;go_enter func16,ntmps16;go_wp2;rw[<-dS];refine bodyPost_ret (v:=.tuple #[.agg #[vI 0,vI 0,.slice none 0 0,.slice none 0 0,.slice none 0 0,.bool false],vI 1]) (by simp[results,results16,go_sem,q0,q1,q2,q3,q4,q5]) rfl ?_;rw[HL.out];refine⟨none,0,none,0,none,0,fun _=>False,rfl,TM _ _,?_⟩;exact H.out.1
 | true=>
  have eO:=hn SX;have nQ:kg k=k:=by simp[kg,SX]
  have HL:=ay nQ;have hb:(n==1)=false:=by simpa using eO
  have hc:=ng W0 a1 c1 a2 c2 a3 c3 k SX (h.later b0);have p0:=x0.c6;rw[dS]at p0;clear b0 s0 x0 x1 h hk hn nQ SX eO;go_enter func16,ntmps16;go_wp2_with fail;rw[<-dS];clear dS p0;refine hc.mono ?_;clear hc;rintro e w1 ⟨b1,d1,b2,d2,b3,d3,ps,gp,ms,gm,ts,gt,rfl,hr,e1,e2,e3,bl⟩;obtain⟨h1,h2,h3⟩:=H.out;have y0:=h3.later bl;have r0:=y0.c6;have f0:=y0.f6;have KE:Hid (cO.Ow w1 (W0.1.size+3) b1 d1 b2 d2 b3 d3 k (fun q=>Kd.kS (.slice b1 k.f.length d1) ps gp q\/Kd.kS (.slice b2 k.aa.length d2) ms gm q\/Kd.kS (.slice b3 k.c.length d3) ts gt q)/\Below w.1.size w w1/\W0.1.size=w.1.size+2):=⟨hr.ow e1 e2 e3,au h1 bl,h2⟩
  clear hr e1 e2 e3 bl y0 h1 h2 h3 H;go_wp2;refine bodyPost_ret (v:=.tuple #[.agg #[vI k.v,vI k.q,.slice b1 k.f.length d1,.slice b2 k.aa.length d2,.slice b3 k.c.length d3,.bool k.w],vI n]) (by simp[results,results16,go_sem,r0]) rfl ?_;rw[HL.out];refine⟨b1,d1,b2,d2,b3,d3,_,rfl,(KE.out.1.low (show w.1.size<=_ by have:=KE.out.2.2;omega)).aL (w':=dU w1 (w.1.size+1) 0 (dR b1 d1 b2 d2 b3 d3 k)) (by rw[bu];exact Nat.le_refl _) (fun q hq=>aX (fun e=>by have:=(KE.out.1.of hq).1;have:=KE.out.2.2;omega) _ _ _),?_⟩;exact bn (w:=w) (by omega) (dR b1 d1 b2 d2 b3 d3 k) w1 0 KE.out.2.1
theorem Jh(w:World)(a1:OA)(c1:Nat)(a2:OA)(c2:Nat)(a3:OA)(c3:Nat)(k:C6)(y:Int)(hl:cO.L k)(h:cO.Rd w a1 c1 a2 c2 a3 c3 k):
  Calls prog 14 #[.agg #[vI k.v,vI k.q,.slice a1 k.f.length c1,.slice a2 k.aa.length c2,.slice a3 k.c.length c3,.bool k.w],vI y] w fun e w'=>e=.returned (.tuple #[vI (VP k y),vI (gW k y)])/\Below w.1.size w w':=by
 obtain⟨W0,dS,b0,x0,-⟩:=jU w (dR a1 c1 a2 c2 a3 c3 k) 32;have hc:=vM W0 a1 c1 a2 c2 a3 c3 k hl (h.later b0);have p0:=x0.c6;have H:Hid (Below w.1.size w W0/\Bx W0 w.1.size (dR a1 c1 a2 c2 a3 c3 k)/\cO.Rd W0 a1 c1 a2 c2 a3 c3 k/\cO.L k):=⟨b0,x0,h.later b0,hl⟩
 rw[dS]at p0;clear b0 x0 h hl;go_enter func14,ntmps14;go_wp2_with fail;rw[<-dS];clear dS p0;refine hc.mono ?_;clear hc;rintro e w1 ⟨rfl,b1⟩;have B1:Hid (Below w.1.size w w1/\Bx w1 w.1.size (dR a1 c1 a2 c2 a3 c3 k)/\cO.Rd w1 a1 c1 a2 c2 a3 c3 k):=⟨au H.out.1 b1,H.out.2.1.later b1,H.out.2.2.1.later b1⟩
 clear b1
 cases hk:aF k with
 | false=>
  have hr:gW k y=1:=by simp[gW,gN,hk]
  have HR:=ay hr;clear hr;go_wp2;refine bodyPost_ret (v:=.tuple #[vI (-1),vI 1]) (by simp[results,results14,go_sem]) rfl ?_;exact⟨by rw[vK (by rw[HR.out];decide),HR.out],B1.out.1⟩
 | true=>
  have hf:=Jg w1 a1 c1 a2 c2 a3 c3 k y H.out.2.2.2 B1.out.2.2;have q0:=B1.out.2.1.1 0 _ rfl;have q1:=B1.out.2.1.1 1 _ rfl;have q2:=B1.out.2.1.1 2 _ rfl;have q3:=B1.out.2.1.1 3 _ rfl;have q4:=B1.out.2.1.1 4 _ rfl;have q5:=B1.out.2.1.1 5 _ rfl;have HK:=ay hk;clear hk;go_wp2_with fail;refine hf.mono ?_;clear hf q0 q1 q2 q3 q4 q5;rintro e w2 ⟨⟨z,rfl,I5⟩,b2⟩;have B2:Hid (Below w.1.size w w2/\Bx w2 w.1.size (dR a1 c1 a2 c2 a3 c3 k)/\cO.Rd w2 a1 c1 a2 c2 a3 c3 k):=⟨au B1.out.1 b2,B1.out.2.1.later b2,B1.out.2.2.later b2⟩
  clear b2 B1;rcases IE I5 with ⟨rfl,bg⟩|⟨i,rfl,hi,bg⟩
  ·have hr:gW k y=2:=by simp[gW,gN,HK.out,bg]
   have HR:=ay hr;clear hr bg I5;go_wp2;refine bodyPost_ret (v:=.tuple #[vI (-1),vI 2]) (by simp[results,results14,go_sem]) rfl ?_;exact⟨by rw[vK (by rw[HR.out];decide),HR.out],B2.out.1⟩
  ·clear I5;obtain⟨QK,eJ⟩:=FK HK.out hi;obtain⟨hm,UM⟩:∃m:Nat,(aS k.c i).l=(m:Int):=⟨(aS k.c i).l.toNat,by omega⟩
   have eM:hm<k.aa.length:=by omega
   have oM:gN k y=if (aT k.aa hm).x=true then 0 else 3:=by simp only[gN,HK.out,if_true,bg,hi,Gd,eD,UM,Int.toNat_natCast]
   have HC:Hid (gN k y=(if (aT k.aa hm).x=true then 0 else 3)/\iO k.c y=i/\eD k y=aS k.c i):=⟨oM,bg,by rw[eD,bg]⟩
   rcases B2.out.2.2.t with e0|⟨b,off,rfl,hb,fG⟩
   ·rw[e0]at hi;simp at hi
   obtain⟨⟨t0,t1,t2,t3⟩,lS,-⟩:=fG i _ (ib hi);rcases B2.out.2.2.m with e0|⟨mb,mo,rfl,Zy,X6⟩
   ·rw[e0]at eM;simp at eM
   obtain⟨⟨m0,m1,m2,m3,m4,m5⟩,X5,-⟩:=X6 hm _ (iP eM);have g1:w2.cell? ⟨b,off+i*7+1,none⟩=some (vI (hm:Int)):=by rw[<-UM];exact lS 1 _ rfl
   have g2:w2.cell? ⟨b,off+i*7+2,none⟩=some (vI (aS k.c i).o):=lS 2 _ rfl;have g3:w2.cell? ⟨mb,mo+hm*4,none⟩=some (.bool (aT k.aa hm).x):=X5 0 _ rfl;have q3:=B2.out.2.1.1 3 _ rfl;have q4:=B2.out.2.1.1 4 _ rfl;have jn:(i:Int)<(k.c.length:Int):=by omega
   have jm:(hm:Int)<(k.aa.length:Int):=by omega
   have dn:decide ((i:Int)<0)=false:=by simp
   have x1:=@cell_regrown w2 ⟨b,off+i*7+1,none⟩ (vI (hm:Int)) g1;have x3:=@cell_regrown w2 ⟨mb,mo+hm*4,none⟩ (.bool (aT k.aa hm).x) g3;have x4:∀dd os,(grow (redrawn w2 dd) os).cell? ⟨w.1.size,3,none⟩=some (.slice (some ⟨mb,mo,none⟩) k.aa.length c2):=fun dd os=>(B2.out.2.1.later (below_regrown w2 dd os)).1 3 _ rfl
   have x5:∀dd os,(grow (redrawn w2 dd) os).cell? ⟨w.1.size,4,none⟩=some (.slice (some ⟨b,off,none⟩) k.c.length c3):=fun dd os=>(B2.out.2.1.later (below_regrown w2 dd os)).1 4 _ rfl
   have HG2:Hid (w2.cell? ⟨b,off+i*7+2,none⟩=some (vI (aS k.c i).o)/\b<w2.1.size):=⟨g2,hb⟩
   clear QK eJ oM bg fG lS X6 X5 g1 g2 g3 UM q3 q4 hb Zy;go_wp2_with fail;refine gP ?_;repeat (go_big_quiet_step (fail))
   refine iW fun dq aZ=>?_
   have bq:=below_regrown w2 dq aZ;have B3:Hid (Below w.1.size w (grow (redrawn w2 dq) aZ)):=au B2.out.1 bq;have y4:=x5 dq aZ;have y2:(grow (redrawn w2 dq) aZ).cell? ⟨b,off+i*7+2,none⟩=some (vI (aS k.c i).o):=(bq.cell (p:=⟨b,off+i*7+2,none⟩) HG2.out.2).trans HG2.out.1;clear bq x1 x3 x4 x5 B2 HG2;generalize grow (redrawn w2 dq) aZ=w3 at *
   cases za:(aT k.aa hm).x with
   | false=>
    have hr:gW k y=3:=by
     have:gN k y=3:=by rw[HC.out.1,za];rfl
     simp[gW,this]
    have HR:=ay hr;clear hr;go_wp2;refine bodyPost_ret (v:=.tuple #[vI (-1),vI 3]) (by simp[results,results14,go_sem]) rfl ?_;exact⟨by rw[vK (by rw[HR.out];decide),HR.out],B3.out⟩
   | true=>
    have XP:gN k y=0:=by rw[HC.out.1,za];rfl
    by_cases Ms:(aS k.c i).o=1
    ·have hr:gW k y=0:=by simp[gW,XP,HC.out.2.2,Ms]
     have HR:=ay hr;rw[Ms]at y2;clear hr XP Ms;go_wp2;refine bodyPost_ret (v:=.tuple #[vI (i:Int),vI 0]) (by simp[results,results14,go_sem]) rfl ?_;exact⟨by rw[G8 HR.out,HR.out,HC.out.2.1],B3.out⟩
    ·have hr:gW k y=4:=by simp[gW,XP,HC.out.2.2,Ms]
     have HR:=ay hr;have eO:((aS k.c i).o != 1)=true:=by simpa using Ms
     clear hr XP Ms;go_wp2;refine bodyPost_ret (v:=.tuple #[vI (-1),vI 4]) (by simp[results,results14,go_sem]) rfl ?_;exact⟨by rw[vK (by rw[HR.out];decide),HR.out],B3.out⟩
end
section
open Go.Proofs.Tryz
end
section
open Go.Proofs.Tryz
variable {B b j n:Nat}{X:World}{g:Nat->Nat->Prop}
structure Kd.Rest{D V:Type}(K:Kd D V)(X:World)(B b n:Nat)(ys:List D)(g:Nat->Nat->Prop)(j:Nat):Prop where
 rm:Room X b (n*K.n)
 at_:∀i d,j<=i->ys[i]?=some d->∃v,At X b (i*K.n) (K.cells v d)/\K.Ow X B v d (g i)
 ne:∀i q,i<ys.length->g i q->q≠b
 ap:∀i j q,i<ys.length->j<ys.length->i≠j->g i q->¬g j q
theorem Kd.Part.rest{D V:Type}{K:Kd D V}{ys:List D}(h:K.Part X B b n ys g):K.Rest X B b n ys g 0:=⟨h.rm,fun i d _ hi=>h.at_ i d hi,h.ne,h.ap⟩
theorem Kd.Rest.up{D V:Type}{K:Kd D V}{ys:List D}(h:K.Rest X B b n ys g j):K.Rest X B b n ys g (j+1):=⟨h.rm,fun i d hj hi=>h.at_ i d (by omega) hi,h.ne,h.ap⟩
theorem Kd.Rest.set{D V:Type}{K:Kd D V}{X:World}{B b n:Nat}{ys:List D}{g:Nat->Nat->Prop}{j o:Nat}(h:K.Rest X B b n ys g (j+1))(ho:o<(j+1)*K.n)(u:Value):K.Rest (X.setCell ⟨b,o,none⟩ u) B b n ys g (j+1):=by
 refine⟨h.rm.set _,fun i d hj hi=>?_,h.ne,h.ap⟩;obtain⟨v,h1,h2⟩:=h.at_ i d hj hi;have hm:=Nat.mul_le_mul_right K.n hj;exact⟨v,fun q u' e=>(ae (by omega)).trans (h1 q u' e),K.aL h2 (by simp[World.setCell]) (fun q hq=>Below.heap_setCell _ _ _ _ (h.ne i q (List.getElem?_eq_some_iff.1 hi).1 hq))⟩
theorem Kd.Rest.kept{D V:Type}{K:Kd D V}{Y:World}{ys:List D}{Q:Nat->Prop}(h:K.Rest X B b n ys g (j+1))(hk:aA Q X Y)(hb:b<X.1.size)(hj:j<ys.length)(hQ:∀q,Q q->g j q):K.Rest Y B b n ys g (j+1):=by
 have qQ:Y.1[b]?=X.1[b]?:=hk.block b hb (fun e=>h.ne j b hj (hQ b e) rfl);refine⟨G7 h.rm qQ,fun i d WQ hi=>?_,h.ne,h.ap⟩;obtain⟨v,h1,h2⟩:=h.at_ i d WQ hi;have hl:=(List.getElem?_eq_some_iff.1 hi).1;exact⟨v,h1.aj qQ,K.aL h2 hk.size (fun q hq=>hk.block q (K.of h2 hq).2 (fun e=>h.ap i j q hl hj (by omega) hq (hQ q e)))⟩
def cM(m:M4):Nat:=1+(aI cK m.af m.af.length+aI cR m.g m.g.length+m.ai.length)
structure TY(w X:World)(B b:Nat)(ms:List M4)(g:Nat->Nat->Prop)(P:Nat->Prop)(j:Nat)(a2:OA)(c2:Nat)(a3:OA)(c3:Nat)(PR PD:Nat->Prop):Prop where
 r:tY 4 qP yL AtR X PR a2 (aT ms j).g
 n:BO X PD a3 (aT ms j).ai
 e2:X.cell? ⟨b,j*4+2,none⟩=some (.slice a2 (aT ms j).g.length c2)
 e3:X.cell? ⟨b,j*4+3,none⟩=some (.slice a3 (aT ms j).ai.length c3)
 rest:gQ.Rest X B b ms.length ms g (j+1)
 kp:aA P w X
 lt:b<X.1.size
theorem Vs(w:World)(B b cap:Nat)(ms:List M4)(g:Nat->Nat->Prop)(P:Nat->Prop)(k:Int)(hk:0<=k)(oN:k+(aI cM ms ms.length:Int)<=100000000)(hn:ms.length<=1048576)(ht:∀m∈ms,MT m)(hb:b<w.1.size)(Dh:P b)(OH:∀i q,i<ms.length->g i q->P q)(h:gQ.Part w B b ms.length ms g):
  Calls prog 37 #[.slice (some ⟨b,0,none⟩) ms.length cap,vI k] w fun e w'=>e=.returned (vI (k+(aI cM ms ms.length:Int)))/\aA P w w':=by
 have H:Hid ((∀m∈ms,MT m)/\b<w.1.size/\P b/\(∀i q,i<ms.length->g i q->P q)/\gQ.Part w B b ms.length ms g):=⟨ht,hb,Dh,OH,h⟩
 clear ht hb Dh OH h;go_enter func37,ntmps37;go_wp2;go_loopw[1,5] (fun v1 v5 wr=>∃j:Nat,j<=ms.length/\v5=vI j/\v1=vI (k+(aI cM ms j:Int))/\aA P w wr/\gQ.Rest wr B b ms.length ms g j) (fun _ v5 _=>ms.length-(intOf v5).toNat)
 case atStart=>exact⟨0,Nat.zero_le _,rfl,by rw[jd];simp,aA.refl _ _,H.out.2.2.2.2.rest⟩
 case round=>
  obtain⟨j,hj,rfl,rfl,kT,oP⟩:=hrel;have lu:=iy cM ms j;by_cases aK:j<ms.length
  ·have hd:=iP aK;obtain⟨⟨m0,m1,m2,m3,m4,m5⟩,bg,how⟩:=oP.at_ j _ aU hd;obtain⟨PK,PR,PD,om,kN,Rm⟩:=how;obtain⟨z0,d0,f0⟩:∃v,wr.cell? ⟨b,j*4,none⟩=some v/\wr.frozen? ⟨b,j*4,none⟩=false:=oP.rm (j*4) (show _<ms.length*4 by omega);have e1:wr.cell? ⟨b,j*4+1,none⟩=some (.slice m0 (aT ms j).af.length m1):=bg 1 _ rfl;have e2:wr.cell? ⟨b,j*4+2,none⟩=some (.slice m2 (aT ms j).g.length m3):=bg 2 _ rfl;have e3:wr.cell? ⟨b,j*4+3,none⟩=some (.slice m4 (aT ms j).ai.length m5):=bg 3 _ rfl;have hT:=H.out.1 _ (List.mem_of_getElem? hd);have lU:aI cM ms (j+1)=aI cM ms j+cM (aT ms j):=jb cM hd;have hle:=iy cM ms (j+1);have HO:Hid (aI cM ms (j+1)=aI cM ms j+(1+(aI cK (aT ms j).af (aT ms j).af.length+aI cR (aT ms j).g (aT ms j).g.length+(aT ms j).ai.length))/\k+(aI cM ms (j+1):Int)<=100000000):=⟨lU,by omega⟩
   have zZ:∀q,g j q->q≠b:=fun q hq=>oP.ne j q aK hq
   have bl:b<wr.1.size:=Nat.lt_of_lt_of_le H.out.2.1 kT.size
   have S1:Hid (∀u:Value,tY 2 rF wW mO (wr.setCell ⟨b,j*4,none⟩ u) PK m0 (aT ms j).af/\TY w (wr.setCell ⟨b,j*4,none⟩ u) B b ms g P j m2 m3 m4 m5 PR PD):=fun u=>by
    have dO:wr.1.size<=(wr.setCell ⟨b,j*4,none⟩ u).1.size:=by simp[World.setCell]
    exact⟨om.k.aL mO.aj dO (fun q _ hp=>Below.heap_setCell _ _ _ _ (zZ q (kN q (.inl hp)))),om.r.aL AtR.aj dO (fun q _ hp=>Below.heap_setCell _ _ _ _ (zZ q (kN q (.inr (.inl hp))))),om.n.aL dO (fun q _ hp=>Below.heap_setCell _ _ _ _ (zZ q (kN q (.inr (.inr hp))))),
     (ae (by omega)).trans e2,(ae (by omega)).trans e3,oP.up.set (show j*4<(j+1)*4 by omega) u,kT.trans (aA.rW wr u H.out.2.2.1),Nat.lt_of_lt_of_le bl dO⟩
   have HG:Hid ((∀q,PK q->g j q)/\(∀q,PR q->g j q)/\(∀q,PD q->g j q)/\(∀q,PK q->¬PR q)/\(∀q,PK q->¬PD q)/\(∀q,PR q->¬PD q)/\(∀q,g j q->q≠b)/\(∀q,g j q->P q)):=⟨fun q hq=>kN q (.inl hq),fun q hq=>kN q (.inr (.inl hq)),fun q hq=>kN q (.inr (.inr hq)),om.kr,om.kd,om.rd,zZ,fun q hq=>H.out.2.2.2.1 j q aK hq⟩
   have S2:Hid (∀u w1,aA PK (wr.setCell ⟨b,j*4,none⟩ u) w1->TY w w1 B b ms g P j m2 m3 m4 m5 PR PD):=fun u w1 k1=>by
    have R0:=(S1.out u).2;have QI:=k1.block b R0.lt (fun e=>HG.out.2.2.2.2.2.2.1 b (HG.out.1 b e) rfl);exact⟨R0.r.aL AtR.aj k1.size (fun q hq hp=>k1.block q hq (fun e=>HG.out.2.2.2.1 q e hp)),R0.n.aL k1.size (fun q hq hp=>k1.block q hq (fun e=>HG.out.2.2.2.2.1 q e hp)),(World.cell?_of_block (a:=⟨b,j*4+2,none⟩) QI).trans R0.e2,(World.cell?_of_block (a:=⟨b,j*4+3,none⟩) QI).trans R0.e3,R0.rest.kept k1 R0.lt aK HG.out.1,R0.kp.trans (k1.mono (fun q hq=>HG.out.2.2.2.2.2.2.2 q (HG.out.1 q hq))),Nat.lt_of_lt_of_le R0.lt k1.size⟩
   have HT:Hid (MT (aT ms j)):=hT;have jn:(j:Int)<(ms.length:Int):=by omega
   have g0:0<=k+(aI cM ms j:Int):=by omega
   have g1:k+(aI cM ms j:Int)<=100000000:=by omega
   clear kT oP bg om kN Rm hd lU hle zZ hT bl e2 e3 lu;generalize hK:k+(aI cM ms j:Int)=kj at *;go_wp2_with fail;refine(Tw _ PK m0 m1 (aT ms j).af (kj+1) (by omega) (by omega) HT.out.tk HT.out.k HT.out.ks (S1.out _).1).mono ?_;rintro e w1 ⟨rfl,k1,-⟩;have R1:Hid (TY w w1 B b ms g P j m2 m3 m4 m5 PR PD):=S2.out _ _ k1;clear k1 S1 S2 d0 f0 e1;have e2:=R1.out.e2;have tk:=HT.out.tk;have tr:=HT.out.tr;have tn:=HT.out.n;go_wp2_with fail;refine(Ty w1 PR m2 m3 (aT ms j).g _ (by omega) (by omega) HT.out.tr HT.out.r HT.out.rs R1.out.r).mono ?_;rintro e w2 ⟨rfl,k2,-⟩
   have R2:Hid (BO w2 PD m4 (aT ms j).ai/\w2.cell? ⟨b,j*4+3,none⟩=some (.slice m4 (aT ms j).ai.length m5)/\gQ.Rest w2 B b ms.length ms g (j+1)/\aA P w w2/\b<w2.1.size):=by
    have R0:=R1.out;have QI:=k2.block b R0.lt (fun e=>HG.out.2.2.2.2.2.2.1 b (HG.out.2.1 b e) rfl);exact⟨R0.n.aL k2.size (fun q hq hp=>k2.block q hq (fun e=>HG.out.2.2.2.2.2.1 q e hp)),(World.cell?_of_block (a:=⟨b,j*4+3,none⟩) QI).trans R0.e3,R0.rest.kept k2 R0.lt aK HG.out.2.1,R0.kp.trans (k2.mono (fun q hq=>HG.out.2.2.2.2.2.2.2 q (HG.out.2.1 q hq))),Nat.lt_of_lt_of_le R0.lt k2.size⟩
   clear k2 R1 e2;have e3:=R2.out.2.1;go_wp2_with fail;refine(Tx w2 PD m4 m5 (aT ms j).ai _ (by omega) (by omega) HT.out.n R2.out.1).mono ?_;rintro e w3 ⟨rfl,k3,-⟩;have R3:Hid (gQ.Rest w3 B b ms.length ms g (j+1)/\aA P w w3):=⟨R2.out.2.2.1.kept k3 R2.out.2.2.2.2 aK HG.out.2.2.1,R2.out.2.2.2.1.trans (k3.mono (fun q hq=>HG.out.2.2.2.2.2.2.2 q (HG.out.2.2.1 q hq)))⟩
   clear k3 R2 e3;go_wp2;exact⟨⟨j+1,by omega,by simp,by have:=HO.out.1;rw[this];congr 1;omega,R3.out.2,R3.out.1⟩,by simp[intOf];omega⟩
  ·obtain rfl:j=ms.length:=by omega
   have hd:decide ((ms.length:Int)<(ms.length:Int))=false:=by simp
   have KH:Hid (aA P w wr):=kT;clear kT oP;go_wp2;go_ret;exact⟨rfl,KH.out⟩
end
section
open Go.Proofs.Tryz
theorem Lp{P:Nat->Prop}{a b:World}(h:tx.aA P a b):aA P a b:=⟨h.os,h.tape,h.output,h.size,h.block⟩
def cT(t:tx.T7):Nat:=5+(5*t.b.length+5*t.ag.length)
structure Ub(w X:World)(B b:Nat)(ts:List tx.T7)(g:Nat->Nat->Prop)(P:Nat->Prop)(j:Nat)(a2:OA)(c2:Nat)(PS:Nat->Prop):Prop where
 s:tx.mP X PS a2 (aS ts j).ag
 e5:X.cell? ⟨b,j*7+5,none⟩=some (.slice a2 (aS ts j).ag.length c2)
 rest:gY.Rest X B b ts.length ts g (j+1)
 kp:aA P w X
 lt:b<X.1.size
theorem Vu(w:World)(B b cap:Nat)(ts:List tx.T7)(g:Nat->Nat->Prop)(P:Nat->Prop)(k:Int)(hk:0<=k)(oN:k+(aI cT ts ts.length:Int)<=100000000)(hn:ts.length<=1048576)(ht:∀t∈ts,KT.S t)(hb:b<w.1.size)(Dh:P b)(OH:∀i q,i<ts.length->g i q->P q)(h:gY.Part w B b ts.length ts g):
  Calls prog 38 #[.slice (some ⟨b,0,none⟩) ts.length cap,vI k] w fun e w'=>e=.returned (vI (k+(aI cT ts ts.length:Int)))/\aA P w w':=by
 have H:Hid ((∀t∈ts,KT.S t)/\b<w.1.size/\P b/\(∀i q,i<ts.length->g i q->P q)/\gY.Part w B b ts.length ts g):=⟨ht,hb,Dh,OH,h⟩
 clear ht hb Dh OH h;go_enter func38,ntmps38;go_wp2;go_loopw[1,5] (fun v1 v5 wr=>∃j:Nat,j<=ts.length/\v5=vI j/\v1=vI (k+(aI cT ts j:Int))/\aA P w wr/\gY.Rest wr B b ts.length ts g j) (fun _ v5 _=>ts.length-(intOf v5).toNat)
 case atStart=>exact⟨0,Nat.zero_le _,rfl,by rw[jd];simp,aA.refl _ _,H.out.2.2.2.2.rest⟩
 case round=>
  obtain⟨j,hj,rfl,rfl,kT,oP⟩:=hrel;have lu:=iy cT ts j;by_cases aK:j<ts.length
  ·have hd:=ib aK;obtain⟨⟨t0,t1,t2,t3⟩,bg,how⟩:=oP.at_ j _ aU hd;obtain⟨PR,PS,om,kN,Rm⟩:=how;obtain⟨z0,d0,f0⟩:∃v,wr.cell? ⟨b,j*7,none⟩=some v/\wr.frozen? ⟨b,j*7,none⟩=false:=oP.rm (j*7+0) (show _<ts.length*7 by omega);obtain⟨z1,d1,f1⟩:∃v,wr.cell? ⟨b,j*7+1,none⟩=some v/\wr.frozen? ⟨b,j*7+1,none⟩=false:=oP.rm (j*7+1) (show _<ts.length*7 by omega);obtain⟨z2,d2,f2⟩:∃v,wr.cell? ⟨b,j*7+2,none⟩=some v/\wr.frozen? ⟨b,j*7+2,none⟩=false:=oP.rm (j*7+2) (show _<ts.length*7 by omega);obtain⟨z3,d3,f3⟩:∃v,wr.cell? ⟨b,j*7+3,none⟩=some v/\wr.frozen? ⟨b,j*7+3,none⟩=false:=oP.rm (j*7+3) (show _<ts.length*7 by omega);have e4:wr.cell? ⟨b,j*7+4,none⟩=some (.slice t0 (aS ts j).b.length t1):=bg 4 _ rfl;have e5:wr.cell? ⟨b,j*7+5,none⟩=some (.slice t2 (aS ts j).ag.length t3):=bg 5 _ rfl;have hT:=H.out.1 _ (List.mem_of_getElem? hd);have lU:aI cT ts (j+1)=aI cT ts j+cT (aS ts j):=jb cT hd;have hle:=iy cT ts (j+1);have HO:Hid (aI cT ts (j+1)=aI cT ts j+(5+(5*(aS ts j).b.length+5*(aS ts j).ag.length))/\k+(aI cT ts (j+1):Int)<=100000000):=⟨lU,by omega⟩
   have zZ:∀q,g j q->q≠b:=fun q hq=>oP.ne j q aK hq
   have bl:b<wr.1.size:=Nat.lt_of_lt_of_le H.out.2.1 kT.size
   have S1:Hid (∀u0 u1 u2 u3:Value,tx.qG ((((wr.setCell ⟨b,j*7,none⟩ u0).setCell ⟨b,j*7+1,none⟩ u1).setCell ⟨b,j*7+2,none⟩ u2).setCell ⟨b,j*7+3,none⟩ u3) PR t0 (aS ts j).b/\Ub w ((((wr.setCell ⟨b,j*7,none⟩ u0).setCell ⟨b,j*7+1,none⟩ u1).setCell ⟨b,j*7+2,none⟩ u2).setCell ⟨b,j*7+3,none⟩ u3) B b ts g P j t2 t3 PS):=fun u0 u1 u2 u3=>by
    have ob:aQ b wr ((((wr.setCell ⟨b,j*7,none⟩ u0).setCell ⟨b,j*7+1,none⟩ u1).setCell ⟨b,j*7+2,none⟩ u2).setCell ⟨b,j*7+3,none⟩ u3):=((((aQ.refl b wr).setCell _ _).setCell _ _).setCell _ _).setCell _ _
    exact⟨om.r.aL (Nat.le_of_eq ob.size.symm) (fun q _ hp=>ob.block q (zZ q (kN q (.inl hp)))),om.s.aL (Nat.le_of_eq ob.size.symm) (fun q _ hp=>ob.block q (zZ q (kN q (.inr hp)))),
     (ae (by omega)).trans ((ae (by omega)).trans ((ae (by omega)).trans ((ae (by omega)).trans e5))),(((oP.up.set (show j*7<(j+1)*7 by omega) u0).set (show j*7+1<(j+1)*7 by omega) u1).set (show j*7+2<(j+1)*7 by omega) u2).set (show j*7+3<(j+1)*7 by omega) u3,kT.trans (aA.jW ob H.out.2.2.1),by rw[ob.size];exact bl⟩
   have HG:Hid ((∀q,PR q->g j q)/\(∀q,PS q->g j q)/\(∀q,PR q->¬PS q)/\(∀q,g j q->q≠b)/\(∀q,g j q->P q)):=⟨fun q hq=>kN q (.inl hq),fun q hq=>kN q (.inr hq),om.rs,zZ,fun q hq=>H.out.2.2.2.1 j q aK hq⟩
   have S2:Hid (∀u0 u1 u2 u3 w1,aA PR ((((wr.setCell ⟨b,j*7,none⟩ u0).setCell ⟨b,j*7+1,none⟩ u1).setCell ⟨b,j*7+2,none⟩ u2).setCell ⟨b,j*7+3,none⟩ u3) w1->Ub w w1 B b ts g P j t2 t3 PS):=fun u0 u1 u2 u3 w1 k1=>by
    have R0:=(S1.out u0 u1 u2 u3).2;have QI:=k1.block b R0.lt (fun e=>HG.out.2.2.2.1 b (HG.out.1 b e) rfl);exact⟨R0.s.aL k1.size (fun q hq hp=>k1.block q hq (fun e=>HG.out.2.2.1 q e hp)),(World.cell?_of_block (a:=⟨b,j*7+5,none⟩) QI).trans R0.e5,R0.rest.kept k1 R0.lt aK HG.out.1,R0.kp.trans (k1.mono (fun q hq=>HG.out.2.2.2.2 q (HG.out.1 q hq))),Nat.lt_of_lt_of_le R0.lt k1.size⟩
   have HT:Hid (KT.S (aS ts j)):=hT;have jn:(j:Int)<(ts.length:Int):=by omega
   have g0:0<=k+(aI cT ts j:Int):=by omega
   have g1:k+(aI cT ts j:Int)<=100000000:=by omega
   clear kT oP bg om kN Rm hd lU hle zZ hT bl e5 lu;generalize hK:k+(aI cT ts j:Int)=kj at *;have tr:=HT.out.1;have ts':=HT.out.2;go_wp2_with fail;refine(tx.PI _ PR t0 t1 (aS ts j).b _ (by omega) (by omega) HT.out.1 (S1.out _ _ _ _).1).mono ?_;rintro e w1 ⟨rfl,k1,-⟩;have k1:=Lp k1;have R1:Hid (Ub w w1 B b ts g P j t2 t3 PS):=S2.out _ _ _ _ _ k1;clear k1 S1 S2 d0 f0 d1 f1 d2 f2 d3 f3 e4;have e5:=R1.out.e5;go_wp2_with fail;refine(tx.PL w1 PS t2 t3 (aS ts j).ag _ (by omega) (by omega) HT.out.2 R1.out.s).mono ?_;rintro e w2 ⟨rfl,k2,-⟩;have k2:=Lp k2
   have R2:Hid (gY.Rest w2 B b ts.length ts g (j+1)/\aA P w w2/\b<w2.1.size):=by
    have R0:=R1.out;exact⟨R0.rest.kept k2 R0.lt aK HG.out.2.1,R0.kp.trans (k2.mono (fun q hq=>HG.out.2.2.2.2 q (HG.out.2.1 q hq))),Nat.lt_of_lt_of_le R0.lt k2.size⟩
   clear k2 R1 e5;obtain⟨z6,d6,f6⟩:∃v,w2.cell? ⟨b,j*7+6,none⟩=some v/\w2.frozen? ⟨b,j*7+6,none⟩=false:=R2.out.1.rm (j*7+6) (show _<ts.length*7 by omega);go_wp2;exact⟨⟨j+1,by omega,by simp,by have:=HO.out.1;rw[this];congr 1;omega,R2.out.2.1.trans (aA.rW w2 _ H.out.2.2.1),R2.out.1.set (show j*7+6<(j+1)*7 by omega) _⟩,by simp[intOf];omega⟩
  ·obtain rfl:j=ts.length:=by omega
   have hd:decide ((ts.length:Int)<(ts.length:Int))=false:=by simp
   have KH:Hid (aA P w wr):=kT;clear kT oP;go_wp2;go_ret;exact⟨rfl,KH.out⟩
end
section
open Go.Proofs.Tryz
theorem rG(w:World)(a:OA)(n cap:Nat)(k:Int)(hn:n<=1048576)(hk:0<=k)(oN:k<=1000000000)(hs:ll w w.1.size a n (marks n k)):
  Calls prog 81 #[.slice a n cap,vI k] w fun e w'=>e=.returned (vI (k+n))/\w'=w:=by
 obtain⟨_,hs⟩:=hs;go_enter func81,ntmps81;go_wp2;go_loop[1,5] (fun v1 v5=>∃j:Nat,j<=n/\v5=vI j/\v1=vI (k+j)) (fun _ v5=>n-(intOf v5).toNat)
 case atStart=>exact⟨0,Nat.zero_le _,rfl,by simp⟩
 case round=>
  obtain⟨j,hj,rfl,rfl⟩:=hrel;by_cases aK:j<n
  ·rcases hs with hs|⟨b,off,rfl,hb,h1⟩
   ·omega
   ·have c:=h1 j _ (Az n k j aK);have hq:(k+(j:Int) != k+(j:Int))=false:=by simp
    clear h1;go_wp2;exact⟨⟨j+1,by omega,by simp,by simp;omega⟩,by simp[intOf];omega⟩
  ·have:j=n:=by omega
   subst this;have hd:decide ((j:Int)<(j:Int))=false:=by simp
   clear hs;go_wp2;go_ret;exact⟨by simp,rfl⟩
end
section
open Go.Proofs.Tryz
variable {j:Nat}{k:Int}
theorem OV{p:Prop}(h:p):Hid p:=h
theorem RN{ks:List K2}(h:j<ks.length):(wZ ks k)[j]?=some (mkK ks k j):=by simp[wZ,h]
theorem RP{ks:List R4}(h:j<ks.length):(yQ ks k)[j]?=some (Ip ks k j):=by simp[yQ,h]
theorem Cg(w:World)(a:OA)(cap:Nat)(ks:List K2)(k:Int)(hk:0<=k)(oN:k<=500000000)(ht:aI cK ks ks.length<=100000000)(hn:ks.length<=1048576)(hl:∀c∈ks,c.cells.length<=1048576)(hs:yt w w.1.size a ks.length (wZ ks k)):
  Calls prog 82 #[.slice a ks.length cap,vI k] w fun e w'=>e=.returned (vI (k+aI cK ks ks.length))/\w'=w:=by
 obtain⟨_,hs⟩:=hs;have HL:=OV hl;clear hl;go_enter func82,ntmps82;go_wp2;go_loop[1,5] (fun v1 v5=>∃j:Nat,j<=ks.length/\v5=vI j/\v1=vI (k+(aI cK ks j:Int))) (fun _ v5=>ks.length-(intOf v5).toNat)
 case atStart=>exact⟨0,Nat.zero_le _,rfl,by rw[jd];simp⟩
 case round=>
  obtain⟨j,hj,rfl,rfl⟩:=hrel;have lu:=iy cK ks j;by_cases aK:j<ks.length
  ·rcases hs with hs|⟨b,off,rfl,hb,h1⟩
   ·omega
   have zX:ks[j]?=some (dD ks j):=eY aK;have hr:=h1 j _ (RN aK);have c0:=hr.c0;obtain⟨a',aW,c1,gM,kL⟩:=hr.c1;simp only[mkK,nS]at c0 c1 gM;have lU:Hid (aI cK ks (j+1)=aI cK ks j+cK (dD ks j)):=jb cK zX;have mh:=HL.out _ (List.mem_of_getElem? zX);have hm:=F7 w a' (dD ks j).cells.length aW (k+(aI cK ks j:Int)+1) mh (by omega) (by omega) gM;have dN:decide (k+(aI cK ks j:Int)+1+2*((dD ks j).cells.length:Int)<0)=false:=by simp;omega
   clear h1 hr gM kL zX;go_wp2_with fail;refine hm.mono ?_;clear hm;rintro e w ⟨rfl,rfl⟩;go_wp2;exact⟨⟨j+1,by omega,by simp,by rw[lU.out];simp[cK];omega⟩,by simp[intOf];omega⟩
  ·obtain rfl:j=ks.length:=by omega
   have hd:decide ((ks.length:Int)<(ks.length:Int))=false:=by simp
   clear hs;go_wp2;go_ret;exact⟨rfl,rfl⟩
theorem yC(w:World)(a:OA)(cap:Nat)(ks:List R4)(k:Int)(hk:0<=k)(oN:k<=500000000)(ht:aI cR ks ks.length<=100000000)(hn:ks.length<=1048576)(hl:∀c∈ks,c.ag.length<=1048576)(hs:Iz w w.1.size a ks.length (yQ ks k)):
  Calls prog 83 #[.slice a ks.length cap,vI k] w fun e w'=>e=.returned (vI (k+aI cR ks ks.length))/\w'=w:=by
 obtain⟨_,hs⟩:=hs;have HL:=OV hl;clear hl;go_enter func83,ntmps83;go_wp2;go_loop[1,5] (fun v1 v5=>∃j:Nat,j<=ks.length/\v5=vI j/\v1=vI (k+(aI cR ks j:Int))) (fun _ v5=>ks.length-(intOf v5).toNat)
 case atStart=>exact⟨0,Nat.zero_le _,rfl,by rw[jd];simp⟩
 case round=>
  obtain⟨j,hj,rfl,rfl⟩:=hrel;have lu:=iy cR ks j;by_cases aK:j<ks.length
  ·rcases hs with hs|⟨b,off,rfl,hb,h1⟩
   ·omega
   have zX:ks[j]?=some (atR ks j):=jy aK;have hr:=h1 j _ (RP aK);have c0:=hr.c0;have c1:=hr.c1;have c2:=hr.c2;obtain⟨a',aW,c3,gM,kL⟩:=hr.c3;simp only[Ip,iQ]at c0 c1 c2 c3 gM;have lU:Hid (aI cR ks (j+1)=aI cR ks j+cR (atR ks j)):=jb cR zX;have mh:=HL.out _ (List.mem_of_getElem? zX);have hm:=uk w a' (atR ks j).ag.length aW (k+(aI cR ks j:Int)+1+1+1) mh (by omega) (by omega) gM;have dN:decide (k+(aI cR ks j:Int)+1+1+1+5*((atR ks j).ag.length:Int)<0)=false:=by simp;omega
   clear h1 hr gM kL zX;go_wp2_with fail;refine hm.mono ?_;clear hm;rintro e w ⟨rfl,rfl⟩;go_wp2;exact⟨⟨j+1,by omega,by simp,by rw[lU.out];simp[cR];omega⟩,by simp[intOf];omega⟩
  ·obtain rfl:j=ks.length:=by omega
   have hd:decide ((ks.length:Int)<(ks.length:Int))=false:=by simp
   clear hs;go_wp2;go_ret;exact⟨rfl,rfl⟩
end
section
open Go.Proofs.Tryz
variable {B b j:Nat}{Q:Nat->Prop}{X Y:World}{g:Nat->Nat->Prop}{ms:List M4}
def Kd.Done{D V:Type}(K:Kd D V)(X:World)(B b:Nat)(ys:List D)(g:Nat->Nat->Prop)(f:Nat->D)(j:Nat):Prop:=∀i,i<j->i<ys.length->∃v,At X b (i*K.n) (K.cells v (f i))/\K.Ow X B v (f i) (g i)
theorem Kd.Done.set{D V:Type}{K:Kd D V}{ys:List D}{f:Nat->D}{o:Nat}(h:K.Done X B b ys g f j)(eO:∀i q,i<ys.length->g i q->q≠b)(ho:j*K.n<=o)(u:Value):K.Done (X.setCell ⟨b,o,none⟩ u) B b ys g f j:=fun i hi hl=>by
 obtain⟨v,h1,h2⟩:=h i hi hl;have hm:=Nat.mul_le_mul_right K.n (Nat.succ_le_of_lt hi);rw[Nat.succ_mul]at hm
 exact⟨v,fun q u' e=>by
  have hq:=(List.getElem?_eq_some_iff.1 e).1;rw[K.len]at hq
  exact(ae (by omega)).trans (h1 q u' e),K.aL h2 (by simp[World.setCell]) (fun q hq=>Below.heap_setCell _ _ _ _ (eO i q hl hq))⟩
theorem Kd.Done.kept{D V:Type}{K:Kd D V}{ys:List D}{f:Nat->D}(h:K.Done X B b ys g f j)(eO:∀i q,i<ys.length->g i q->q≠b)(UB:∀i j q,i<ys.length->j<ys.length->i≠j->g i q->¬g j q)(hk:aA Q X Y)(hb:b<X.1.size)(hj:j<ys.length)(hQ:∀q,Q q->g j q):K.Done Y B b ys g f j:=fun i hi hl=>by
 obtain⟨v,h1,h2⟩:=h i hi hl;have qQ:Y.1[b]?=X.1[b]?:=hk.block b hb (fun e=>eO j b hj (hQ b e) rfl);exact⟨v,h1.aj qQ,K.aL h2 hk.size (fun q hq=>hk.block q (K.of h2 hq).2 (fun e=>UB i j q hl hj (by omega) hq (hQ q e)))⟩
theorem Kd.Done.step{D V:Type}{K:Kd D V}{ys:List D}{f:Nat->D}(h:K.Done X B b ys g f j)(v:V)(h1:At X b (j*K.n) (K.cells v (f j)))(h2:K.Ow X B v (f j) (g j)):K.Done X B b ys g f (j+1):=fun i hi hl=>by
 by_cases e:i=j
 ·subst e;exact⟨v,h1,h2⟩
 ·exact h i (by omega) hl
theorem Kd.Done.part{D V:Type}{K:Kd D V}{ys:List D}{f:Nat->D}(h:K.Done X B b ys g f ys.length)(hr:K.Rest X B b ys.length ys g ys.length):K.Part X B b ys.length ((List.range ys.length).map f) g:=by
 refine⟨hr.rm,fun i d hi=>?_,fun i q hi=>hr.ne i q (by simpa using hi),fun i j q hi hj=>hr.ap i j q (by simpa using hi) (by simpa using hj)⟩;have hl:i<ys.length:=by have:=(List.getElem?_eq_some_iff.1 hi).1;simpa using this
 simp[hl]at hi;subst hi;exact h i hl hl
def vF(ms:List M4)(k:Int)(i:Nat):M4:=⟨(k+aI cM ms i)%3==0,wZ (aT ms i).af (k+aI cM ms i+1),yQ (aT ms i).g (k+aI cM ms i+1+aI cK (aT ms i).af (aT ms i).af.length),marks (aT ms i).ai.length (k+aI cM ms i+1+aI cK (aT ms i).af (aT ms i).af.length+aI cR (aT ms i).g (aT ms i).g.length)⟩
def xc(ms:List M4)(k:Int):List M4:=(List.range ms.length).map (vF ms k)
theorem AP(ms:List M4)(k:Int):(xc ms k).length=ms.length:=by simp[xc]
theorem RO{k:Int}(h:j<ms.length):(xc ms k)[j]?=some (vF ms k j):=by simp[xc,h]
structure Wu(w X:World)(B b:Nat)(ms:List M4)(g:Nat->Nat->Prop)(P:Nat->Prop)(f:Nat->M4)(j:Nat)(x:Bool)(a1:OA)(c1:Nat)(a2:OA)(c2:Nat)(a3:OA)(c3:Nat)(ks:List K2)(rs:List R4)(zs:List Int)(PK PR PD:Nat->Prop):Prop where
 k:tY 2 rF wW mO X PK a1 ks
 r:tY 4 qP yL AtR X PR a2 rs
 n:BO X PD a3 zs
 at_:At X b (j*4) [.bool x,.slice a1 ks.length c1,.slice a2 rs.length c2,.slice a3 zs.length c3]
 rest:gQ.Rest X B b ms.length ms g (j+1)
 done:gQ.Done X B b ms g f j
 kp:aA P w X
 lt:b<X.1.size
theorem Wu.step{w:World}{P:Nat->Prop}{f:Nat->M4}{x:Bool}{a1:OA}{c1:Nat}{a2:OA}{c2:Nat}{a3:OA}{c3:Nat}{ks ks':List K2}{rs rs':List R4}{zs zs':List Int}{PK PR PD:Nat->Prop}(h:Wu w X B b ms g P f j x a1 c1 a2 c2 a3 c3 ks rs zs PK PR PD)(hj:j<ms.length)(hk:aA Q X Y)(hQ:∀q,Q q->g j q)(hP:∀q,g j q->P q)(k':tY 2 rF wW mO Y PK a1 ks')(lk:ks'.length=ks.length)(r':tY 4 qP yL AtR Y PR a2 rs')(lr:rs'.length=rs.length)(n':BO Y PD a3 zs')(lz:zs'.length=zs.length):Wu w Y B b ms g P f j x a1 c1 a2 c2 a3 c3 ks' rs' zs' PK PR PD:=by
 have QI:=hk.block b h.lt (fun e=>h.rest.ne j b hj (hQ b e) rfl);refine⟨k',r',n',?_,h.rest.kept hk h.lt hj hQ,h.done.kept h.rest.ne h.rest.ap hk h.lt hj hQ,h.kp.trans (hk.mono (fun q hq=>hP q (hQ q hq))),Nat.lt_of_lt_of_le h.lt hk.size⟩;rw[lk,lr,lz];exact h.at_.aj QI
theorem Vr(w:World)(B b cap:Nat)(ms:List M4)(g:Nat->Nat->Prop)(P:Nat->Prop)(k:Int)(hk:0<=k)(oN:k+(aI cM ms ms.length:Int)<=100000000)(hn:ms.length<=1048576)(ht:∀m∈ms,MT m)(hb:b<w.1.size)(Dh:P b)(OH:∀i q,i<ms.length->g i q->P q)(h:gQ.Part w B b ms.length ms g):
  Calls prog 37 #[.slice (some ⟨b,0,none⟩) ms.length cap,vI k] w fun e w'=>e=.returned (vI (k+(aI cM ms ms.length:Int)))/\aA P w w'/\gQ.Part w' B b ms.length (xc ms k) g:=by
 have H:Hid ((∀m∈ms,MT m)/\b<w.1.size/\P b/\(∀i q,i<ms.length->g i q->P q)/\gQ.Part w B b ms.length ms g):=⟨ht,hb,Dh,OH,h⟩
 clear ht hb Dh OH h;go_enter func37,ntmps37;go_wp2;go_loopw[1,5] (fun v1 v5 wr=>∃j:Nat,j<=ms.length/\v5=vI j/\v1=vI (k+(aI cM ms j:Int))/\aA P w wr/\gQ.Rest wr B b ms.length ms g j/\gQ.Done wr B b ms g (vF ms k) j) (fun _ v5 _=>ms.length-(intOf v5).toNat)
 case atStart=>exact⟨0,Nat.zero_le _,rfl,by rw[jd];simp,aA.refl _ _,H.out.2.2.2.2.rest,fun i hi=>absurd hi (Nat.not_lt_zero i)⟩
 case round=>
  obtain⟨j,hj,rfl,rfl,kT,oP,El⟩:=hrel;have lu:=iy cM ms j;by_cases aK:j<ms.length
  ·have hd:=iP aK;obtain⟨⟨m0,m1,m2,m3,m4,m5⟩,bg,how⟩:=oP.at_ j _ aU hd;obtain⟨PK,PR,PD,om,kN,Rm⟩:=how;obtain⟨z0,d0,f0⟩:∃v,wr.cell? ⟨b,j*4,none⟩=some v/\wr.frozen? ⟨b,j*4,none⟩=false:=oP.rm (j*4) (show _<ms.length*4 by omega);have e1:wr.cell? ⟨b,j*4+1,none⟩=some (.slice m0 (aT ms j).af.length m1):=bg 1 _ rfl;have e2:wr.cell? ⟨b,j*4+2,none⟩=some (.slice m2 (aT ms j).g.length m3):=bg 2 _ rfl;have e3:wr.cell? ⟨b,j*4+3,none⟩=some (.slice m4 (aT ms j).ai.length m5):=bg 3 _ rfl;have hT:=H.out.1 _ (List.mem_of_getElem? hd);have lU:aI cM ms (j+1)=aI cM ms j+cM (aT ms j):=jb cM hd;have hle:=iy cM ms (j+1);have HO:Hid (aI cM ms (j+1)=aI cM ms j+(1+(aI cK (aT ms j).af (aT ms j).af.length+aI cR (aT ms j).g (aT ms j).g.length+(aT ms j).ai.length))/\k+(aI cM ms (j+1):Int)<=100000000):=⟨lU,by omega⟩
   have zZ:∀q,g j q->q≠b:=fun q hq=>oP.ne j q aK hq
   have bl:b<wr.1.size:=Nat.lt_of_lt_of_le H.out.2.1 kT.size;obtain⟨V,hV⟩:∃V,V=wr.setCell ⟨b,j*4,none⟩ (.bool ((k+(aI cM ms j:Int))%3==0)):=⟨_,rfl⟩
   have S1:Hid (Wu w V B b ms g P (vF ms k) j ((k+(aI cM ms j:Int))%3==0) m0 m1 m2 m3 m4 m5 (aT ms j).af (aT ms j).g (aT ms j).ai PK PR PD):=by
    rw[hV];have dO:wr.1.size<=(wr.setCell ⟨b,j*4,none⟩ (.bool ((k+(aI cM ms j:Int))%3==0))).1.size:=by simp[World.setCell]
    refine⟨om.k.aL mO.aj dO (fun q _ hp=>Below.heap_setCell _ _ _ _ (zZ q (kN q (.inl hp)))),om.r.aL AtR.aj dO (fun q _ hp=>Below.heap_setCell _ _ _ _ (zZ q (kN q (.inr (.inl hp))))),om.n.aL dO (fun q _ hp=>Below.heap_setCell _ _ _ _ (zZ q (kN q (.inr (.inr hp))))),
     ?_,oP.up.set (show j*4<(j+1)*4 by omega) _,El.set oP.ne (show j*4<=j*4 by omega) _,kT.trans (aA.rW wr _ H.out.2.2.1),Nat.lt_of_lt_of_le bl dO⟩
    intro i u hu;rcases i with _|_|_|_|i
    ·simp at hu;subst hu;exact ax d0
    ·simp at hu;subst hu;exact(ae (by omega)).trans e1
    ·simp at hu;subst hu;exact(ae (by omega)).trans e2
    ·simp at hu;subst hu;exact(ae (by omega)).trans e3
    ·simp at hu
   have HG:Hid ((∀q,PK q->g j q)/\(∀q,PR q->g j q)/\(∀q,PD q->g j q)/\(∀q,PK q->¬PR q)/\(∀q,PK q->¬PD q)/\(∀q,PR q->¬PD q)/\(∀q,g j q->P q)/\(∀q,PK q->B<=q)/\(∀q,PR q->B<=q)/\(∀q,PD q->B<=q)/\(∀q,g j q->B<=q/\q<wr.1.size)/\wr.1.size<=V.1.size):=⟨fun q hq=>kN q (.inl hq),fun q hq=>kN q (.inr (.inl hq)),fun q hq=>kN q (.inr (.inr hq)),om.kr,om.kd,om.rd,fun q hq=>H.out.2.2.2.1 j q aK hq,om.kB,om.rB,om.dB,Rm,by rw[hV];simp[World.setCell]⟩
   have HT:Hid (MT (aT ms j)):=hT;have jn:(j:Int)<(ms.length:Int):=by omega
   have g0:0<=k+(aI cM ms j:Int):=by omega
   have g1:k+(aI cM ms j:Int)<=100000000:=by omega
   have HI:Hid (vF ms k j=⟨(k+aI cM ms j)%3==0,wZ (aT ms j).af (k+aI cM ms j+1),yQ (aT ms j).g (k+aI cM ms j+1+aI cK (aT ms j).af (aT ms j).af.length),marks (aT ms j).ai.length (k+aI cM ms j+1+aI cK (aT ms j).af (aT ms j).af.length+aI cR (aT ms j).g (aT ms j).g.length)⟩):=rfl;clear kT oP El bg om kN Rm hd lU hle zZ hT bl e2 e3 lu;generalize hK:k+(aI cM ms j:Int)=kj at *;go_wp2_with fail;rw[<-hV];clear hV;refine(Tw V PK m0 m1 (aT ms j).af (kj+1) (by omega) (by omega) HT.out.tk HT.out.k HT.out.ks S1.out.k).mono ?_;rintro e w1 ⟨rfl,k1,o1⟩;have R1:Hid (Wu w w1 B b ms g P (vF ms k) j (kj%3==0) m0 m1 m2 m3 m4 m5 (wZ (aT ms j).af (kj+1)) (aT ms j).g (aT ms j).ai PK PR PD/\V.1.size<=w1.1.size):=⟨S1.out.step aK k1 HG.out.1 HG.out.2.2.2.2.2.2.1 o1 (rT _ _) (S1.out.r.aL AtR.aj k1.size (fun q hq hp=>k1.block q hq (fun e=>HG.out.2.2.2.1 q e hp))) rfl (S1.out.n.aL k1.size (fun q hq hp=>k1.block q hq (fun e=>HG.out.2.2.2.2.1 q e hp))) rfl,k1.size⟩
   clear k1 o1 S1 d0 f0 e1;have e2:w1.cell? ⟨b,j*4+2,none⟩=some (.slice m2 (aT ms j).g.length m3):=R1.out.1.at_ 2 _ rfl;have tk:=HT.out.tk;have tr:=HT.out.tr;have tn:=HT.out.n;go_wp2_with fail;refine(Ty w1 PR m2 m3 (aT ms j).g _ (by omega) (by omega) HT.out.tr HT.out.r HT.out.rs R1.out.1.r).mono ?_;rintro e w2 ⟨rfl,k2,o2⟩;have R2:Hid (Wu w w2 B b ms g P (vF ms k) j (kj%3==0) m0 m1 m2 m3 m4 m5 (wZ (aT ms j).af (kj+1)) (yQ (aT ms j).g (kj+1+aI cK (aT ms j).af (aT ms j).af.length)) (aT ms j).ai PK PR PD/\V.1.size<=w2.1.size):=⟨R1.out.1.step aK k2 HG.out.2.1 HG.out.2.2.2.2.2.2.1 (R1.out.1.k.aL mO.aj k2.size (fun q hq hp=>k2.block q hq (fun e=>HG.out.2.2.2.1 q hp e))) rfl o2 (rU _ _) (R1.out.1.n.aL k2.size (fun q hq hp=>k2.block q hq (fun e=>HG.out.2.2.2.2.2.1 q e hp))) rfl,Nat.le_trans R1.out.2 k2.size⟩
   clear k2 o2 R1 e2;have e3:w2.cell? ⟨b,j*4+3,none⟩=some (.slice m4 (aT ms j).ai.length m5):=R2.out.1.at_ 3 _ rfl;go_wp2_with fail;refine(Tx w2 PD m4 m5 (aT ms j).ai _ (by omega) (by omega) HT.out.n R2.out.1.n).mono ?_;rintro e w3 ⟨rfl,k3,o3⟩
   have R3:Hid (gQ.Rest w3 B b ms.length ms g (j+1)/\aA P w w3/\gQ.Done w3 B b ms g (vF ms k) (j+1)):=by
    have R0:=R2.out.1.step aK k3 HG.out.2.2.1 HG.out.2.2.2.2.2.2.1 (R2.out.1.k.aL mO.aj k3.size (fun q hq hp=>k3.block q hq (fun e=>HG.out.2.2.2.2.1 q hp e))) rfl (R2.out.1.r.aL AtR.aj k3.size (fun q hq hp=>k3.block q hq (fun e=>HG.out.2.2.2.2.2.1 q hp e))) rfl o3 (mH _ _);obtain⟨h1,h2,h3,h4,h5,h6,h7,h8,h9,cG,Zp,uI⟩:=HG.out;have dO:=Nat.le_trans R2.out.2 k3.size;refine⟨R0.rest,R0.kp,R0.done.step ⟨m0,m1,m2,m3,m4,m5⟩ ?_ ?_⟩
    ·rw[HI.out];exact R0.at_
    ·rw[HI.out];exact⟨PK,PR,PD,⟨R0.k,R0.r,R0.n,h4,h5,h6,h8,h9,cG⟩,fun q hq=>by rcases hq with hq|hq|hq;exact h1 q hq;exact h2 q hq;exact h3 q hq,fun q hq=>⟨(Zp q hq).1,by have:=(Zp q hq).2;omega⟩⟩
   clear k3 o3 R2 e3;go_wp2;exact⟨⟨j+1,by omega,by simp,by have:=HO.out.1;rw[this];congr 1;omega,R3.out.2.1,R3.out.1,R3.out.2.2⟩,by simp[intOf];omega⟩
  ·obtain rfl:j=ms.length:=by omega
   have hd:decide ((ms.length:Int)<(ms.length:Int))=false:=by simp
   have KH:Hid (aA P w wr/\gQ.Part wr B b ms.length (xc ms k) g):=⟨kT,El.part oP⟩
   clear kT oP El;go_wp2;go_ret;exact⟨rfl,KH.out.1,KH.out.2⟩
theorem UH(w:World)(a:OA)(cap:Nat)(ms:List M4)(k:Int)(hk:0<=k)(oN:k+(aI cM ms ms.length:Int)<=100000000)(hn:ms.length<=1048576)(ht:∀m∈ms,MT m)(h:gQ.pK w a (xc ms k)):
  Calls prog 40 #[.slice a ms.length cap,vI k] w fun e w'=>e=.returned (vI (k+(aI cM ms ms.length:Int)))/\Below w.1.size w w':=by
 have H:Hid ((∀m∈ms,MT m)/\gQ.pK w a (xc ms k)):=⟨ht,h⟩
 clear ht h;go_enter func40,ntmps40;go_wp2;go_loopw[1,5] (fun v1 v5 wr=>∃j:Nat,j<=ms.length/\v5=vI j/\v1=vI (k+(aI cM ms j:Int))/\Below w.1.size w wr) (fun _ v5 _=>ms.length-(intOf v5).toNat)
 case atStart=>exact⟨0,Nat.zero_le _,rfl,by rw[jd];simp,aN⟩
 case round=>
  obtain⟨j,hj,rfl,rfl,aD⟩:=hrel;have lu:=iy cM ms j;by_cases aK:j<ms.length
  ·have hd:=iP aK;have fG:=H.out.2.later aD;rcases fG with h0|⟨b,off,rfl,hb,fG⟩
   ·have:=AP ms k;rw[h0]at this;simp at this;omega
   obtain⟨⟨m0,m1,m2,m3,m4,m5⟩,bg,how⟩:=fG j _ (RO aK);have e0:wr.cell? ⟨b,off+j*4,none⟩=some (.bool ((k+(aI cM ms j:Int))%3==0)):=bg 0 _ rfl;have e1:wr.cell? ⟨b,off+j*4+1,none⟩=some (.slice m0 (vF ms k j).af.length m1):=bg 1 _ rfl;have e2:wr.cell? ⟨b,off+j*4+2,none⟩=some (.slice m2 (vF ms k j).g.length m3):=bg 2 _ rfl;have e3:wr.cell? ⟨b,off+j*4+3,none⟩=some (.slice m4 (vF ms k j).ai.length m5):=bg 3 _ rfl;have l1:(vF ms k j).af.length=(aT ms j).af.length:=rT _ _;have l2:(vF ms k j).g.length=(aT ms j).g.length:=rU _ _;have l3:(vF ms k j).ai.length=(aT ms j).ai.length:=mH _ _;rw[l1]at e1;rw[l2]at e2;rw[l3]at e3;obtain⟨sk,sr,sn⟩:=how;simp only at sk sr sn;rw[l1]at sk;rw[l2]at sr;rw[l3]at sn;have hT:=H.out.1 _ (List.mem_of_getElem? hd);have lU:aI cM ms (j+1)=aI cM ms j+cM (aT ms j):=jb cM hd;have hle:=iy cM ms (j+1);have HO:Hid (aI cM ms (j+1)=aI cM ms j+(1+(aI cK (aT ms j).af (aT ms j).af.length+aI cR (aT ms j).g (aT ms j).g.length+(aT ms j).ai.length))/\k+(aI cM ms (j+1):Int)<=100000000):=⟨lU,by omega⟩
   have S:Hid (Below w.1.size w wr/\yt wr wr.1.size m0 (aT ms j).af.length (wZ (aT ms j).af (k+aI cM ms j+1))/\Iz wr wr.1.size m2 (aT ms j).g.length (yQ (aT ms j).g (k+aI cM ms j+1+aI cK (aT ms j).af (aT ms j).af.length))/\ll wr wr.1.size m4 (aT ms j).ai.length (marks (aT ms j).ai.length (k+aI cM ms j+1+aI cK (aT ms j).af (aT ms j).af.length+aI cR (aT ms j).g (aT ms j).g.length))/\b<wr.1.size):=⟨aD,sk,sr,sn,hb⟩
   have HT:Hid (MT (aT ms j)):=hT;have jn:(j:Int)<(ms.length:Int):=by omega
   have g0:0<=k+(aI cM ms j:Int):=by omega
   have g1:k+(aI cM ms j:Int)<=100000000:=by omega
   clear aD fG bg sk sr sn hd lU hle hT hb l1 l2 l3 lu;have tk:=HT.out.tk;have tr:=HT.out.tr;have tn:=HT.out.n;generalize hK:k+(aI cM ms j:Int)=kj at *;have dx:((kj%3==0) != (kj%3==0))=false:=by simp
   have d1:decide (kj+1+(aI cK (aT ms j).af (aT ms j).af.length:Int)<0)=false:=by simp;omega
   have d2:decide (kj+1+(aI cK (aT ms j).af (aT ms j).af.length:Int)+(aI cR (aT ms j).g (aT ms j).g.length:Int)<0)=false:=by simp;omega
   have d3:decide (kj+1+(aI cK (aT ms j).af (aT ms j).af.length:Int)+(aI cR (aT ms j).g (aT ms j).g.length:Int)+((aT ms j).ai.length:Int)<0)=false:=by simp;omega
   go_wp2_with fail;refine(Cg wr m0 m1 (aT ms j).af (kj+1) (by omega) (by omega) HT.out.tk HT.out.k HT.out.ks S.out.2.1).mono ?_;rintro e w1 ⟨rfl,rfl⟩;go_wp2_with fail;refine(yC w1 m2 m3 (aT ms j).g _ (by omega) (by omega) HT.out.tr HT.out.r HT.out.rs S.out.2.2.1).mono ?_;rintro e w2 ⟨rfl,rfl⟩;go_wp2_with fail;refine(rG w2 m4 (aT ms j).ai.length m5 _ (by omega) (by omega) (by omega) S.out.2.2.2.1).mono ?_;rintro e w3 ⟨rfl,rfl⟩;go_wp2;exact⟨⟨j+1,by omega,by simp,by have:=HO.out.1;rw[this];congr 1;omega,S.out.1⟩,by simp[intOf];omega⟩
  ·obtain rfl:j=ms.length:=by omega
   have hd:decide ((ms.length:Int)<(ms.length:Int))=false:=by simp
   have KH:Hid (Below w.1.size w wr):=aD;clear aD;go_wp2;go_ret;exact⟨rfl,KH.out⟩
end
section
open Go.Proofs.Tryz
variable {X:World}{b j:Nat}{cs:List Value}{ts:List tx.T7}
def Vv(t:tx.T7)(kk:Int):tx.T7:=⟨kk,kk+1,kk+1+1,kk+1+1+1,tx.jl (kk+1+1+1+1) t.b.length,tx.fT (kk+1+1+1+1+5*(t.b.length:Int)) t.ag.length,kk+1+1+1+1+5*(t.b.length:Int)+5*(t.ag.length:Int)⟩
def xe(ts:List tx.T7)(k:Int)(i:Nat):tx.T7:=Vv (aS ts i) (k+aI cT ts i)
def xg(ts:List tx.T7)(k:Int):List tx.T7:=(List.range ts.length).map (xe ts k)
theorem AU(ts:List tx.T7)(k:Int):(xg ts k).length=ts.length:=by simp[xg]
theorem RQ{k:Int}(h:j<ts.length):(xg ts k)[j]?=some (xe ts k j):=by simp[xg,h]
theorem At.put{o i:Nat}(h:At X b o cs)(hi:i<cs.length)(u:Value):At (X.setCell ⟨b,o+i,none⟩ u) b o (cs.set i u):=fun j v hv=>by
 by_cases hj:i=j
 ·subst hj;rw[List.getElem?_set_self hi]at hv;obtain rfl:=Option.some.inj hv;exact ax (h i _ (List.getElem?_eq_getElem hi))
 ·rw[List.getElem?_set_ne hj]at hv;exact(ae (by omega)).trans (h j v hv)
structure QA(w X:World)(B b:Nat)(ts:List tx.T7)(g:Nat->Nat->Prop)(P:Nat->Prop)(f:Nat->tx.T7)(j:Nat)(cs:List Value)(a1 a2:OA)(ns:List tx.N5)(ss:List S5)(PR PS:Nat->Prop):Prop where
 r:tx.qG X PR a1 ns
 s:tx.mP X PS a2 ss
 at_:At X b (j*7) cs
 rest:gY.Rest X B b ts.length ts g (j+1)
 done:gY.Done X B b ts g f j
 kp:aA P w X
 lt:b<X.1.size
theorem QA.put{w X:World}{B b:Nat}{ts:List tx.T7}{g:Nat->Nat->Prop}{P:Nat->Prop}{f:Nat->tx.T7}{j:Nat}{cs:List Value}{a1 a2:OA}{ns:List tx.N5}{ss:List S5}{PR PS:Nat->Prop}(h:QA w X B b ts g P f j cs a1 a2 ns ss PR PS)(hj:j<ts.length)(Dh:P b)(h1:∀q,PR q->g j q)(h2:∀q,PS q->g j q)(i:Nat)(hi:i<cs.length)(h7:i<7)(u:Value):QA w (X.setCell ⟨b,j*7+i,none⟩ u) B b ts g P f j (cs.set i u) a1 a2 ns ss PR PS:=by
 have dO:X.1.size<=(X.setCell ⟨b,j*7+i,none⟩ u).1.size:=by simp[World.setCell]
 exact⟨h.r.aL dO (fun q _ hp=>Below.heap_setCell _ _ _ _ (h.rest.ne j q hj (h1 q hp))),h.s.aL dO (fun q _ hp=>Below.heap_setCell _ _ _ _ (h.rest.ne j q hj (h2 q hp))),h.at_.put hi u,h.rest.set (show j*7+i<(j+1)*7 by omega) u,h.done.set h.rest.ne (show j*7<=j*7+i by omega) u,h.kp.trans (aA.rW X u Dh),Nat.lt_of_lt_of_le h.lt dO⟩
theorem QA.step{w Y:World}{B:Nat}{g:Nat->Nat->Prop}{P:Nat->Prop}{f:Nat->tx.T7}{a1 a2:OA}{ns ns':List tx.N5}{ss ss':List S5}{PR PS Q:Nat->Prop}(h:QA w X B b ts g P f j cs a1 a2 ns ss PR PS)(hj:j<ts.length)(hk:aA Q X Y)(hQ:∀q,Q q->g j q)(hP:∀q,g j q->P q)(r':tx.qG Y PR a1 ns')(s':tx.mP Y PS a2 ss'):QA w Y B b ts g P f j cs a1 a2 ns' ss' PR PS:=by
 have QI:=hk.block b h.lt (fun e=>h.rest.ne j b hj (hQ b e) rfl);exact⟨r',s',h.at_.aj QI,h.rest.kept hk h.lt hj hQ,h.done.kept h.rest.ne h.rest.ap hk h.lt hj hQ,h.kp.trans (hk.mono (fun q hq=>hP q (hQ q hq))),Nat.lt_of_lt_of_le h.lt hk.size⟩
theorem Vt(w:World)(B b cap:Nat)(ts:List tx.T7)(g:Nat->Nat->Prop)(P:Nat->Prop)(k:Int)(hk:0<=k)(oN:k+(aI cT ts ts.length:Int)<=100000000)(hn:ts.length<=1048576)(ht:∀t∈ts,KT.S t)(hb:b<w.1.size)(Dh:P b)(OH:∀i q,i<ts.length->g i q->P q)(h:gY.Part w B b ts.length ts g):
  Calls prog 38 #[.slice (some ⟨b,0,none⟩) ts.length cap,vI k] w fun e w'=>e=.returned (vI (k+(aI cT ts ts.length:Int)))/\aA P w w'/\gY.Part w' B b ts.length (xg ts k) g:=by
 have H:Hid ((∀t∈ts,KT.S t)/\b<w.1.size/\P b/\(∀i q,i<ts.length->g i q->P q)/\gY.Part w B b ts.length ts g):=⟨ht,hb,Dh,OH,h⟩
 clear ht hb Dh OH h;go_enter func38,ntmps38;go_wp2;go_loopw[1,5] (fun v1 v5 wr=>∃j:Nat,j<=ts.length/\v5=vI j/\v1=vI (k+(aI cT ts j:Int))/\aA P w wr/\gY.Rest wr B b ts.length ts g j/\gY.Done wr B b ts g (xe ts k) j) (fun _ v5 _=>ts.length-(intOf v5).toNat)
 case atStart=>exact⟨0,Nat.zero_le _,rfl,by rw[jd];simp,aA.refl _ _,H.out.2.2.2.2.rest,fun i hi=>absurd hi (Nat.not_lt_zero i)⟩
 case round=>
  obtain⟨j,hj,rfl,rfl,kT,oP,El⟩:=hrel;have lu:=iy cT ts j;by_cases aK:j<ts.length
  ·have hd:=ib aK;obtain⟨⟨t0,t1,t2,t3⟩,bg,how⟩:=oP.at_ j _ aU hd;obtain⟨PR,PS,om,kN,Rm⟩:=how;obtain⟨z0,d0,f0⟩:∃v,wr.cell? ⟨b,j*7,none⟩=some v/\wr.frozen? ⟨b,j*7,none⟩=false:=oP.rm (j*7+0) (show _<ts.length*7 by omega);obtain⟨z1,d1,f1⟩:∃v,wr.cell? ⟨b,j*7+1,none⟩=some v/\wr.frozen? ⟨b,j*7+1,none⟩=false:=oP.rm (j*7+1) (show _<ts.length*7 by omega);obtain⟨z2,d2,f2⟩:∃v,wr.cell? ⟨b,j*7+2,none⟩=some v/\wr.frozen? ⟨b,j*7+2,none⟩=false:=oP.rm (j*7+2) (show _<ts.length*7 by omega);obtain⟨z3,d3,f3⟩:∃v,wr.cell? ⟨b,j*7+3,none⟩=some v/\wr.frozen? ⟨b,j*7+3,none⟩=false:=oP.rm (j*7+3) (show _<ts.length*7 by omega);have e4:wr.cell? ⟨b,j*7+4,none⟩=some (.slice t0 (aS ts j).b.length t1):=bg 4 _ rfl;have hT:=H.out.1 _ (List.mem_of_getElem? hd);have lU:aI cT ts (j+1)=aI cT ts j+cT (aS ts j):=jb cT hd;have hle:=iy cT ts (j+1);have HO:Hid (aI cT ts (j+1)=aI cT ts j+(5+(5*(aS ts j).b.length+5*(aS ts j).ag.length))/\k+(aI cT ts (j+1):Int)<=100000000):=⟨lU,by omega⟩
   have bl:b<wr.1.size:=Nat.lt_of_lt_of_le H.out.2.1 kT.size;have HI:Hid (xe ts k j=Vv (aS ts j) (k+(aI cT ts j:Int))):=rfl;have HG:Hid ((∀q,PR q->g j q)/\(∀q,PS q->g j q)/\(∀q,PR q->¬PS q)/\(∀q,g j q->P q)/\(∀q,PR q->B<=q)/\(∀q,PS q->B<=q)/\(∀q,g j q->B<=q/\q<wr.1.size)):=⟨fun q hq=>kN q (.inl hq),fun q hq=>kN q (.inr hq),om.rs,fun q hq=>H.out.2.2.2.1 j q aK hq,fun q hq=>(om.rB q hq).1,fun q hq=>(om.sB q hq).1,Rm⟩
   have S0:QA w wr B b ts g P (xe ts k) j [vI (aS ts j).id,vI (aS ts j).l,vI (aS ts j).o,vI (aS ts j).u,.slice t0 (aS ts j).b.length t1,.slice t2 (aS ts j).ag.length t3,vI (aS ts j).az] t0 t2 (aS ts j).b (aS ts j).ag PR PS:=⟨om.r,om.s,bg,oP.up,El,kT,bl⟩
   obtain⟨V,hV⟩:∃V,V=((((wr.setCell ⟨b,j*7,none⟩ (vI (k+(aI cT ts j:Int)))).setCell ⟨b,j*7+1,none⟩ (vI (k+(aI cT ts j:Int)+1))).setCell ⟨b,j*7+2,none⟩ (vI (k+(aI cT ts j:Int)+1+1))).setCell ⟨b,j*7+3,none⟩ (vI (k+(aI cT ts j:Int)+1+1+1))):=⟨_,rfl⟩
   have S1:Hid (QA w V B b ts g P (xe ts k) j [vI (k+(aI cT ts j:Int)),vI (k+(aI cT ts j:Int)+1),vI (k+(aI cT ts j:Int)+1+1),vI (k+(aI cT ts j:Int)+1+1+1),.slice t0 (aS ts j).b.length t1,.slice t2 (aS ts j).ag.length t3,vI (aS ts j).az] t0 t2 (aS ts j).b (aS ts j).ag PR PS/\wr.1.size<=V.1.size):=by
    rw[hV];exact⟨(((S0.put aK H.out.2.2.1 HG.out.1 HG.out.2.1 0 (by simp) (by omega) _).put aK H.out.2.2.1 HG.out.1 HG.out.2.1 1 (by simp) (by omega) _).put aK H.out.2.2.1 HG.out.1 HG.out.2.1 2 (by simp) (by omega) _).put aK H.out.2.2.1 HG.out.1 HG.out.2.1 3 (by simp) (by omega) _,by simp[World.setCell]⟩
   have HT:Hid (KT.S (aS ts j)):=hT;have jn:(j:Int)<(ts.length:Int):=by omega
   have g0:0<=k+(aI cT ts j:Int):=by omega
   have g1:k+(aI cT ts j:Int)<=100000000:=by omega
   clear kT oP El bg om kN Rm hd lU hle hT bl lu S0;generalize hK:k+(aI cT ts j:Int)=kj at *;have tr:=HT.out.1;have ts':=HT.out.2;go_wp2_with fail;rw[<-hV];clear hV;refine(tx.PI V PR t0 t1 (aS ts j).b _ (by omega) (by omega) HT.out.1 S1.out.1.r).mono ?_;rintro e w1 ⟨rfl,k1,o1⟩;have k1:=Lp k1;have R1:Hid (QA w w1 B b ts g P (xe ts k) j [vI kj,vI (kj+1),vI (kj+1+1),vI (kj+1+1+1),.slice t0 (aS ts j).b.length t1,.slice t2 (aS ts j).ag.length t3,vI (aS ts j).az] t0 t2 (tx.jl (kj+1+1+1+1) (aS ts j).b.length) (aS ts j).ag PR PS/\wr.1.size<=w1.1.size):=⟨S1.out.1.step aK k1 HG.out.1 HG.out.2.2.2.1 o1 (S1.out.1.s.aL k1.size (fun q hq hp=>k1.block q hq (fun e=>HG.out.2.2.1 q e hp))),Nat.le_trans S1.out.2 k1.size⟩
   clear k1 o1 S1 d0 f0 d1 f1 d2 f2 d3 f3 e4;have e5:w1.cell? ⟨b,j*7+5,none⟩=some (.slice t2 (aS ts j).ag.length t3):=R1.out.1.at_ 5 _ rfl;go_wp2_with fail;refine(tx.PL w1 PS t2 t3 (aS ts j).ag _ (by omega) (by omega) HT.out.2 R1.out.1.s).mono ?_;rintro e w2 ⟨rfl,k2,o2⟩;have k2:=Lp k2;have R2:Hid (QA w w2 B b ts g P (xe ts k) j [vI kj,vI (kj+1),vI (kj+1+1),vI (kj+1+1+1),.slice t0 (aS ts j).b.length t1,.slice t2 (aS ts j).ag.length t3,vI (aS ts j).az] t0 t2 (tx.jl (kj+1+1+1+1) (aS ts j).b.length) (tx.fT (kj+1+1+1+1+5*((aS ts j).b.length:Int)) (aS ts j).ag.length) PR PS/\wr.1.size<=w2.1.size):=⟨R1.out.1.step aK k2 HG.out.2.1 HG.out.2.2.2.1 (R1.out.1.r.aL k2.size (fun q hq hp=>k2.block q hq (fun e=>HG.out.2.2.1 q hp e))) o2,Nat.le_trans R1.out.2 k2.size⟩
   clear k2 o2 R1 e5;obtain⟨z6,d6,f6⟩:∃v,w2.cell? ⟨b,j*7+6,none⟩=some v/\w2.frozen? ⟨b,j*7+6,none⟩=false:=R2.out.1.rest.rm (j*7+6) (show _<ts.length*7 by omega)
   have R3:Hid (∀Y,Y=w2.setCell ⟨b,j*7+6,none⟩ (vI (kj+1+1+1+1+5*((aS ts j).b.length:Int)+5*((aS ts j).ag.length:Int)))->gY.Rest Y B b ts.length ts g (j+1)/\aA P w Y/\gY.Done Y B b ts g (xe ts k) (j+1)):=fun Y hY=>by
    have R0:=R2.out.1.put aK H.out.2.2.1 HG.out.1 HG.out.2.1 6 (by simp) (by omega) (vI (kj+1+1+1+1+5*((aS ts j).b.length:Int)+5*((aS ts j).ag.length:Int)));rw[<-hY]at R0;obtain⟨h1,h2,h3,h4,h5,h6,h7⟩:=HG.out;have dO:wr.1.size<=Y.1.size:=by rw[hY];simpa[World.setCell]using R2.out.2
    refine⟨R0.rest,R0.kp,R0.done.step ⟨t0,t1,t2,t3⟩ ?_ ?_⟩
    ·rw[HI.out];have:=R0.at_;simpa[gY,tx.nO,Vv,tx.nU,tx.iQ]using this
    ·rw[HI.out];exact⟨PR,PS,⟨R0.r,R0.s,h3,fun q hq=>⟨h5 q hq,by have:=(h7 q (h1 q hq)).2;omega⟩,fun q hq=>⟨h6 q hq,by have:=(h7 q (h2 q hq)).2;omega⟩⟩,fun q hq=>by rcases hq with hq|hq;exact h1 q hq;exact h2 q hq,fun q hq=>⟨(h7 q hq).1,by have:=(h7 q hq).2;omega⟩⟩
   go_wp2;exact⟨⟨j+1,by omega,by simp,by have:=HO.out.1;rw[this];congr 1;omega,(R3.out _ rfl).2.1,(R3.out _ rfl).1,(R3.out _ rfl).2.2⟩,by simp[intOf];omega⟩
  ·obtain rfl:j=ts.length:=by omega
   have hd:decide ((ts.length:Int)<(ts.length:Int))=false:=by simp
   have KH:Hid (aA P w wr/\gY.Part wr B b ts.length (xg ts k) g):=⟨kT,El.part oP⟩
   clear kT oP El;go_wp2;go_ret;exact⟨rfl,KH.out.1,KH.out.2⟩
theorem UI(w:World)(a:OA)(cap:Nat)(ts:List tx.T7)(k:Int)(hk:0<=k)(oN:k+(aI cT ts ts.length:Int)<=100000000)(hn:ts.length<=1048576)(ht:∀t∈ts,KT.S t)(h:gY.pK w a (xg ts k)):
  Calls prog 41 #[.slice a ts.length cap,vI k] w fun e w'=>e=.returned (vI (k+(aI cT ts ts.length:Int)))/\Below w.1.size w w':=by
 have H:Hid ((∀t∈ts,KT.S t)/\gY.pK w a (xg ts k)):=⟨ht,h⟩
 clear ht h;go_enter func41,ntmps41;go_wp2;go_loopw[1,5] (fun v1 v5 wr=>∃j:Nat,j<=ts.length/\v5=vI j/\v1=vI (k+(aI cT ts j:Int))/\Below w.1.size w wr) (fun _ v5 _=>ts.length-(intOf v5).toNat)
 case atStart=>exact⟨0,Nat.zero_le _,rfl,by rw[jd];simp,aN⟩
 case round=>
  obtain⟨j,hj,rfl,rfl,aD⟩:=hrel;have lu:=iy cT ts j;by_cases aK:j<ts.length
  ·have hd:=ib aK;have fG:=H.out.2.later aD;rcases fG with h0|⟨b,off,rfl,hb,fG⟩
   ·have:=AU ts k;rw[h0]at this;simp at this;omega
   obtain⟨⟨t0,t1,t2,t3⟩,bg,how⟩:=fG j _ (RQ aK);have e0:wr.cell? ⟨b,off+j*7,none⟩=some (vI (k+(aI cT ts j:Int))):=bg 0 _ rfl;have e1:wr.cell? ⟨b,off+j*7+1,none⟩=some (vI (k+(aI cT ts j:Int)+1)):=bg 1 _ rfl;have e2:wr.cell? ⟨b,off+j*7+2,none⟩=some (vI (k+(aI cT ts j:Int)+1+1)):=bg 2 _ rfl;have e3:wr.cell? ⟨b,off+j*7+3,none⟩=some (vI (k+(aI cT ts j:Int)+1+1+1)):=bg 3 _ rfl;have e4:wr.cell? ⟨b,off+j*7+4,none⟩=some (.slice t0 (xe ts k j).b.length t1):=bg 4 _ rfl;have e5:wr.cell? ⟨b,off+j*7+5,none⟩=some (.slice t2 (xe ts k j).ag.length t3):=bg 5 _ rfl;have e6:wr.cell? ⟨b,off+j*7+6,none⟩=some (vI (k+(aI cT ts j:Int)+1+1+1+1+5*((aS ts j).b.length:Int)+5*((aS ts j).ag.length:Int))):=bg 6 _ rfl;have l1:(xe ts k j).b.length=(aS ts j).b.length:=tx.nU _ _;have l2:(xe ts k j).ag.length=(aS ts j).ag.length:=tx.iQ _ _;rw[l1]at e4;rw[l2]at e5;obtain⟨sr,ss⟩:=how;simp only at sr ss;rw[l1]at sr;rw[l2]at ss;have hT:=H.out.1 _ (List.mem_of_getElem? hd);have lU:aI cT ts (j+1)=aI cT ts j+cT (aS ts j):=jb cT hd;have hle:=iy cT ts (j+1);have HO:Hid (aI cT ts (j+1)=aI cT ts j+(5+(5*(aS ts j).b.length+5*(aS ts j).ag.length))/\k+(aI cT ts (j+1):Int)<=100000000):=⟨lU,by omega⟩
   have S:Hid (Below w.1.size w wr/\tx.jP wr wr.1.size t0 (aS ts j).b.length (tx.jl (k+(aI cT ts j:Int)+1+1+1+1) (aS ts j).b.length)/\tx.Sl wr wr.1.size t2 (aS ts j).ag.length (tx.fT (k+(aI cT ts j:Int)+1+1+1+1+5*((aS ts j).b.length:Int)) (aS ts j).ag.length)/\b<wr.1.size):=⟨aD,sr,ss,hb⟩
   have HT:Hid (KT.S (aS ts j)):=hT;have jn:(j:Int)<(ts.length:Int):=by omega
   have g0:0<=k+(aI cT ts j:Int):=by omega
   have g1:k+(aI cT ts j:Int)<=100000000:=by omega
   clear aD fG bg sr ss hd lU hle hT hb l1 l2 lu;have tr:=HT.out.1;have ts':=HT.out.2;generalize hK:k+(aI cT ts j:Int)=kj at *;have x0:(kj != kj)=false:=by simp
   have x1:(kj+1 != kj+1)=false:=by simp
   have x2:(kj+1+1 != kj+1+1)=false:=by simp
   have x3:(kj+1+1+1 != kj+1+1+1)=false:=by simp
   have d1:decide (kj+1+1+1+1+5*((aS ts j).b.length:Int)<0)=false:=by simp;omega
   have d2:decide (kj+1+1+1+1+5*((aS ts j).b.length:Int)+5*((aS ts j).ag.length:Int)<0)=false:=by simp;omega
   have x6:(kj+1+1+1+1+5*((aS ts j).b.length:Int)+5*((aS ts j).ag.length:Int) != kj+1+1+1+1+5*((aS ts j).b.length:Int)+5*((aS ts j).ag.length:Int))=false:=by simp
   go_wp2_with fail;refine(tx.F8 wr t0 (aS ts j).b.length t1 _ HT.out.1 (by omega) (by omega) S.out.2.1).mono ?_;rintro e w1 ⟨rfl,rfl⟩;go_wp2_with fail;refine(tx.uk w1 t2 (aS ts j).ag.length t3 _ HT.out.2 (by omega) (by omega) S.out.2.2.1).mono ?_;rintro e w2 ⟨rfl,rfl⟩;go_wp2;exact⟨⟨j+1,by omega,by simp,by have:=HO.out.1;rw[this];congr 1;omega,S.out.1⟩,by simp[intOf];omega⟩
  ·obtain rfl:j=ts.length:=by omega
   have hd:decide ((ts.length:Int)<(ts.length:Int))=false:=by simp
   have KH:Hid (Below w.1.size w wr):=aD;clear aD;go_wp2;go_ret;exact⟨rfl,KH.out⟩
end
section
open Go.Proofs.Tryz
theorem Qc(k:C6)(y:Int):(aF k=true\/gW k y=1)/\(aF k=true->gW k y≠1):=by
 cases hk:aF k with
 | false=>exact⟨.inr (by simp[gW,gN,hk]),fun h=>by cases h⟩
 | true=>
  refine⟨.inl rfl,fun _=>?_⟩;simp only[gW,gN,hk,if_true];split<;>split<;>(try split)<;>(try split)<;>(try decide)<;>(try omega)
end
end Go.Proofs.YtajmlpgodcfghaaGreatDoor
