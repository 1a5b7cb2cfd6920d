import Derived.Test.YtalnmfefmiapoaaGreatDoorJ7Read
set_option maxHeartbeats 16000000
set_option maxRecDepth 100000
namespace Go.Proofs.YtalnmfefmiapoaaGreatDoor
open Go.RowKit
open Go.Sort (grow)
structure DB(w:World)(B d:Nat)(a1:Option Addr)(c1:Nat)(a2:Option Addr)(c2:Nat)(a3:Option Addr)(c3:Nat)(k:C6)(i:Nat)(u:tx.TV)(t:tx.T7)(P:Nat->Prop):Prop where
 bx:Bx w d [vI k.u,vI k.l,.slice a1 k.f.length c1,.slice a2 k.aa.length c2,.slice a3 k.c.length c3,.bool k.w,vI (i:Int),vI t.id,vI t.o,vI t.q,vI t.v,.slice u.ar t.a.length u.cr,.slice u.ah t.ag.length u.ch,vI t.aA]
 ow:KT.Ow w B u.ar u.cr u.ah u.ch t P
 nd:∀q,P q->q≠d
 lo:B<=d
theorem DB.later{w w':World}{B d:Nat}{a1:Option Addr}{c1:Nat}{a2:Option Addr}{c2:Nat}{a3:Option Addr}{c3:Nat}{k:C6}{i:Nat}{u:tx.TV}{t:tx.T7}{P:Nat->Prop}(h:DB w B d a1 c1 a2 c2 a3 c3 k i u t P)(b:Below w.1.size w w'):DB w' B d a1 c1 a2 c2 a3 c3 k i u t P:=⟨h.bx.later b,h.ow.later b,h.nd,h.lo⟩
def F7(w:World)(B d:Nat)(a1:Option Addr)(c1:Nat)(a2:Option Addr)(c2:Nat)(a3:Option Addr)(c3:Nat)(k:C6)(i:Nat)(P:Nat->Prop)(N:tx.T7)(n:Int)(v:Value)(e:Ending)(w':World):Prop:=(n≠0/\lF w k n e w')\/(n=0/\e=.returned v/\(∃u P',DB w' B d a1 c1 a2 c2 a3 c3 k i u N P'/\∀q,P' q->P q\/w.1.size<=q)/\cu d w w')
def Ls(t:tx.T7)(n:tx.N5):Int:=if tx.eT t n=true then 0 else 9
theorem DX(w:World)(B d:Nat)(a1:Option Addr)(c1:Nat)(a2:Option Addr)(c2:Nat)(a3:Option Addr)(c3:Nat)(k:C6)(i:Nat)(u:tx.TV)(t:tx.T7)(P:Nat->Prop)(n:tx.N5)(hk:aD k=true)(h:bK.Rd w a1 c1 a2 c2 a3 c3 k)(hd:DB w B d a1 c1 a2 c2 a3 c3 k i u t P)(hl:tx.TL t)(MK:B<=w.1.size):
  Calls Tryz.prog 148 #[.pointer (some ⟨d,0,none⟩),.agg #[vI n.b,vI n.e,vI n.j,vI n.g,.bool n.i]] w (F7 w B d a1 c1 a2 c2 a3 c3 k i P (tx.dO t n) (Ls t n) (.tuple #[])):=by
 obtain⟨U,hU⟩:∃Y,Y=w.alloc (.cells #[vI n.b,vI n.e,vI n.j,vI n.g,.bool n.i] 112):=⟨_,rfl⟩
 have bU:Below w.1.size w U:=by rw[hU];exact aJ.alloc aR _
 have xU:Bx U w.1.size [vI n.b,vI n.e,vI n.j,vI n.g,.bool n.i]:=by rw[hU];exact Bx.made w [vI n.b,vI n.e,vI n.j,vI n.g,.bool n.i] _
 have sU:U.1.size=w.1.size+1:=by rw[hU];simp
 have HR:Hid (bK.Rd U a1 c1 a2 c2 a3 c3 k/\aD k=true/\DB U B d a1 c1 a2 c2 a3 c3 k i u t P/\tx.TL t/\Below w.1.size w U/\d<w.1.size/\B<=d/\B<=w.1.size):=⟨h.later bU,hk,hd.later bU,hl,bU,hd.bx.2.2,hd.lo,MK⟩
 have hS:(fun Z:World=>Below U.1.size U Z/\Bx Z d [vI k.u,vI k.l,.slice a1 k.f.length c1,.slice a2 k.aa.length c2,.slice a3 k.c.length c3,.bool k.w,vI (i:Int),vI t.id,vI t.o,vI t.q,vI t.v,.slice u.ar t.a.length u.cr,.slice u.ah t.ag.length u.ch,vI t.aA]/\Bx Z w.1.size [vI n.b,vI n.e,vI n.j,vI n.g,.bool n.i]) U.drew:=⟨aJ.drew,HR.out.2.2.1.bx.later (aJ.drew),xU.later (aJ.drew)⟩
 clear h hk hd hl bU xU sU MK;go_enter Tryz.func148,Tryz.ntmps148;go_wp2_with fail;rw[<-hU];clear hU;refine bu (fun z=>z==10) (fun Z:World=>Below U.1.size U Z/\Bx Z d [vI k.u,vI k.l,.slice a1 k.f.length c1,.slice a2 k.aa.length c2,.slice a3 k.c.length c3,.bool k.w,vI (i:Int),vI t.id,vI t.o,vI t.q,vI t.v,.slice u.ar t.a.length u.cr,.slice u.ah t.ag.length u.ch,vI t.aA]/\Bx Z w.1.size [vI n.b,vI n.e,vI n.j,vI n.g,.bool n.i]) (by kernel_rfl) ?_;generalize U.drew=Wd at *;refine cz 0 ?_ rfl ?_ hS ?_;rotate_left
 ·(intro w _;go_simp;first|done|with_reducible rfl)
 simp only[Act.put];refine cz 1 (.pointer (some ⟨d,0,none⟩)) rfl ?_ hS ?_
 ·(intro w _;go_simp)
 simp only[Act.put];refine cz 2 ?_ rfl ?_ hS ?_;rotate_left
 ·(intro w _;go_simp;first|done|with_reducible rfl)
 simp only[Act.put];refine jg 3 (.agg #[vI t.id,vI t.o,vI t.q,vI t.v,.slice u.ar t.a.length u.cr,.slice u.ah t.ag.length u.ch,vI t.aA]) rfl ?_ hS ?_
 ·(intro w aG;have q7:=aG.2.1.1 7 _ rfl;have q8:=aG.2.1.1 8 _ rfl;have q9:=aG.2.1.1 9 _ rfl;have mL:=aG.2.1.1 10 _ rfl;have fj:=aG.2.1.1 11 _ rfl;have fk:=aG.2.1.1 12 _ rfl;have mN:=aG.2.1.1 13 _ rfl;clear hS aG;go_simp)
 simp only[Act.put];refine jg 4 (.agg #[vI n.b,vI n.e,vI n.j,vI n.g,.bool n.i]) rfl ?_ hS ?_
 ·(intro w aG;have q0:=aG.2.2.1 0 _ rfl;have q1:=aG.2.2.1 1 _ rfl;have q2:=aG.2.2.1 2 _ rfl;have q3:=aG.2.2.1 3 _ rfl;have q4:=aG.2.2.1 4 _ rfl;clear hS aG;go_simp)
 simp only[Act.put];refine iI (rs:=[5,9]) (by kernel_rfl) (by simp) ?_;refine iU.cons rfl (fun K hK=>?_) (iU.cons rfl (fun K hK=>?_) iU.nil)
 case' refine_1=>
  go_simp;have cA:=tx.oO Wd u t n HR.out.2.2.2.1 (HR.out.2.2.1.ow.sl.later hS.1);simp only[tx.TV.val]at cA;refine cA.mono ?_;clear cA;rintro e X ⟨va,vc,vh,vd,PR,PS,rfl,rE,bX⟩;have HO:Hid (tx.OT X Wd.1.size ⟨va,vc,vh,vd⟩ (tx.dO t n) PR PS/\Below U.1.size U Wd):=⟨rE,hS.1⟩
  replace hS:(fun Z:World=>Below U.1.size U Z/\Bx Z d [vI k.u,vI k.l,.slice a1 k.f.length c1,.slice a2 k.aa.length c2,.slice a3 k.c.length c3,.bool k.w,vI (i:Int),vI t.id,vI t.o,vI t.q,vI t.v,.slice u.ar t.a.length u.cr,.slice u.ah t.ag.length u.ch,vI t.aA]/\Bx Z w.1.size [vI n.b,vI n.e,vI n.j,vI n.g,.bool n.i]) X:=⟨ay hS.1 bX,hS.2.1.later bX,hS.2.2.later bX⟩
  refine hK.out _ _ (fun _=>hS) ?_;clear hK K rE bX;refine cz 6 ?_ rfl ?_ hS ?_;rotate_left
  ·(intro w _;go_simp;first|done|with_reducible rfl)
  simp only[Act.put];refine cz 7 ?_ rfl ?_ hS ?_;rotate_left
  ·(intro w _;go_simp;first|done|with_reducible rfl)
  simp only[Act.put];refine cz 8 ?_ rfl ?_ hS ?_;rotate_left
  ·(intro w _;go_simp;first|done|with_reducible rfl)
  simp only[Act.put];refine cZ 9 rfl (fun K hK=>?_);go_simp;have bV:Below X.1.size X (X.alloc (.cells #[vI 0,vI 0,vI 0,vI 0,.slice none 0 0,.slice none 0 0,vI 0] 50)):=aJ.alloc aR _;have xV:Bx (X.alloc (.cells #[vI 0,vI 0,vI 0,vI 0,.slice none 0 0,.slice none 0 0,vI 0] 50)) X.1.size CJ:=Bx.made X CJ _;have HX:Hid (X.1.size=X.1.size):=rfl;obtain⟨V,hV⟩:∃V,V=X.alloc (.cells #[vI 0,vI 0,vI 0,vI 0,.slice none 0 0,.slice none 0 0,vI 0] 50):=⟨_,rfl⟩
  obtain⟨bb,iE⟩:∃bb,bb=X.1.size:=⟨_,rfl⟩
  rw[<-hV,<-iE]at xV;rw[<-hV]at bV;rw[<-hV,<-iE];have OY:Hid (tx.OT V Wd.1.size ⟨va,vc,vh,vd⟩ (tx.dO t n) PR PS/\Below U.1.size U Wd/\(∀q,tx.oW PR PS q->q≠bb)/\U.1.size<=bb):=⟨HO.out.1.later bV,HO.out.2,fun q hq=>by have:=(HO.out.1.of hq).2;omega,by have:=hS.1.size;omega⟩
  replace hS:(fun Z:World=>Below U.1.size U Z/\Bx Z d [vI k.u,vI k.l,.slice a1 k.f.length c1,.slice a2 k.aa.length c2,.slice a3 k.c.length c3,.bool k.w,vI (i:Int),vI t.id,vI t.o,vI t.q,vI t.v,.slice u.ar t.a.length u.cr,.slice u.ah t.ag.length u.ch,vI t.aA]/\Bx Z w.1.size [vI n.b,vI n.e,vI n.j,vI n.g,.bool n.i]) V:=⟨ay hS.1 bV,hS.2.1.later bV,hS.2.2.later bV⟩
  clear bV HO HX;clear hV iE;clear X;refine hK.out _ _ (fun _=>hS) ?_;clear hK K
 case' refine_2=>
  go_simp;obtain⟨V0,hV⟩:∃V,V=Wd.alloc (.cells #[vI 0,vI 0,vI 0,vI 0,.slice none 0 0,.slice none 0 0,vI 0] 50):=⟨_,rfl⟩
  obtain⟨bb,iE⟩:∃bb,bb=Wd.1.size:=⟨_,rfl⟩
  have bV:Below Wd.1.size Wd V0:=by rw[hV];exact aJ.alloc aR _
  have Ur:Bx V0 bb CJ:=by rw[hV,iE];exact Bx.made Wd CJ _
  rw[<-hV,<-iE];have RG:Hid (U.1.size<=bb/\bb<V0.1.size):=⟨by have:=hS.1.size;omega,Ur.2.2⟩
  replace hS:(fun Z:World=>Below U.1.size U Z/\Bx Z d [vI k.u,vI k.l,.slice a1 k.f.length c1,.slice a2 k.aa.length c2,.slice a3 k.c.length c3,.bool k.w,vI (i:Int),vI t.id,vI t.o,vI t.q,vI t.v,.slice u.ar t.a.length u.cr,.slice u.ah t.ag.length u.ch,vI t.aA]/\Bx Z w.1.size [vI n.b,vI n.e,vI n.j,vI n.g,.bool n.i]) V0:=⟨ay hS.1 bV,hS.2.1.later bV,hS.2.2.later bV⟩
  refine hK.out _ _ (fun _=>hS) ?_;clear hK K bV hV iE;clear Wd;refine cZ 5 rfl (fun K hK=>?_);go_simp;have cA:=tx.oO V0 u t n HR.out.2.2.2.1 (HR.out.2.2.1.ow.sl.later hS.1);simp only[tx.TV.val]at cA;refine cA.mono ?_;clear cA;rintro e X ⟨va,vc,vh,vd,PR,PS,rfl,rE,bX⟩;have HO:Hid (tx.OT X V0.1.size ⟨va,vc,vh,vd⟩ (tx.dO t n) PR PS/\Below U.1.size U V0):=⟨rE,hS.1⟩
  have xV:=Ur.later bX;have OY:Hid (tx.OT X V0.1.size ⟨va,vc,vh,vd⟩ (tx.dO t n) PR PS/\Below U.1.size U V0/\(∀q,tx.oW PR PS q->q≠bb)/\U.1.size<=bb):=⟨rE,hS.1,fun q hq=>by have:=(rE.of hq).1;have:=RG.out.2;omega,RG.out.1⟩
  replace hS:(fun Z:World=>Below U.1.size U Z/\Bx Z d [vI k.u,vI k.l,.slice a1 k.f.length c1,.slice a2 k.aa.length c2,.slice a3 k.c.length c3,.bool k.w,vI (i:Int),vI t.id,vI t.o,vI t.q,vI t.v,.slice u.ar t.a.length u.cr,.slice u.ah t.ag.length u.ch,vI t.aA]/\Bx Z w.1.size [vI n.b,vI n.e,vI n.j,vI n.g,.bool n.i]) X:=⟨ay hS.1 bX,hS.2.1.later bX,hS.2.2.later bX⟩
  refine hK.out _ _ (fun _=>hS) ?_;clear hK K;clear rE bX HO Ur RG;refine cz 6 ?_ rfl ?_ hS ?_;rotate_left
  ·(intro w _;go_simp;first|done|with_reducible rfl)
  simp only[Act.put];refine cz 7 ?_ rfl ?_ hS ?_;rotate_left
  ·(intro w _;go_simp;first|done|with_reducible rfl)
  simp only[Act.put];refine cz 8 ?_ rfl ?_ hS ?_;rotate_left
  ·(intro w _;go_simp;first|done|with_reducible rfl)
  simp only[Act.put];generalize X=V at *;generalize V0=Wd at *
 all_goals
  have c0:=xV.1 0 _ rfl;have f0:=xV.2.1 0;have c1:=xV.1 1 _ rfl;have f1:=xV.2.1 1;have c2:=xV.1 2 _ rfl;have f2:=xV.2.1 2;have c3:=xV.1 3 _ rfl;have f3:=xV.2.1 3;have c4:=xV.1 4 _ rfl;have f4:=xV.2.1 4;have c5:=xV.1 5 _ rfl;have f5:=xV.2.1 5;have c6:=xV.1 6 _ rfl;have f6:=xV.2.1 6;refine cZ 10 rfl (fun K hK=>?_);go_simp;refine hK.out _ _ (fun h=>absurd (show false=true from h.symm.trans (by kernel_rfl)) (by decide)) ?_;clear hK K;refine cZ 11 rfl (fun K hK=>?_);go_simp;refine hK.out _ _ (fun h=>absurd (show false=true from h.symm.trans (by kernel_rfl)) (by decide)) ?_;clear hK K;refine dL (by kernel_rfl) ?_ _;clear c0 f0 c1 f1 c2 f2 c3 f3 c4 f4 c5 f5 c6 f6;obtain⟨Y,hY⟩:∃Y,Y=di V bb 0 (tx.iC va vc vh vd (tx.dO t n)):=⟨_,rfl⟩
  have yb:=xV.put (tx.iC va vc vh vd (tx.dO t n)) rfl;rw[<-hY]at yb;have qN:Y=(((((((V.setCell ⟨bb,0,none⟩ (vI (tx.dO t n).id)).setCell ⟨bb,1,none⟩ (vI (tx.dO t n).o)).setCell ⟨bb,2,none⟩ (vI (tx.dO t n).q)).setCell ⟨bb,3,none⟩ (vI (tx.dO t n).v)).setCell ⟨bb,4,none⟩ (.slice va (tx.dO t n).a.length vc)).setCell ⟨bb,5,none⟩ (.slice vh (tx.dO t n).ag.length vd)).setCell ⟨bb,6,none⟩ (vI (tx.dO t n).aA)):=hY;rw[<-qN];have dQ:Y.1.size=V.1.size:=by rw[hY];exact bf _ _ _ _
  have dZ:∀q,q≠bb->Y.1[q]?=V.1[q]?:=fun q hq=>by rw[hY];exact aV hq _ _ _
  have h1:=OY.out.2.1.size;have h2:=HR.out.2.2.2.2.1.size;have BY:Hid (Below w.1.size w Y):=by unfold Hid;rw[hY];exact aU (by have:=OY.out.2.2.2;omega) _ _ _ (ay HR.out.2.2.2.2.1 hS.1)
  have vD:d≠bb:=by have:=OY.out.2.2.2;have:=HR.out.2.2.2.2.2.1;omega
  have KY:Hid (Bx Y d [vI k.u,vI k.l,.slice a1 k.f.length c1,.slice a2 k.aa.length c2,.slice a3 k.c.length c3,.bool k.w,vI (i:Int),vI t.id,vI t.o,vI t.q,vI t.v,.slice u.ar t.a.length u.cr,.slice u.ah t.ag.length u.ch,vI t.aA]/\Bx Y bb (tx.iC va vc vh vd (tx.dO t n))/\d≠bb):=⟨hS.2.1.aj (dZ d vD) (Nat.le_of_eq dQ.symm),yb,vD⟩
  have YP:∀q,tx.oW PR PS q->Wd.1.size<=q/\q<V.1.size:=fun q hq=>OY.out.1.of hq
  have KO:Hid (KT.Ow Y Wd.1.size va vc vh vd (tx.dO t n) (tx.oW PR PS)/\(∀q,tx.oW PR PS q->q≠d/\w.1.size<=q)/\B<=Wd.1.size):=by
   refine⟨KT.Ow.aQ (w:=V) ⟨PR,PS,OY.out.1,fun q hq=>hq,YP⟩ (Nat.le_of_eq dQ.symm) (fun q hq=>dZ q (OY.out.2.2.1 q hq)),fun q hq=>?_,by have:=HR.out.2.2.2.2.2.2.2;omega⟩;have:=YP q hq;have:=HR.out.2.2.2.2.2.1;omega
  have gf:Hid (bK.Rd Y a1 c1 a2 c2 a3 c3 k):=by
   have hb:Below U.1.size U Y:=by rw[hY];exact aU OY.out.2.2.2 _ _ _ hS.1
   exact HR.out.1.later hb
  clear qN hY yb dQ dZ h1 h2 vD YP hS xV OY
  cases XM:tx.eT t n with
  | false=>
   have HC:Hid (Ls t n=9):=by unfold Hid Ls;rw[XM];rfl
   have hr:=iW Y d a1 c1 a2 c2 a3 c3 k [vI (i:Int),vI t.id,vI t.o,vI t.q,vI t.v,.slice u.ar t.a.length u.cr,.slice u.ah t.ag.length u.ch,vI t.aA] 9 HR.out.2.1 gf.out KY.out.1;clear XM;go_wp2_with fail;refine hr.mono ?_;clear hr;intro e w2 hr;have HX:Hid (F7 w B d a1 c1 a2 c2 a3 c3 k i P (tx.dO t n) (Ls t n) (.tuple #[]) e w2):=.inl ⟨by rw[HC.out];decide,by rw[HC.out];exact hr.low BY.out⟩;obtain⟨e1,d1,e2,d2,e3,d3,P2,rfl,-,-⟩:=hr;go_wp2;exact⟨rfl,HX.out⟩
  | true=>
   have HC:Hid (Ls t n=0):=by unfold Hid Ls;rw[XM];rfl
   clear XM;have y0:=KY.out.2.1.1 0 _ rfl;have g0:=KY.out.1.1 7 _ rfl;have f0:=KY.out.1.2.1 7;have y1:=KY.out.2.1.1 1 _ rfl;have g1:=KY.out.1.1 8 _ rfl;have f1:=KY.out.1.2.1 8;have y2:=KY.out.2.1.1 2 _ rfl;have g2:=KY.out.1.1 9 _ rfl;have f2:=KY.out.1.2.1 9;have y3:=KY.out.2.1.1 3 _ rfl;have g3:=KY.out.1.1 10 _ rfl;have f3:=KY.out.1.2.1 10;have y4:=KY.out.2.1.1 4 _ rfl;have g4:=KY.out.1.1 11 _ rfl;have f4:=KY.out.1.2.1 11;have y5:=KY.out.2.1.1 5 _ rfl;have g5:=KY.out.1.1 12 _ rfl;have f5:=KY.out.1.2.1 12;have y6:=KY.out.2.1.1 6 _ rfl;have g6:=KY.out.1.1 13 _ rfl;have f6:=KY.out.1.2.1 13;obtain⟨Z,hZ⟩:∃Z,Z=(((((((Y.setCell ⟨d,7,none⟩ (vI (tx.dO t n).id)).setCell ⟨d,8,none⟩ (vI (tx.dO t n).o)).setCell ⟨d,9,none⟩ (vI (tx.dO t n).q)).setCell ⟨d,10,none⟩ (vI (tx.dO t n).v)).setCell ⟨d,11,none⟩ (.slice va (tx.dO t n).a.length vc)).setCell ⟨d,12,none⟩ (.slice vh (tx.dO t n).ag.length vd)).setCell ⟨d,13,none⟩ (vI (tx.dO t n).aA)):=⟨_,rfl⟩
   have zb:Bx Z d [vI k.u,vI k.l,.slice a1 k.f.length c1,.slice a2 k.aa.length c2,.slice a3 k.c.length c3,.bool k.w,vI (i:Int),vI (tx.dO t n).id,vI (tx.dO t n).o,vI (tx.dO t n).q,vI (tx.dO t n).v,.slice va (tx.dO t n).a.length vc,.slice vh (tx.dO t n).ag.length vd,vI (tx.dO t n).aA]:=by
    rw[hZ];exact((((((KY.out.1.set (i:=7) (by simp) _).set (i:=8) (by simp) _).set (i:=9) (by simp) _).set (i:=10) (by simp) _).set (i:=11) (by simp) _).set (i:=12) (by simp) _).set (i:=13) (by simp) _
   have zt:cu d w Z:=by
    rw[hZ];exact((((((((cu.refl d w).dK BY.out).setCell 7 _).setCell 8 _).setCell 9 _).setCell 10 _).setCell 11 _).setCell 12 _).setCell 13 _
   have zf:∀q,q≠d->Z.1[q]?=Y.1[q]?:=fun q hq=>by
    rw[show Z=di Y d 7 (tx.iC va vc vh vd (tx.dO t n))from hZ];exact aV hq _ _ _
   have zs:Z.1.size=Y.1.size:=by rw[hZ];simp[World.setCell]
   have KE:Hid (F7 w B d a1 c1 a2 c2 a3 c3 k i P (tx.dO t n) (Ls t n) (.tuple #[]) (.returned (.tuple #[])) Z):=.inr ⟨HC.out,rfl,⟨⟨va,vc,vh,vd⟩,tx.oW PR PS,⟨zb,(KO.out.1.aQ (Nat.le_of_eq zs.symm) (fun q hq=>zf q (KO.out.2.1 q hq).1)).low KO.out.2.2,fun q hq=>(KO.out.2.1 q hq).1,HR.out.2.2.2.2.2.2.1⟩,fun q hq=>.inr (KO.out.2.1 q hq).2⟩,zt⟩;have HZ:=aB hZ;clear hZ zb zt zf zs;go_wp2;rw[<-HZ.out];exact bodyPost_end (v:=.tuple #[]) (by simp[results,Tryz.results148]) rfl KE.out
theorem wI(h:Int)(w:World)(h1:0<=h)(h2:h<=4000003):
  Calls Tryz.prog 51 #[vI h] w fun e w'=>e=.returned (vI (h/4))/\w'=w:=by
 ·go_enter Tryz.func51,Tryz.ntmps51;go_wp2;go_ret;exact⟨rfl,rfl⟩
theorem xR(h:Int)(w:World)(hh:h<0\/4000003<h):
  Calls Tryz.prog 51 #[vI h] w fun e w'=>e=.returned (vI (-1))/\w'=w:=by
 rcases hh with hh|hh
 ·have d:decide (0<=h)=false:=by simp;omega
  go_enter Tryz.func51,Tryz.ntmps51;go_wp2;go_ret;exact⟨rfl,rfl⟩
 ·have d:decide (h<=4000003)=false:=by simp;omega
  go_enter Tryz.func51,Tryz.ntmps51;go_wp2;go_ret;exact⟨rfl,rfl⟩
def eD(h:Int):Int:=if aY 0 4000003 h=true then h/4 else -1
theorem oU(h:Int)(w:World):Calls Tryz.prog 51 #[vI h] w fun e w'=>e=.returned (vI (eD h))/\w'=w:=by
 by_cases hh:0<=h/\h<=4000003
 ·rw[eD,if_pos (iN hh.1 hh.2)];exact wI h w hh.1 hh.2
 ·rw[eD,if_neg (by rw[dm];omega)];exact xR h w (by omega)
theorem vM(h:Int)(w:World)(h1:0<=h)(h2:h<=4000003):
  Calls Tryz.prog 175 #[vI h] w fun e w'=>e=.returned (vI (h/4))/\w'=w:=by
 ·go_enter Tryz.func175,Tryz.ntmps175;go_wp2;go_ret;exact⟨rfl,rfl⟩
theorem xC(h:Int)(w:World)(hh:h<0\/4000003<h):
  Calls Tryz.prog 175 #[vI h] w fun e w'=>e=.returned (vI (-1))/\w'=w:=by
 rcases hh with hh|hh
 ·have d:decide (0<=h)=false:=by simp;omega
  go_enter Tryz.func175,Tryz.ntmps175;go_wp2;go_ret;exact⟨rfl,rfl⟩
 ·have d:decide (h<=4000003)=false:=by simp;omega
  go_enter Tryz.func175,Tryz.ntmps175;go_wp2;go_ret;exact⟨rfl,rfl⟩
theorem xD(h:Int)(w:World):Calls Tryz.prog 175 #[vI h] w fun e w'=>e=.returned (vI (eD h))/\w'=w:=by
 by_cases hh:0<=h/\h<=4000003
 ·rw[eD,if_pos (iN hh.1 hh.2)];exact vM h w hh.1 hh.2
 ·rw[eD,if_neg (by rw[dm];omega)];exact xC h w (by omega)
theorem A9(w:World)(r s h v:Int):Calls Tryz.prog 147 #[.agg #[vI r,vI s],.agg #[vI h,vI v]] w fun e w'=>e=.returned (.agg #[vI r,vI s,vI (eD h),vI v,.bool ((aY 0 4000003 h&&bN h))])/\Below w.1.size w w':=by
 obtain⟨U0,iQ⟩:∃Y,Y=w.alloc (.cells #[vI r,vI s] 62):=⟨_,rfl⟩
 have sG:Below w.1.size w U0:=by rw[iQ];exact aJ.alloc aR _
 have wY:Bx U0 w.1.size [vI r,vI s]:=by rw[iQ];exact Bx.made w [vI r,vI s] _
 have ym:U0.1.size=w.1.size+1:=by rw[iQ];simp
 obtain⟨U1,kG⟩:∃Y,Y=U0.alloc (.cells #[vI h,vI v] 104):=⟨_,rfl⟩
 have yx:Below U0.1.size U0 U1:=by rw[kG];exact aJ.alloc aR _
 have Ck:Bx U1 U0.1.size [vI h,vI v]:=by rw[kG];exact Bx.made U0 [vI h,vI v] _
 have H8:U1.1.size=U0.1.size+1:=by rw[kG];simp
 obtain⟨U2,tK⟩:∃Y,Y=U1.alloc (.cells #[vI 0,vI 0,vI 0,vI 0,.bool false] 112):=⟨_,rfl⟩
 have IW:Below U1.1.size U1 U2:=by rw[tK];exact aJ.alloc aR _
 have OQ:Bx U2 U1.1.size [vI 0,vI 0,vI 0,vI 0,.bool false]:=by rw[tK];exact Bx.made U1 [vI 0,vI 0,vI 0,vI 0,.bool false] _
 have Ub:U2.1.size=U1.1.size+1:=by rw[tK];simp
 have hU:U2=((w.alloc (.cells #[vI r,vI s] 62)).alloc (.cells #[vI h,vI v] 104)).alloc (.cells #[vI 0,vI 0,vI 0,vI 0,.bool false] 112):=by rw[tK,kG,iQ]
 have z1:U1.1.size=w.1.size+2:=by rw[H8,ym]
 have BU:Hid (Below w.1.size w U2/\w.1.size+2<U2.1.size):=⟨ay (ay sG yx) IW,by rw[Ub,z1];omega⟩
 have x0:=(wY.later yx).later IW;have x1:=Ck.later IW;rw[ym]at x1;rw[z1]at OQ;have X2:Hid (Bx U2 (w.1.size+2) [vI 0,vI 0,vI 0,vI 0,.bool false]):=OQ;have hS:(fun X:World=>Below U2.1.size U2 X/\X.cell? ⟨w.1.size,0,none⟩=some (vI r)/\X.cell? ⟨w.1.size,1,none⟩=some (vI s)/\X.cell? ⟨w.1.size+1,0,none⟩=some (vI h)/\X.cell? ⟨w.1.size+1,1,none⟩=some (vI v)) U2.drew:=⟨aJ.drew,x0.1 0 _ rfl,x0.1 1 _ rfl,x1.1 0 _ rfl,x1.1 1 _ rfl⟩
 clear iQ kG tK sG yx IW wY Ck OQ ym H8 Ub z1 x0 x1;obtain⟨X7,Ta⟩:∃z,eD h=z:=⟨_,rfl⟩
 obtain⟨us,Q5⟩:∃z,(aY 0 4000003 h&&bN h)=z:=⟨_,rfl⟩
 have cV:=fun X=>xD h X
 have cU:=fun X=>uh h X
 simp only[Q5,Ta]at cU cV;rw[Ta,Q5];clear Ta Q5;clear U0 U1;go_enter Tryz.func147,Tryz.ntmps147;go_wp2_with fail;rw[<-hU];clear hU;refine bu (fun z=>z==13) (fun X:World=>Below U2.1.size U2 X/\X.cell? ⟨w.1.size,0,none⟩=some (vI r)/\X.cell? ⟨w.1.size,1,none⟩=some (vI s)/\X.cell? ⟨w.1.size+1,0,none⟩=some (vI h)/\X.cell? ⟨w.1.size+1,1,none⟩=some (vI v)) (by kernel_rfl) ?_;generalize U2.drew=Wd at *;refine cz 0 ?_ rfl ?_ hS ?_;rotate_left
 ·(intro w _;go_simp;first|done|with_reducible rfl|(rw[if_pos (by omega)])|(rw[if_pos (by omega)];go_simp))
 simp only[Act.put];refine jg 1 ?_ rfl ?_ hS ?_;rotate_left
 ·(intro w aG;obtain⟨-,s0,s1,s2,s3⟩:=aG;go_simp;first|done|with_reducible rfl)
 simp only[Act.put];refine cz 2 ?_ rfl ?_ hS ?_;rotate_left
 ·(intro w _;go_simp;first|done|with_reducible rfl|(rw[if_pos (by omega)])|(rw[if_pos (by omega)];go_simp))
 simp only[Act.put];refine jg 3 ?_ rfl ?_ hS ?_;rotate_left
 ·(intro w aG;obtain⟨-,s0,s1,s2,s3⟩:=aG;go_simp;first|done|with_reducible rfl)
 simp only[Act.put];refine cz 4 ?_ rfl ?_ hS ?_;rotate_left
 ·(intro w _;go_simp;first|done|with_reducible rfl|(rw[if_pos (by omega)])|(rw[if_pos (by omega)];go_simp))
 simp only[Act.put];refine jg 5 ?_ rfl ?_ hS ?_;rotate_left
 ·(intro w aG;obtain⟨-,s0,s1,s2,s3⟩:=aG;go_simp;first|done|with_reducible rfl)
 simp only[Act.put];refine cz 7 ?_ rfl ?_ hS ?_;rotate_left
 ·(intro w _;go_simp;first|done|with_reducible rfl|(rw[if_pos (by omega)])|(rw[if_pos (by omega)];go_simp))
 simp only[Act.put];refine jg 8 ?_ rfl ?_ hS ?_;rotate_left
 ·(intro w aG;obtain⟨-,s0,s1,s2,s3⟩:=aG;go_simp;first|done|with_reducible rfl)
 simp only[Act.put];refine cz 9 ?_ rfl ?_ hS ?_;rotate_left
 ·(intro w _;go_simp;first|done|with_reducible rfl|(rw[if_pos (by omega)])|(rw[if_pos (by omega)];go_simp))
 simp only[Act.put];refine jg 10 ?_ rfl ?_ hS ?_;rotate_left
 ·(intro w aG;obtain⟨-,s0,s1,s2,s3⟩:=aG;go_simp;first|done|with_reducible rfl)
 simp only[Act.put];refine cZ 6 rfl (fun K hK=>?_);go_simp;refine(cV _).mono ?_;rintro e X ⟨rfl,rfl⟩;refine hK.out _ _ (fun _=>hS) ?_;clear hK K;refine cZ 11 rfl (fun K hK=>?_);go_simp;refine(cU _).mono ?_;rintro e X ⟨rfl,rfl⟩;refine hK.out _ _ (fun _=>hS) ?_;clear hK K;refine cZ 12 rfl (fun K hK=>?_);go_simp;refine hK.out _ _ (fun _=>hS) ?_;clear hK K;have XB:=X2.out.later hS.1;have BW:Hid (Below w.1.size w X):=ay BU.out.1 hS.1;have c0:=XB.1 0 _ rfl;have c1:=XB.1 1 _ rfl;have c2:=XB.1 2 _ rfl;have c3:=XB.1 3 _ rfl;have c4:=XB.1 4 _ rfl;have f0:=XB.2.1 0;have f1:=XB.2.1 1;have f2:=XB.2.1 2;have f3:=XB.2.1 3;have f4:=XB.2.1 4;have RP:=XB.put [vI r,vI s,vI X7,vI v,.bool us] rfl;refine cZ 13 rfl (fun K hK=>?_);go_simp;refine hK.out _ _ (fun h=>absurd (show false=true from h.symm.trans (by kernel_rfl)) (by decide)) ?_;clear hK K;refine dL (by kernel_rfl) ?_ _;obtain⟨Y,hY⟩:∃Y,Y=di X (w.1.size+2) 0 [vI r,vI s,vI X7,vI v,.bool us]:=⟨_,rfl⟩
 rw[<-hY]at RP;have BY:Hid (Below w.1.size w Y):=by unfold Hid;rw[hY];exact aU (by omega) _ _ _ BW.out
 have qN:Y=((((X.setCell ⟨w.1.size+2,0,none⟩ (vI r)).setCell ⟨w.1.size+2,1,none⟩ (vI s)).setCell ⟨w.1.size+2,2,none⟩ (vI X7)).setCell ⟨w.1.size+2,3,none⟩ (vI v)).setCell ⟨w.1.size+2,4,none⟩ (.bool us):=hY;rw[<-qN];have y0:=RP.1 0 _ rfl;have y1:=RP.1 1 _ rfl;have y2:=RP.1 2 _ rfl;have y3:=RP.1 3 _ rfl;have y4:=RP.1 4 _ rfl;clear qN hY RP XB c0 c1 c2 c3 c4 f0 f1 f2 f3 f4 hS X2 BW cU cV;go_wp2;exact bodyPost_ret (v:=.agg #[vI r,vI s,vI X7,vI v,.bool us]) (by simp[results,Tryz.results147,go_sem,y0,y1,y2,y3,y4]) rfl ⟨rfl,BY.out⟩
theorem yV(h:Int)(w:World)(h1:0<=h)(h2:h<=4000003):
  Calls Tryz.prog 174 #[vI h] w fun e w'=>e=.returned (.bool (jA h))/\w'=w:=by
 ·have b1:=and_1 h h1 h2;go_enter Tryz.func174,Tryz.ntmps174;go_wp2;go_ret;exact⟨Jw (Kg h),rfl⟩
theorem AP(h:Int)(w:World)(hh:h<0\/4000003<h):
  Calls Tryz.prog 174 #[vI h] w fun e w'=>e=.returned (.bool false)/\w'=w:=by
 rcases hh with hh|hh
 ·have d:decide (0<=h)=false:=by simp;omega
  go_enter Tryz.func174,Tryz.ntmps174;go_wp2;go_ret;exact⟨rfl,rfl⟩
 ·have d:decide (h<=4000003)=false:=by simp;omega
  go_enter Tryz.func174,Tryz.ntmps174;go_wp2;go_ret;exact⟨rfl,rfl⟩
theorem Ab(h:Int)(w:World)(h1:0<=h)(h2:h<=4000003):
  Calls Tryz.prog 49 #[vI h] w fun e w'=>e=.returned (.bool (jA h))/\w'=w:=by
 ·go_enter Tryz.func49,Tryz.ntmps49;go_wp2;go_ret;exact⟨rfl,rfl⟩
theorem Be(h:Int)(w:World)(hh:h<0\/4000003<h):
  Calls Tryz.prog 49 #[vI h] w fun e w'=>e=.returned (.bool false)/\w'=w:=by
 rcases hh with hh|hh
 ·have d:decide (0<=h)=false:=by simp;omega
  go_enter Tryz.func49,Tryz.ntmps49;go_wp2;go_ret;exact⟨rfl,rfl⟩
 ·have d:decide (h<=4000003)=false:=by simp;omega
  go_enter Tryz.func49,Tryz.ntmps49;go_wp2;go_ret;exact⟨rfl,rfl⟩
theorem qb(h:Int)(w:World):Calls Tryz.prog 174 #[vI h] w fun e w'=>e=.returned (.bool (aY 0 4000003 h&&jA h))/\w'=w:=by
 by_cases hh:0<=h/\h<=4000003
 ·rw[iN hh.1 hh.2,Bool.true_and];exact yV h w hh.1 hh.2
 ·have e:aY 0 4000003 h=false:=by simp[aY];omega
  rw[e,Bool.false_and];exact AP h w (by omega)
theorem Aa(h:Int)(w:World):Calls Tryz.prog 49 #[vI h] w fun e w'=>e=.returned (.bool (aY 0 4000003 h&&jA h))/\w'=w:=by
 by_cases hh:0<=h/\h<=4000003
 ·rw[iN hh.1 hh.2,Bool.true_and];exact Ab h w hh.1 hh.2
 ·have e:aY 0 4000003 h=false:=by simp[aY];omega
  rw[e,Bool.false_and];exact Be h w (by omega)
section
variable {xs:List C2}
def kI(xs:List C2)(i:Int):Bool:=fJ xs&&aY 0 5 i&&!jA (at2 xs i.toNat).head
def fA(xs:List C2)(i:Int):C2:=if kI xs i then at2 xs i.toNat else⟨0,0⟩
theorem vv(h:fJ xs=true):xs.length=6:=by
 simp[fJ]at h;exact h.1
theorem yF(h:fJ xs=true){i:Nat}(hi:i<6):aY 0 4000003 (at2 xs i).head=true:=by
 have h6:=vv h;have ha:xs.all jE=true:=by simp only[fJ,Bool.and_eq_true]at h;exact h.2
 have:=List.all_eq_true.1 ha (at2 xs i) (List.mem_of_getElem? (L6 (by omega)));simp only[jE,Bool.and_eq_true]at this;exact this.1.1
theorem CW(w:World)(a:Option Addr)(n cap:Nat)(i:Int)(xs:List C2)(hn:n<=maxLen)(hs:pE w w.1.size a n xs):
  Calls Tryz.prog 146 #[.slice a n cap,vI i] w fun e w'=>e=.returned (.tuple #[.agg #[vI (fA xs i).head,vI (fA xs i).g],.bool (kI xs i)])/\Below w.1.size w w':=by
 have S0:Hid (pE w w.1.size a n xs):=hs;clear hs;go_enter Tryz.func146,Tryz.ntmps146;go_wp2_with fail;have e0:(w.alloc (.cells #[vI 0,vI 0] 104)).cell? ⟨w.1.size,0,none⟩=some (vI 0):=by go_simp
 have e1:(w.alloc (.cells #[vI 0,vI 0] 104)).cell? ⟨w.1.size,1,none⟩=some (vI 0):=by go_simp
 have ef:∀j,(w.alloc (.cells #[vI 0,vI 0] 104)).frozen? ⟨w.1.size,j,none⟩=false:=by intro j;go_simp
 have zs:w.1.size<(w.alloc (.cells #[vI 0,vI 0] 104)).1.size:=by simp
 generalize hW:w.alloc (.cells #[vI 0,vI 0] 104)=W at e0 e1 ef zs ⊢;have bW:Below w.1.size w W:=by subst hW;exact aJ.alloc aR _
 clear hW;refine(oP W a n cap xs hn (S0.out.later bW)).mono ?_;rintro e w1 ⟨rfl,b1⟩;have c0:=(b1.cell (p:=⟨w.1.size,0,none⟩) zs).trans e0;have c1:=(b1.cell (p:=⟨w.1.size,1,none⟩) zs).trans e1;have f0:=(b1.frozen (p:=⟨w.1.size,0,none⟩) zs).trans (ef 0);have f1:=(b1.frozen (p:=⟨w.1.size,1,none⟩) zs).trans (ef 1);have B1:Hid (Below w.1.size w w1):=bW.trans (b1.mono bW.size);clear e0 e1 ef bW b1 zs
 cases g1:fJ xs with
 | false=>
  have HB:Hid (kI xs i=false):=by unfold Hid kI;rw[g1];rfl
  have HC:Hid (fA xs i=⟨0,0⟩):=by unfold Hid fA;rw[HB.out];rfl
  go_wp2;refine bodyPost_ret (v:=.tuple #[.agg #[vI 0,vI 0],.bool false]) (by simp[results,Tryz.results146,go_sem,c0,c1]) rfl ⟨by rw[HB.out,HC.out],?_⟩;exact(B1.out.setCell (p:=⟨w.1.size,0,none⟩) aR _).setCell (p:=⟨w.1.size,1,none⟩) aR _
 | true=>
  cases g2:aY 0 5 i with
  | false=>
   have HB:Hid (kI xs i=false):=by unfold Hid kI;rw[g1,g2];rfl
   have HC:Hid (fA xs i=⟨0,0⟩):=by unfold Hid fA;rw[HB.out];rfl
   go_wp2_with (go_at_call 64;refine(qc _ _).mono ?_;rw[g2];rintro e w' ⟨rfl,rfl⟩);refine bodyPost_ret (v:=.tuple #[.agg #[vI 0,vI 0],.bool false]) (by simp[results,Tryz.results146,go_sem,c0,c1]) rfl ⟨by rw[HB.out,HC.out],?_⟩;exact(B1.out.setCell (p:=⟨w.1.size,0,none⟩) aR _).setCell (p:=⟨w.1.size,1,none⟩) aR _
  | true=>
   obtain⟨i0,i5⟩:=dm.1 g2;obtain⟨j,rfl⟩:=Int.eq_ofNat_of_zero_le i0;obtain⟨hx,gy⟩:=S0.out;have h6:=vv g1;have hg:=yF g1 (i:=j) (by omega);rcases gy with h0|⟨b,off,rfl,hb,h1⟩
   ·omega
   ·obtain⟨d0,d1⟩:=(h1.get (i:=j) (by omega)).below B1.out hb;have fF:b≠w.1.size:=by omega
    have SK:(j:Int)<(n:Int):=by omega
    cases g3:jA (at2 xs j).head with
    | true=>
     have HB:Hid (kI xs (j:Int)=false):=by unfold Hid kI;rw[g1,g2,Int.toNat_natCast,g3];rfl
     have HC:Hid (fA xs (j:Int)=⟨0,0⟩):=by unfold Hid fA;rw[HB.out];rfl
     clear hx h6 h1;go_wp2_with (first|(go_at_call 64;refine(qc _ _).mono ?_;rw[g2];rintro e w' ⟨rfl,rfl⟩)|(go_at_call 174;refine(qb _ _).mono ?_;rw[hg,g3];rintro e w' ⟨rfl,rfl⟩));refine bodyPost_ret (v:=.tuple #[.agg #[vI 0,vI 0],.bool false]) (by simp[results,Tryz.results146,go_sem,c0,c1]) rfl ⟨by rw[HB.out,HC.out],?_⟩;exact(B1.out.setCell (p:=⟨w.1.size,0,none⟩) aR _).setCell (p:=⟨w.1.size,1,none⟩) aR _
    | false=>
     have HB:Hid (kI xs (j:Int)=true):=by unfold Hid kI;rw[g1,g2,Int.toNat_natCast,g3];rfl
     have HC:Hid (fA xs (j:Int)=at2 xs j):=by unfold Hid fA;rw[HB.out,Int.toNat_natCast];rfl
     clear hx h6 h1;go_wp2_with (first|(go_at_call 64;refine(qc _ _).mono ?_;rw[g2];rintro e w' ⟨rfl,rfl⟩)|(go_at_call 174;refine(qb _ _).mono ?_;rw[hg,g3];rintro e w' ⟨rfl,rfl⟩));refine bodyPost_ret (v:=.tuple #[.agg #[vI (at2 xs j).head,vI (at2 xs j).g],.bool true]) (by simp[results,Tryz.results146,go_sem,c0,c1]) rfl ⟨by rw[HB.out,HC.out],?_⟩;exact(B1.out.setCell (p:=⟨w.1.size,0,none⟩) aR _).setCell (p:=⟨w.1.size,1,none⟩) aR _
end
def nI(xs:List C2)(r s:Int):tx.N5:=⟨r,s,eD (fA xs s).head,(fA xs s).g,aY 0 4000003 (fA xs s).head&&bN (fA xs s).head⟩
def Jl(xs:List C2)(t:tx.T7)(r s:Int):Int:=if kI xs s=true then Ls t (nI xs r s)else 7
theorem GM(w:World)(B d:Nat)(a1:Option Addr)(c1:Nat)(a2:Option Addr)(c2:Nat)(a3:Option Addr)(c3:Nat)(k:C6)(i:Nat)(u:tx.TV)(t:tx.T7)(P:Nat->Prop)(a:Option Addr)(c:Nat)(xs:List C2)(r s:Int)(hk:aD k=true)(h:bK.Rd w a1 c1 a2 c2 a3 c3 k)(hd:DB w B d a1 c1 a2 c2 a3 c3 k i u t P)(hl:tx.TL t)(MK:B<=w.1.size)(hx:xs.length<=maxLen)(hs:pE w w.1.size a xs.length xs):
  Calls Tryz.prog 107 #[.pointer (some ⟨d,0,none⟩),.slice a xs.length c,.agg #[vI r,vI s]] w (F7 w B d a1 c1 a2 c2 a3 c3 k i P (tx.dO t (nI xs r s)) (Jl xs t r s) (.agg #[vI r,vI s,vI (eD (fA xs s).head),vI (fA xs s).g,.bool (aY 0 4000003 (fA xs s).head&&bN (fA xs s).head)])):=by
 obtain⟨U0,iQ⟩:∃Y,Y=w.alloc (.cells #[vI r,vI s] 62):=⟨_,rfl⟩
 have sG:Below w.1.size w U0:=by rw[iQ];exact aJ.alloc aR _
 have wY:Bx U0 w.1.size [vI r,vI s]:=by rw[iQ];exact Bx.made w [vI r,vI s] _
 have ym:U0.1.size=w.1.size+1:=by rw[iQ];simp
 obtain⟨U1,kG⟩:∃Y,Y=U0.alloc (.cells #[vI 0,vI 0,vI 0,vI 0,.bool false] 112):=⟨_,rfl⟩
 have yx:Below U0.1.size U0 U1:=by rw[kG];exact aJ.alloc aR _
 have Ck:Bx U1 U0.1.size [vI 0,vI 0,vI 0,vI 0,.bool false]:=by rw[kG];exact Bx.made U0 [vI 0,vI 0,vI 0,vI 0,.bool false] _
 have H8:U1.1.size=U0.1.size+1:=by rw[kG];simp
 have hU:U1=(w.alloc (.cells #[vI r,vI s] 62)).alloc (.cells #[vI 0,vI 0,vI 0,vI 0,.bool false] 112):=by rw[kG,iQ]
 have bU:Below w.1.size w U1:=ay sG yx;have x0:=wY.later yx;rw[ym]at Ck;have HR:Hid (bK.Rd U1 a1 c1 a2 c2 a3 c3 k/\aD k=true/\DB U1 B d a1 c1 a2 c2 a3 c3 k i u t P/\tx.TL t/\Below w.1.size w U1/\d<w.1.size/\B<=w.1.size):=⟨h.later bU,hk,hd.later bU,hl,bU,hd.bx.2.2,MK⟩
 have HX:Hid (Bx U1 w.1.size [vI r,vI s]/\Bx U1 (w.1.size+1) [vI 0,vI 0,vI 0,vI 0,.bool false]):=⟨x0,Ck⟩
 have ka:∀q,P q->q<w.1.size:=fun q hq=>(hd.ow.of hq).2
 have cL:=CW U1 a xs.length c s xs hx (pE.later hs bU);have p1:=x0.1 1 _ rfl;rw[hU]at p1;have HS:Hid (U1.1.size=w.1.size+2):=by unfold Hid;rw[H8,ym]
 clear iQ kG sG yx bU wY Ck ym H8 x0 h hk hd hl MK hx hs;clear U0;go_enter Tryz.func107,Tryz.ntmps107;go_wp2_with fail;rw[<-hU];clear hU p1;refine cL.mono ?_;clear cL;rintro e W1 ⟨rfl,b1⟩;have B1:Hid (Below U1.1.size U1 W1):=b1;clear b1;obtain⟨x,XW⟩:∃x,fA xs s=x:=⟨_,rfl⟩
 have HN:Hid (nI xs r s=⟨r,s,eD x.head,x.g,aY 0 4000003 x.head&&bN x.head⟩):=by unfold Hid nI;rw[XW]
 have gj:=aB XW;rw[XW];clear XW;obtain⟨V,hV⟩:∃V,V=W1.alloc (.cells #[vI x.head,vI x.g] 104):=⟨_,rfl⟩
 have bV:Below W1.1.size W1 V:=by rw[hV];exact aJ.alloc aR _
 have xV:Bx V W1.1.size [vI x.head,vI x.g]:=by rw[hV];exact Bx.made W1 [vI x.head,vI x.g] _
 have BV:Hid (Below U1.1.size U1 V/\Bx V W1.1.size [vI x.head,vI x.g]):=⟨ay B1.out bV,xV⟩
 clear bV xV
 cases Jb:kI xs s with
 | false=>
  have HC:Hid (Jl xs t r s=7):=by unfold Hid Jl;rw[Jb];rfl
  have hr:=iW V d a1 c1 a2 c2 a3 c3 k [vI (i:Int),vI t.id,vI t.o,vI t.q,vI t.v,.slice u.ar t.a.length u.cr,.slice u.ah t.ag.length u.ch,vI t.aA] 7 HR.out.2.1 (HR.out.1.later BV.out.1) (HR.out.2.2.1.bx.later BV.out.1);clear Jb;go_wp2_with fail;rw[<-hV];clear hV;refine hr.mono ?_;clear hr;intro e w2 hr;have HE:Hid (F7 w B d a1 c1 a2 c2 a3 c3 k i P (tx.dO t (nI xs r s)) (Jl xs t r s) (.agg #[vI r,vI s,vI (eD (fA xs s).head),vI (fA xs s).g,.bool (aY 0 4000003 (fA xs s).head&&bN (fA xs s).head)]) e w2):=.inl ⟨by rw[HC.out];decide,by rw[HC.out];exact(hr.low (ay HR.out.2.2.2.2.1 BV.out.1))⟩;obtain⟨e1,d1,e2,d2,e3,d3,P2,rfl,-,-⟩:=hr;go_wp2;exact⟨rfl,HE.out⟩
 | true=>
  have HC:Hid (Jl xs t r s=Ls t (nI xs r s)):=by unfold Hid Jl;rw[Jb];rfl
  clear Jb;have cN:=A9 V r s x.head x.g;have k0:=(HX.out.1.later BV.out.1).1 0 _ rfl;have k1:=(HX.out.1.later BV.out.1).1 1 _ rfl;have v0:=BV.out.2.1 0 _ rfl;have v1:=BV.out.2.1 1 _ rfl;rw[hV]at k0 k1 v0 v1;go_wp2_with fail;rw[<-hV];clear hV k0 k1 v0 v1;refine cN.mono ?_;clear cN;rintro e W2 ⟨rfl,b2⟩;obtain⟨n,hn⟩:∃n:tx.N5,n=⟨r,s,eD x.head,x.g,aY 0 4000003 x.head&&bN x.head⟩:=⟨_,rfl⟩
  have Ym:Hid (nI xs r s=n):=HN.out.trans hn.symm;obtain⟨Q,hQ⟩:∃V,V=W2.alloc (.cells #[vI r,vI s,vI (eD x.head),vI x.g,.bool (aY 0 4000003 x.head&&bN x.head)] 112):=⟨_,rfl⟩
  have bQ:Below W2.1.size W2 Q:=by rw[hQ];exact aJ.alloc aR _
  have xQ:Bx Q W2.1.size [vI r,vI s,vI (eD x.head),vI x.g,.bool (aY 0 4000003 x.head&&bN x.head)]:=by rw[hQ];exact Bx.made W2 [vI r,vI s,vI (eD x.head),vI x.g,.bool (aY 0 4000003 x.head&&bN x.head)] _
  have BQ:Hid (Below U1.1.size U1 Q):=ay BV.out.1 (ay b2 bQ);have HQ:Hid (Bx Q W2.1.size [vI r,vI s,vI (eD x.head),vI x.g,.bool (aY 0 4000003 x.head&&bN x.head)]/\U1.1.size<=W2.1.size):=⟨xQ,(ay BV.out.1 b2).size⟩
  have cA:=DX Q B d a1 c1 a2 c2 a3 c3 k i u t P n HR.out.2.1 (HR.out.1.later BQ.out) (HR.out.2.2.1.later BQ.out) HR.out.2.2.2.1 (by have:=HR.out.2.2.2.2.2.2;have:=HR.out.2.2.2.2.1.size;have:=BQ.out.size;omega);have n0:=xQ.1 0 _ rfl;have n1:=xQ.1 1 _ rfl;have n2:=xQ.1 2 _ rfl;have n3:=xQ.1 3 _ rfl;have n4:=xQ.1 4 _ rfl;rw[hQ]at n0 n1 n2 n3 n4;rw[hn]at cA;simp only at cA;rw[<-hn]at cA;clear b2 bQ xQ BV;rw[<-Ym.out]at cA;have HP:Hid (∀q,P q->q<w.1.size):=ka;go_wp2_with fail;rw[<-hQ];clear hQ n0 n1 n2 n3 n4;refine cA.mono ?_;clear cA;intro e W3 hA;rcases hA with ⟨fF,hr⟩|⟨hz,rfl,⟨u',P',vD,DN⟩,wS⟩
  ·have HE:Hid (F7 w B d a1 c1 a2 c2 a3 c3 k i P (tx.dO t (nI xs r s)) (Jl xs t r s) (.agg #[vI r,vI s,vI (eD (fA xs s).head),vI (fA xs s).g,.bool (aY 0 4000003 (fA xs s).head&&bN (fA xs s).head)]) e W3):=.inl ⟨by rw[HC.out];exact fF,by rw[HC.out];exact hr.low (ay HR.out.2.2.2.2.1 BQ.out)⟩;obtain⟨e1,d1,e2,d2,e3,d3,P2,rfl,-,-⟩:=hr;go_wp2;exact⟨rfl,HE.out⟩
  ·have Gz:=HQ.out.2;have Ao:=HS.out;have OG:=HR.out.2.2.2.2.2.1;have ew:=HQ.out.1.2.2;have xn:Bx W3 W2.1.size [vI r,vI s,vI (eD x.head),vI x.g,.bool (aY 0 4000003 x.head&&bN x.head)]:=HQ.out.1.aj (wS.block _ ew (by omega)) wS.size;have xr:Bx W3 (w.1.size+1) [vI 0,vI 0,vI 0,vI 0,.bool false]:=(HX.out.2.later BQ.out).aj (wS.block _ (HX.out.2.later BQ.out).2.2 (by omega)) wS.size;obtain⟨Y,hY⟩:∃Y,Y=di W3 (w.1.size+1) 0 [vI r,vI s,vI (eD x.head),vI x.g,.bool (aY 0 4000003 x.head&&bN x.head)]:=⟨_,rfl⟩
   have xy:=xr.put [vI r,vI s,vI (eD x.head),vI x.g,.bool (aY 0 4000003 x.head&&bN x.head)] rfl;rw[<-hY]at xy;have qN:Y=(((((W3.setCell ⟨w.1.size+1,0,none⟩ (vI r)).setCell ⟨w.1.size+1,1,none⟩ (vI s)).setCell ⟨w.1.size+1,2,none⟩ (vI (eD x.head))).setCell ⟨w.1.size+1,3,none⟩ (vI x.g)).setCell ⟨w.1.size+1,4,none⟩ (.bool (aY 0 4000003 x.head&&bN x.head))):=hY;have Yg:Y.1.size=W3.1.size:=by rw[hY];exact bf _ _ _ _
   have Qt:∀q,q≠w.1.size+1->Y.1[q]?=W3.1[q]?:=fun q hq=>by rw[hY];exact aV hq _ _ _
   have JW:=BQ.out.size;have eI:=HR.out.2.2.2.2.1.size
   have KE:Hid (F7 w B d a1 c1 a2 c2 a3 c3 k i P (tx.dO t (nI xs r s)) (Jl xs t r s) (.agg #[vI r,vI s,vI (eD (fA xs s).head),vI (fA xs s).g,.bool (aY 0 4000003 (fA xs s).head&&bN (fA xs s).head)]) (.returned (.agg #[vI r,vI s,vI (eD x.head),vI x.g,.bool (aY 0 4000003 x.head&&bN x.head)])) Y):=by
    refine .inr ⟨by rw[HC.out];exact hz,by rw[gj.out],⟨u',P',⟨vD.bx.aj (Qt d (by omega)) (Nat.le_of_eq Yg.symm),vD.ow.aQ (Nat.le_of_eq Yg.symm) (fun q hq=>Qt q ?_),vD.nd,vD.lo⟩,fun q hq=>(DN q hq).imp id (fun h=>by omega)⟩,?_⟩
    ·rcases DN q hq with h|h
     ·have:=HP.out q h;omega
     ·omega
    ·have hb:cu d w W3:=((cu.refl d w).dK (ay HR.out.2.2.2.2.1 BQ.out)).trans wS;refine⟨?_,?_,?_,by rw[Yg];exact hb.size,fun q hq Wl=>(Qt q (by omega)).trans (hb.block q hq Wl)⟩
     ·rw[hY];exact(aU (w:=W3) (B:=0) (Nat.zero_le _) _ _ _ aJ).os.trans hb.os
     ·rw[hY];exact(aU (w:=W3) (B:=0) (Nat.zero_le _) _ _ _ aJ).tape.trans hb.tape
     ·rw[hY];exact(aU (w:=W3) (B:=0) (Nat.zero_le _) _ _ _ aJ).output.trans hb.output
   have m0:=xn.1 0 _ rfl;have c0:=xr.1 0 _ rfl;have f0:=xr.2.1 0;have m1:=xn.1 1 _ rfl;have c1:=xr.1 1 _ rfl;have f1:=xr.2.1 1;have m2:=xn.1 2 _ rfl;have c2:=xr.1 2 _ rfl;have f2:=xr.2.1 2;have m3:=xn.1 3 _ rfl;have c3:=xr.1 3 _ rfl;have f3:=xr.2.1 3;have m4:=xn.1 4 _ rfl;have c4:=xr.1 4 _ rfl;have f4:=xr.2.1 4;have y0:=xy.1 0 _ rfl;have y1:=xy.1 1 _ rfl;have y2:=xy.1 2 _ rfl;have y3:=xy.1 3 _ rfl;have y4:=xy.1 4 _ rfl;have LX:=aB qN;clear hY qN Yg Qt xy xr xn vD DN wS Gz Ao OG ew JW eI;go_wp2;rw[<-LX.out];exact bodyPost_ret (v:=.agg #[vI r,vI s,vI (eD x.head),vI x.g,.bool (aY 0 4000003 x.head&&bN x.head)]) (by simp[results,Tryz.results107,go_sem,y0,y1,y2,y3,y4]) rfl KE.out
def iP(aO:List (List Int))(r:Int):Bool:=dS aO&&aY 0 ((aO.length:Int)-1) r
def Cc(aO:List (List Int))(r:Int):Int:=if iP aO r=true then eU (dR aO r.toNat) 0 else -1
theorem Cf{aO:List (List Int)}{r:Int}(h:iP aO r=true):∃i:Nat,r=(i:Int)/\i<aO.length/\1<=(dR aO i).length/\(dR aO i).length<=3:=by
 simp only[iP,Bool.and_eq_true,dm]at h;obtain⟨i,rfl⟩:=Int.eq_ofNat_of_zero_le h.2.1;have hi:i<aO.length:=by omega
 have hp:=h.1;simp only[dS,Bool.and_eq_true]at hp;have:=List.all_eq_true.1 hp.2 i (List.mem_range.2 hi);simp only[dY,Bool.and_eq_true,decide_eq_true_eq]at this;exact⟨i,rfl,hi,this.1.1,this.1.2⟩
theorem kW(w:World)(a:Option Addr)(n cap:Nat)(r:Int)(aO:List (List Int))(hn:n<=maxLen)(hs:uS w w.1.size a n aO):
  Calls Tryz.prog 109 #[.slice a n cap,vI r] w fun e w'=>e=.returned (.bool (iP aO r))/\Below w.1.size w w':=by
 have hx:=hs.1;have hc:=nC w a n cap aO hn hs;unfold maxLen at hn;clear hs
 cases hp:dS aO with
 | false=>
  rw[hp]at hc;have hV:iP aO r=false:=by simp[iP,hp]
  rw[hV];go_enter Tryz.func109,Tryz.ntmps109;go_wp2_with fail;refine hc.mono ?_;clear hc;rintro e w1 ⟨rfl,b1⟩;go_wp2;go_ret;exact⟨rfl,b1⟩
 | true=>
  rw[hp]at hc;have hV:iP aO r=aY 0 ((n:Int)-1) r:=by simp[iP,hp,hx]
  rw[hV];by_cases h0:0<=r
  ·by_cases h8:r<(n:Int)
   ·rw[iN (by omega) (by omega)];go_enter Tryz.func109,Tryz.ntmps109;go_wp2_with fail;refine hc.mono ?_;clear hc;rintro e w1 ⟨rfl,b1⟩;go_wp2;go_ret;exact⟨rfl,b1⟩
   ·have hd:decide (r<(n:Int))=false:=by simp;omega
    have hb:aY 0 ((n:Int)-1) r=false:=by cases h:aY 0 ((n:Int)-1) r with|false=>rfl|true=>rw[dm]at h;omega
    rw[hb];go_enter Tryz.func109,Tryz.ntmps109;go_wp2_with fail;refine hc.mono ?_;clear hc;rintro e w1 ⟨rfl,b1⟩;go_wp2;go_ret;exact⟨rfl,b1⟩
  ·have hd:decide (0<=r)=false:=by simp;omega
   have hb:aY 0 ((n:Int)-1) r=false:=by cases h:aY 0 ((n:Int)-1) r with|false=>rfl|true=>rw[dm]at h;omega
   rw[hb];go_enter Tryz.func109,Tryz.ntmps109;go_wp2_with fail;refine hc.mono ?_;clear hc;rintro e w1 ⟨rfl,b1⟩;go_wp2;go_ret;exact⟨rfl,b1⟩
theorem xx(w:World)(a:Option Addr)(n cap:Nat)(r:Int)(aO:List (List Int))(hn:n<=maxLen)(hs:uS w w.1.size a n aO):
  Calls Tryz.prog 179 #[.slice a n cap,vI r] w fun e w'=>e=.returned (vI (Cc aO r))/\Below w.1.size w w':=by
 go_enter Tryz.func179,Tryz.ntmps179;go_wp2_with fail;refine(kW w a n cap r aO hn hs).mono ?_
 cases hp:iP aO r with
 | false=>
  rintro e w1 ⟨rfl,b1⟩;go_wp2;go_ret;exact⟨by simp[Cc,hp],b1⟩
 | true=>
  obtain⟨i,rfl,hi,l1,l2⟩:=Cf hp;rintro e w1 ⟨rfl,b1⟩;obtain⟨hx,hs⟩:=hs;unfold maxLen at hn;rcases hs with hs|⟨b,off,rfl,hb,h1⟩
  ·omega
  ·obtain⟨a',aZ,hc,⟨_,vF⟩,jJ⟩:=h1 i _ (fI hi);rcases vF with vF|⟨b',bG,rfl,fC,h2⟩
   ·omega
   ·have c1:=(b1.cell (p:=⟨b,off+i,none⟩) hb).trans hc;have c2:=(b1.cell (p:=⟨b',bG+0,none⟩) fC).trans (h2 0 _ (iJ (by omega)));have JZ:(i:Int)<(n:Int):=by omega
    have XX:(0:Int)<((dR aO i).length:Int):=by omega
    have HR:Hid (Cc aO (i:Int)=eU (dR aO i) 0):=by unfold Hid;simp[Cc,hp]
    have B1:Hid (Below w.1.size w w1):=b1;rw[Nat.add_zero]at c2;clear h1 h2 hc b1 hp;generalize (dR aO i).length=m at *;go_wp2;go_ret;exact⟨by rw[HR.out];rfl,B1.out⟩
def KC.Rd(X:World)(a:Option Addr)(_:Nat)(xs:List C2):Prop:=pE X X.1.size a xs.length xs
def KC.Ow(w:World)(B:Nat)(a:Option Addr)(_:Nat)(xs:List C2)(P:Nat->Prop):Prop:=(xs=[]\/∃q,a=some ⟨q,0,none⟩/\P q/\bJ w q 0 xs/\Room w q (xs.length*2))/\(∀q,P q->B<=q/\q<w.1.size)
theorem KC.Ow.sl{w:World}{B:Nat}{a:Option Addr}{c:Nat}{xs:List C2}{P:Nat->Prop}(h:KC.Ow w B a c xs P):KC.Rd w a c xs:=by
 rcases h with ⟨rfl|⟨q,rfl,hp,h1,h2⟩,hb⟩
 ·exact⟨rfl,.inl rfl⟩
 ·exact⟨rfl,.inr ⟨q,0,rfl,(hb q hp).2,h1⟩⟩
section
variable {i:Nat}{k:C6}{w w':World}{y:Int}
def vZ(k:C6)(i:Nat):M4:=aS k.aa (eU (dR k.f i) 0).toNat
noncomputable def JH(k:C6)(y:Int):Option (List C2):=if aD k=true/\0<=y/\y<(k.f.length:Int)/\(vZ k y.toNat).x=true then some (cO (vZ k y.toNat).af (rJ (vZ k y.toNat) y).toNat).cells else none
noncomputable def jh(k:C6)(y:Int):List C2:=(JH k y).getD []
noncomputable def pG(k:C6)(y:Int):Bool:=(JH k y).isSome
theorem yD(h:¬(aD k=true/\0<=y/\y<(k.f.length:Int)/\(vZ k y.toNat).x=true)):jh k y=[]/\pG k y=false:=⟨by simp[jh,JH,h],by simp[pG,JH,h]⟩
theorem Cy{j:Nat}(h1:aD k=true)(h2:i<k.f.length)(h3:(vZ k i).x=true)(h4:rJ (vZ k i) (i:Int)=(j:Int)):jh k (i:Int)=(cO (vZ k i).af j).cells/\pG k (i:Int)=true:=by
 have h:aD k=true/\0<=(i:Int)/\(i:Int)<(k.f.length:Int)/\(vZ k (i:Int).toNat).x=true:=⟨h1,by omega,by omega,h3⟩
 have e:JH k (i:Int)=some (cO (vZ k i).af j).cells:=by
  unfold JH;rw[if_pos h];simp only[Int.toNat_natCast];rw[h4];rfl
 exact⟨by rw[jh,e];rfl,by rw[pG,e];rfl⟩
theorem CB(h:aD k=true)(hi:i<k.f.length):∃z:Nat,eU (dR k.f i) 0=(z:Int)/\z<k.aa.length/\0<(dR k.f i).length/\vZ k i=aS k.aa z/\eY (aS k.aa z)=true/\((aS k.aa z).x=true->tQ (aS k.aa z) (i:Int)=true):=by
 rw[pJ]at h;simp only[Bool.and_eq_true,decide_eq_true_eq]at h;obtain⟨_,_,⟨⟨_,_⟩,hm⟩,hp,CV,_⟩:=h
 have hlen:1<=(dR k.f i).length:=by
  have dy:=hp;simp only[dS,Bool.and_eq_true]at dy;have h1:=List.all_eq_true.1 dy.2 i (List.mem_range.2 hi);simp only[dY,Bool.and_eq_true,decide_eq_true_eq]at h1;omega
 have hz:=zO hp hi (j:=0) (by omega);have hs:=List.all_eq_true.1 (List.all_eq_true.1 CV i (List.mem_range.2 hi)) 0 (List.mem_range.2 (by omega));obtain⟨z,ZA⟩:∃z:Nat,eU (dR k.f i) 0=(z:Int):=⟨_,(Int.toNat_of_nonneg hz.1).symm⟩
 simp only[jf,ZA,Bool.and_eq_true,decide_eq_true_eq,Int.toNat_natCast]at hs;have xu:z<k.aa.length:=by omega
 exact⟨z,ZA,xu,by omega,by rw[vZ,ZA];rfl,List.all_eq_true.1 hm z (List.mem_range.2 xu),fun ha=>by have:=hs.2;rw[ha]at this;simpa using this⟩
def Ap(w:World)(N:List C2)(o:Bool)(e:Ending)(w':World):Prop:=∃(a:Option Addr) (c:Nat) (P:Nat->Prop),e=.returned (.tuple #[.slice a N.length c,.bool o])/\KC.Ow w' w.1.size a c N P/\Below w.1.size w w'
theorem Ap.zero(hn:jh k y=[]/\pG k y=false)(a:Option Addr)(c:Nat)(h:Below w.1.size w w'):Ap w (jh k y) (pG k y) (.returned (.tuple #[.slice a 0 c,.bool false])) w':=by
 rw[hn.1,hn.2];exact⟨a,c,fun _=>False,rfl,⟨.inl rfl,fun _ h=>h.elim⟩,h⟩
theorem Ap.some{xs:List C2}(hn:jh k y=xs/\pG k y=true){q c:Nat}(h1:w.1.size<=q)(h2:q<w'.1.size)(h3:bJ w' q 0 xs)(h4:Room w' q (xs.length*2))(h:Below w.1.size w w'):Ap w (jh k y) (pG k y) (.returned (.tuple #[.slice (some ⟨q,0,none⟩) xs.length c,.bool true])) w':=by
 rw[hn.1,hn.2];exact⟨_,c,fun x=>x=q,rfl,⟨.inr ⟨q,rfl,rfl,h3,h4⟩,fun x hx=>by subst hx;exact⟨h1,h2⟩⟩,h⟩
end
theorem qQ(w:World)(a1:Option Addr)(c1:Nat)(a2:Option Addr)(c2:Nat)(a3:Option Addr)(c3:Nat)(k:C6)(y:Int)(hl:bK.L k)(h:bK.Rd w a1 c1 a2 c2 a3 c3 k):Calls Tryz.prog 149 #[.agg #[vI k.u,vI k.l,.slice a1 k.f.length c1,.slice a2 k.aa.length c2,.slice a3 k.c.length c3,.bool k.w],vI y] w (Ap w (jh k y) (pG k y)):=by
 have V6:=hl.p;have Zk:=hl.m;unfold maxLen at V6 Zk;obtain⟨U,hU⟩:∃Y,Y=w.alloc (.cells #[vI k.u,vI k.l,.slice a1 k.f.length c1,.slice a2 k.aa.length c2,.slice a3 k.c.length c3,.bool k.w] 32):=⟨_,rfl⟩
 have b0:Below w.1.size w U:=by rw[hU];exact aJ.alloc aR _
 have FA:Hid (Bx U w.1.size (dJ a1 c1 a2 c2 a3 c3 k)):=by unfold Hid;rw[hU];exact Bx.made w (dJ a1 c1 a2 c2 a3 c3 k) _
 have HR:Hid (bK.Rd U a1 c1 a2 c2 a3 c3 k/\bK.L k/\Below w.1.size w U):=⟨h.later b0,hl,b0⟩
 clear b0 h hl;have hc:=jO U a1 c1 a2 c2 a3 c3 k HR.out.2.1 HR.out.1;go_enter Tryz.func149,Tryz.ntmps149;go_wp2_with fail;rw[<-hU];clear hU;refine hc.mono ?_;clear hc;rintro e w1 ⟨rfl,b1⟩;have B1:=aB b1;clear b1
 cases hB:aD k with
 | false=>
  have HN:=aB (yD (k:=k) (y:=y) (fun h=>by rw[h.1]at hB;cases hB));go_wp2;exact bodyPost_ret (v:=.tuple #[.slice none 0 0,.bool false]) (by simp[results,Tryz.results149,go_sem]) rfl (Ap.zero HN.out _ _ (ay HR.out.2.2 B1.out))
 | true=>
 have hp:dS k.f=true:=by
  rw[pJ]at hB;simp only[Bool.and_eq_true]at hB;exact hB.2.2.2.1
 have p2:=(FA.out.later B1.out).1 2 _ rfl;have hc:=kW w1 a1 k.f.length c1 y k.f HR.out.2.1.p (HR.out.1.p.later B1.out);go_wp2_with fail;refine hc.mono ?_;clear hc p2;rintro e w2 ⟨rfl,b2⟩;have B2:Hid (Below U.1.size U w2):=ay B1.out b2;clear b2
 cases hI:iP k.f y with
 | false=>
  have HN:=aB (yD (k:=k) (y:=y) (fun h=>by
   have:iP k.f y=true:=by
    simp only[iP,Bool.and_eq_true];exact⟨hp,dm.2 ⟨h.2.1,by omega⟩⟩
   rw[this]at hI;cases hI))
  go_wp2;exact bodyPost_ret (v:=.tuple #[.slice none 0 0,.bool false]) (by simp[results,Tryz.results149,go_sem]) rfl (Ap.zero HN.out _ _ (ay HR.out.2.2 B2.out))
 | true=>
 obtain⟨i,rfl,hi,GA,-⟩:=Cf hI;obtain⟨z,hz,xu,-,mH,QV,Et⟩:=CB hB hi;have me:Cc k.f (i:Int)=(z:Int):=by rw[Cc,if_pos hI,Int.toNat_natCast];exact hz
 have Gs:=HR.out.2.1.ms _ (List.mem_of_getElem? (il xu));rcases HR.out.1.m with hs|⟨b2,iX,rfl,ky,h1⟩
 ·rw[hs]at xu;simp at xu
 obtain⟨⟨m0,m1,m2,m3,m4,m5⟩,bg,fM⟩:=h1 z _ (il xu);have i2:(z:Int)<(k.aa.length:Int):=by omega
 have SF:Hid (∀X,Below U.1.size U X->(fun X:World=>Bx X w.1.size (dJ a1 c1 (some ⟨b2,iX,none⟩) c2 a3 c3 k)/\X.cell? ⟨b2,iX+z*4,none⟩=some (.bool (aS k.aa z).x)/\X.cell? ⟨b2,iX+z*4+1,none⟩=some (.slice m0 (aS k.aa z).af.length m1)/\X.cell? ⟨b2,iX+z*4+2,none⟩=some (.slice m2 (aS k.aa z).h.length m3)/\X.cell? ⟨b2,iX+z*4+3,none⟩=some (.slice m4 (aS k.aa z).ai.length m5)) X):=fun X hX=>⟨FA.out.later hX,(hX.cell (p:=⟨b2,iX+z*4,none⟩) ky).trans (bg 0 _ rfl),(hX.cell (p:=⟨b2,iX+z*4+1,none⟩) ky).trans (bg 1 _ rfl),(hX.cell (p:=⟨b2,iX+z*4+2,none⟩) ky).trans (bg 2 _ rfl),(hX.cell (p:=⟨b2,iX+z*4+3,none⟩) ky).trans (bg 3 _ rfl)⟩
 have HK:Hid (xe U U.1.size m0 (aS k.aa z).af.length (aS k.aa z).af/\ML (aS k.aa z)/\eY (aS k.aa z)=true):=⟨fM.k,Gs,QV⟩
 have HH:Hid (aD k=true/\i<k.f.length/\vZ k i=aS k.aa z/\((aS k.aa z).x=true->tQ (aS k.aa z) (i:Int)=true)):=⟨hB,hi,mH,Et⟩
 clear h1 bg fM Gs QV Et mH hz hp hI;go_wp2_with fail;have bd:Below U.1.size U w2.drew:=B2.out.drew;have hS:=SF.out _ bd;refine bu (fun z=>z==13) (fun X:World=>Bx X w.1.size (dJ a1 c1 (some ⟨b2,iX,none⟩) c2 a3 c3 k)/\X.cell? ⟨b2,iX+z*4,none⟩=some (.bool (aS k.aa z).x)/\X.cell? ⟨b2,iX+z*4+1,none⟩=some (.slice m0 (aS k.aa z).af.length m1)/\X.cell? ⟨b2,iX+z*4+2,none⟩=some (.slice m2 (aS k.aa z).h.length m3)/\X.cell? ⟨b2,iX+z*4+3,none⟩=some (.slice m4 (aS k.aa z).ai.length m5)) (by kernel_rfl) ?_;generalize w2.drew=Wd at *;refine cz 0 ?_ rfl ?_ hS ?_;rotate_left
 ·(intro X _;go_simp;first|done|with_reducible rfl)
 simp only[Act.put];refine jg 1 ?_ rfl ?_ hS ?_;rotate_left
 ·(intro X aG;have c0:=aG.1.1 0 _ rfl;have c1:=aG.1.1 1 _ rfl;have c2:=aG.1.1 2 _ rfl;have c3:=aG.1.1 3 _ rfl;have c4:=aG.1.1 4 _ rfl;have c5:=aG.1.1 5 _ rfl;go_simp;first|done|with_reducible rfl)
 simp only[Act.put];refine cz 2 ?_ rfl ?_ hS ?_;rotate_left
 ·(intro X _;go_simp;first|done|with_reducible rfl)
 simp only[Act.put];refine jg 3 ?_ rfl ?_ hS ?_;rotate_left
 ·(intro X aG;have c0:=aG.1.1 0 _ rfl;have c1:=aG.1.1 1 _ rfl;have c2:=aG.1.1 2 _ rfl;have c3:=aG.1.1 3 _ rfl;have c4:=aG.1.1 4 _ rfl;have c5:=aG.1.1 5 _ rfl;go_simp;first|done|with_reducible rfl)
 simp only[Act.put];refine cz 4 ?_ rfl ?_ hS ?_;rotate_left
 ·(intro X _;go_simp;first|done|with_reducible rfl)
 simp only[Act.put];refine cz 9 ?_ rfl ?_ hS ?_;rotate_left
 ·(intro X _;go_simp;first|done|with_reducible rfl)
 simp only[Act.put];refine cZ 5 rfl (fun K hK=>?_);go_simp;refine(xx Wd a1 k.f.length c1 (i:Int) k.f HR.out.2.1.p (HR.out.1.p.later bd)).mono ?_;rw[me];rintro e X1 ⟨rfl,b1⟩;have bX:=ay bd b1;refine hK.out _ _ (fun _=>SF.out _ bX) ?_;clear hK K;have hS:=SF.out _ bX;refine cz 6 ?_ rfl ?_ hS ?_;rotate_left
 ·(intro X _;go_simp;first|done|with_reducible rfl)
 simp only[Act.put];refine jg 7 ?_ rfl ?_ hS ?_;rotate_left
 ·(intro X aG;have d0:=aG.2.1;have d1:=aG.2.2.1;have d2:=aG.2.2.2.1;have d3:=aG.2.2.2.2;go_simp;first|done|with_reducible rfl)
 simp only[Act.put];refine cZ 8 rfl (fun K hK=>?_);go_simp;refine(ou X1 m0 m1 m2 m3 m4 m5 (aS k.aa z)).mono ?_;rintro e X2 ⟨rfl,b2⟩;have bY:=ay bX b2;refine hK.out _ _ (fun _=>SF.out _ bY) ?_;clear hK K;have hS:=SF.out _ bY;refine cZ 10 rfl (fun K hK=>?_);go_simp;refine(sO X2 m0 m1 (aS k.aa z) (i:Int) HK.out.2.1 HK.out.2.2 (HK.out.1.later bY)).mono ?_;rintro e X3 ⟨ha,b3⟩;have bZ:=ay bY b3;have KZ:Hid (Below w.1.size w X3/\w.1.size<=X2.1.size):=⟨ay HR.out.2.2 bZ,(ay HR.out.2.2 bY).size⟩
 rcases ha with ⟨ha,⟨hh,rfl⟩|⟨hh,j,q,cp,hj,Ev,rfl,h1,h2,h3,h4,h5⟩⟩|⟨ha,rfl⟩
 ·have:=HH.out.2.2.2 ha;rw[hh]at this;cases this
 ·have HN:=aB (Cy (j:=j) HH.out.1 HH.out.2.1 (by rw[HH.out.2.2.1];exact ha) (by rw[HH.out.2.2.1];exact hj));rw[HH.out.2.2.1]at HN;have KF:Hid (w.1.size<=q/\q<X3.1.size/\bJ X3 q 0 (cO (aS k.aa z).af j).cells/\Room X3 q ((cO (aS k.aa z).af j).cells.length*2)):=⟨Nat.le_trans KZ.out.2 h1,h2,h4,h5⟩
  clear h1 h2 h3 h4 h5;refine hK.out _ _ (fun _=>SF.out _ bZ) ?_;clear hK K;have hS:=SF.out _ bZ;refine cz 11 ?_ rfl ?_ hS ?_;rotate_left
  ·(intro X _;go_simp;first|done|with_reducible rfl)
  simp only[Act.put];refine cz 12 ?_ rfl ?_ hS ?_;rotate_left
  ·(intro X _;go_simp;first|done|with_reducible rfl)
  simp only[Act.put];refine cZ 13 rfl (fun K hK=>?_);go_simp;refine hK.out _ _ (fun h=>absurd (show false=true from h.symm.trans (by kernel_rfl)) (by decide)) ?_;clear hK K;refine cZ 14 rfl (fun K hK=>?_);go_simp;refine hK.out _ _ (fun h=>absurd (show false=true from h.symm.trans (by kernel_rfl)) (by decide)) ?_;clear hK K;refine dL (by kernel_rfl) ?_ _;go_wp2;exact bodyPost_ret (v:=.tuple #[.slice (some ⟨q,0,none⟩) (cO (aS k.aa z).af j).cells.length cp,.bool true]) (by simp[results,Tryz.results149,go_sem]) rfl (Ap.some HN.out KF.out.1 KF.out.2.1 KF.out.2.2.1 KF.out.2.2.2 KZ.out.1)
 ·have HN:=aB (yD (k:=k) (y:=(i:Int)) (fun h=>by
   have:=h.2.2.2
   rw[Int.toNat_natCast,HH.out.2.2.1,ha]at this;cases this))
  refine hK.out _ _ (fun _=>SF.out _ bZ) ?_;clear hK K;have hS:=SF.out _ bZ;refine cz 11 ?_ rfl ?_ hS ?_;rotate_left
  ·(intro X _;go_simp;first|done|with_reducible rfl)
  simp only[Act.put];refine cz 12 ?_ rfl ?_ hS ?_;rotate_left
  ·(intro X _;go_simp;first|done|with_reducible rfl)
  simp only[Act.put];refine cZ 13 rfl (fun K hK=>?_);go_simp;refine hK.out _ _ (fun h=>absurd (show false=true from h.symm.trans (by kernel_rfl)) (by decide)) ?_;clear hK K;refine cZ 14 rfl (fun K hK=>?_);go_simp;refine hK.out _ _ (fun h=>absurd (show false=true from h.symm.trans (by kernel_rfl)) (by decide)) ?_;clear hK K;refine dL (by kernel_rfl) ?_ _;go_wp2;exact bodyPost_ret (v:=.tuple #[.slice none 0 0,.bool false]) (by simp[results,Tryz.results149,go_sem]) rfl (Ap.zero HN.out _ _ KZ.out.1)
section
variable {k:C6}
theorem lF.up{w X w':World}{n:Int}{e:Ending}(h:lF X k n e w')(b:Below w.1.size w X):lF w k n e w':=h.low b
theorem NQ(hk:aD k=true)(y:Int):iP k.f y=aY 0 ((k.f.length:Int)-1) y:=by
 simp only[aD,Bool.and_eq_true]at hk;rw[iP,hk.1.1.1.1.2];rfl
theorem wW(w:World)(d:Nat)(a1:Option Addr)(c1:Nat)(a2:Option Addr)(c2:Nat)(a3:Option Addr)(c3:Nat)(k:C6)(cs:List Value)(y:Int)(hk:aD k=true)(hl:bK.L k)(h:bK.Rd w a1 c1 a2 c2 a3 c3 k)(hd:Bx w d ((dJ a1 c1 a2 c2 a3 c3 k)++cs))(hy:aY 0 ((k.f.length:Int)-1) y=true):Calls Tryz.prog 63 #[.pointer (some ⟨d,0,none⟩),vI y] w fun e w'=>e=.returned (.tuple #[])/\Below w.1.size w w':=by
 have hh:=kW w a1 k.f.length c1 y k.f hl.p h.p;rw[NQ hk,hy]at hh;have p2:=hd.1 2 _ rfl;clear hd h hl hk hy;go_enter Tryz.func63,Tryz.ntmps63;go_wp2_with fail;refine hh.mono ?_;clear hh p2;rintro e w1 ⟨rfl,b1⟩;go_wp2;exact bodyPost_end (v:=.tuple #[]) (by simp[results,Tryz.results63]) rfl ⟨rfl,b1⟩
theorem GU(w:World)(d:Nat)(a1:Option Addr)(c1:Nat)(a2:Option Addr)(c2:Nat)(a3:Option Addr)(c3:Nat)(k:C6)(cs:List Value)(y:Int)(hk:aD k=true)(hl:bK.L k)(h:bK.Rd w a1 c1 a2 c2 a3 c3 k)(hd:Bx w d ((dJ a1 c1 a2 c2 a3 c3 k)++cs))(hy:aY 0 ((k.f.length:Int)-1) y=false):Calls Tryz.prog 63 #[.pointer (some ⟨d,0,none⟩),vI y] w (lF w k 5):=by
 have hh:=kW w a1 k.f.length c1 y k.f hl.p h.p;rw[NQ hk,hy]at hh;have p2:=hd.1 2 _ rfl;have K:Hid (Bx w d ((dJ a1 c1 a2 c2 a3 c3 k)++cs)/\bK.Rd w a1 c1 a2 c2 a3 c3 k/\aD k=true):=⟨hd,h,hk⟩
 clear hd h hl hk hy;go_enter Tryz.func63,Tryz.ntmps63;go_wp2_with fail;refine hh.mono ?_;clear hh p2;rintro e w1 ⟨rfl,b1⟩;have hr:=iW w1 d a1 c1 a2 c2 a3 c3 k cs 5 K.out.2.2 (K.out.2.1.later b1) (K.out.1.later b1);have B1:Hid (Below w.1.size w w1):=b1;clear b1;go_wp2_with fail;refine hr.mono ?_;clear hr;intro e w2 hr;have HX:Hid (lF w k 5 e w2):=hr.up B1.out;obtain⟨b1,d1,b2,d2,b3,d3,P,rfl,-,-⟩:=hr;go_wp2;exact⟨rfl,HX.out⟩
theorem Jh(w:World)(x:Int):Calls Tryz.prog 64 #[vI x] w fun e w'=>e=.returned (.bool (aY 0 5 x))/\w'=w:=by
 cases hI:aY 0 5 x with
 | true=>
  obtain⟨h0,h1⟩:=dm.1 hI;have d1:decide (x<6)=true:=by simp;omega
  have d0:decide (0<=x)=true:=by simp[h0]
  clear hI h0 h1;go_enter Tryz.func64,Tryz.ntmps64;go_wp2;go_ret;exact⟨rfl,rfl⟩
 | false=>
  by_cases h0:0<=x
  ·have d1:decide (x<6)=false:=by
    rw[decide_eq_false_iff_not];intro h;rw[iN h0 (by omega)]at hI
    cases hI
   have d2:decide (x<=5)=false:=by
    rw[decide_eq_false_iff_not];intro h;rw[iN h0 h]at hI
    cases hI
   clear hI;go_enter Tryz.func64,Tryz.ntmps64;go_wp2;go_ret;exact⟨rfl,rfl⟩
  ·have d0:decide (0<=x)=false:=by simpa using h0
   clear hI h0;go_enter Tryz.func64,Tryz.ntmps64;go_wp2;go_ret;exact⟨rfl,rfl⟩
def Ah(k:C6)(y s:Int):Int:=if (aY 0 ((k.f.length:Int)-1) y&&aY 0 5 s)=true then 0 else 5
theorem Gm(w:World)(d:Nat)(a1:Option Addr)(c1:Nat)(a2:Option Addr)(c2:Nat)(a3:Option Addr)(c3:Nat)(k:C6)(cs:List Value)(y s:Int)(hk:aD k=true)(hl:bK.L k)(h:bK.Rd w a1 c1 a2 c2 a3 c3 k)(hd:Bx w d ((dJ a1 c1 a2 c2 a3 c3 k)++cs))(hc:Ah k y s=0):Calls Tryz.prog 25 #[.pointer (some ⟨d,0,none⟩),vI y,vI s] w fun e w'=>e=.returned (.agg #[vI y,vI s])/\Below w.1.size w w':=by
 have Q9:aY 0 ((k.f.length:Int)-1) y=true/\aY 0 5 s=true:=by
  unfold Ah at hc;split at hc
  ·next hh=>rw[Bool.and_eq_true]at hh;exact hh
  ·cases hc
 obtain⟨U,hU⟩:∃Y,Y=w.alloc (.cells #[vI 0,vI 0] 62):=⟨_,rfl⟩
 have bU:Below w.1.size w U:=by rw[hU];exact aJ.alloc aR _
 have xU:Bx U w.1.size [vI 0,vI 0]:=by rw[hU];exact Bx.made w [vI 0,vI 0] _
 have cn:=wW U d a1 c1 a2 c2 a3 c3 k cs y hk hl (h.later bU) (hd.later bU) Q9.1;have cs2:=fun X=>Jh X s
 rw[Q9.2]at cs2;have K:Hid (Below w.1.size w U/\Bx U w.1.size [vI 0,vI 0]):=⟨bU,xU⟩
 clear hk hl h hd hc Q9 bU xU;go_enter Tryz.func25,Tryz.ntmps25;go_wp2_with fail;rw[<-hU];clear hU;refine cn.mono ?_;clear cn;rintro e w1 ⟨rfl,b1⟩;have x1:=K.out.2.later b1;have B1:Hid (Below w.1.size w w1):=ay K.out.1 b1;obtain⟨Y,hY⟩:∃Y,Y=di w1 w.1.size 0 [vI y,vI s]:=⟨_,rfl⟩
 have xy:=x1.put [vI y,vI s] rfl;rw[<-hY]at xy;have LX:Hid (Y=(w1.setCell ⟨w.1.size,0,none⟩ (vI y)).setCell ⟨w.1.size,1,none⟩ (vI s)):=hY;have BY:Hid (Below w.1.size w Y):=by unfold Hid;rw[hY];exact aU aR _ _ _ B1.out
 have q0:=x1.1 0 _ rfl;have q1:=x1.1 1 _ rfl;have f0:=x1.2.1 0;have f1:=x1.2.1 1;have y0:=xy.1 0 _ rfl;have y1:=xy.1 1 _ rfl;have c3:=cs2 w1;clear hY xy x1 b1 cs2;go_wp2_with fail;refine c3.mono ?_;clear c3;rintro e w2 ⟨rfl,rfl⟩;go_wp2;rw[<-LX.out];exact bodyPost_ret (v:=.agg #[vI y,vI s]) (by simp[results,Tryz.results25,go_sem,y0,y1]) rfl ⟨rfl,BY.out⟩
theorem JI(w:World)(d:Nat)(a1:Option Addr)(c1:Nat)(a2:Option Addr)(c2:Nat)(a3:Option Addr)(c3:Nat)(k:C6)(cs:List Value)(y s:Int)(hk:aD k=true)(hl:bK.L k)(h:bK.Rd w a1 c1 a2 c2 a3 c3 k)(hd:Bx w d ((dJ a1 c1 a2 c2 a3 c3 k)++cs))(hc:Ah k y s≠0):Calls Tryz.prog 25 #[.pointer (some ⟨d,0,none⟩),vI y,vI s] w (lF w k 5):=by
 obtain⟨U,hU⟩:∃Y,Y=w.alloc (.cells #[vI 0,vI 0] 62):=⟨_,rfl⟩
 have bU:Below w.1.size w U:=by rw[hU];exact aJ.alloc aR _
 have K:Hid (Below w.1.size w U/\Bx U d ((dJ a1 c1 a2 c2 a3 c3 k)++cs)/\bK.Rd U a1 c1 a2 c2 a3 c3 k/\aD k=true):=⟨bU,hd.later bU,h.later bU,hk⟩
 cases hy:aY 0 ((k.f.length:Int)-1) y with
 | false=>
  have cn:=GU U d a1 c1 a2 c2 a3 c3 k cs y hk hl (h.later bU) (hd.later bU) hy;clear hk hl h hd hc hy bU;go_enter Tryz.func25,Tryz.ntmps25;go_wp2_with fail;rw[<-hU];clear hU;refine cn.mono ?_;clear cn;intro e w2 hr;have HX:Hid (lF w k 5 e w2):=hr.up K.out.1;obtain⟨b1,d1,b2,d2,b3,d3,P,rfl,-,-⟩:=hr;go_wp2;exact⟨rfl,HX.out⟩
 | true=>
  have hs:aY 0 5 s=false:=by
   cases hs:aY 0 5 s with
   | false=>rfl
   | true=>exact absurd (by rw[Ah,hy,hs];rfl) hc
  have cn:=wW U d a1 c1 a2 c2 a3 c3 k cs y hk hl (h.later bU) (hd.later bU) hy;have cs2:=fun X=>Jh X s
  rw[hs]at cs2;clear hk hl h hd hc hy hs bU;go_enter Tryz.func25,Tryz.ntmps25;go_wp2_with fail;rw[<-hU];clear hU;refine cn.mono ?_;clear cn;rintro e w1 ⟨rfl,b1⟩;have hr:=iW w1 d a1 c1 a2 c2 a3 c3 k cs 5 K.out.2.2.2 (K.out.2.2.1.later b1) (K.out.2.1.later b1);have B1:Hid (Below w.1.size w w1):=ay K.out.1 b1;have c3:=cs2 w1;clear b1 cs2;go_wp2_with fail;refine c3.mono ?_;clear c3;rintro e w2 ⟨rfl,rfl⟩;go_wp2_with fail;refine hr.mono ?_;clear hr;intro e w3 hr;have HX:Hid (lF w k 5 e w3):=hr.up B1.out;obtain⟨b1,d1,b2,d2,b3,d3,P,rfl,-,-⟩:=hr;go_wp2;exact⟨rfl,HX.out⟩
end
namespace tx
def Jp(xs:List N5)(r s:Int):N5:=match jB xs r s with
 | some i=>au xs i
 | none=>⟨0,0,0,0,false⟩
theorem TA{xs:List N5}{r s:Int}{i:Nat}(h:jB xs r s=some i):i<xs.length:=by
 unfold jB at h;exact(List.findIdx?_eq_some_iff_getElem.1 h).1
theorem rQ(w:World)(base p mb n:Nat)(v:Value)(xs:List N5)(r s:Int)(hl:xs.length<=1000)(h:jS w base p mb n v xs)(h1:aY 0 5 r=true)(h2:aY 0 5 s=true):
  Calls Tryz.prog 106 #[.pointer (some ⟨p,0,none⟩),.agg #[vI r,vI s]] w fun e w'=>e=.returned (.tuple #[.agg #[vI (Jp xs r s).b,vI (Jp xs r s).e,vI (Jp xs r s).j,vI (Jp xs r s).g,.bool (Jp xs r s).i],.bool (jB xs r s).isSome])/\Below w.1.size w w':=by
 obtain⟨W0,eB⟩:∃W,W=w.alloc (.cells #[vI r,vI s] 62):=⟨_,rfl⟩
 have b0:Below w.1.size w W0:=by rw[eB];exact aJ.alloc aR _
 have z0:W0.1.size=w.1.size+1:=by rw[eB];simp
 have k0:Bx W0 w.1.size [vI r,vI s]:=by rw[eB];exact Bx.made w [vI r,vI s] _
 obtain⟨W1,ja⟩:∃W,W=W0.alloc (.cells #[vI 0,vI 0,vI 0,vI 0,.bool false] 112):=⟨_,rfl⟩
 have b1:Below W0.1.size W0 W1:=by rw[ja];exact aJ.alloc aR _
 have k1:Bx W1 (w.1.size+1) [vI 0,vI 0,vI 0,vI 0,.bool false]:=by rw[ja,<-z0];exact Bx.made W0 [vI 0,vI 0,vI 0,vI 0,.bool false] _
 have h0:=h.later (ay b0 b1);have kk:=k0.later b1;have lk:∀d os,(Instr.lookup 165 (.map (some mb)) (jV r s) true).run Tryz.prog (grow (redrawn W1 d) os)=.ok (.tuple #[vI (((jB xs r s).getD 0:Nat):Int),.bool (jB xs r s).isSome]) (grow (redrawn W1 d) os):=fun d os=>((h0.mp).later (below_regrown W1 d os)).look h1 h2
 have m1:∀d os,(grow (redrawn W1 d) os).cell? ⟨p,1,none⟩=some (.map (some mb)):=fun d os=>((below_regrown W1 d os).cell (p:=⟨p,1,none⟩) h0.lp).trans h0.c1
 have t0:∀d os,(grow (redrawn W1 d) os).cell? ⟨w.1.size,0,none⟩=some (vI r):=fun d os=>((below_regrown W1 d os).cell (p:=⟨w.1.size,0,none⟩) kk.2.2).trans (kk.1 0 _ rfl)
 have t1:∀d os,(grow (redrawn W1 d) os).cell? ⟨w.1.size,1,none⟩=some (vI s):=fun d os=>((below_regrown W1 d os).cell (p:=⟨w.1.size,1,none⟩) kk.2.2).trans (kk.1 1 _ rfl)
 have H:Hid (Below w.1.size w W1/\jS W1 base p mb n v xs/\Bx W1 (w.1.size+1) [vI 0,vI 0,vI 0,vI 0,.bool false]):=⟨ay b0 b1,h0,k1⟩
 have Ps:W1=(w.alloc (.cells #[vI r,vI s] 62)).alloc (.cells #[vI 0,vI 0,vI 0,vI 0,.bool false] 112):=by rw[ja,eB]
 clear h h0 b0 b1 z0 h1 h2 k0 k1 kk eB ja W0;simp only[jV]at lk;obtain⟨x,hx⟩:∃x,Jp xs r s=x:=⟨_,rfl⟩
 rw[hx];unfold Jp at hx
 cases hw:jB xs r s with
 | none=>
  rw[hw]at hx lk;simp only at hx;subst hx;simp only[Option.getD_none,Option.isSome_none]at lk ⊢;clear hw;go_enter Tryz.func106,Tryz.ntmps106;go_wp2_with fail;rw[<-Ps];clear Ps;refine wp_region_quiet_below (by kernel_rfl) (by kernel_rfl) ?_;repeat (go_big_quiet_step (fail))
  refine wpQuiet_nil ?_;intro _ dD;obtain⟨⟨lH,bI⟩,aT⟩:=dD;subst aT;have bq:=below_regrown W1 lH bI;clear lk m1 t0 t1;generalize grow (redrawn W1 lH) bI=U at *;obtain⟨V,hV⟩:∃W,W=U.alloc (.cells #[vI 0,vI 0,vI 0,vI 0,.bool false] 112):=⟨_,rfl⟩
  have bV:Below U.1.size U V:=by rw[hV];exact aJ.alloc aR _
  have xb:=(H.out.2.2.later bq).later bV;have xc:=xb.put [vI 0,vI 0,vI 0,vI 0,.bool false] rfl;have BE:Hid (Below w.1.size w (di V (w.1.size+1) 0 [vI 0,vI 0,vI 0,vI 0,.bool false])):=aU (by omega) _ _ _ (ay H.out.1 (ay bq bV));have c0:=xb.1 0 _ rfl;have f0:=xb.2.1 0;have c1:=xb.1 1 _ rfl;have f1:=xb.2.1 1;have c2:=xb.1 2 _ rfl;have f2:=xb.2.1 2;have c3:=xb.1 3 _ rfl;have f3:=xb.2.1 3;have c4:=xb.1 4 _ rfl;have f4:=xb.2.1 4;rw[hV]at c0 f0 c1 f1 c2 f2 c3 f3 c4 f4;obtain⟨Y,hY⟩:∃Y,Y=di V (w.1.size+1) 0 [vI 0,vI 0,vI 0,vI 0,.bool false]:=⟨_,rfl⟩
  rw[<-hY]at xc BE;have qN:Y=(((((V.setCell ⟨w.1.size+1,0,none⟩ (vI 0)).setCell ⟨w.1.size+1,1,none⟩ (vI 0)).setCell ⟨w.1.size+1,2,none⟩ (vI 0)).setCell ⟨w.1.size+1,3,none⟩ (vI 0)).setCell ⟨w.1.size+1,4,none⟩ (.bool false)):=hY;have y0:=xc.1 0 _ rfl;have y1:=xc.1 1 _ rfl;have y2:=xc.1 2 _ rfl;have y3:=xc.1 3 _ rfl;have y4:=xc.1 4 _ rfl;have LX:=aB qN;have HV:=aB hV;clear hY qN xc xb bV bq hV;go_wp2;rw[<-HV.out,<-LX.out];exact bodyPost_ret (v:=.tuple #[.agg #[vI 0,vI 0,vI 0,vI 0,.bool false],.bool false]) (by simp[results,Tryz.results106,go_sem,y0,y1,y2,y3,y4]) rfl ⟨rfl,BE.out⟩
 | some i=>
  rw[hw]at hx lk;simp only at hx;simp only[Option.getD_some,Option.isSome_some]at lk ⊢;have hi:=TA hw;have MZ:=fE hi;rw[hx]at MZ;have HI:=aB MZ;have HL:Hid (i<xs.length/\xs.length<=1000):=⟨hi,hl⟩
  clear hw hx MZ hi hl;go_enter Tryz.func106,Tryz.ntmps106;go_wp2_with fail;rw[<-Ps];clear Ps;refine wp_region_quiet_below (by kernel_rfl) (by kernel_rfl) ?_;repeat (go_big_quiet_step (fail))
  refine wpQuiet_nil ?_;intro _ dD;obtain⟨⟨lH,bI⟩,aT⟩:=dD;subst aT;have bq:=below_regrown W1 lH bI;clear lk m1 t0 t1;generalize grow (redrawn W1 lH) bI=V at *;have hP:=H.out.2.1.later bq;obtain⟨ra,rc,rfl,ho⟩:=hP.row.form;rcases ho with h0|⟨q,rfl,-,-,bg,-⟩
  ·have:=HL.out.1;rw[h0]at this;simp at this
  obtain⟨g0,g1,g2,g3,g4⟩:=bg i x HI.out;rw[Nat.zero_add]at g0 g1 g2 g3 g4;have d0:=hP.c0;have xb:=H.out.2.2.later bq;have xc:=xb.put [vI (x).b,vI (x).e,vI (x).j,vI (x).g,.bool (x).i] rfl;have BE:Hid (Below w.1.size w (di V (w.1.size+1) 0 [vI (x).b,vI (x).e,vI (x).j,vI (x).g,.bool (x).i])):=aU (by omega) _ _ _ (ay H.out.1 bq);have c0:=xb.1 0 _ rfl;have f0:=xb.2.1 0;have c1:=xb.1 1 _ rfl;have f1:=xb.2.1 1;have c2:=xb.1 2 _ rfl;have f2:=xb.2.1 2;have c3:=xb.1 3 _ rfl;have f3:=xb.2.1 3;have c4:=xb.1 4 _ rfl;have f4:=xb.2.1 4;obtain⟨Y,hY⟩:∃Y,Y=di V (w.1.size+1) 0 [vI (x).b,vI (x).e,vI (x).j,vI (x).g,.bool (x).i]:=⟨_,rfl⟩
  rw[<-hY]at xc BE;have qN:Y=(((((V.setCell ⟨w.1.size+1,0,none⟩ (vI (x).b)).setCell ⟨w.1.size+1,1,none⟩ (vI (x).e)).setCell ⟨w.1.size+1,2,none⟩ (vI (x).j)).setCell ⟨w.1.size+1,3,none⟩ (vI (x).g)).setCell ⟨w.1.size+1,4,none⟩ (.bool (x).i)):=hY;have y0:=xc.1 0 _ rfl;have y1:=xc.1 1 _ rfl;have y2:=xc.1 2 _ rfl;have y3:=xc.1 3 _ rfl;have y4:=xc.1 4 _ rfl;have LX:=aB qN;have ix:(i:Int)<(xs.length:Int):=by have:=HL.out.1;omega
  clear hY qN xc xb bq hP bg;go_wp2;rw[<-LX.out];exact bodyPost_ret (v:=.tuple #[.agg #[vI (x).b,vI (x).e,vI (x).j,vI (x).g,.bool (x).i],.bool true]) (by simp[results,Tryz.results106,go_sem,y0,y1,y2,y3,y4]) rfl ⟨rfl,BE.out⟩
end tx
noncomputable def DT(k:C6)(t:tx.T7)(r s:Int):Int:=if (tx.jB t.a r s).isSome=true then 0 else if pG k r=true then Jl (jh k r) t r s else 6
noncomputable def lZ(k:C6)(t:tx.T7)(r s:Int):tx.N5:=if (tx.jB t.a r s).isSome=true then tx.Jp t.a r s else nI (jh k r) r s
noncomputable def Fe(k:C6)(t:tx.T7)(r s:Int):tx.T7:=if (tx.jB t.a r s).isSome=true then t else tx.dO t (nI (jh k r) r s)
theorem O7{k:C6}(hk:aD k=true)(y:Int):(jh k y).length<=6:=by
 by_cases h:aD k=true/\0<=y/\y<(k.f.length:Int)/\(vZ k y.toNat).x=true
 ·obtain⟨i,rfl⟩:∃i:Nat,y=(i:Int):=⟨y.toNat,by omega⟩
  have hi:i<k.f.length:=by omega
  obtain⟨z,hz,xu,GA,mH,QV,Et⟩:=CB hk hi;have ha:(aS k.aa z).x=true:=by have:=h.2.2.2;rw[Int.toNat_natCast,mH]at this;exact this
  have aN:=yh (aS k.aa z) (i:Int);rw[Et ha]at aN;rcases lM (aS k.aa z) (i:Int)with ⟨e,_⟩|⟨t,e,ht,_,_⟩
  ·rw[e]at aN;cases aN
  ·rw[(Cy hk hi (by rw[mH];exact ha) (by rw[mH];exact e)).1,mH];have:=EN QV _ (List.mem_of_getElem? (eX ht));omega
 ·rw[(yD h).1];simp
theorem NL(w:World)(d:Nat)(a1:Option Addr)(c1:Nat)(a2:Option Addr)(c2:Nat)(a3:Option Addr)(c3:Nat)(k:C6)(cs:List Value)(y:Int)(hk:aD k=true)(hl:bK.L k)(h:bK.Rd w a1 c1 a2 c2 a3 c3 k)(hd:Bx w d ((dJ a1 c1 a2 c2 a3 c3 k)++cs))(hc:pG k y=false):Calls Tryz.prog 108 #[.pointer (some ⟨d,0,none⟩),vI y] w (lF w k 6):=by
 have hC:=qQ w a1 c1 a2 c2 a3 c3 k y hl h;rw[hc]at hC;have p0:=hd.1 0 _ rfl;have p1:=hd.1 1 _ rfl;have p2:=hd.1 2 _ rfl;have p3:=hd.1 3 _ rfl;have p4:=hd.1 4 _ rfl;have p5:=hd.1 5 _ rfl;have K:Hid (Bx w d ((dJ a1 c1 a2 c2 a3 c3 k)++cs)/\bK.Rd w a1 c1 a2 c2 a3 c3 k/\aD k=true):=⟨hd,h,hk⟩
 clear hd h hl hk hc;go_enter Tryz.func108,Tryz.ntmps108;go_wp2_with fail;refine hC.mono ?_;clear hC p0 p1 p2 p3 p4 p5;rintro e w1 ⟨ca,cc,P,rfl,-,b1⟩;have hr:=iW w1 d a1 c1 a2 c2 a3 c3 k cs 6 K.out.2.2 (K.out.2.1.later b1) (K.out.1.later b1);have B1:Hid (Below w.1.size w w1):=b1;clear b1;generalize (jh k y).length=ln at *;go_wp2_with fail;refine hr.mono ?_;clear hr;intro e w2 hr;have HX:Hid (lF w k 6 e w2):=hr.low B1.out;obtain⟨b1,d1,b2,d2,b3,d3,P,rfl,-,-⟩:=hr;go_wp2;exact⟨rfl,HX.out⟩
theorem Ky(w:World)(d:Nat)(a1:Option Addr)(c1:Nat)(a2:Option Addr)(c2:Nat)(a3:Option Addr)(c3:Nat)(k:C6)(cs:List Value)(y:Int)(hl:bK.L k)(h:bK.Rd w a1 c1 a2 c2 a3 c3 k)(hd:Bx w d ((dJ a1 c1 a2 c2 a3 c3 k)++cs))(hc:pG k y=true):Calls Tryz.prog 108 #[.pointer (some ⟨d,0,none⟩),vI y] w fun e w'=>∃ca cc,e=.returned (.slice ca (jh k y).length cc)/\pE w' w'.1.size ca (jh k y).length (jh k y)/\Below w.1.size w w':=by
 have hC:=qQ w a1 c1 a2 c2 a3 c3 k y hl h;rw[hc]at hC;have p0:=hd.1 0 _ rfl;have p1:=hd.1 1 _ rfl;have p2:=hd.1 2 _ rfl;have p3:=hd.1 3 _ rfl;have p4:=hd.1 4 _ rfl;have p5:=hd.1 5 _ rfl;clear hd h hl hc;go_enter Tryz.func108,Tryz.ntmps108;go_wp2_with fail;refine hC.mono ?_;clear hC p0 p1 p2 p3 p4 p5;rintro e w1 ⟨ca,cc,P,rfl,how,b1⟩;have HS:Hid (pE w1 w1.1.size ca (jh k y).length (jh k y)/\Below w.1.size w w1):=⟨how.sl,b1⟩
 clear how b1;obtain⟨ln,tV⟩:∃ln,(jh k y).length=ln:=⟨_,rfl⟩
 have HL:=aB tV;rw[tV];clear tV;go_wp2;go_ret;exact⟨ca,cc,by rw[HL.out];rfl,HS.out.1,HS.out.2⟩
theorem Hf(w:World)(B d:Nat)(a1:Option Addr)(c1:Nat)(a2:Option Addr)(c2:Nat)(a3:Option Addr)(c3:Nat)(k:C6)(i:Nat)(u:tx.TV)(t:tx.T7)(P:Nat->Prop)(r s:Int)(hk:aD k=true)(nW:bK.L k)(h:bK.Rd w a1 c1 a2 c2 a3 c3 k)(hd:DB w B d a1 c1 a2 c2 a3 c3 k i u t P)(hl:tx.TL t)(MK:B<=w.1.size)(hT:tx.jI t=true)(hr:aY 0 5 r=true)(gy:aY 0 5 s=true):
  Calls Tryz.prog 62 #[.pointer (some ⟨d,0,none⟩),.agg #[vI r,vI s]] w (F7 w B d a1 c1 a2 c2 a3 c3 k i P (Fe k t r s) (DT k t r s) (.agg #[vI (lZ k t r s).b,vI (lZ k t r s).e,vI (lZ k t r s).j,vI (lZ k t r s).g,.bool (lZ k t r s).i])):=by
 obtain⟨U0,iQ⟩:∃Y,Y=w.alloc (.cells #[vI r,vI s] 62):=⟨_,rfl⟩
 have sG:Below w.1.size w U0:=by rw[iQ];exact aJ.alloc aR _
 have wY:Bx U0 w.1.size [vI r,vI s]:=by rw[iQ];exact Bx.made w [vI r,vI s] _
 have ym:U0.1.size=w.1.size+1:=by rw[iQ];simp
 obtain⟨U1,kG⟩:∃Y,Y=U0.alloc (.cells #[vI 0,vI 0,vI 0,vI 0,.bool false] 112):=⟨_,rfl⟩
 have yx:Below U0.1.size U0 U1:=by rw[kG];exact aJ.alloc aR _
 have Ck:Bx U1 U0.1.size [vI 0,vI 0,vI 0,vI 0,.bool false]:=by rw[kG];exact Bx.made U0 [vI 0,vI 0,vI 0,vI 0,.bool false] _
 have H8:U1.1.size=U0.1.size+1:=by rw[kG];simp
 have hU:U1=(w.alloc (.cells #[vI r,vI s] 62)).alloc (.cells #[vI 0,vI 0,vI 0,vI 0,.bool false] 112):=by rw[kG,iQ]
 have bU:Below w.1.size w U1:=ay sG yx;have x0:=wY.later yx;rw[ym]at Ck;have qK:=tx.Io hT;have HR:Hid (bK.Rd U1 a1 c1 a2 c2 a3 c3 k/\aD k=true/\DB U1 B d a1 c1 a2 c2 a3 c3 k i u t P/\(t.a.length<=100/\(∀m∈t.a,tx.bn m=true)/\tx.qR t.a)/\Below w.1.size w U1/\aY 0 5 r=true/\aY 0 5 s=true/\d<w.1.size/\B<=w.1.size/\tx.TL t/\bK.L k):=⟨h.later bU,hk,hd.later bU,⟨by have:=(tx.kL hT).1;omega,qK.1,qK.2⟩,bU,hr,gy,hd.bx.2.2,MK,hl,nW⟩
 have HX:Hid (Bx U1 (w.1.size+1) [vI 0,vI 0,vI 0,vI 0,.bool false]/\U1.1.size=w.1.size+2):=⟨Ck,by rw[H8,ym]⟩
 have HP:Hid (∀q,P q->q<w.1.size):=fun q hq=>(hd.ow.of hq).2
 have hS:(fun Z:World=>Below U1.1.size U1 Z/\Bx Z d [vI k.u,vI k.l,.slice a1 k.f.length c1,.slice a2 k.aa.length c2,.slice a3 k.c.length c3,.bool k.w,vI (i:Int),vI t.id,vI t.o,vI t.q,vI t.v,.slice u.ar t.a.length u.cr,.slice u.ah t.ag.length u.ch,vI t.aA]/\Bx Z w.1.size [vI r,vI s]) U1.drew:=⟨aJ.drew,HR.out.2.2.1.bx.later (aJ.drew),x0.later (aJ.drew)⟩
 clear iQ kG sG yx bU wY Ck ym H8 x0 h hk hd hl MK qK hT hr gy nW;clear U0;go_enter Tryz.func62,Tryz.ntmps62;go_wp2_with fail;rw[<-hU];clear hU;refine bu (fun z=>z==12) (fun Z:World=>Below U1.1.size U1 Z/\Bx Z d [vI k.u,vI k.l,.slice a1 k.f.length c1,.slice a2 k.aa.length c2,.slice a3 k.c.length c3,.bool k.w,vI (i:Int),vI t.id,vI t.o,vI t.q,vI t.v,.slice u.ar t.a.length u.cr,.slice u.ah t.ag.length u.ch,vI t.aA]/\Bx Z w.1.size [vI r,vI s]) (by kernel_rfl) ?_;generalize U1.drew=Wd at *;refine cz 0 ?_ rfl ?_ hS ?_;rotate_left
 ·(intro w _;go_simp;first|done|with_reducible rfl)
 simp only[Act.put];refine cz 1 (.pointer (some ⟨d,0,none⟩)) rfl ?_ hS ?_
 ·(intro w _;go_simp)
 simp only[Act.put];refine cz 2 ?_ rfl ?_ hS ?_;rotate_left
 ·(intro w _;go_simp;first|done|with_reducible rfl)
 simp only[Act.put];refine cz 3 ?_ rfl ?_ hS ?_;rotate_left
 ·(intro w _;go_simp;first|done|with_reducible rfl)
 simp only[Act.put];refine jg 4 (.slice u.ar t.a.length u.cr) rfl ?_ hS ?_
 ·(intro w aG;have fj:=aG.2.1.1 11 _ rfl;clear hS aG;go_simp)
 simp only[Act.put];refine jg 6 (.agg #[vI r,vI s]) rfl ?_ hS ?_
 ·(intro w aG;have q0:=aG.2.2.1 0 _ rfl;have q1:=aG.2.2.1 1 _ rfl;clear hS aG;go_simp)
 simp only[Act.put];refine iI (rs:=[5,11]) (by kernel_rfl) (by simp) ?_;refine iU.cons rfl (fun K hK=>?lA) (iU.cons rfl (fun K hK=>?lB) iU.nil)
 case' lA=>
  go_simp;have cP:=tx.oC Wd u.ar u.cr t.a HR.out.2.2.2.1.1 (HR.out.2.2.1.ow.sl.later hS.1).r HR.out.2.2.2.1.2.1 HR.out.2.2.2.1.2.2;refine cP.mono ?_;clear cP;rintro e X ⟨p,mb,nn,pv,rfl,hp,-,bX⟩;replace hS:(fun Z:World=>Below U1.1.size U1 Z/\Bx Z d [vI k.u,vI k.l,.slice a1 k.f.length c1,.slice a2 k.aa.length c2,.slice a3 k.c.length c3,.bool k.w,vI (i:Int),vI t.id,vI t.o,vI t.q,vI t.v,.slice u.ar t.a.length u.cr,.slice u.ah t.ag.length u.ch,vI t.aA]/\Bx Z w.1.size [vI r,vI s]) X:=⟨ay hS.1 bX,hS.2.1.later bX,hS.2.2.later bX⟩
  generalize Wd.1.size=pB at hp;clear bX;refine hK.out _ _ (fun _=>hS) ?_;clear hK K;clear Wd;generalize X=Wd at *;refine iI (rs:=[7,11]) (by kernel_rfl) (by simp) ?_;refine iU.cons rfl (fun K hK=>?ZI) (iU.cons rfl (fun K hK=>?ZJ) iU.nil)
  case' ZI=>
   go_simp;have cF:=tx.rQ Wd pB p mb nn pv t.a r s (by have:=HR.out.2.2.2.1.1;omega) hp HR.out.2.2.2.2.2.1 HR.out.2.2.2.2.2.2.1;refine cF.mono ?_;clear cF;rintro e X ⟨rfl,bX⟩;replace hS:(fun Z:World=>Below U1.1.size U1 Z/\Bx Z d [vI k.u,vI k.l,.slice a1 k.f.length c1,.slice a2 k.aa.length c2,.slice a3 k.c.length c3,.bool k.w,vI (i:Int),vI t.id,vI t.o,vI t.q,vI t.v,.slice u.ar t.a.length u.cr,.slice u.ah t.ag.length u.ch,vI t.aA]/\Bx Z w.1.size [vI r,vI s]) X:=⟨ay hS.1 bX,hS.2.1.later bX,hS.2.2.later bX⟩
   clear bX hp;refine hK.out _ _ (fun _=>hS) ?_;clear hK K;clear Wd;generalize X=Wd at *;refine cz 8 ?_ rfl ?_ hS ?_;rotate_left
   ·(intro w _;go_simp;first|done|with_reducible rfl)
   simp only[Act.put];refine cz 9 ?_ rfl ?_ hS ?_;rotate_left
   ·(intro w _;go_simp;first|done|with_reducible rfl)
   simp only[Act.put];refine cz 10 ?_ rfl ?_ hS ?_;rotate_left
   ·(intro w _;go_simp;first|done|with_reducible rfl)
   simp only[Act.put];refine cZ 11 rfl (fun K hK=>?_);go_simp;obtain⟨X,hX⟩:∃V,V=Wd.alloc (.cells #[vI 0,vI 0,vI 0,vI 0,.bool false] 112):=⟨_,rfl⟩
   obtain⟨bb,iE⟩:∃bb,bb=Wd.1.size:=⟨_,rfl⟩
   have bX:Below Wd.1.size Wd X:=by rw[hX];exact aJ.alloc aR _
   have xV:Bx X bb [vI 0,vI 0,vI 0,vI 0,.bool false]:=by rw[hX,iE];exact Bx.made Wd [vI 0,vI 0,vI 0,vI 0,.bool false] _
   rw[<-hX,<-iE];have HB:Hid (U1.1.size<=bb):=by unfold Hid;have:=hS.1.size;omega
   replace hS:(fun Z:World=>Below U1.1.size U1 Z/\Bx Z d [vI k.u,vI k.l,.slice a1 k.f.length c1,.slice a2 k.aa.length c2,.slice a3 k.c.length c3,.bool k.w,vI (i:Int),vI t.id,vI t.o,vI t.q,vI t.v,.slice u.ar t.a.length u.cr,.slice u.ah t.ag.length u.ch,vI t.aA]/\Bx Z w.1.size [vI r,vI s]) X:=⟨ay hS.1 bX,hS.2.1.later bX,hS.2.2.later bX⟩
   clear hX iE bX;refine hK.out _ _ (fun _=>hS) ?_;clear hK K;clear Wd;generalize X=Wd at *
  case' ZJ=>
   go_simp;obtain⟨X,hX⟩:∃V,V=Wd.alloc (.cells #[vI 0,vI 0,vI 0,vI 0,.bool false] 112):=⟨_,rfl⟩
   obtain⟨bb,iE⟩:∃bb,bb=Wd.1.size:=⟨_,rfl⟩
   have bX:Below Wd.1.size Wd X:=by rw[hX];exact aJ.alloc aR _
   have xV:Bx X bb [vI 0,vI 0,vI 0,vI 0,.bool false]:=by rw[hX,iE];exact Bx.made Wd [vI 0,vI 0,vI 0,vI 0,.bool false] _
   rw[<-hX,<-iE];have HB:Hid (U1.1.size<=bb):=by unfold Hid;have:=hS.1.size;omega
   replace hp:=hp.later bX;replace hS:(fun Z:World=>Below U1.1.size U1 Z/\Bx Z d [vI k.u,vI k.l,.slice a1 k.f.length c1,.slice a2 k.aa.length c2,.slice a3 k.c.length c3,.bool k.w,vI (i:Int),vI t.id,vI t.o,vI t.q,vI t.v,.slice u.ar t.a.length u.cr,.slice u.ah t.ag.length u.ch,vI t.aA]/\Bx Z w.1.size [vI r,vI s]) X:=⟨ay hS.1 bX,hS.2.1.later bX,hS.2.2.later bX⟩
   clear hX iE bX;refine hK.out _ _ (fun _=>hS) ?_;clear hK K;clear Wd;generalize X=Wd at *;refine cZ 7 rfl (fun K hK=>?_);go_simp;have cF:=tx.rQ Wd pB p mb nn pv t.a r s (by have:=HR.out.2.2.2.1.1;omega) hp HR.out.2.2.2.2.2.1 HR.out.2.2.2.2.2.2.1;refine cF.mono ?_;clear cF;rintro e X ⟨rfl,bX⟩;replace xV:=xV.later bX;replace hS:(fun Z:World=>Below U1.1.size U1 Z/\Bx Z d [vI k.u,vI k.l,.slice a1 k.f.length c1,.slice a2 k.aa.length c2,.slice a3 k.c.length c3,.bool k.w,vI (i:Int),vI t.id,vI t.o,vI t.q,vI t.v,.slice u.ar t.a.length u.cr,.slice u.ah t.ag.length u.ch,vI t.aA]/\Bx Z w.1.size [vI r,vI s]) X:=⟨ay hS.1 bX,hS.2.1.later bX,hS.2.2.later bX⟩
   clear bX hp;refine hK.out _ _ (fun _=>hS) ?_;clear hK K;clear Wd;generalize X=Wd at *;refine cz 8 ?_ rfl ?_ hS ?_;rotate_left
   ·(intro w _;go_simp;first|done|with_reducible rfl)
   simp only[Act.put];refine cz 9 ?_ rfl ?_ hS ?_;rotate_left
   ·(intro w _;go_simp;first|done|with_reducible rfl)
   simp only[Act.put];refine cz 10 ?_ rfl ?_ hS ?_;rotate_left
   ·(intro w _;go_simp;first|done|with_reducible rfl)
   simp only[Act.put]
 case' lB=>
  go_simp;obtain⟨X,hX⟩:∃V,V=Wd.alloc (.cells #[vI 0,vI 0,vI 0,vI 0,.bool false] 112):=⟨_,rfl⟩
  obtain⟨bb,iE⟩:∃bb,bb=Wd.1.size:=⟨_,rfl⟩
  have bX:Below Wd.1.size Wd X:=by rw[hX];exact aJ.alloc aR _
  have xV:Bx X bb [vI 0,vI 0,vI 0,vI 0,.bool false]:=by rw[hX,iE];exact Bx.made Wd [vI 0,vI 0,vI 0,vI 0,.bool false] _
  rw[<-hX,<-iE];have HB:Hid (U1.1.size<=bb):=by unfold Hid;have:=hS.1.size;omega
  replace hS:(fun Z:World=>Below U1.1.size U1 Z/\Bx Z d [vI k.u,vI k.l,.slice a1 k.f.length c1,.slice a2 k.aa.length c2,.slice a3 k.c.length c3,.bool k.w,vI (i:Int),vI t.id,vI t.o,vI t.q,vI t.v,.slice u.ar t.a.length u.cr,.slice u.ah t.ag.length u.ch,vI t.aA]/\Bx Z w.1.size [vI r,vI s]) X:=⟨ay hS.1 bX,hS.2.1.later bX,hS.2.2.later bX⟩
  clear hX iE bX;refine hK.out _ _ (fun _=>hS) ?_;clear hK K;clear Wd;generalize X=Wd at *;refine cZ 5 rfl (fun K hK=>?_);go_simp;have cP:=tx.oC Wd u.ar u.cr t.a HR.out.2.2.2.1.1 (HR.out.2.2.1.ow.sl.later hS.1).r HR.out.2.2.2.1.2.1 HR.out.2.2.2.1.2.2;refine cP.mono ?_;clear cP;rintro e X ⟨p,mb,nn,pv,rfl,hp,-,bX⟩;replace xV:=xV.later bX;replace hS:(fun Z:World=>Below U1.1.size U1 Z/\Bx Z d [vI k.u,vI k.l,.slice a1 k.f.length c1,.slice a2 k.aa.length c2,.slice a3 k.c.length c3,.bool k.w,vI (i:Int),vI t.id,vI t.o,vI t.q,vI t.v,.slice u.ar t.a.length u.cr,.slice u.ah t.ag.length u.ch,vI t.aA]/\Bx Z w.1.size [vI r,vI s]) X:=⟨ay hS.1 bX,hS.2.1.later bX,hS.2.2.later bX⟩
  generalize Wd.1.size=pB at hp;clear bX;refine hK.out _ _ (fun _=>hS) ?_;clear hK K;clear Wd;generalize X=Wd at *;refine cZ 7 rfl (fun K hK=>?_);go_simp;have cF:=tx.rQ Wd pB p mb nn pv t.a r s (by have:=HR.out.2.2.2.1.1;omega) hp HR.out.2.2.2.2.2.1 HR.out.2.2.2.2.2.2.1;refine cF.mono ?_;clear cF;rintro e X ⟨rfl,bX⟩;replace xV:=xV.later bX;replace hS:(fun Z:World=>Below U1.1.size U1 Z/\Bx Z d [vI k.u,vI k.l,.slice a1 k.f.length c1,.slice a2 k.aa.length c2,.slice a3 k.c.length c3,.bool k.w,vI (i:Int),vI t.id,vI t.o,vI t.q,vI t.v,.slice u.ar t.a.length u.cr,.slice u.ah t.ag.length u.ch,vI t.aA]/\Bx Z w.1.size [vI r,vI s]) X:=⟨ay hS.1 bX,hS.2.1.later bX,hS.2.2.later bX⟩
  clear bX hp;refine hK.out _ _ (fun _=>hS) ?_;clear hK K;clear Wd;generalize X=Wd at *;refine cz 8 ?_ rfl ?_ hS ?_;rotate_left
  ·(intro w _;go_simp;first|done|with_reducible rfl)
  simp only[Act.put];refine cz 9 ?_ rfl ?_ hS ?_;rotate_left
  ·(intro w _;go_simp;first|done|with_reducible rfl)
  simp only[Act.put];refine cz 10 ?_ rfl ?_ hS ?_;rotate_left
  ·(intro w _;go_simp;first|done|with_reducible rfl)
  simp only[Act.put]
 all_goals
  have c0:=xV.1 0 _ rfl;have f0:=xV.2.1 0;have c1:=xV.1 1 _ rfl;have f1:=xV.2.1 1;have c2:=xV.1 2 _ rfl;have f2:=xV.2.1 2;have c3:=xV.1 3 _ rfl;have f3:=xV.2.1 3;have c4:=xV.1 4 _ rfl;have f4:=xV.2.1 4;refine cZ 12 rfl (fun K hK=>?_);go_simp;refine hK.out _ _ (fun h=>absurd (show false=true from h.symm.trans (by kernel_rfl)) (by decide)) ?_;clear hK K;refine cZ 13 rfl (fun K hK=>?_);go_simp;refine hK.out _ _ (fun h=>absurd (show false=true from h.symm.trans (by kernel_rfl)) (by decide)) ?_;clear hK K;refine dL (by kernel_rfl) ?_ _;clear c0 f0 c1 f1 c2 f2 c3 f3 c4 f4;obtain⟨f,hf⟩:∃f,tx.Jp t.a r s=f:=⟨_,rfl⟩
  have HF:=aB hf;rw[hf];clear hf;obtain⟨Y,hY⟩:∃Y,Y=di Wd bb 0 [vI f.b,vI f.e,vI f.j,vI f.g,.bool f.i]:=⟨_,rfl⟩
  have yb:=xV.put [vI f.b,vI f.e,vI f.j,vI f.g,.bool f.i] rfl;rw[<-hY]at yb;have qN:Y=(((((Wd.setCell ⟨bb,0,none⟩ (vI f.b)).setCell ⟨bb,1,none⟩ (vI f.e)).setCell ⟨bb,2,none⟩ (vI f.j)).setCell ⟨bb,3,none⟩ (vI f.g)).setCell ⟨bb,4,none⟩ (.bool f.i)):=hY;rw[<-qN];have dQ:Y.1.size=Wd.1.size:=by rw[hY];exact bf _ _ _ _
  have dZ:∀q,q≠bb->Y.1[q]?=Wd.1[q]?:=fun q hq=>by rw[hY];exact aV hq _ _ _
  have Ao:=HX.out.2;have OG:=HR.out.2.2.2.2.2.2.2.1;have Ep:=HB.out;have BY:Hid (Below U1.1.size U1 Y):=by unfold Hid;rw[hY];exact aU Ep _ _ _ hS.1
  have KY:Hid (Bx Y bb [vI f.b,vI f.e,vI f.j,vI f.g,.bool f.i]/\Bx Y (w.1.size+1) [vI 0,vI 0,vI 0,vI 0,.bool false]/\Bx Y w.1.size [vI r,vI s]/\DB Y B d a1 c1 a2 c2 a3 c3 k i u t P/\Below w.1.size w Y/\bK.Rd Y a1 c1 a2 c2 a3 c3 k):=⟨yb,HX.out.1.later BY.out,hS.2.2.aj (dZ _ (by omega)) (Nat.le_of_eq dQ.symm),HR.out.2.2.1.later BY.out,ay HR.out.2.2.2.2.1 BY.out,HR.out.1.later BY.out⟩
  clear qN hY yb dQ dZ hS xV Ao OG Ep;obtain⟨ans,VF⟩:∃v:Value,v=.agg #[vI (lZ k t r s).b,vI (lZ k t r s).e,vI (lZ k t r s).j,vI (lZ k t r s).g,.bool (lZ k t r s).i]:=⟨_,rfl⟩
  have nt:=aB VF;clear VF
  cases hw:(tx.jB t.a r s).isSome with
  | true=>
   have HC:Hid (DT k t r s=0/\Fe k t r s=t/\lZ k t r s=f):=⟨by rw[DT,hw];rfl,by rw[Fe,hw];rfl,by rw[lZ,hw];exact HF.out⟩
   clear hw;obtain⟨Z,hZ⟩:∃Z,Z=di Y (w.1.size+1) 0 [vI f.b,vI f.e,vI f.j,vI f.g,.bool f.i]:=⟨_,rfl⟩
   have zb:=KY.out.2.1.put [vI f.b,vI f.e,vI f.j,vI f.g,.bool f.i] rfl;rw[<-hZ]at zb;have VE:Z=(((((Y.setCell ⟨w.1.size+1,0,none⟩ (vI f.b)).setCell ⟨w.1.size+1,1,none⟩ (vI f.e)).setCell ⟨w.1.size+1,2,none⟩ (vI f.j)).setCell ⟨w.1.size+1,3,none⟩ (vI f.g)).setCell ⟨w.1.size+1,4,none⟩ (.bool f.i)):=hZ;have zs:Z.1.size=Y.1.size:=by rw[hZ];exact bf _ _ _ _
   have zf:∀q,q≠w.1.size+1->Z.1[q]?=Y.1[q]?:=fun q hq=>by rw[hZ];exact aV hq _ _ _
   have bZ:Below w.1.size w Z:=by rw[hZ];exact aU (by omega) _ _ _ KY.out.2.2.2.2.1
   have OG:=HR.out.2.2.2.2.2.2.2.1;have vD:=KY.out.2.2.2.1
   have KE:Hid (F7 w B d a1 c1 a2 c2 a3 c3 k i P (Fe k t r s) (DT k t r s) (.agg #[vI (lZ k t r s).b,vI (lZ k t r s).e,vI (lZ k t r s).j,vI (lZ k t r s).g,.bool (lZ k t r s).i]) (.returned (.agg #[vI f.b,vI f.e,vI f.j,vI f.g,.bool f.i])) Z):=by
    unfold Hid;rw[HC.out.1,HC.out.2.1,HC.out.2.2];exact .inr ⟨rfl,rfl,⟨u,P,⟨vD.bx.aj (zf d (by omega)) (Nat.le_of_eq zs.symm),vD.ow.aQ (Nat.le_of_eq zs.symm) (fun q hq=>zf q (by have:=HP.out q hq;omega)),vD.nd,vD.lo⟩,fun q hq=>.inl hq⟩,(cu.refl d w).dK bZ⟩
   have y0:=KY.out.1.1 0 _ rfl;have c0:=KY.out.2.1.1 0 _ rfl;have e0:=KY.out.2.1.2.1 0;have z0:=zb.1 0 _ rfl;have y1:=KY.out.1.1 1 _ rfl;have c1:=KY.out.2.1.1 1 _ rfl;have e1:=KY.out.2.1.2.1 1;have z1:=zb.1 1 _ rfl;have y2:=KY.out.1.1 2 _ rfl;have c2:=KY.out.2.1.1 2 _ rfl;have e2:=KY.out.2.1.2.1 2;have z2:=zb.1 2 _ rfl;have y3:=KY.out.1.1 3 _ rfl;have c3:=KY.out.2.1.1 3 _ rfl;have e3:=KY.out.2.1.2.1 3;have z3:=zb.1 3 _ rfl;have y4:=KY.out.1.1 4 _ rfl;have c4:=KY.out.2.1.1 4 _ rfl;have e4:=KY.out.2.1.2.1 4;have z4:=zb.1 4 _ rfl;have HZ:=aB VE;clear hZ VE zs zf bZ OG vD;go_wp2;rw[<-HZ.out];exact bodyPost_ret (v:=.agg #[vI f.b,vI f.e,vI f.j,vI f.g,.bool f.i]) (by simp[results,Tryz.results62,go_sem,z0,z1,z2,z3,z4]) rfl KE.out
  | false=>
   have HC:Hid (DT k t r s=(if pG k r=true then Jl (jh k r) t r s else 6)/\Fe k t r s=tx.dO t (nI (jh k r) r s)/\lZ k t r s=nI (jh k r) r s):=⟨by rw[DT,hw];rfl,by rw[Fe,hw];rfl,by rw[lZ,hw];rfl⟩
   clear hw;have hS:(fun Z:World=>Bx Z w.1.size [vI r,vI s]) Y.drew:=KY.out.2.2.1.later (aJ.drew);have bD:Below Y.1.size Y Y.drew:=aJ.drew;have BD:=aB bD;clear bD;go_wp2_with fail;refine bu (fun z=>z==7) (fun Z:World=>Bx Z w.1.size [vI r,vI s]) (by kernel_rfl) ?_;generalize Y.drew=D at *;refine cz 0 ?_ rfl ?_ hS ?_;rotate_left
   ·(intro w _;go_simp;first|done|with_reducible rfl)
   simp only[Act.put];refine cz 1 ?_ rfl ?_ hS ?_;rotate_left
   ·(intro w _;go_simp;first|done|with_reducible rfl)
   simp only[Act.put];refine cz 2 ?_ rfl ?_ hS ?_;rotate_left
   ·(intro w _;go_simp;first|done|with_reducible rfl)
   simp only[Act.put];refine jg 3 (vI r) rfl ?_ hS ?_
   ·(intro w aG;have q0:=aG.1 0 _ rfl;clear hS aG;go_simp)
   simp only[Act.put];refine jg 5 (.agg #[vI r,vI s]) rfl ?_ hS ?_
   ·(intro w aG;have q0:=aG.1 0 _ rfl;have q1:=aG.1 1 _ rfl;clear hS aG;go_simp)
   simp only[Act.put]
   cases Px:pG k r with
   | false=>
    have Z6:Hid (DT k t r s=6):=by unfold Hid;rw[HC.out.1,Px];rfl
    have hp:=NL D d a1 c1 a2 c2 a3 c3 k [vI (i:Int),vI t.id,vI t.o,vI t.q,vI t.v,.slice u.ar t.a.length u.cr,.slice u.ah t.ag.length u.ch,vI t.aA] r HR.out.2.1 HR.out.2.2.2.2.2.2.2.2.2.2 (KY.out.2.2.2.2.2.later BD.out) (KY.out.2.2.2.1.bx.later BD.out) Px;clear Px;refine cZ 4 rfl (fun K hK=>?_);go_simp;refine hp.mono ?_;clear hp;intro e X hr;have HE:Hid (F7 w B d a1 c1 a2 c2 a3 c3 k i P (Fe k t r s) (DT k t r s) (.agg #[vI (lZ k t r s).b,vI (lZ k t r s).e,vI (lZ k t r s).j,vI (lZ k t r s).g,.bool (lZ k t r s).i]) e X):=.inl ⟨by rw[Z6.out];decide,by rw[Z6.out];exact hr.low (ay KY.out.2.2.2.2.1 BD.out)⟩;obtain⟨e1,d1,e2,d2,e3,d3,P2,rfl,-,-⟩:=hr;go_wp2;exact⟨rfl,HE.out⟩
   | true=>
    have Yj:Hid (DT k t r s=Jl (jh k r) t r s):=by unfold Hid;rw[HC.out.1,Px];rfl
    have hp:=Ky D d a1 c1 a2 c2 a3 c3 k [vI (i:Int),vI t.id,vI t.o,vI t.q,vI t.v,.slice u.ar t.a.length u.cr,.slice u.ah t.ag.length u.ch,vI t.aA] r HR.out.2.2.2.2.2.2.2.2.2.2 (KY.out.2.2.2.2.2.later BD.out) (KY.out.2.2.2.1.bx.later BD.out) Px
    have iM:(jh k r).length<=maxLen:=by
     have:=O7 HR.out.2.1 r;unfold maxLen;omega
    clear Px;refine cZ 4 rfl (fun K hK=>?_);go_simp;refine hp.mono ?_;clear hp;rintro e X ⟨ca,cc,rfl,eC,bX⟩;have BX:Hid (Below Y.1.size Y X):=ay BD.out bX;replace hS:(fun Z:World=>Bx Z w.1.size [vI r,vI s]) X:=hS.later bX;refine hK.out _ _ (fun _=>hS) ?_;clear hK K bX BD;clear D;have cL:=GM X B d a1 c1 a2 c2 a3 c3 k i u t P ca cc (jh k r) r s HR.out.2.1 (KY.out.2.2.2.2.2.later BX.out) (KY.out.2.2.2.1.later BX.out) HR.out.2.2.2.2.2.2.2.2.2.1 (by have:=HR.out.2.2.2.2.2.2.2.2.1;have:=KY.out.2.2.2.2.1.size;have:=BX.out.size;omega) iM eC;clear eC iM;obtain⟨xs,oN⟩:∃xs,jh k r=xs:=⟨_,rfl⟩
    have Xw:=aB oN;rw[oN]at cL;rw[oN];clear oN;refine cZ 6 rfl (fun K hK=>?_);go_simp;refine cL.mono ?_;clear cL;intro e W3 hA;rcases hA with ⟨fF,hr⟩|⟨hz,rfl,⟨u',P',vD,DN⟩,wS⟩
    ·have HE:Hid (F7 w B d a1 c1 a2 c2 a3 c3 k i P (Fe k t r s) (DT k t r s) (.agg #[vI (lZ k t r s).b,vI (lZ k t r s).e,vI (lZ k t r s).j,vI (lZ k t r s).g,.bool (lZ k t r s).i]) e W3):=.inl ⟨by rw[Yj.out,Xw.out];exact fF,by rw[Yj.out,Xw.out];exact hr.low (ay KY.out.2.2.2.2.1 BX.out)⟩;obtain⟨e1,d1,e2,d2,e3,d3,P2,rfl,-,-⟩:=hr;go_wp2;exact⟨rfl,HE.out⟩
    ·have Ao:=HX.out.2;have OG:=HR.out.2.2.2.2.2.2.2.1;have Ep:=BX.out.size;have ky:=BY.out.size;obtain⟨x,hx⟩:∃x,fA xs s=x:=⟨_,rfl⟩
     have RI:Hid (lZ k t r s=⟨r,s,eD x.head,x.g,aY 0 4000003 x.head&&bN x.head⟩):=by unfold Hid;rw[HC.out.2.2,Xw.out,nI,hx]
     rw[hx];clear hx;have jo:(fun Z:World=>Bx Z w.1.size [vI r,vI s]) W3:=hS.aj (wS.block _ hS.2.2 (by omega)) wS.size;have xr:Bx W3 (w.1.size+1) [vI 0,vI 0,vI 0,vI 0,.bool false]:=(KY.out.2.1.later BX.out).aj (wS.block _ (KY.out.2.1.later BX.out).2.2 (by omega)) wS.size;refine hK.out _ _ (fun _=>jo) ?_;clear hK K hS;obtain⟨Z,hZ⟩:∃Z,Z=di W3 (w.1.size+1) 0 [vI r,vI s,vI (eD x.head),vI x.g,.bool (aY 0 4000003 x.head&&bN x.head)]:=⟨_,rfl⟩
     have zb:=xr.put [vI r,vI s,vI (eD x.head),vI x.g,.bool (aY 0 4000003 x.head&&bN x.head)] rfl;rw[<-hZ]at zb;have VE:Z=(((((W3.setCell ⟨w.1.size+1,0,none⟩ (vI r)).setCell ⟨w.1.size+1,1,none⟩ (vI s)).setCell ⟨w.1.size+1,2,none⟩ (vI (eD x.head))).setCell ⟨w.1.size+1,3,none⟩ (vI x.g)).setCell ⟨w.1.size+1,4,none⟩ (.bool (aY 0 4000003 x.head&&bN x.head))):=hZ;have zs:Z.1.size=W3.1.size:=by rw[hZ];exact bf _ _ _ _
     have zf:∀q,q≠w.1.size+1->Z.1[q]?=W3.1[q]?:=fun q hq=>by rw[hZ];exact aV hq _ _ _
     have zo:Below 0 W3 Z:=by rw[hZ];exact aU (Nat.zero_le _) _ _ _ aJ
     have KE:Hid (F7 w B d a1 c1 a2 c2 a3 c3 k i P (Fe k t r s) (DT k t r s) (.agg #[vI (lZ k t r s).b,vI (lZ k t r s).e,vI (lZ k t r s).j,vI (lZ k t r s).g,.bool (lZ k t r s).i]) (.returned (.agg #[vI r,vI s,vI (eD x.head),vI x.g,.bool (aY 0 4000003 x.head&&bN x.head)])) Z):=by
      unfold Hid;rw[Yj.out,HC.out.2.1,RI.out,Xw.out];refine .inr ⟨hz,rfl,⟨u',P',⟨vD.bx.aj (zf d (by omega)) (Nat.le_of_eq zs.symm),vD.ow.aQ (Nat.le_of_eq zs.symm) (fun q hq=>zf q ?_),vD.nd,vD.lo⟩,fun q hq=>(DN q hq).imp id (fun h=>by omega)⟩,?_⟩
      ·rcases DN q hq with h|h
       ·have:=HP.out q h;omega
       ·omega
      ·have hb:cu d w W3:=((cu.refl d w).dK (ay KY.out.2.2.2.2.1 BX.out)).trans wS;exact⟨zo.os.trans hb.os,zo.tape.trans hb.tape,zo.output.trans hb.output,by rw[zs];exact hb.size,fun q hq Wl=>(zf q (by omega)).trans (hb.block q hq Wl)⟩
     have c0:=xr.1 0 _ rfl;have f0:=xr.2.1 0;have z0:=zb.1 0 _ rfl;have c1:=xr.1 1 _ rfl;have f1:=xr.2.1 1;have z1:=zb.1 1 _ rfl;have c2:=xr.1 2 _ rfl;have f2:=xr.2.1 2;have z2:=zb.1 2 _ rfl;have c3:=xr.1 3 _ rfl;have f3:=xr.2.1 3;have z3:=zb.1 3 _ rfl;have c4:=xr.1 4 _ rfl;have f4:=xr.2.1 4;have z4:=zb.1 4 _ rfl;have OZ:=aB VE;clear hZ VE zs zf zo zb vD DN wS Ao OG Ep ky xr;refine cZ 7 rfl (fun K hK=>?_);go_simp;refine hK.out _ _ (fun h=>absurd (show false=true from h.symm.trans (by kernel_rfl)) (by decide)) ?_;clear hK K;refine dL (by kernel_rfl) ?_ _;rw[<-OZ.out];clear c0 f0 c1 f1 c2 f2 c3 f3 c4 f4 jo;go_wp2;exact bodyPost_ret (v:=.agg #[vI r,vI s,vI (eD x.head),vI x.g,.bool (aY 0 4000003 x.head&&bN x.head)]) (by simp[results,Tryz.results62,go_sem,z0,z1,z2,z3,z4]) rfl KE.out
namespace tx
def LA(xs:List S5)(r s:Int):S5:=match o9 xs r s with
 | some i=>ax xs i
 | none=>⟨0,0,0,false,0⟩
theorem Uf{xs:List S5}{r s:Int}{i:Nat}(h:o9 xs r s=some i):i<xs.length:=by
 unfold o9 at h;exact(List.findIdx?_eq_some_iff_getElem.1 h).1
theorem sj(w:World)(base p mb n:Nat)(v:Value)(xs:List S5)(r s:Int)(hl:xs.length<=1000)(h:nQ w base p mb n v xs)(h1:aY 0 5 r=true)(h2:aY 0 5 s=true):
  Calls Tryz.prog 61 #[.pointer (some ⟨p,0,none⟩),.agg #[vI r,vI s]] w fun e w'=>e=.returned (.tuple #[.agg #[vI (LA xs r s).b,vI (LA xs r s).e,vI (LA xs r s).g,.bool (LA xs r s).i,vI (LA xs r s).j],.bool (o9 xs r s).isSome])/\Below w.1.size w w':=by
 obtain⟨W0,eB⟩:∃W,W=w.alloc (.cells #[vI r,vI s] 62):=⟨_,rfl⟩
 have b0:Below w.1.size w W0:=by rw[eB];exact aJ.alloc aR _
 have z0:W0.1.size=w.1.size+1:=by rw[eB];simp
 have k0:Bx W0 w.1.size [vI r,vI s]:=by rw[eB];exact Bx.made w [vI r,vI s] _
 obtain⟨W1,ja⟩:∃W,W=W0.alloc (.cells #[vI 0,vI 0,vI 0,.bool false,vI 0] 100):=⟨_,rfl⟩
 have b1:Below W0.1.size W0 W1:=by rw[ja];exact aJ.alloc aR _
 have k1:Bx W1 (w.1.size+1) [vI 0,vI 0,vI 0,.bool false,vI 0]:=by rw[ja,<-z0];exact Bx.made W0 [vI 0,vI 0,vI 0,.bool false,vI 0] _
 have h0:=h.later (ay b0 b1);have kk:=k0.later b1;have lk:∀d os,(Instr.lookup 165 (.map (some mb)) (jV r s) true).run Tryz.prog (grow (redrawn W1 d) os)=.ok (.tuple #[vI (((o9 xs r s).getD 0:Nat):Int),.bool (o9 xs r s).isSome]) (grow (redrawn W1 d) os):=fun d os=>((h0.mp).later (below_regrown W1 d os)).look h1 h2
 have m1:∀d os,(grow (redrawn W1 d) os).cell? ⟨p,1,none⟩=some (.map (some mb)):=fun d os=>((below_regrown W1 d os).cell (p:=⟨p,1,none⟩) h0.lp).trans h0.c1
 have t0:∀d os,(grow (redrawn W1 d) os).cell? ⟨w.1.size,0,none⟩=some (vI r):=fun d os=>((below_regrown W1 d os).cell (p:=⟨w.1.size,0,none⟩) kk.2.2).trans (kk.1 0 _ rfl)
 have t1:∀d os,(grow (redrawn W1 d) os).cell? ⟨w.1.size,1,none⟩=some (vI s):=fun d os=>((below_regrown W1 d os).cell (p:=⟨w.1.size,1,none⟩) kk.2.2).trans (kk.1 1 _ rfl)
 have H:Hid (Below w.1.size w W1/\nQ W1 base p mb n v xs/\Bx W1 (w.1.size+1) [vI 0,vI 0,vI 0,.bool false,vI 0]):=⟨ay b0 b1,h0,k1⟩
 have Ps:W1=(w.alloc (.cells #[vI r,vI s] 62)).alloc (.cells #[vI 0,vI 0,vI 0,.bool false,vI 0] 100):=by rw[ja,eB]
 clear h h0 b0 b1 z0 h1 h2 k0 k1 kk eB ja W0;simp only[jV]at lk;obtain⟨x,hx⟩:∃x,LA xs r s=x:=⟨_,rfl⟩
 rw[hx];unfold LA at hx
 cases hw:o9 xs r s with
 | none=>
  rw[hw]at hx lk;simp only at hx;subst hx;simp only[Option.getD_none,Option.isSome_none]at lk ⊢;clear hw;go_enter Tryz.func61,Tryz.ntmps61;go_wp2_with fail;rw[<-Ps];clear Ps;refine wp_region_quiet_below (by kernel_rfl) (by kernel_rfl) ?_;repeat (go_big_quiet_step (fail))
  refine wpQuiet_nil ?_;intro _ dD;obtain⟨⟨lH,bI⟩,aT⟩:=dD;subst aT;have bq:=below_regrown W1 lH bI;clear lk m1 t0 t1;generalize grow (redrawn W1 lH) bI=U at *;obtain⟨V,hV⟩:∃W,W=U.alloc (.cells #[vI 0,vI 0,vI 0,.bool false,vI 0] 100):=⟨_,rfl⟩
  have bV:Below U.1.size U V:=by rw[hV];exact aJ.alloc aR _
  have xb:=(H.out.2.2.later bq).later bV;have xc:=xb.put [vI 0,vI 0,vI 0,.bool false,vI 0] rfl;have BE:Hid (Below w.1.size w (di V (w.1.size+1) 0 [vI 0,vI 0,vI 0,.bool false,vI 0])):=aU (by omega) _ _ _ (ay H.out.1 (ay bq bV));have c0:=xb.1 0 _ rfl;have f0:=xb.2.1 0;have c1:=xb.1 1 _ rfl;have f1:=xb.2.1 1;have c2:=xb.1 2 _ rfl;have f2:=xb.2.1 2;have c3:=xb.1 3 _ rfl;have f3:=xb.2.1 3;have c4:=xb.1 4 _ rfl;have f4:=xb.2.1 4;rw[hV]at c0 f0 c1 f1 c2 f2 c3 f3 c4 f4;obtain⟨Y,hY⟩:∃Y,Y=di V (w.1.size+1) 0 [vI 0,vI 0,vI 0,.bool false,vI 0]:=⟨_,rfl⟩
  rw[<-hY]at xc BE;have qN:Y=(((((V.setCell ⟨w.1.size+1,0,none⟩ (vI 0)).setCell ⟨w.1.size+1,1,none⟩ (vI 0)).setCell ⟨w.1.size+1,2,none⟩ (vI 0)).setCell ⟨w.1.size+1,3,none⟩ (.bool false)).setCell ⟨w.1.size+1,4,none⟩ (vI 0)):=hY;have y0:=xc.1 0 _ rfl;have y1:=xc.1 1 _ rfl;have y2:=xc.1 2 _ rfl;have y3:=xc.1 3 _ rfl;have y4:=xc.1 4 _ rfl;have LX:=aB qN;have HV:=aB hV;clear hY qN xc xb bV bq hV;go_wp2;rw[<-HV.out,<-LX.out];exact bodyPost_ret (v:=.tuple #[.agg #[vI 0,vI 0,vI 0,.bool false,vI 0],.bool false]) (by simp[results,Tryz.results61,go_sem,y0,y1,y2,y3,y4]) rfl ⟨rfl,BE.out⟩
 | some i=>
  rw[hw]at hx lk;simp only at hx;simp only[Option.getD_some,Option.isSome_some]at lk ⊢;have hi:=Uf hw;have MZ:=gM hi;rw[hx]at MZ;have HI:=aB MZ;have HL:Hid (i<xs.length/\xs.length<=1000):=⟨hi,hl⟩
  clear hw hx MZ hi hl;go_enter Tryz.func61,Tryz.ntmps61;go_wp2_with fail;rw[<-Ps];clear Ps;refine wp_region_quiet_below (by kernel_rfl) (by kernel_rfl) ?_;repeat (go_big_quiet_step (fail))
  refine wpQuiet_nil ?_;intro _ dD;obtain⟨⟨lH,bI⟩,aT⟩:=dD;subst aT;have bq:=below_regrown W1 lH bI;clear lk m1 t0 t1;generalize grow (redrawn W1 lH) bI=V at *;have hP:=H.out.2.1.later bq;obtain⟨ra,rc,rfl,ho⟩:=hP.row.form;rcases ho with h0|⟨q,rfl,-,-,bg,-⟩
  ·have:=HL.out.1;rw[h0]at this;simp at this
  obtain⟨g0,g1,g2,g3,g4⟩:=bg i x HI.out;rw[Nat.zero_add]at g0 g1 g2 g3 g4;have d0:=hP.c0;have xb:=H.out.2.2.later bq;have xc:=xb.put [vI (x).b,vI (x).e,vI (x).g,.bool (x).i,vI (x).j] rfl;have BE:Hid (Below w.1.size w (di V (w.1.size+1) 0 [vI (x).b,vI (x).e,vI (x).g,.bool (x).i,vI (x).j])):=aU (by omega) _ _ _ (ay H.out.1 bq);have c0:=xb.1 0 _ rfl;have f0:=xb.2.1 0;have c1:=xb.1 1 _ rfl;have f1:=xb.2.1 1;have c2:=xb.1 2 _ rfl;have f2:=xb.2.1 2;have c3:=xb.1 3 _ rfl;have f3:=xb.2.1 3;have c4:=xb.1 4 _ rfl;have f4:=xb.2.1 4;obtain⟨Y,hY⟩:∃Y,Y=di V (w.1.size+1) 0 [vI (x).b,vI (x).e,vI (x).g,.bool (x).i,vI (x).j]:=⟨_,rfl⟩
  rw[<-hY]at xc BE;have qN:Y=(((((V.setCell ⟨w.1.size+1,0,none⟩ (vI (x).b)).setCell ⟨w.1.size+1,1,none⟩ (vI (x).e)).setCell ⟨w.1.size+1,2,none⟩ (vI (x).g)).setCell ⟨w.1.size+1,3,none⟩ (.bool (x).i)).setCell ⟨w.1.size+1,4,none⟩ (vI (x).j)):=hY;have y0:=xc.1 0 _ rfl;have y1:=xc.1 1 _ rfl;have y2:=xc.1 2 _ rfl;have y3:=xc.1 3 _ rfl;have y4:=xc.1 4 _ rfl;have LX:=aB qN;have ix:(i:Int)<(xs.length:Int):=by have:=HL.out.1;omega
  clear hY qN xc xb bq hP bg;go_wp2;rw[<-LX.out];exact bodyPost_ret (v:=.tuple #[.agg #[vI (x).b,vI (x).e,vI (x).g,.bool (x).i,vI (x).j],.bool true]) (by simp[results,Tryz.results61,go_sem,y0,y1,y2,y3,y4]) rfl ⟨rfl,BE.out⟩
end tx
noncomputable def wX(k:C6)(t:tx.T7)(r s:Int):Int:=if (tx.o9 t.ag r s).isSome=true then 0 else DT k t r s
noncomputable def qx(k:C6)(t:tx.T7)(r s:Int):tx.T7:=if (tx.o9 t.ag r s).isSome=true then t else Fe k t r s
noncomputable def Gc(k:C6)(t:tx.T7)(r s:Int):Int:=if (tx.o9 t.ag r s).isSome=true then(tx.LA t.ag r s).g else(lZ k t r s).g
noncomputable def Gb(k:C6)(t:tx.T7)(r s:Int):Bool:=if (tx.o9 t.ag r s).isSome=true then(tx.LA t.ag r s).i else(lZ k t r s).i
theorem Ql(w:World)(B d:Nat)(a1:Option Addr)(c1:Nat)(a2:Option Addr)(c2:Nat)(a3:Option Addr)(c3:Nat)(k:C6)(i:Nat)(u:tx.TV)(t:tx.T7)(P:Nat->Prop)(r s:Int)(hk:aD k=true)(nW:bK.L k)(h:bK.Rd w a1 c1 a2 c2 a3 c3 k)(hd:DB w B d a1 c1 a2 c2 a3 c3 k i u t P)(hl:tx.TL t)(MK:B<=w.1.size)(hT:tx.jI t=true)(hr:aY 0 5 r=true)(gy:aY 0 5 s=true):
  Calls Tryz.prog 24 #[.pointer (some ⟨d,0,none⟩),.agg #[vI r,vI s]] w (F7 w B d a1 c1 a2 c2 a3 c3 k i P (qx k t r s) (wX k t r s) (.tuple #[vI (Gc k t r s),.bool (Gb k t r s)])):=by
 obtain⟨U0,iQ⟩:∃Y,Y=w.alloc (.cells #[vI r,vI s] 62):=⟨_,rfl⟩
 have sG:Below w.1.size w U0:=by rw[iQ];exact aJ.alloc aR _
 have wY:Bx U0 w.1.size [vI r,vI s]:=by rw[iQ];exact Bx.made w [vI r,vI s] _
 have ym:U0.1.size=w.1.size+1:=by rw[iQ];simp
 have qK:=tx.Um hT;have HR:Hid (bK.Rd U0 a1 c1 a2 c2 a3 c3 k/\aD k=true/\DB U0 B d a1 c1 a2 c2 a3 c3 k i u t P/\(t.ag.length<=100/\(∀m∈t.ag,dw m=true)/\tx.zV t.ag)/\Below w.1.size w U0/\aY 0 5 r=true/\aY 0 5 s=true/\d<w.1.size/\B<=w.1.size/\tx.TL t/\bK.L k/\tx.jI t=true):=⟨h.later sG,hk,hd.later sG,⟨by have:=(tx.kL hT).2;omega,qK.1,qK.2⟩,sG,hr,gy,hd.bx.2.2,MK,hl,nW,hT⟩
 have HX:Hid (U0.1.size=w.1.size+1):=ym;have HP:Hid (∀q,P q->q<w.1.size):=fun q hq=>(hd.ow.of hq).2
 have hS:(fun Z:World=>Below U0.1.size U0 Z/\Bx Z d [vI k.u,vI k.l,.slice a1 k.f.length c1,.slice a2 k.aa.length c2,.slice a3 k.c.length c3,.bool k.w,vI (i:Int),vI t.id,vI t.o,vI t.q,vI t.v,.slice u.ar t.a.length u.cr,.slice u.ah t.ag.length u.ch,vI t.aA]/\Bx Z w.1.size [vI r,vI s]) U0.drew:=⟨aJ.drew,HR.out.2.2.1.bx.later (aJ.drew),wY.later (aJ.drew)⟩
 clear sG wY ym h hk hd hl MK qK hT hr gy nW;go_enter Tryz.func24,Tryz.ntmps24;go_wp2_with fail;rw[<-iQ];clear iQ;refine bu (fun z=>z==12) (fun Z:World=>Below U0.1.size U0 Z/\Bx Z d [vI k.u,vI k.l,.slice a1 k.f.length c1,.slice a2 k.aa.length c2,.slice a3 k.c.length c3,.bool k.w,vI (i:Int),vI t.id,vI t.o,vI t.q,vI t.v,.slice u.ar t.a.length u.cr,.slice u.ah t.ag.length u.ch,vI t.aA]/\Bx Z w.1.size [vI r,vI s]) (by kernel_rfl) ?_;generalize U0.drew=Wd at *;refine cz 0 ?_ rfl ?_ hS ?_;rotate_left
 ·(intro w _;go_simp;first|done|with_reducible rfl)
 simp only[Act.put];refine cz 1 (.pointer (some ⟨d,0,none⟩)) rfl ?_ hS ?_
 ·(intro w _;go_simp)
 simp only[Act.put];refine cz 2 ?_ rfl ?_ hS ?_;rotate_left
 ·(intro w _;go_simp;first|done|with_reducible rfl)
 simp only[Act.put];refine cz 3 ?_ rfl ?_ hS ?_;rotate_left
 ·(intro w _;go_simp;first|done|with_reducible rfl)
 simp only[Act.put];refine jg 4 (.slice u.ah t.ag.length u.ch) rfl ?_ hS ?_
 ·(intro w aG;have fk:=aG.2.1.1 12 _ rfl;clear hS aG;go_simp)
 simp only[Act.put];refine jg 6 (.agg #[vI r,vI s]) rfl ?_ hS ?_
 ·(intro w aG;have q0:=aG.2.2.1 0 _ rfl;have q1:=aG.2.2.1 1 _ rfl;clear hS aG;go_simp)
 simp only[Act.put];refine iI (rs:=[5,11]) (by kernel_rfl) (by simp) ?_;refine iU.cons rfl (fun K hK=>?lA) (iU.cons rfl (fun K hK=>?lB) iU.nil)
 case' lA=>
  go_simp;have cP:=tx.uB Wd u.ah u.ch t.ag HR.out.2.2.2.1.1 (HR.out.2.2.1.ow.sl.later hS.1).s HR.out.2.2.2.1.2.1 HR.out.2.2.2.1.2.2;refine cP.mono ?_;clear cP;rintro e X ⟨p,mb,nn,pv,rfl,hp,-,bX⟩;replace hS:(fun Z:World=>Below U0.1.size U0 Z/\Bx Z d [vI k.u,vI k.l,.slice a1 k.f.length c1,.slice a2 k.aa.length c2,.slice a3 k.c.length c3,.bool k.w,vI (i:Int),vI t.id,vI t.o,vI t.q,vI t.v,.slice u.ar t.a.length u.cr,.slice u.ah t.ag.length u.ch,vI t.aA]/\Bx Z w.1.size [vI r,vI s]) X:=⟨ay hS.1 bX,hS.2.1.later bX,hS.2.2.later bX⟩
  generalize Wd.1.size=pB at hp;clear bX;refine hK.out _ _ (fun _=>hS) ?_;clear hK K;clear Wd;generalize X=Wd at *;refine iI (rs:=[7,11]) (by kernel_rfl) (by simp) ?_;refine iU.cons rfl (fun K hK=>?ZI) (iU.cons rfl (fun K hK=>?ZJ) iU.nil)
  case' ZI=>
   go_simp;have cF:=tx.sj Wd pB p mb nn pv t.ag r s (by have:=HR.out.2.2.2.1.1;omega) hp HR.out.2.2.2.2.2.1 HR.out.2.2.2.2.2.2.1;refine cF.mono ?_;clear cF;rintro e X ⟨rfl,bX⟩;replace hS:(fun Z:World=>Below U0.1.size U0 Z/\Bx Z d [vI k.u,vI k.l,.slice a1 k.f.length c1,.slice a2 k.aa.length c2,.slice a3 k.c.length c3,.bool k.w,vI (i:Int),vI t.id,vI t.o,vI t.q,vI t.v,.slice u.ar t.a.length u.cr,.slice u.ah t.ag.length u.ch,vI t.aA]/\Bx Z w.1.size [vI r,vI s]) X:=⟨ay hS.1 bX,hS.2.1.later bX,hS.2.2.later bX⟩
   clear bX hp;refine hK.out _ _ (fun _=>hS) ?_;clear hK K;clear Wd;generalize X=Wd at *;refine cz 8 ?_ rfl ?_ hS ?_;rotate_left
   ·(intro w _;go_simp;first|done|with_reducible rfl)
   simp only[Act.put];refine cz 9 ?_ rfl ?_ hS ?_;rotate_left
   ·(intro w _;go_simp;first|done|with_reducible rfl)
   simp only[Act.put];refine cz 10 ?_ rfl ?_ hS ?_;rotate_left
   ·(intro w _;go_simp;first|done|with_reducible rfl)
   simp only[Act.put];refine cZ 11 rfl (fun K hK=>?_);go_simp;obtain⟨X,hX⟩:∃V,V=Wd.alloc (.cells #[vI 0,vI 0,vI 0,.bool false,vI 0] 100):=⟨_,rfl⟩
   obtain⟨bb,iE⟩:∃bb,bb=Wd.1.size:=⟨_,rfl⟩
   have bX:Below Wd.1.size Wd X:=by rw[hX];exact aJ.alloc aR _
   have xV:Bx X bb [vI 0,vI 0,vI 0,.bool false,vI 0]:=by rw[hX,iE];exact Bx.made Wd [vI 0,vI 0,vI 0,.bool false,vI 0] _
   rw[<-hX,<-iE];have HB:Hid (U0.1.size<=bb):=by unfold Hid;have:=hS.1.size;omega
   replace hS:(fun Z:World=>Below U0.1.size U0 Z/\Bx Z d [vI k.u,vI k.l,.slice a1 k.f.length c1,.slice a2 k.aa.length c2,.slice a3 k.c.length c3,.bool k.w,vI (i:Int),vI t.id,vI t.o,vI t.q,vI t.v,.slice u.ar t.a.length u.cr,.slice u.ah t.ag.length u.ch,vI t.aA]/\Bx Z w.1.size [vI r,vI s]) X:=⟨ay hS.1 bX,hS.2.1.later bX,hS.2.2.later bX⟩
   clear hX iE bX;refine hK.out _ _ (fun _=>hS) ?_;clear hK K;clear Wd;generalize X=Wd at *
  case' ZJ=>
   go_simp;obtain⟨X,hX⟩:∃V,V=Wd.alloc (.cells #[vI 0,vI 0,vI 0,.bool false,vI 0] 100):=⟨_,rfl⟩
   obtain⟨bb,iE⟩:∃bb,bb=Wd.1.size:=⟨_,rfl⟩
   have bX:Below Wd.1.size Wd X:=by rw[hX];exact aJ.alloc aR _
   have xV:Bx X bb [vI 0,vI 0,vI 0,.bool false,vI 0]:=by rw[hX,iE];exact Bx.made Wd [vI 0,vI 0,vI 0,.bool false,vI 0] _
   rw[<-hX,<-iE];have HB:Hid (U0.1.size<=bb):=by unfold Hid;have:=hS.1.size;omega
   replace hp:=hp.later bX;replace hS:(fun Z:World=>Below U0.1.size U0 Z/\Bx Z d [vI k.u,vI k.l,.slice a1 k.f.length c1,.slice a2 k.aa.length c2,.slice a3 k.c.length c3,.bool k.w,vI (i:Int),vI t.id,vI t.o,vI t.q,vI t.v,.slice u.ar t.a.length u.cr,.slice u.ah t.ag.length u.ch,vI t.aA]/\Bx Z w.1.size [vI r,vI s]) X:=⟨ay hS.1 bX,hS.2.1.later bX,hS.2.2.later bX⟩
   clear hX iE bX;refine hK.out _ _ (fun _=>hS) ?_;clear hK K;clear Wd;generalize X=Wd at *;refine cZ 7 rfl (fun K hK=>?_);go_simp;have cF:=tx.sj Wd pB p mb nn pv t.ag r s (by have:=HR.out.2.2.2.1.1;omega) hp HR.out.2.2.2.2.2.1 HR.out.2.2.2.2.2.2.1;refine cF.mono ?_;clear cF;rintro e X ⟨rfl,bX⟩;replace xV:=xV.later bX;replace hS:(fun Z:World=>Below U0.1.size U0 Z/\Bx Z d [vI k.u,vI k.l,.slice a1 k.f.length c1,.slice a2 k.aa.length c2,.slice a3 k.c.length c3,.bool k.w,vI (i:Int),vI t.id,vI t.o,vI t.q,vI t.v,.slice u.ar t.a.length u.cr,.slice u.ah t.ag.length u.ch,vI t.aA]/\Bx Z w.1.size [vI r,vI s]) X:=⟨ay hS.1 bX,hS.2.1.later bX,hS.2.2.later bX⟩
   clear bX hp;refine hK.out _ _ (fun _=>hS) ?_;clear hK K;clear Wd;generalize X=Wd at *;refine cz 8 ?_ rfl ?_ hS ?_;rotate_left
   ·(intro w _;go_simp;first|done|with_reducible rfl)
   simp only[Act.put];refine cz 9 ?_ rfl ?_ hS ?_;rotate_left
   ·(intro w _;go_simp;first|done|with_reducible rfl)
   simp only[Act.put];refine cz 10 ?_ rfl ?_ hS ?_;rotate_left
   ·(intro w _;go_simp;first|done|with_reducible rfl)
   simp only[Act.put]
 case' lB=>
  go_simp;obtain⟨X,hX⟩:∃V,V=Wd.alloc (.cells #[vI 0,vI 0,vI 0,.bool false,vI 0] 100):=⟨_,rfl⟩
  obtain⟨bb,iE⟩:∃bb,bb=Wd.1.size:=⟨_,rfl⟩
  have bX:Below Wd.1.size Wd X:=by rw[hX];exact aJ.alloc aR _
  have xV:Bx X bb [vI 0,vI 0,vI 0,.bool false,vI 0]:=by rw[hX,iE];exact Bx.made Wd [vI 0,vI 0,vI 0,.bool false,vI 0] _
  rw[<-hX,<-iE];have HB:Hid (U0.1.size<=bb):=by unfold Hid;have:=hS.1.size;omega
  replace hS:(fun Z:World=>Below U0.1.size U0 Z/\Bx Z d [vI k.u,vI k.l,.slice a1 k.f.length c1,.slice a2 k.aa.length c2,.slice a3 k.c.length c3,.bool k.w,vI (i:Int),vI t.id,vI t.o,vI t.q,vI t.v,.slice u.ar t.a.length u.cr,.slice u.ah t.ag.length u.ch,vI t.aA]/\Bx Z w.1.size [vI r,vI s]) X:=⟨ay hS.1 bX,hS.2.1.later bX,hS.2.2.later bX⟩
  clear hX iE bX;refine hK.out _ _ (fun _=>hS) ?_;clear hK K;clear Wd;generalize X=Wd at *;refine cZ 5 rfl (fun K hK=>?_);go_simp;have cP:=tx.uB Wd u.ah u.ch t.ag HR.out.2.2.2.1.1 (HR.out.2.2.1.ow.sl.later hS.1).s HR.out.2.2.2.1.2.1 HR.out.2.2.2.1.2.2;refine cP.mono ?_;clear cP;rintro e X ⟨p,mb,nn,pv,rfl,hp,-,bX⟩;replace xV:=xV.later bX;replace hS:(fun Z:World=>Below U0.1.size U0 Z/\Bx Z d [vI k.u,vI k.l,.slice a1 k.f.length c1,.slice a2 k.aa.length c2,.slice a3 k.c.length c3,.bool k.w,vI (i:Int),vI t.id,vI t.o,vI t.q,vI t.v,.slice u.ar t.a.length u.cr,.slice u.ah t.ag.length u.ch,vI t.aA]/\Bx Z w.1.size [vI r,vI s]) X:=⟨ay hS.1 bX,hS.2.1.later bX,hS.2.2.later bX⟩
  generalize Wd.1.size=pB at hp;clear bX;refine hK.out _ _ (fun _=>hS) ?_;clear hK K;clear Wd;generalize X=Wd at *;refine cZ 7 rfl (fun K hK=>?_);go_simp;have cF:=tx.sj Wd pB p mb nn pv t.ag r s (by have:=HR.out.2.2.2.1.1;omega) hp HR.out.2.2.2.2.2.1 HR.out.2.2.2.2.2.2.1;refine cF.mono ?_;clear cF;rintro e X ⟨rfl,bX⟩;replace xV:=xV.later bX;replace hS:(fun Z:World=>Below U0.1.size U0 Z/\Bx Z d [vI k.u,vI k.l,.slice a1 k.f.length c1,.slice a2 k.aa.length c2,.slice a3 k.c.length c3,.bool k.w,vI (i:Int),vI t.id,vI t.o,vI t.q,vI t.v,.slice u.ar t.a.length u.cr,.slice u.ah t.ag.length u.ch,vI t.aA]/\Bx Z w.1.size [vI r,vI s]) X:=⟨ay hS.1 bX,hS.2.1.later bX,hS.2.2.later bX⟩
  clear bX hp;refine hK.out _ _ (fun _=>hS) ?_;clear hK K;clear Wd;generalize X=Wd at *;refine cz 8 ?_ rfl ?_ hS ?_;rotate_left
  ·(intro w _;go_simp;first|done|with_reducible rfl)
  simp only[Act.put];refine cz 9 ?_ rfl ?_ hS ?_;rotate_left
  ·(intro w _;go_simp;first|done|with_reducible rfl)
  simp only[Act.put];refine cz 10 ?_ rfl ?_ hS ?_;rotate_left
  ·(intro w _;go_simp;first|done|with_reducible rfl)
  simp only[Act.put]
 all_goals
  have c0:=xV.1 0 _ rfl;have f0:=xV.2.1 0;have c1:=xV.1 1 _ rfl;have f1:=xV.2.1 1;have c2:=xV.1 2 _ rfl;have f2:=xV.2.1 2;have c3:=xV.1 3 _ rfl;have f3:=xV.2.1 3;have c4:=xV.1 4 _ rfl;have f4:=xV.2.1 4;refine cZ 12 rfl (fun K hK=>?_);go_simp;refine hK.out _ _ (fun h=>absurd (show false=true from h.symm.trans (by kernel_rfl)) (by decide)) ?_;clear hK K;refine cZ 13 rfl (fun K hK=>?_);go_simp;refine hK.out _ _ (fun h=>absurd (show false=true from h.symm.trans (by kernel_rfl)) (by decide)) ?_;clear hK K;refine dL (by kernel_rfl) ?_ _;clear c0 f0 c1 f1 c2 f2 c3 f3 c4 f4;obtain⟨f,hf⟩:∃f,tx.LA t.ag r s=f:=⟨_,rfl⟩
  have HF:=aB hf;rw[hf];clear hf;obtain⟨Y,hY⟩:∃Y,Y=di Wd bb 0 [vI f.b,vI f.e,vI f.g,.bool f.i,vI f.j]:=⟨_,rfl⟩
  have yb:=xV.put [vI f.b,vI f.e,vI f.g,.bool f.i,vI f.j] rfl;rw[<-hY]at yb;have qN:Y=(((((Wd.setCell ⟨bb,0,none⟩ (vI f.b)).setCell ⟨bb,1,none⟩ (vI f.e)).setCell ⟨bb,2,none⟩ (vI f.g)).setCell ⟨bb,3,none⟩ (.bool f.i)).setCell ⟨bb,4,none⟩ (vI f.j)):=hY;rw[<-qN];have dQ:Y.1.size=Wd.1.size:=by rw[hY];exact bf _ _ _ _
  have dZ:∀q,q≠bb->Y.1[q]?=Wd.1[q]?:=fun q hq=>by rw[hY];exact aV hq _ _ _
  have Ao:=HX.out;have OG:=HR.out.2.2.2.2.2.2.2.1;have Ep:=HB.out;have BY:Hid (Below U0.1.size U0 Y):=by unfold Hid;rw[hY];exact aU Ep _ _ _ hS.1
  have KY:Hid (Bx Y bb [vI f.b,vI f.e,vI f.g,.bool f.i,vI f.j]/\Bx Y w.1.size [vI r,vI s]/\DB Y B d a1 c1 a2 c2 a3 c3 k i u t P/\Below w.1.size w Y/\bK.Rd Y a1 c1 a2 c2 a3 c3 k):=⟨yb,hS.2.2.aj (dZ _ (by omega)) (Nat.le_of_eq dQ.symm),HR.out.2.2.1.later BY.out,ay HR.out.2.2.2.2.1 BY.out,HR.out.1.later BY.out⟩
  clear qN hY yb dQ dZ hS xV Ao OG Ep
  cases hw:(tx.o9 t.ag r s).isSome with
  | true=>
   have HC:Hid (wX k t r s=0/\qx k t r s=t/\Gc k t r s=f.g/\Gb k t r s=f.i):=⟨by rw[wX,hw];rfl,by rw[qx,hw];rfl,by rw[Gc,hw,<-HF.out];rfl,by rw[Gb,hw,<-HF.out];rfl⟩
   clear hw
   have KE:Hid (∀Z,Below Y.1.size Y Z->F7 w B d a1 c1 a2 c2 a3 c3 k i P (qx k t r s) (wX k t r s) (.tuple #[vI (Gc k t r s),.bool (Gb k t r s)]) (.returned (.tuple #[vI f.g,.bool f.i])) Z):=fun Z hZ=>by
    rw[HC.out.1,HC.out.2.1,HC.out.2.2.1,HC.out.2.2.2];exact .inr ⟨rfl,rfl,⟨u,P,KY.out.2.2.1.later hZ,fun q hq=>.inl hq⟩,(cu.refl d w).dK (ay KY.out.2.2.2.1 hZ)⟩
   have y2:=KY.out.1.1 2 _ rfl;have y3:=KY.out.1.1 3 _ rfl;go_wp2_with fail;go_quiet (fail);go_wp2;exact bodyPost_ret (v:=.tuple #[vI f.g,.bool f.i]) (by simp[results,Tryz.results24,go_sem]) rfl (KE.out _ (mY aJ _))
  | false=>
   have HC:Hid (wX k t r s=DT k t r s/\qx k t r s=Fe k t r s/\Gc k t r s=(lZ k t r s).g/\Gb k t r s=(lZ k t r s).i):=⟨by rw[wX,hw];rfl,by rw[qx,hw];rfl,by rw[Gc,hw];rfl,by rw[Gb,hw];rfl⟩
   clear hw;have cN:=Hf Y B d a1 c1 a2 c2 a3 c3 k i u t P r s HR.out.2.1 HR.out.2.2.2.2.2.2.2.2.2.2.1 KY.out.2.2.2.2 KY.out.2.2.1 HR.out.2.2.2.2.2.2.2.2.2.1 (by have:=HR.out.2.2.2.2.2.2.2.2.1;have:=KY.out.2.2.2.1.size;omega) HR.out.2.2.2.2.2.2.2.2.2.2.2 HR.out.2.2.2.2.2.1 HR.out.2.2.2.2.2.2.1;have y0:=KY.out.2.1.1 0 _ rfl;have y1:=KY.out.2.1.1 1 _ rfl;go_wp2_with fail;refine cN.mono ?_;clear cN y0 y1;intro e W3 hA;rcases hA with ⟨fF,hr⟩|⟨hz,rfl,⟨u',P',vD,DN⟩,wS⟩
   ·have HE:Hid (F7 w B d a1 c1 a2 c2 a3 c3 k i P (qx k t r s) (wX k t r s) (.tuple #[vI (Gc k t r s),.bool (Gb k t r s)]) e W3):=.inl ⟨by rw[HC.out.1];exact fF,by rw[HC.out.1];exact hr.low KY.out.2.2.2.1⟩;obtain⟨e1,d1,e2,d2,e3,d3,P2,rfl,-,-⟩:=hr;go_wp2;exact⟨rfl,HE.out⟩
   ·obtain⟨n,hn⟩:∃n,lZ k t r s=n:=⟨_,rfl⟩
    have Ym:=aB hn;rw[hn];clear hn;have KD:Hid ((∃u P',DB W3 B d a1 c1 a2 c2 a3 c3 k i u (Fe k t r s) P'/\∀q,P' q->P q\/Y.1.size<=q)/\cu d Y W3/\DT k t r s=0):=⟨⟨u',P',vD,DN⟩,wS,hz⟩
    clear vD DN wS hz;obtain⟨V,hV⟩:∃V,V=W3.alloc (.cells #[vI n.b,vI n.e,vI n.j,vI n.g,.bool n.i] 112):=⟨_,rfl⟩
    have bV:Below W3.1.size W3 V:=by rw[hV];exact aJ.alloc aR _
    have xN:Bx V W3.1.size [vI n.b,vI n.e,vI n.j,vI n.g,.bool n.i]:=by rw[hV];exact Bx.made W3 [vI n.b,vI n.e,vI n.j,vI n.g,.bool n.i] _
    have KE:Hid (∀Z,Below V.1.size V Z->F7 w B d a1 c1 a2 c2 a3 c3 k i P (qx k t r s) (wX k t r s) (.tuple #[vI (Gc k t r s),.bool (Gb k t r s)]) (.returned (.tuple #[vI n.g,.bool n.i])) Z):=fun Z hZ=>by
     rw[HC.out.1,HC.out.2.1,HC.out.2.2.1,HC.out.2.2.2,Ym.out];obtain⟨⟨u2,P2,h1,h2⟩,h3,h4⟩:=KD.out;have hs:=KY.out.2.2.2.1.size;exact .inr ⟨h4,rfl,⟨u2,P2,h1.later (ay bV hZ),fun q hq=>(h2 q hq).imp id (fun h=>by omega)⟩,(((cu.refl d w).dK KY.out.2.2.2.1).trans h3).dK (ay bV hZ)⟩
    have y3:=xN.1 3 _ rfl;have y4:=xN.1 4 _ rfl;clear bV xN;have HV:=aB hV;go_wp2_with fail;rw[<-hV];clear hV;go_quiet (fail);go_wp2;exact bodyPost_ret (v:=.tuple #[vI n.g,.bool n.i]) (by simp[results,Tryz.results24,go_sem]) rfl (KE.out _ (mY aJ _))
section
variable {B d1 d2 d3 p:Nat}{Y:World}{b1 b2 b3:Option Addr}{gm gp gt:Nat->Nat->Prop}{k:C6}{ms:List (MV×M4)}{ps:List ((Nat×Nat)×List Int)}{ts:List (tx.TV×tx.T7)}
theorem Kd.Part.put{D V:Type}{K:Kd D V}{X:World}{b n:Nat}{ys:List D}{g:Nat->Nat->Prop}(h:K.Part X B b n ys g){i:Nat}(hi:i<ys.length)(hn:ys.length<=n)(v:V)(d:D)(Q:Nat->Prop)(ho:K.Ow X B v d Q)(fF:∀q,Q q->q≠b)(Sr:∀j q,j<ys.length->j≠i->g j q->¬Q q):
  K.Part (di X b (i*K.n) (K.cells v d)) B b n (ys.set i d) (fun j=>if j=i then Q else g j):=by
 have hs:(di X b (i*K.n) (K.cells v d)).1.size=X.1.size:=bf _ _ _ _;have hk:∀q,q≠b->(di X b (i*K.n) (K.cells v d)).1[q]?=X.1[q]?:=fun q hq=>aV hq _ _ _
 have hc:i*K.n+K.n<=n*K.n:=by rw[<-Nat.succ_mul];exact Nat.mul_le_mul_right _ (by omega)
 refine⟨Ce _ _ _ h.rm,fun j e hj=>?_,fun j q hj hq=>?_,fun j l q hj hl Ev h1 h2=>?_⟩
 ·by_cases QP:j=i
  ·subst QP;rw[List.getElem?_set_self hi]at hj;obtain rfl:=Option.some.inj hj;refine⟨v,fun t u hu=>?_,by simp only[if_pos];exact K.aQ ho (Nat.le_of_eq hs.symm) (fun q hq=>hk q (fF q hq))⟩;refine wm _ _ _ (fun t h1 h2=>?_) t u hu;rw[K.len]at h2;obtain⟨z,hz,_⟩:=h.rm t (by omega);exact⟨z,hz⟩
  ·rw[List.getElem?_set_ne (fun e=>QP e.symm)]at hj;obtain⟨v',h1,h2⟩:=h.at_ j e hj;have Ev:=(List.getElem?_eq_some_iff.1 hj).1;refine⟨v',fun t u hu=>?_,by simp only[if_neg QP];exact K.aQ h2 (Nat.le_of_eq hs.symm) (fun q hq=>hk q (h.ne j q Ev hq))⟩;have ht:t<K.n:=by have:=(List.getElem?_eq_some_iff.1 hu).1;rwa[K.len]at this
   refine(Fs _ _ _ ?_).trans (h1 t u hu);rw[K.len];rcases Nat.lt_or_gt_of_ne QP with aN|VO
   ·have:=Nat.mul_le_mul_right K.n (Nat.succ_le_of_lt aN);rw[Nat.succ_mul]at this;left;omega
   ·have:=Nat.mul_le_mul_right K.n (Nat.succ_le_of_lt VO);rw[Nat.succ_mul]at this;right;omega
 ·rw[List.length_set]at hj;by_cases e:j=i
  ·simp only[if_pos e]at hq;exact fF q hq
  ·simp only[if_neg e]at hq;exact h.ne j q hj hq
 ·rw[List.length_set]at hj hl;by_cases e1:j=i
  ·by_cases e2:l=i
   ·omega
   ·simp only[if_pos e1]at h1;simp only[if_neg e2]at h2;exact Sr l q hl e2 h2 h1
  ·by_cases e2:l=i
   ·simp only[if_neg e1]at h1;simp only[if_pos e2]at h2;exact Sr j q hj e1 h1 h2
   ·simp only[if_neg e1]at h1;simp only[if_neg e2]at h2;exact h.ap j l q hj hl Ev h1 h2
def jw(k:C6)(i:Nat)(t:tx.T7):C6:=⟨k.u,k.l,k.f,k.aa,k.c.set i t,k.w⟩
theorem D8{base:Nat}
  (hr:su base p Y (.slice b1 k.f.length d1) (.slice b2 k.aa.length d2) (.slice b3 k.c.length d3) ps gp ms gm ts gt) (e1:ps.map (·.2)=k.f) (e2:ms.map (·.2)=k.aa) (e3:ts.map (·.2)=k.c){i:Nat} (hi:i<k.c.length) (u0:Option Addr) (u1:Nat) (u2:Option Addr) (u3:Nat) (t':tx.T7) (Q:Nat->Prop) (ho:KT.Ow Y B u0 u1 u2 u3 t' Q) (hB:B<=base) (hQ:∀q,Q q->¬Kd.jU (.slice b1 k.f.length d1) ps gp q/\¬Kd.jU (.slice b2 k.aa.length d2) ms gm q/\(Value.slice b3 k.c.length d3).ownBlock≠some q) (XI:∀j q,j<k.c.length->j≠i->gt j q->¬Q q):
  ∃b,b3=some ⟨b,0,none⟩/\base<=b/\b<Y.1.size/\b≠p/\Room Y b (k.c.length*7)/\(∀q,Q q->q≠b)/\∃P,(∀q,P q->Q q\/base<=q)/\bK.Ow (di Y b (i*7) (fQ.cells ⟨u0,u1,u2,u3⟩ t')) B b1 d1 b2 d2 b3 d3 (jw k i t') P:=by
 have SQ:=Cb hr.P e1;have OJ:=hr.M.own e2;have aN:ts.length=k.c.length:=by rw[<-e3];simp
 obtain⟨b,rfl,vE,-⟩:=hr.T.part e3 (fun h=>by rw[h]at aN;simp at aN;omega);have iR:=fun q (hq:Kd.jU (.slice (some ⟨b,0,none⟩) k.c.length d3) ts gt q)=>hr.T.blocks hq
 have hg:∀j q,j<k.c.length->gt j q->Kd.jU (.slice (some ⟨b,0,none⟩) k.c.length d3) ts gt q:=fun j q hj hq=>.inr ⟨j,by omega,hq⟩
 have iE:=iR b (.inl rfl);have XJ:∀q,Q q->q≠b:=fun q hq e=>(hQ q hq).2.2 (by rw[e];rfl)
 have Zo:=Kd.Part.put (K:=fQ) (⟨vE.rm,fun j d hj=>by obtain⟨v,h1,h2⟩:=vE.at_ j d hj;exact⟨v,h1,fQ.low h2 hB⟩,vE.ne,vE.ap⟩:fQ.Part Y B b k.c.length k.c gt) hi aR ⟨u0,u1,u2,u3⟩ t' Q ho XJ XI;have dZ:∀q,q≠b->(di Y b (i*7) (fQ.cells ⟨u0,u1,u2,u3⟩ t')).1[q]?=Y.1[q]?:=fun q hq=>aV hq _ _ _
 have dQ:(di Y b (i*7) (fQ.cells ⟨u0,u1,u2,u3⟩ t')).1.size=Y.1.size:=bf _ _ _ _;have VI:Kd.jU (.slice (some ⟨b,0,none⟩) k.c.length d3) ts gt b:=.inl rfl;have o1:KP.Ow (di Y b (i*7) (fQ.cells ⟨u0,u1,u2,u3⟩ t')) B b1 k.f _:=(SQ.low hB).aQ (Nat.le_of_eq dQ.symm) (fun q hq=>dZ q (fun e=>by subst e;exact hr.pt q hq VI));have o2:fZ.nP (di Y b (i*7) (fQ.cells ⟨u0,u1,u2,u3⟩ t')) B b2 k.aa _:=(OJ.low hB).aQ (Nat.le_of_eq dQ.symm) (fun q hq=>dZ q (fun e=>by subst e;exact hr.mt q hq VI))
 refine⟨b,rfl,iE.1,iE.2,hr.tp b VI,vE.rm,XJ,fun q=>Kd.jU (.slice b1 k.f.length d1) ps gp q\/Kd.jU (.slice b2 k.aa.length d2) ms gm q\/(q=b\/(∃j,j<k.c.length/\j≠i/\gt j q)\/Q q),fun q hq=>by
  rcases hq with hq|hq|rfl|⟨j,hj,_,hq⟩|hq
  ·exact .inr (hr.P.blocks hq).1
  ·exact .inr (hr.M.blocks hq).1
  ·exact .inr iE.1
  ·exact .inr (iR q (hg j q hj hq)).1
  ·exact .inl hq,⟨_,_,fun q=>q=b\/(∃j,j<k.c.length/\j≠i/\gt j q)\/Q q,o1,o2,⟨.inr ⟨b,fun j=>if j=i then Q else gt j,rfl,.inl rfl,?_,fun j q hj hq=>?_⟩,fun q hq=>?_⟩,fun _ hq=>.inl hq,fun _ hq=>.inr (.inl hq),fun _ hq=>.inr (.inr hq),hr.pm,fun q hq PL=>?_,fun q hq PL=>?_⟩,fun q hq=>?_⟩
 ·have:(k.c.set i t').length=k.c.length:=by simp
  show fQ.Part _ B b (k.c.set i t').length (k.c.set i t') _
  rw[this];exact Zo
 ·have OH:j<k.c.length:=by simpa[jw]using hj
  by_cases e:j=i
  ·simp only[if_pos e]at hq;exact .inr (.inr hq)
  ·simp only[if_neg e]at hq;exact .inr (.inl ⟨j,OH,e,hq⟩)
 ·rw[dQ];rcases hq with rfl|⟨j,hj,_,hq⟩|hq
  ·exact⟨by omega,iE.2⟩
  ·have:=iR q (hg j q hj hq);exact⟨by omega,this.2⟩
  ·exact ho.of hq
 ·rcases PL with rfl|⟨j,hj,_,hx⟩|hx
  ·exact hr.pt q hq VI
  ·exact hr.pt q hq (hg j q hj hx)
  ·exact(hQ q hx).1 hq
 ·rcases PL with rfl|⟨j,hj,_,hx⟩|hx
  ·exact hr.mt q hq VI
  ·exact hr.mt q hq (hg j q hj hx)
  ·exact(hQ q hx).2.1 hq
 ·rw[dQ];rcases hq with hq|hq|rfl|⟨j,hj,_,hq⟩|hq
  ·have:=hr.P.blocks hq;exact⟨by omega,this.2⟩
  ·have:=hr.M.blocks hq;exact⟨by omega,this.2⟩
  ·exact⟨by omega,iE.2⟩
  ·have:=iR q (hg j q hj hq);exact⟨by omega,this.2⟩
  ·exact ho.of hq
theorem Pd{base:Nat}
  (hr:su base p Y (.slice b1 k.f.length d1) (.slice b2 k.aa.length d2) (.slice b3 k.c.length d3) ps gp ms gm ts gt) (e1:ps.map (·.2)=k.f) (e2:ms.map (·.2)=k.aa) (e3:ts.map (·.2)=k.c){i:Nat} (hi:i<k.c.length) (u0:Option Addr) (u1:Nat) (u2:Option Addr) (u3:Nat) (t':tx.T7) (Q:Nat->Prop) (ho:KT.Ow Y B u0 u1 u2 u3 t' Q) (hB:B<=base) (hQ:∀q,Q q->q<base):
  ∃b,b3=some ⟨b,0,none⟩/\base<=b/\b<Y.1.size/\b≠p/\Room Y b (k.c.length*7)/\(∀q,Q q->q≠b)/\∃P,(∀q,P q->Q q\/base<=q)/\bK.Ow (di Y b (i*7) (fQ.cells ⟨u0,u1,u2,u3⟩ t')) B b1 d1 b2 d2 b3 d3 (jw k i t') P:=by
 have aN:ts.length=k.c.length:=by rw[<-e3];simp
 exact D8 hr e1 e2 e3 hi u0 u1 u2 u3 t' Q ho hB (fun q hq=>⟨fun h=>by have:=(hr.P.blocks h).1;have:=hQ q hq;omega,fun h=>by have:=(hr.M.blocks h).1;have:=hQ q hq;omega,fun h=>by have:=(hr.T.blocks (.inl h)).1;have:=hQ q hq;omega⟩) (fun j q hj _ h hq=>by have:=(hr.T.blocks (.inr ⟨j,by omega,h⟩)).1;have:=hQ q hq;omega)
theorem xL(w:World)(a1:Option Addr)(c1:Nat)(a2:Option Addr)(c2:Nat)(a3:Option Addr)(c3:Nat)(k:C6)(y:Int)(hl:bK.L k)(h:bK.Rd w a1 c1 a2 c2 a3 c3 k):
  Calls Tryz.prog 23 #[.agg #[vI k.u,vI k.l,.slice a1 k.f.length c1,.slice a2 k.aa.length c2,.slice a3 k.c.length c3,.bool k.w],vI y] w (qW w a1 c1 a2 c2 a3 c3 k y (gJ k y)):=by
 obtain⟨W0,eB⟩:∃Y,Y=w.alloc (.cells #[vI k.u,vI k.l,.slice a1 k.f.length c1,.slice a2 k.aa.length c2,.slice a3 k.c.length c3,.bool k.w] 32):=⟨_,rfl⟩
 have b0:Below w.1.size w W0:=by rw[eB];exact aJ.alloc aR _
 have hc:=Gn W0 a1 c1 a2 c2 a3 c3 k y hl (h.later b0);have H:Hid (Below w.1.size w W0/\bK.Rd w a1 c1 a2 c2 a3 c3 k):=⟨b0,h⟩
 clear b0 h hl;go_enter Tryz.func23,Tryz.ntmps23;go_wp2_with fail;rw[<-eB];clear eB;refine hc.mono ?_;clear hc;rintro e w1 (⟨hn,hr⟩|⟨hz,d,u0,u1,u2,u3,P,rfl,bC,how,Wh,QO,b1⟩)
 ·have HX:Hid (qW w a1 c1 a2 c2 a3 c3 k y (gJ k y) e w1):=.inl ⟨by simp[gJ,hn],by rw[show gJ k y=fU k y by simp[gJ,hn]];exact hr.low H.out.1⟩;obtain⟨b1,d1,b2,d2,b3,d3,P,rfl,-,-⟩:=hr;go_wp2;exact⟨rfl,HX.out⟩
 ·have hk:aD k=true:=by
   cases hk:aD k with
   | true=>rfl
   | false=>simp[fU,hk]at hz
  have K1:Hid (Bx w1 d [vI k.u,vI k.l,.slice a1 k.f.length c1,.slice a2 k.aa.length c2,.slice a3 k.c.length c3,.bool k.w,vI (fT k.c y),vI (dF k y).id,vI (dF k y).o,vI (dF k y).q,vI (dF k y).v,.slice u0 (dF k y).a.length u1,.slice u2 (dF k y).ag.length u3,vI (dF k y).aA]/\KT.Ow w1 w.1.size u0 u1 u2 u3 (dF k y) P/\(∀q,P q->q≠d)/\w.1.size<=d/\Below w.1.size w w1/\bK.Rd w1 a1 c1 a2 c2 a3 c3 k):=⟨bC,how.low H.out.1.size,Wh,Nat.le_trans H.out.1.size QO,ay H.out.1 b1,H.out.2.later (ay H.out.1 b1)⟩
  have p9:=bC.1 9 _ rfl;clear bC how Wh QO b1;by_cases J5:(dF k y).q=1
  ·have jN:gJ k y=0:=by simp[gJ,hz,J5]
   have HZ:=aB jN;rw[J5]at p9;clear hz jN J5;go_wp2;go_ret;exact .inr ⟨HZ.out,d,u0,u1,u2,u3,P,rfl,K1.out.1,K1.out.2.1,K1.out.2.2.1,K1.out.2.2.2.1,K1.out.2.2.2.2.1⟩
  ·have jN:gJ k y=4:=by simp[gJ,hz,J5]
   have fF:((dF k y).q != 1)=true:=by simpa using J5
   have mg:jY k=k:=by simp[jY,hk]
   have HX:Hid (∀e w',lF w1 k 4 e w'->qW w a1 c1 a2 c2 a3 c3 k y (gJ k y) e w'):=fun e w' h=>.inl ⟨by rw[jN];decide,by rw[jN,mg];exact h.low K1.out.2.2.2.2.1⟩
   have Wo:=iW w1 d a1 c1 a2 c2 a3 c3 k [vI (fT k.c y),vI (dF k y).id,vI (dF k y).o,vI (dF k y).q,vI (dF k y).v,.slice u0 (dF k y).a.length u1,.slice u2 (dF k y).ag.length u3,vI (dF k y).aA] 4 hk K1.out.2.2.2.2.2 K1.out.1;clear hz jN J5 mg hk;go_wp2_with fail;refine Wo.mono ?_;clear Wo;intro e w6 hr;have yg:=hr;obtain⟨b1,d1,b2,d2,b3,d3,P,rfl,-,-⟩:=hr;have HR:=aB yg;clear yg;go_wp2;exact⟨rfl,HX.out _ _ HR.out⟩
end
def fX(X:World)(B:Nat)(k:C6)(e:Ending)(w':World):Prop:=∃(a1:Option Addr) (c1:Nat) (a2:Option Addr) (c2:Nat) (a3:Option Addr) (c3:Nat) (P:Nat->Prop),e=.returned (.agg #[vI k.u,vI k.l,.slice a1 k.f.length c1,.slice a2 k.aa.length c2,.slice a3 k.c.length c3,.bool k.w])/\bK.Ow w' B a1 c1 a2 c2 a3 c3 k P/\Below X.1.size X w'
theorem Ec(w:World)(B d:Nat)(a1:Option Addr)(c1:Nat)(a2:Option Addr)(c2:Nat)(a3:Option Addr)(c3:Nat)(k:C6)(i:Nat)(t':tx.T7)(u0:Option Addr)(u1:Nat)(u2:Option Addr)(u3:Nat)(P:Nat->Prop)(hk:aD k=true)(hi:i<k.c.length)(h:bK.Rd w a1 c1 a2 c2 a3 c3 k)(hd:Bx w d [vI k.u,vI k.l,.slice a1 k.f.length c1,.slice a2 k.aa.length c2,.slice a3 k.c.length c3,.bool k.w,vI (i:Int),vI t'.id,vI t'.o,vI t'.q,vI t'.v,.slice u0 t'.a.length u1,.slice u2 t'.ag.length u3,vI t'.aA])(ho:KT.Ow w B u0 u1 u2 u3 t' P)(hB:B<=w.1.size):
  Calls Tryz.prog 27 #[.pointer (some ⟨d,0,none⟩)] w (fX w B (jw k i t')):=by
 obtain⟨W0,eB⟩:∃Y,Y=w.alloc (.cells #[vI 0,vI 0,.slice none 0 0,.slice none 0 0,.slice none 0 0,.bool false] 32):=⟨_,rfl⟩
 have b0:Below w.1.size w W0:=by rw[eB];exact aJ.alloc aR _
 have x0:Bx W0 w.1.size kv:=by rw[eB];exact Bx.made w kv _
 have d0:=hd.later b0;have p0:=d0.1 0 _ rfl;have p1:=d0.1 1 _ rfl;have p2:=d0.1 2 _ rfl;have p3:=d0.1 3 _ rfl;have p4:=d0.1 4 _ rfl;have p5:=d0.1 5 _ rfl;have hc:=lT W0 a1 c1 a2 c2 a3 c3 k hk (h.later b0);have n60:=(Ot.of hk).t;have H:Hid (Below w.1.size w W0/\Bx W0 w.1.size kv/\Bx W0 d [vI k.u,vI k.l,.slice a1 k.f.length c1,.slice a2 k.aa.length c2,.slice a3 k.c.length c3,.bool k.w,vI (i:Int),vI t'.id,vI t'.o,vI t'.q,vI t'.v,.slice u0 t'.a.length u1,.slice u2 t'.ag.length u3,vI t'.aA]/\KT.Ow W0 B u0 u1 u2 u3 t' P/\B<=w.1.size/\(∀q,P q->q<w.1.size)/\d<w.1.size):=⟨b0,x0,d0,ho.later b0,hB,fun q hq=>(ho.of hq).2,hd.2.2⟩
 rw[eB]at p0 p1 p2 p3 p4 p5;clear b0 x0 d0 h hd ho hB hk;go_enter Tryz.func27,Tryz.ntmps27;go_wp2_with fail;rw[<-eB];clear eB;refine hc.mono ?_;clear hc;rintro e w1 ⟨b1,d1,b2,d2,b3,d3,ps,gp,ms,gm,ts,gt,rfl,hr,e1,e2,e3,bl⟩;clear p0 p1 p2 p3 p4 p5;obtain⟨W2,DK⟩:∃Y,Y=w1.alloc (.cells #[vI k.u,vI k.l,.slice b1 k.f.length d1,.slice b2 k.aa.length d2,.slice b3 k.c.length d3,.bool k.w] 32):=⟨_,rfl⟩
 have bb2:Below w1.1.size w1 W2:=by rw[DK];exact aJ.alloc aR _
 have x2:Bx W2 w1.1.size (dJ b1 d1 b2 d2 b3 d3 k):=by rw[DK];exact Bx.made w1 (dJ b1 d1 b2 d2 b3 d3 k) _
 obtain⟨eL,Zy,cE,UU,hB,YQ,QO⟩:=H.out;have bd:Below W2.1.size W2 W2.drew:=aJ.drew;have bW:Below W0.1.size W0 W2.drew:=ay (ay bl bb2) bd;have YR:w.1.size<W0.1.size:=Zy.2.2;obtain⟨b,iR,Ep,YV,cq,pW,XJ,PP,Vz,Vx⟩:=Pd (hr.later (ay bb2 bd)) e1 e2 e3 hi u0 u1 u2 u3 t' P (UU.later bW) (show B<=W0.1.size+3 by omega) (fun q hq=>by have:=YQ q hq;omega);subst iR;have dW:(fun X:World=>Bx X w1.1.size (dJ b1 d1 b2 d2 (some ⟨b,0,none⟩) d3 k)/\Bx X d [vI k.u,vI k.l,.slice a1 k.f.length c1,.slice a2 k.aa.length c2,.slice a3 k.c.length c3,.bool k.w,vI (i:Int),vI t'.id,vI t'.o,vI t'.q,vI t'.v,.slice u0 t'.a.length u1,.slice u2 t'.ag.length u3,vI t'.aA]) W2.drew:=⟨x2.later bd,cE.later bW⟩
 have HP:Hid (∀q,PP q->q≠w.1.size):=fun q hq e=>by rcases Vz q hq with h|h;have:=YQ q h;omega;omega
 have jn:(i:Int)<(k.c.length:Int):=by omega
 have r0:∀j,j<7->∃v,W2.drew.cell? ⟨b,i*7+j,none⟩=some v/\W2.drew.frozen? ⟨b,i*7+j,none⟩=false:=fun j hj=>pW (i*7+j) (by omega)
 have VZ:b≠w1.1.size:=fun e=>by have:=cq;have hs:=bl.size;have hc:=(hr.T.blocks (.inl (by rfl:(Value.slice (some ⟨b,0,none⟩) k.c.length d3).ownBlock=some b))).2;omega
 have VY:b≠w.1.size:=fun e=>by omega
 have KH:Hid (bK.Ow (di W2.drew b (i*7) (fQ.cells ⟨u0,u1,u2,u3⟩ t')) B b1 d1 b2 d2 (some ⟨b,0,none⟩) d3 (jw k i t') PP/\Below w.1.size w W2.drew/\Bx W2.drew w1.1.size (dJ b1 d1 b2 d2 (some ⟨b,0,none⟩) d3 k)/\Bx W2.drew w.1.size kv/\w.1.size<=b/\b≠w1.1.size/\b≠w.1.size/\w.1.size<w1.1.size):=⟨Vx,ay eL bW,dW.1,Zy.later bW,by omega,VZ,VY,by have:=bl.size;omega⟩
 obtain⟨v0,g0,f0⟩:=r0 0 (by omega);obtain⟨v1,g1,f1⟩:=r0 1 (by omega);obtain⟨v2,g2,f2⟩:=r0 2 (by omega);obtain⟨v3,g3,f3⟩:=r0 3 (by omega);obtain⟨v4,g4,f4⟩:=r0 4 (by omega);obtain⟨v5,g5,f5⟩:=r0 5 (by omega);obtain⟨v6,g6,f6⟩:=r0 6 (by omega);rw[Nat.add_zero]at g0 f0;clear bb2 x2 eL Zy cE UU hB YQ QO bd bW YR Ep YV cq pW XJ Vx Vz r0 hr e1 e2 e3 bl H VZ VY;go_wp2_with fail;rw[<-DK];clear DK;refine bL 11 (fun X:World=>Bx X w1.1.size (dJ b1 d1 b2 d2 (some ⟨b,0,none⟩) d3 k)/\Bx X d [vI k.u,vI k.l,.slice a1 k.f.length c1,.slice a2 k.aa.length c2,.slice a3 k.c.length c3,.bool k.w,vI (i:Int),vI t'.id,vI t'.o,vI t'.q,vI t'.v,.slice u0 t'.a.length u1,.slice u2 t'.ag.length u3,vI t'.aA]) (by kernel_rfl) ?_;generalize W2.drew=XD at *;refine eQ 0 ?_ rfl ?_ dW ?_;rotate_left
 ·(intro w aG;go_simp;first|done|with_reducible rfl)
 simp only[Act.put];refine eQ 1 ?_ rfl ?_ dW ?_;rotate_left
 ·(intro w aG;have q4:=aG.1.1 4 _ rfl;go_simp;first|done|with_reducible rfl|rfl)
 simp only[Act.put];refine eQ 2 ?_ rfl ?_ dW ?_;rotate_left
 ·(intro w aG;go_simp;first|done|with_reducible rfl)
 simp only[Act.put];refine eQ 3 ?_ rfl ?_ dW ?_;rotate_left
 ·(intro w aG;go_simp;first|done|with_reducible rfl)
 simp only[Act.put];refine eQ 4 ?_ rfl ?_ dW ?_;rotate_left
 ·(intro w aG;go_simp;first|done|with_reducible rfl)
 simp only[Act.put];refine eQ 5 ?_ rfl ?_ dW ?_;rotate_left
 ·(intro w aG;have q6:=aG.2.1 6 _ rfl;go_simp;first|done|with_reducible rfl|rfl)
 simp only[Act.put];refine eQ 6 ?_ rfl ?_ dW ?_;rotate_left
 ·(intro w aG;go_simp;first|done|with_reducible rfl)
 simp only[Act.put];refine eQ 7 ?_ rfl ?_ dW ?_;rotate_left
 ·(intro w aG;go_simp;first|done|with_reducible rfl)
 simp only[Act.put];refine eQ 8 ?_ rfl ?_ dW ?_;rotate_left
 ·(intro w aG;go_simp;first|done|with_reducible rfl)
 simp only[Act.put];refine eQ 9 ?_ rfl ?_ dW ?_;rotate_left
 ·(intro w aG;have q7:=aG.2.1 7 _ rfl;have q8:=aG.2.1 8 _ rfl;have q9:=aG.2.1 9 _ rfl;have mL:=aG.2.1 10 _ rfl;have fj:=aG.2.1 11 _ rfl;have fk:=aG.2.1 12 _ rfl;have mN:=aG.2.1 13 _ rfl;go_simp;first|done|with_reducible rfl|rfl)
 simp only[Act.put];refine dX 10 rfl (fun K hK=>?_);have MZ:(i:Int)<(k.c.length:Int)/\0<=(i:Int):=⟨jn,by omega⟩
 go_simp;refine hK.out _ _ (fun _=>dW) ?_;clear hK K MZ;refine dX 11 rfl (fun K hK=>?_);obtain⟨Y,hY⟩:∃Y,Y=di XD b (i*7) (fQ.cells ⟨u0,u1,u2,u3⟩ t'):=⟨_,rfl⟩
 have KY:Hid (bK.Ow Y B b1 d1 b2 d2 (some ⟨b,0,none⟩) d3 (jw k i t') PP/\Below w.1.size w Y/\Bx Y w1.1.size (dJ b1 d1 b2 d2 (some ⟨b,0,none⟩) d3 k)/\Bx Y w.1.size kv):=by
  obtain⟨k1,k2,k3,k4,k5,k6,k7,k8⟩:=KH.out;rw[hY];exact⟨k1,aU (w:=w) k5 _ _ _ k2,k3.aj (aV (fun e=>k6 e.symm) _ _ _) (by rw[bf];exact Nat.le_refl _),k4.aj (aV (fun e=>k7 e.symm) _ _ _) (by rw[bf];exact Nat.le_refl _)⟩
 have nv:Hid (w.1.size<w1.1.size):=KH.out.2.2.2.2.2.2.2;have cg:Y=(((((((XD.setCell ⟨b,i*7,none⟩ (vI t'.id)).setCell ⟨b,i*7+1,none⟩ (vI t'.o)).setCell ⟨b,i*7+2,none⟩ (vI t'.q)).setCell ⟨b,i*7+3,none⟩ (vI t'.v)).setCell ⟨b,i*7+4,none⟩ (.slice u0 t'.a.length u1)).setCell ⟨b,i*7+5,none⟩ (.slice u2 t'.ag.length u3)).setCell ⟨b,i*7+6,none⟩ (vI t'.aA)):=by rw[hY];rfl
 have HY:=aB cg;clear hY cg KH dW;go_simp;rw[<-HY.out];refine hK.out _ _ (fun h=>absurd rfl h) ?_;clear hK K g0 g1 g2 g3 g4 g5 g6 f0 f1 f2 f3 f4 f5 f6 HY;refine bS (by kernel_rfl) ?_ _;have o0:=KY.out.2.2.1.1 0 _ rfl;have o1:=KY.out.2.2.1.1 1 _ rfl;have o2:=KY.out.2.2.1.1 2 _ rfl;have o3:=KY.out.2.2.1.1 3 _ rfl;have o4:=KY.out.2.2.1.1 4 _ rfl;have o5:=KY.out.2.2.1.1 5 _ rfl;have r0:=KY.out.2.2.2.1 0 _ rfl;have r1:=KY.out.2.2.2.1 1 _ rfl;have r2:=KY.out.2.2.2.1 2 _ rfl;have r3:=KY.out.2.2.2.1 3 _ rfl;have r4:=KY.out.2.2.2.1 4 _ rfl;have r5:=KY.out.2.2.2.1 5 _ rfl;have f0:=KY.out.2.2.2.2.1 0;have f1:=KY.out.2.2.2.2.1 1;have f2:=KY.out.2.2.2.2.1 2;have f3:=KY.out.2.2.2.2.1 3;have f4:=KY.out.2.2.2.2.1 4;have f5:=KY.out.2.2.2.2.1 5;go_wp2;refine bodyPost_ret (v:=.agg #[vI k.u,vI k.l,.slice b1 k.f.length d1,.slice b2 k.aa.length d2,.slice (some ⟨b,0,none⟩) k.c.length d3,.bool k.w]) (by simp[results,Tryz.results27,go_sem,r0,r1,r2,r3,r4,r5]) rfl ?_;refine⟨b1,d1,b2,d2,some ⟨b,0,none⟩,d3,PP,by simp[jw],?_,?_⟩
 ·exact KY.out.1.aQ (w':=di Y w.1.size 0 (dJ b1 d1 b2 d2 (some ⟨b,0,none⟩) d3 k)) (by rw[bf];exact Nat.le_refl _) (fun q hq=>aV (fun e=>HP.out q hq e) _ _ _)
 ·exact aU (w:=w) aR (dJ b1 d1 b2 d2 (some ⟨b,0,none⟩) d3 k) Y 0 KY.out.2.1
end Go.Proofs.YtalnmfefmiapoaaGreatDoor
