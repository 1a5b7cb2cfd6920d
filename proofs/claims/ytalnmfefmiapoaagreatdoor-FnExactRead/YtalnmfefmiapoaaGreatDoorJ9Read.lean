import Derived.Test.YtalnmfefmiapoaaGreatDoorJ8Read
set_option maxHeartbeats 16000000
set_option maxRecDepth 100000
namespace Go.Proofs.YtalnmfefmiapoaaGreatDoor
open Go.RowKit
open Go.Sort (grow)
section
variable {k:C6}
noncomputable def qU(k:C6)(y r s:Int):Int:=if gJ k y=0 then(if Ah k r s=0 then(if wX k (dF k y) r s=0 then(if Gb k (dF k y) r s=true then 0 else 8)else wX k (dF k y) r s)else 5)else gJ k y
noncomputable def sI(k:C6)(y r s:Int):C6:=if gJ k y=0 then(if Ah k r s=0 then(if wX k (dF k y) r s=0 then jw k (fT k.c y) (qx k (dF k y) r s)else k)else k)else jY k
noncomputable def uW(k:C6)(y r s:Int):Int:=if qU k y r s=0 then Gc k (dF k y) r s else 0
def QE(X:World)(b:Nat)(v:Int)(k:C6)(n:Int)(e:Ending)(w':World):Prop:=∃(a1:Option Addr) (c1:Nat) (a2:Option Addr) (c2:Nat) (a3:Option Addr) (c3:Nat) (P:Nat->Prop),((n=0/\e=.returned (.agg #[vI k.u,vI k.l,.slice a1 k.f.length c1,.slice a2 k.aa.length c2,.slice a3 k.c.length c3,.bool k.w]))\/(n≠0/\e=.panicked [{ v:=.iface 129 (.agg #[.iface 65 (vI n),vI k.u,vI k.l,.slice a1 k.f.length c1,.slice a2 k.aa.length c2,.slice a3 k.c.length c3,.bool k.w]),recovered:=false }]))/\bK.Ow w' X.1.size a1 c1 a2 c2 a3 c3 k P/\cu b X w'/\w'.cell? ⟨b,0,none⟩=some (vI v)
theorem lF.dv{X:World}{b:Nat}{v:Int}{n:Int}{e:Ending}{w':World}(h:lF X k n e w')(hn:n≠0)(hb:b<X.1.size)(hv:X.cell? ⟨b,0,none⟩=some (vI v)):QE X b v k n e w':=by
 obtain⟨a1,c1,a2,c2,a3,c3,P,h1,h2,h3⟩:=h;exact⟨a1,c1,a2,c2,a3,c3,P,.inr ⟨hn,h1⟩,h2,(cu.refl b X).dK h3,(h3.cell (p:=⟨b,0,none⟩) hb).trans hv⟩
theorem si{y:Int}(h:gJ k y=0):aD k=true/\fT k.c y<k.c.length/\Ez k y=true/\(dF k y).q=1:=by
 have h0:fU k y=0:=by
  by_cases hc:fU k y=0
  ·exact hc
  ·simp only[gJ,if_neg hc]at h;exact h
 have hp:(dF k y).q=1:=by
  by_cases hp:(dF k y).q=1
  ·exact hp
  ·simp[gJ,h0,hp]at h
 cases hk:aD k with
 | false=>simp[fU,hk]at h0
 | true=>
  by_cases hi:fT k.c y<k.c.length
  ·cases hh:Ez k y with
   | false=>simp[fU,hk,hi,hh]at h0
   | true=>exact⟨rfl,hi,rfl,hp⟩
  ·simp[fU,hk,hi]at h0
theorem R6(hk:aD k=true){r s:Int}(h:Ah k r s=0):aY 0 5 r=true/\aY 0 5 s=true:=by
 unfold Ah at h;split at h
 ·next hh=>
  rw[Bool.and_eq_true]at hh;have h1:=dm.1 hh.1;have:=(Ot.of hk).p;exact⟨iN (by omega) (by omega),hh.2⟩
 ·cases h
theorem KG(wr w:World)(q1 q2 q3 q4 q5:Nat)(a1:Option Addr)(c1:Nat)(a2:Option Addr)(c2:Nat)(a3:Option Addr)(c3:Nat)(k:C6)(y r s:Int)(hl:bK.L k)(h:bK.Rd wr a1 c1 a2 c2 a3 c3 k)(hw:Below wr.1.size wr w)(x1:Bx w q1 (dJ a1 c1 a2 c2 a3 c3 k))(x2:Bx w q2 [vI y])(x3:Bx w q3 [vI r])(x4:Bx w q4 [vI s])(x5:Bx w q5 [vI 0])(h5:wr.1.size<=q5):
  Calls Tryz.prog 22 #[.pointer (some ⟨q1,0,none⟩),.pointer (some ⟨q2,0,none⟩),.pointer (some ⟨q3,0,none⟩),.pointer (some ⟨q4,0,none⟩),.pointer (some ⟨q5,0,none⟩)] w (QE w q5 (uW k y r s) (sI k y r s) (qU k y r s)):=by
 obtain⟨W0,eB⟩:∃Y,Y=w.alloc (.cells #[vI 0,vI 0,.slice none 0 0,.slice none 0 0,.slice none 0 0,.bool false] 32):=⟨_,rfl⟩
 have b0:Below w.1.size w W0:=by rw[eB];exact aJ.alloc aR _
 have x0:Bx W0 w.1.size kv:=by rw[eB];exact Bx.made w kv _
 have s0:W0.1.size=w.1.size+1:=by rw[eB];simp
 have fM:∀X,Below wr.1.size wr X->bK.Rd X a1 c1 a2 c2 a3 c3 k:=fun X hX=>h.later hX
 have hc:=xL W0 a1 c1 a2 c2 a3 c3 k y hl (fM W0 (ay hw b0));have y1:=x1.later b0;have p0:=y1.1 0 _ rfl;have p1:=y1.1 1 _ rfl;have p2:=y1.1 2 _ rfl;have p3:=y1.1 3 _ rfl;have p4:=y1.1 4 _ rfl;have p5:=y1.1 5 _ rfl;have p6:=(x2.later b0).1 0 _ rfl;have H:Hid (Below w.1.size w W0/\Bx W0 w.1.size kv/\W0.1.size=w.1.size+1/\Bx W0 q3 [vI r]/\Bx W0 q4 [vI s]/\bK.L k):=⟨b0,x0,s0,x3.later b0,x4.later b0,hl⟩
 have H5:Hid (Bx w q5 [vI 0]/\wr.1.size<=q5/\Below wr.1.size wr w):=⟨x5,h5,hw⟩
 have Vl:=aB fM;rw[eB]at p0 p1 p2 p3 p4 p5 p6;clear b0 x0 s0 y1 h x1 x2 x3 x4 x5 hl hw h5 fM;go_enter Tryz.func22,Tryz.ntmps22;go_wp2_with fail;rw[<-eB];clear eB;refine hc.mono ?_;clear hc p0 p1 p2 p3 p4 p5 p6;rintro e w1 (⟨hn,hr⟩|⟨hz,d,u0,u1,u2,u3,P,rfl,bC,how,Wh,QO,b1⟩)
 ·have HX:Hid (QE w q5 (uW k y r s) (sI k y r s) (qU k y r s) e w1):=by
   have hC:qU k y r s=gJ k y:=by rw[qU,if_neg hn]
   have hV:uW k y r s=0:=by rw[uW,hC,if_neg hn]
   have hK:sI k y r s=jY k:=by rw[sI,if_neg hn]
   unfold Hid;rw[hV,hK,hC];exact(hr.low H.out.1).dv hn H5.out.1.2.2 (H5.out.1.1 0 _ rfl)
  obtain⟨b1,d1,b2,d2,b3,d3,P,rfl,-,-⟩:=hr;go_wp2;exact⟨rfl,HX.out⟩
 ·obtain⟨hk,hi,-,-⟩:=si hz;have hT:=(CE hk).2.1 _ hi;have OD:tx.TL (dF k y):=H.out.2.2.2.2.2.ts _ (List.mem_of_getElem? (fV hi));have D1:Hid (DB w1 W0.1.size d a1 c1 a2 c2 a3 c3 k (fT k.c y) ⟨u0,u1,u2,u3⟩ (dF k y) P/\Below W0.1.size W0 w1/\W0.1.size<=d/\gJ k y=0/\aD k=true/\fT k.c y<k.c.length/\tx.jI (dF k y)=true/\tx.TL (dF k y)):=⟨⟨bC,how,Wh,QO⟩,b1,QO,hz,hk,hi,hT,OD⟩
  have BW:Hid (Below w.1.size w w1):=ay H.out.1 b1;have m3:=(H.out.2.2.2.1.later b1).1 0 _ rfl;have m4:=(H.out.2.2.2.2.1.later b1).1 0 _ rfl;clear bC how Wh QO b1 hz hi hT OD;by_cases Az:Ah k r s=0
  case neg=>
   have QL:=JI w1 d a1 c1 a2 c2 a3 c3 k [vI (fT k.c y:Int),vI (dF k y).id,vI (dF k y).o,vI (dF k y).q,vI (dF k y).v,.slice (⟨u0,u1,u2,u3⟩:tx.TV).ar (dF k y).a.length (⟨u0,u1,u2,u3⟩:tx.TV).cr,.slice (⟨u0,u1,u2,u3⟩:tx.TV).ah (dF k y).ag.length (⟨u0,u1,u2,u3⟩:tx.TV).ch,vI (dF k y).aA] r s hk H.out.2.2.2.2.2 (Vl.out w1 (ay H5.out.2.2 BW.out)) D1.out.1.bx Az;have DF:=aB Az;clear Az hk;go_wp2_with fail;refine QL.mono ?_;clear QL m3 m4;intro e w2 hr
   have HX:Hid (QE w q5 (uW k y r s) (sI k y r s) (qU k y r s) e w2):=by
    have hC:qU k y r s=5:=by rw[qU,if_pos D1.out.2.2.2.1,if_neg DF.out]
    have hV:uW k y r s=0:=by rw[uW,hC];rfl
    have hK:sI k y r s=k:=by rw[sI,if_pos D1.out.2.2.2.1,if_neg DF.out]
    unfold Hid;rw[hV,hK,hC];exact(hr.low BW.out).dv (by decide) H5.out.1.2.2 (H5.out.1.1 0 _ rfl)
   obtain⟨b1,d1,b2,d2,b3,d3,P2,rfl,-,-⟩:=hr;go_wp2;exact⟨rfl,HX.out⟩
  case pos=>
   have cD:=Gm w1 d a1 c1 a2 c2 a3 c3 k [vI (fT k.c y:Int),vI (dF k y).id,vI (dF k y).o,vI (dF k y).q,vI (dF k y).v,.slice (⟨u0,u1,u2,u3⟩:tx.TV).ar (dF k y).a.length (⟨u0,u1,u2,u3⟩:tx.TV).cr,.slice (⟨u0,u1,u2,u3⟩:tx.TV).ah (dF k y).ag.length (⟨u0,u1,u2,u3⟩:tx.TV).ch,vI (dF k y).aA] r s hk H.out.2.2.2.2.2 (Vl.out w1 (ay H5.out.2.2 BW.out)) D1.out.1.bx Az;have DF:Hid (Ah k r s=0/\aY 0 5 r=true/\aY 0 5 s=true):=⟨Az,R6 hk Az⟩
   clear Az hk;go_wp2_with fail;refine cD.mono ?_;clear cD m3 m4;rintro e w2 ⟨rfl,b2⟩;have B2:Hid (Below w.1.size w w2):=ay BW.out b2;have cS:=Ql w2 W0.1.size d a1 c1 a2 c2 a3 c3 k (fT k.c y) ⟨u0,u1,u2,u3⟩ (dF k y) P r s D1.out.2.2.2.2.1 H.out.2.2.2.2.2 (Vl.out w2 (ay H5.out.2.2 B2.out)) (D1.out.1.later b2) D1.out.2.2.2.2.2.2.2 (by have:=D1.out.2.1.size;have:=b2.size;omega) D1.out.2.2.2.2.2.2.1 DF.out.2.1 DF.out.2.2;go_wp2_with fail;refine cS.mono ?_;clear cS;intro e w3 hA;rcases hA with ⟨fF,hr⟩|⟨GA,rfl,⟨u',P',vD,DN⟩,wS⟩
   ·have HX:Hid (QE w q5 (uW k y r s) (sI k y r s) (qU k y r s) e w3):=by
     have hC:qU k y r s=wX k (dF k y) r s:=by rw[qU,if_pos D1.out.2.2.2.1,if_pos DF.out.1,if_neg fF]
     have hV:uW k y r s=0:=by rw[uW,hC,if_neg fF]
     have hK:sI k y r s=k:=by rw[sI,if_pos D1.out.2.2.2.1,if_pos DF.out.1,if_neg fF]
     unfold Hid;rw[hV,hK,hC];exact(hr.low B2.out).dv fF H5.out.1.2.2 (H5.out.1.1 0 _ rfl)
    obtain⟨b1,d1,b2,d2,b3,d3,P2,rfl,-,-⟩:=hr;go_wp2;exact⟨rfl,HX.out⟩
   ·have Zw:Below w.1.size w w3:=B2.out.trans (wS.below (by have:=H.out.2.2.1;have:=D1.out.2.2.1;omega) B2.out.size);obtain⟨va,vc,vh,vd⟩:=u';have PM:=H.out.2.2.1;have Lv:=H5.out.1.2.2;have YY:=D1.out.2.2.1
    have H3:Hid (Below w.1.size w w3/\DB w3 W0.1.size d a1 c1 a2 c2 a3 c3 k (fT k.c y) ⟨va,vc,vh,vd⟩ (qx k (dF k y) r s) P'/\Bx w3 w.1.size kv/\Bx w3 q5 [vI 0]/\W0.1.size<=w3.1.size):=by
     refine⟨Zw,vD,?_,H5.out.1.later Zw,?_⟩
     ·have hx:=((H.out.2.1.later D1.out.2.1).later b2).aj (wS.block _ ((H.out.2.1.later D1.out.2.1).later b2).2.2 (by omega)) wS.size;exact hx
     ·have:=D1.out.2.1.size;have:=b2.size;have:=wS.size;omega
    clear Zw vD DN wS PM Lv YY b2;have UW:wX k (dF k y) r s=0:=GA
    cases Q5:Gb k (dF k y) r s with
    | false=>
     have hC:Hid (qU k y r s=8/\uW k y r s=0/\sI k y r s=jw k (fT k.c y) (qx k (dF k y) r s)):=by
      have h8:qU k y r s=8:=by rw[qU,if_pos D1.out.2.2.2.1,if_pos DF.out.1,if_pos UW,Q5];rfl
      exact⟨h8,by rw[uW,h8];rfl,by rw[sI,if_pos D1.out.2.2.2.1,if_pos DF.out.1,if_pos UW]⟩
     have CR:=Ec w3 W0.1.size d a1 c1 a2 c2 a3 c3 k (fT k.c y) (qx k (dF k y) r s) va vc vh vd P' D1.out.2.2.2.2.1 D1.out.2.2.2.2.2.1 (Vl.out w3 (ay H5.out.2.2 H3.out.1)) H3.out.2.1.bx H3.out.2.1.ow H3.out.2.2.2.2;clear Q5 UW GA;go_wp2_with fail;refine CR.mono ?_;clear CR;rintro e w4 ⟨e1,g1,e2,g2,e3,g3,PP,rfl,how,b4⟩;have KE:Hid (bK.Ow w4 W0.1.size e1 g1 e2 g2 e3 g3 (jw k (fT k.c y) (qx k (dF k y) r s)) PP/\Below w.1.size w w4):=⟨how,ay H3.out.1 b4⟩
     clear how b4;generalize jw k (fT k.c y) (qx k (dF k y) r s)=N at *;go_wp2_with fail;refine(oF w4 8 _ _ _ _ _ _).mono ?_;rintro e w5 ⟨rfl,rfl⟩;have bA:Below w4.1.size w4 (w4.alloc (.cells #[vI N.u,vI N.l,.slice e1 N.f.length g1,.slice e2 N.aa.length g2,.slice e3 N.c.length g3,.bool N.w] 32)):=aJ.alloc aR _
     have HX:Hid (QE w q5 (uW k y r s) (sI k y r s) (qU k y r s) (.panicked [{ v:=.iface 129 (.agg #[.iface 65 (vI 8),vI N.u,vI N.l,.slice e1 N.f.length g1,.slice e2 N.aa.length g2,.slice e3 N.c.length g3,.bool N.w]),recovered:=false }]) (w4.alloc (.cells #[vI N.u,vI N.l,.slice e1 N.f.length g1,.slice e2 N.aa.length g2,.slice e3 N.c.length g3,.bool N.w] 32))):=by
      unfold Hid;rw[hC.out.1,hC.out.2.1,hC.out.2.2];have hb:=ay KE.out.2 bA;exact⟨e1,g1,e2,g2,e3,g3,PP,.inr ⟨by decide,rfl⟩,(KE.out.1.later bA).low (by have:=H.out.2.2.1;omega),(cu.refl q5 w).dK hb,(hb.cell (p:=⟨q5,0,none⟩) H5.out.1.2.2).trans (H5.out.1.1 0 _ rfl)⟩
     clear bA;go_wp2;exact⟨rfl,HX.out⟩
    | true=>
     have hC:Hid (qU k y r s=0/\uW k y r s=Gc k (dF k y) r s/\sI k y r s=jw k (fT k.c y) (qx k (dF k y) r s)):=by
      have h8:qU k y r s=0:=by rw[qU,if_pos D1.out.2.2.2.1,if_pos DF.out.1,if_pos UW,Q5];rfl
      exact⟨h8,by rw[uW,h8];rfl,by rw[sI,if_pos D1.out.2.2.2.1,if_pos DF.out.1,if_pos UW]⟩
     obtain⟨v,hv⟩:∃v,Gc k (dF k y) r s=v:=⟨_,rfl⟩
     rw[hv]at hC;rw[hv];have PM:=H.out.2.2.1;have Lv:=H5.out.1.2.2;have YY:=D1.out.2.2.1;obtain⟨W4,Sj⟩:∃Y,Y=w3.setCell ⟨q5,0,none⟩ (vI v):=⟨_,rfl⟩
     have z4:W4.1.size=w3.1.size:=by rw[Sj];simp[World.setCell]
     have f4:∀q,q≠q5->W4.1[q]?=w3.1[q]?:=fun q hq=>by rw[Sj];exact Below.heap_setCell _ _ _ _ hq
     have v4:W4.cell? ⟨q5,0,none⟩=some (vI v):=by rw[Sj];exact az (H3.out.2.2.2.1.1 0 _ rfl)
     have r4:Below wr.1.size wr W4:=by rw[Sj];exact(ay H5.out.2.2 H3.out.1).setCell (p:=⟨q5,0,none⟩) H5.out.2.1 _
     have t4:cu q5 w W4:=by rw[Sj];exact((cu.refl q5 w).dK H3.out.1).setCell 0 _
     have d4:Bx W4 d [vI k.u,vI k.l,.slice a1 k.f.length c1,.slice a2 k.aa.length c2,.slice a3 k.c.length c3,.bool k.w,vI (fT k.c y:Int),vI (qx k (dF k y) r s).id,vI (qx k (dF k y) r s).o,vI (qx k (dF k y) r s).q,vI (qx k (dF k y) r s).v,.slice (⟨va,vc,vh,vd⟩:tx.TV).ar (qx k (dF k y) r s).a.length (⟨va,vc,vh,vd⟩:tx.TV).cr,.slice (⟨va,vc,vh,vd⟩:tx.TV).ah (qx k (dF k y) r s).ag.length (⟨va,vc,vh,vd⟩:tx.TV).ch,vI (qx k (dF k y) r s).aA]:=H3.out.2.1.bx.aj (f4 d (by omega)) (Nat.le_of_eq z4.symm);have o4:KT.Ow W4 W0.1.size va vc vh vd (qx k (dF k y) r s) P':=H3.out.2.1.ow.aQ (Nat.le_of_eq z4.symm) (fun q hq=>f4 q (by have:=(H3.out.2.1.ow.of hq).1;omega));have x4:Bx W4 w.1.size kv:=H3.out.2.2.1.aj (f4 _ (by omega)) (Nat.le_of_eq z4.symm);have CR:=Ec W4 W0.1.size d a1 c1 a2 c2 a3 c3 k (fT k.c y) (qx k (dF k y) r s) va vc vh vd P' D1.out.2.2.2.2.1 D1.out.2.2.2.2.2.1 (Vl.out W4 r4) d4 o4 (by rw[z4];exact H3.out.2.2.2.2);have K4:Hid (cu q5 w W4/\W4.cell? ⟨q5,0,none⟩=some (vI v)/\Bx W4 w.1.size kv/\q5<W4.1.size/\W0.1.size=w.1.size+1/\q5<w.1.size):=⟨t4,v4,x4,by have:=t4.size;omega,PM,Lv⟩
     have g5:=H3.out.2.2.2.1.1 0 _ rfl;have e5:=H3.out.2.2.2.1.2.1 0;clear Q5 UW GA hv z4 f4 v4 r4 t4 d4 o4 x4 PM Lv YY;go_wp2_with fail;rw[<-Sj];clear Sj g5 e5;refine CR.mono ?_;clear CR;rintro e w5 ⟨e1,g1,e2,g2,e3,g3,PP,rfl,how,b5⟩;have KE:Hid (bK.Ow w5 W0.1.size e1 g1 e2 g2 e3 g3 (jw k (fT k.c y) (qx k (dF k y) r s)) PP/\cu q5 w w5/\w5.cell? ⟨q5,0,none⟩=some (vI v)/\Bx w5 w.1.size kv):=⟨how,K4.out.1.dK b5,(b5.cell (p:=⟨q5,0,none⟩) K4.out.2.2.2.1).trans K4.out.2.1,K4.out.2.2.1.later b5⟩
     clear how b5;generalize jw k (fT k.c y) (qx k (dF k y) r s)=N at *;obtain⟨Z,hZ⟩:∃Z,Z=di w5 w.1.size 0 (dJ e1 g1 e2 g2 e3 g3 N):=⟨_,rfl⟩
     have zb:=KE.out.2.2.2.put (dJ e1 g1 e2 g2 e3 g3 N) rfl;rw[<-hZ]at zb;have OZ:Hid (Z=((((((w5.setCell ⟨w.1.size,0,none⟩ (vI N.u)).setCell ⟨w.1.size,1,none⟩ (vI N.l)).setCell ⟨w.1.size,2,none⟩ (.slice e1 N.f.length g1)).setCell ⟨w.1.size,3,none⟩ (.slice e2 N.aa.length g2)).setCell ⟨w.1.size,4,none⟩ (.slice e3 N.c.length g3)).setCell ⟨w.1.size,5,none⟩ (.bool N.w))):=hZ;have zs:Z.1.size=w5.1.size:=by rw[hZ];exact bf _ _ _ _
     have zf:∀q,q≠w.1.size->Z.1[q]?=w5.1[q]?:=fun q hq=>by rw[hZ];exact aV hq _ _ _
     have zo:Below 0 w5 Z:=by rw[hZ];exact aU (Nat.zero_le _) _ _ _ aJ
     have PM:=K4.out.2.2.2.2.1;have Lv:=K4.out.2.2.2.2.2
     have HX:Hid (QE w q5 (uW k y r s) (sI k y r s) (qU k y r s) (.returned (.agg #[vI N.u,vI N.l,.slice e1 N.f.length g1,.slice e2 N.aa.length g2,.slice e3 N.c.length g3,.bool N.w])) Z):=by
      unfold Hid;rw[hC.out.1,hC.out.2.1,hC.out.2.2];refine⟨e1,g1,e2,g2,e3,g3,PP,.inl ⟨rfl,rfl⟩,(KE.out.1.aQ (Nat.le_of_eq zs.symm) (fun q hq=>zf q (by have:=(KE.out.1.of hq).1;omega))).low (by omega),?_,(World.cell?_of_block (a:=⟨q5,0,none⟩) (zf q5 (by omega))).trans KE.out.2.2.1⟩;have hb:=KE.out.2.1;exact⟨zo.os.trans hb.os,zo.tape.trans hb.tape,zo.output.trans hb.output,by rw[zs];exact hb.size,fun q hq Wl=>(zf q (by omega)).trans (hb.block q hq Wl)⟩
     have q0:=KE.out.2.2.2.1 0 _ rfl;have f0:=KE.out.2.2.2.2.1 0;have z0:=zb.1 0 _ rfl;have q1:=KE.out.2.2.2.1 1 _ rfl;have f1:=KE.out.2.2.2.2.1 1;have z1:=zb.1 1 _ rfl;have q2:=KE.out.2.2.2.1 2 _ rfl;have f2:=KE.out.2.2.2.2.1 2;have z2:=zb.1 2 _ rfl;have q3:=KE.out.2.2.2.1 3 _ rfl;have f3:=KE.out.2.2.2.2.1 3;have z3:=zb.1 3 _ rfl;have q4:=KE.out.2.2.2.1 4 _ rfl;have f4:=KE.out.2.2.2.2.1 4;have z4:=zb.1 4 _ rfl;have q5:=KE.out.2.2.2.1 5 _ rfl;have f5:=KE.out.2.2.2.2.1 5;have z5:=zb.1 5 _ rfl;clear hZ zb zs zf zo PM Lv;go_wp2;rw[<-OZ.out];exact bodyPost_ret (v:=.agg #[vI N.u,vI N.l,.slice e1 N.f.length g1,.slice e2 N.aa.length g2,.slice e3 N.c.length g3,.bool N.w]) (by simp[results,Tryz.results22,go_sem,z0,z1,z2,z3,z4,z5]) rfl HX.out
end
namespace tx
variable {n:N5}
theorem Qa{xs:List N5}(h:jB xs n.b n.e=none):jB (nD xs n) n.b n.e=some (xs.take (lG xs n)).length/\Jp (nD xs n) n.b n.e=n:=by
 have h1:jB (xs.take (lG xs n)) n.b n.e=none:=qj.2 fun x hx=>qj.1 h x (List.mem_of_mem_take hx)
 have h2:jB (nD xs n) n.b n.e=some (xs.take (lG xs n)).length:=by
  unfold jB at h1 ⊢;rw[nD,List.append_assoc,List.findIdx?_append,h1];simp[List.findIdx?_cons]
 refine⟨h2,?_⟩;unfold Jp;rw[h2]
 have h3:(nD xs n)[(xs.take (lG xs n)).length]?=some n:=by
  rw[nD,List.append_assoc,List.getElem?_append_right aR,Nat.sub_self];rfl
 show au (nD xs n) _=n
 rw[au,h3];rfl
theorem Gh{t:T7}(h:jB t.a n.b n.e=none)(hb:eT t n=true):(jB (dO t n).a n.b n.e).isSome=true/\Jp (dO t n).a n.b n.e=n/\(dO t n).ag=t.ag:=by
 simp only[eT,Bool.and_eq_true,Bool.or_eq_true,h]at hb;obtain⟨⟨h1,h2⟩,h3⟩:=hb
 have hl:¬t.a.length=12:=by
  rcases h3 with h3|h3
  ·cases h3
  ·simpa using h3
 have e:dO t n=⟨t.id,t.o,t.q,t.v,nD t.a n,t.ag,t.aA⟩:=by
  rw[dO,if_pos ⟨h1,h2⟩,if_neg (by rw[h];simp),if_neg hl]
 rw[e];have:=Qa h;exact⟨by rw[this.1];rfl,this.2,rfl⟩
end tx
theorem AR(w:World)(a1:Option Addr)(c1:Nat)(a2:Option Addr)(c2:Nat)(a3:Option Addr)(c3:Nat)(k:C6)(i z:Nat)(hl:bK.L k)(h:bK.Rd w a1 c1 a2 c2 a3 c3 k)(hi:i<k.f.length)(hz:eU (dR k.f i) 0=(z:Int))(xu:z<k.aa.length)(GA:0<(dR k.f i).length):
  Calls Tryz.prog 48 #[.agg #[vI k.u,vI k.l,.slice a1 k.f.length c1,.slice a2 k.aa.length c2,.slice a3 k.c.length c3,.bool k.w],vI (i:Int)] w fun e w'=>e=.returned (if (aS k.aa z).x then .tuple #[vI (z:Int),vI (rJ (aS k.aa z) (i:Int))]else .tuple #[vI (-1),vI (-1)])/\Below w.1.size w w':=by
 have V6:=hl.p;have Zk:=hl.m;have lR:=hl.ps _ (List.mem_of_getElem? (fI hi));have Gs:=hl.ms _ (List.mem_of_getElem? (il xu));unfold maxLen at V6 Zk lR;obtain⟨U,hU⟩:∃Y,Y=w.alloc (.cells #[vI k.u,vI k.l,.slice a1 k.f.length c1,.slice a2 k.aa.length c2,.slice a3 k.c.length c3,.bool k.w] 32):=⟨_,rfl⟩
 have b0:Below w.1.size w U:=by rw[hU];exact aJ.alloc aR _
 have FA:Hid (Bx U w.1.size (dJ a1 c1 a2 c2 a3 c3 k)):=by unfold Hid;rw[hU];exact Bx.made w (dJ a1 c1 a2 c2 a3 c3 k) _
 have HR:Hid (bK.Rd U a1 c1 a2 c2 a3 c3 k/\bK.L k/\Below w.1.size w U):=⟨h.later b0,hl,b0⟩
 clear b0 h hl;have b0:Below U.1.size U U:=aJ;obtain⟨_,Q0⟩:=HR.out.1.p;rcases Q0 with Q0|⟨b,off,rfl,hb,DN⟩
 ·omega
 obtain⟨a',aZ,ct,gy,jJ⟩:=DN i _ (fI hi);obtain⟨_,vF⟩:=gy;rcases vF with vF|⟨b',bG,rfl,fC,h2⟩
 ·omega
 have lY:=h2 0 _ (iJ GA);rw[hz]at lY;have x0:U.cell? ⟨b,off+i,none⟩=some (.slice (some ⟨b',bG,none⟩) (dR k.f i).length aZ):=(b0.cell (p:=⟨b,off+i,none⟩) hb).trans ct;have x1:U.cell? ⟨b',bG,none⟩=some (vI (z:Int)):=(b0.cell (p:=⟨b',bG,none⟩) fC).trans lY;clear DN ct lY h2;rcases HR.out.1.m with hs|⟨b2,iX,rfl,ky,h1⟩
 ·rw[hs]at xu;simp at xu
 obtain⟨⟨m0,m1,m2,m3,m4,m5⟩,bg,fM⟩:=h1 z _ (il xu);have e0:U.cell? ⟨b2,iX+z*4,none⟩=some (.bool (aS k.aa z).x):=(b0.cell (p:=⟨b2,iX+z*4,none⟩) ky).trans (bg 0 _ rfl);have e1:U.cell? ⟨b2,iX+z*4+1,none⟩=some (.slice m0 (aS k.aa z).af.length m1):=(b0.cell (p:=⟨b2,iX+z*4+1,none⟩) ky).trans (bg 1 _ rfl);have e2:U.cell? ⟨b2,iX+z*4+2,none⟩=some (.slice m2 (aS k.aa z).h.length m3):=(b0.cell (p:=⟨b2,iX+z*4+2,none⟩) ky).trans (bg 2 _ rfl);have e3:U.cell? ⟨b2,iX+z*4+3,none⟩=some (.slice m4 (aS k.aa z).ai.length m5):=(b0.cell (p:=⟨b2,iX+z*4+3,none⟩) ky).trans (bg 3 _ rfl);have iM:=Nl U m0 m1 m2 m3 m4 m5 (aS k.aa z) (i:Int) Gs (fZ.later fM b0);have p2:=(FA.out.later b0).1 2 _ rfl;have p3:=(FA.out.later b0).1 3 _ rfl;have i1:(i:Int)<(k.f.length:Int):=by omega
 have i2:(z:Int)<(k.aa.length:Int):=by omega
 have i3:(0:Int)<((dR k.f i).length:Int):=by omega
 clear h1 bg fM Gs b0 hz
 cases ha:(aS k.aa z).x with
 | false=>
  rw[ha]at e0;clear iM e1 e2 e3;rw[hU]at p2 p3 x0 x1 e0;go_enter Tryz.func48,Tryz.ntmps48;go_wp2;refine bodyPost_ret (v:=.tuple #[vI (-1),vI (-1)]) (by simp[results,Tryz.results48,go_sem]) rfl ⟨rfl,?_⟩;have:=HR.out.2.2;rw[hU]at this;exact this
 | true=>
  rw[ha]at e0 iM;rw[hU]at p2 p3 x0 x1 e0 e1 e2 e3;go_enter Tryz.func48,Tryz.ntmps48;go_wp2_with fail;rw[<-hU];clear hU p2 p3 x0 x1 e0 e1 e2 e3;refine iM.mono ?_;clear iM;rintro e w1 ⟨rfl,b1⟩;have KB:Hid (Below w.1.size w w1):=ay HR.out.2.2 b1;clear b1;go_wp2;exact bodyPost_ret (v:=.tuple #[vI (z:Int),vI (rJ (aS k.aa z) (i:Int))]) (by simp[results,Tryz.results48,go_sem]) rfl ⟨rfl,KB.out⟩
section
variable {k:C6}{r s:Int}{t:tx.T7}
noncomputable def qo(k:C6)(t:tx.T7)(r s:Int):Int:=if Ah k r s=0 then(if wX k t r s=0 then(if Gb k t r s=true then 0 else 8)else wX k t r s)else 5
noncomputable def uV(k:C6)(t:tx.T7)(r s:Int):tx.T7:=if Ah k r s=0 then(if wX k t r s=0 then qx k t r s else t)else t
noncomputable def rW(k:C6)(t:tx.T7)(r s:Int):Int:=if qo k t r s=0 then Gc k t r s else 0
def Ox(w:World)(v:tx.TV)(t N:tx.T7)(x n:Int)(e:Ending)(w':World):Prop:=∃u:tx.TV,e=.returned (.tuple #[u.val N,vI x,vI n])/\Below w.1.size w w'/\((u=v/\N=t)\/∃PR PS,tx.OT w' w.1.size u N PR PS)
structure JD(w X:World)(a1:Option Addr)(c1:Nat)(a2:Option Addr)(c2:Nat)(a3:Option Addr)(c3:Nat)(k:C6)(v:tx.TV)(t:tx.T7):Prop where
 sP:Below w.1.size w X
 bc:Bx X w.1.size (dJ a1 c1 a2 c2 a3 c3 k)
 bt:Bx X (w.1.size+1) (tx.iC v.ar v.cr v.ah v.ch t)
 bz:Bx X (w.1.size+2) CJ
 rd:bK.Rd X a1 c1 a2 c2 a3 c3 k
 sl:tx.lW X v t
 sz:w.1.size+3<=X.1.size
theorem JD.later{w X Y:World}{a1:Option Addr}{c1:Nat}{a2:Option Addr}{c2:Nat}{a3:Option Addr}{c3:Nat}{v:tx.TV}(h:JD w X a1 c1 a2 c2 a3 c3 k v t)(b:Below X.1.size X Y):JD w Y a1 c1 a2 c2 a3 c3 k v t:=⟨ay h.sP b,h.bc.later b,h.bt.later b,h.bz.later b,h.rd.later b,h.sl.later b,Nat.le_trans h.sz b.size⟩
def Xx(w X:World)(a1:Option Addr)(c1:Nat)(a2:Option Addr)(c2:Nat)(a3:Option Addr)(c3:Nat)(k:C6)(v:tx.TV)(t:tx.T7)(r s:Int)(u:tx.TV)(N:tx.T7)(j:Nat):Prop:=JD w X a1 c1 a2 c2 a3 c3 k u N/\uV k t r s=N/\qo k t r s=(if (tx.au N.a j).i=true then 0 else 8)/\rW k t r s=(if (tx.au N.a j).i=true then(tx.au N.a j).g else 0)/\((u=v/\N=t)\/∃PR PS,tx.OT X w.1.size u N PR PS/\∀q,tx.oW PR PS q->w.1.size+3<=q)/\j<N.a.length/\N.a.length<=1000/\∃b off,u.ar=some ⟨b,off,none⟩/\b≠w.1.size+2/\tx.bR X b off N.a
theorem GN{m:M4}(h:eY m=true):∀c∈m.af,fJ c.cells=true:=by
 simp only[eY,Bool.and_eq_true,decide_eq_true_eq]at h;obtain⟨⟨⟨⟨⟨h1,h2⟩,h3⟩,_⟩,h4⟩,h5⟩:=h;intro c hc;obtain⟨i,hi,rfl⟩:=List.getElem_of_mem hc;have:=List.all_eq_true.1 h4 i (List.mem_range.2 hi);simp only[l8,cO,List.getElem?_eq_getElem hi,Option.getD_some,Bool.and_eq_true]at this;exact this.1.2
theorem tx.LZ(t:tx.T7)(n:tx.N5):(tx.dO t n).a.length<=t.a.length+1:=by
 unfold tx.dO;split
 ·split
  ·omega
  ·split
   ·simp[tx.rU]
   ·simp only[tx.nD,List.length_append,List.length_take,List.length_drop,List.length_singleton];omega
 ·simp[tx.rU]
theorem Jq(h:Ah k r s=0):qo k t r s=(if wX k t r s=0 then(if Gb k t r s=true then 0 else 8)else wX k t r s)/\uV k t r s=(if wX k t r s=0 then qx k t r s else t):=⟨if_pos h,if_pos h⟩
theorem NF{n:Int}(h:Ah k r s=0)(h2:wX k t r s=n)(hn:n≠0):uV k t r s=t/\rW k t r s=0/\qo k t r s=n:=by
 have h3:qo k t r s=n:=by rw[(Jq h).1,h2,if_neg hn]
 exact⟨by rw[(Jq h).2,h2,if_neg hn],by rw[rW,h3,if_neg hn],h3⟩
theorem Hl{N:tx.T7}{x:Int}{u:Bool}(h:Ah k r s=0)(h2:wX k t r s=0)(h3:qx k t r s=N)(h4:Gb k t r s=u)(h5:Gc k t r s=x):uV k t r s=N/\rW k t r s=(if u=true then x else 0)/\qo k t r s=(if u=true then 0 else 8):=by
 have h6:qo k t r s=(if u=true then 0 else 8):=by rw[(Jq h).1,if_pos h2,h4]
 refine⟨by rw[(Jq h).2,if_pos h2,h3],?_,h6⟩;rw[rW,h6,h5]
 cases u<;>simp
theorem y8(w:World)(a1:Option Addr)(c1:Nat)(a2:Option Addr)(c2:Nat)(a3:Option Addr)(c3:Nat)(k:C6)(v:tx.TV)(t:tx.T7)(r s:Int)(hk:aD k=true)(hl:bK.L k)(h:bK.Rd w a1 c1 a2 c2 a3 c3 k)(PN:tx.TL t)(hT:tx.jI t=true)(hs:tx.lW w v t)(hc:t.a.length<=v.cr):
  Calls Tryz.prog 17 #[.agg #[vI k.u,vI k.l,.slice a1 k.f.length c1,.slice a2 k.aa.length c2,.slice a3 k.c.length c3,.bool k.w],.agg #[vI t.id,vI t.o,vI t.q,vI t.v,.slice v.ar t.a.length v.cr,.slice v.ah t.ag.length v.ch,vI t.aA],vI r,vI s] w (Ox w v t (uV k t r s) (rW k t r s) (qo k t r s)):=by
 obtain⟨U0,iQ⟩:∃Y,Y=w.alloc (.cells #[vI k.u,vI k.l,.slice a1 k.f.length c1,.slice a2 k.aa.length c2,.slice a3 k.c.length c3,.bool k.w] 32):=⟨_,rfl⟩
 have sG:Below w.1.size w U0:=by rw[iQ];exact aJ.alloc aR _
 have wY:Bx U0 w.1.size (dJ a1 c1 a2 c2 a3 c3 k):=by rw[iQ];exact Bx.made w (dJ a1 c1 a2 c2 a3 c3 k) _
 have ym:U0.1.size=w.1.size+1:=by rw[iQ];simp
 obtain⟨U1,kG⟩:∃Y,Y=U0.alloc (.cells #[vI t.id,vI t.o,vI t.q,vI t.v,.slice v.ar t.a.length v.cr,.slice v.ah t.ag.length v.ch,vI t.aA] 50):=⟨_,rfl⟩
 have yx:Below U0.1.size U0 U1:=by rw[kG];exact aJ.alloc aR _
 have Ck:Bx U1 U0.1.size (tx.iC v.ar v.cr v.ah v.ch t):=by rw[kG];exact Bx.made U0 (tx.iC v.ar v.cr v.ah v.ch t) _
 have H8:U1.1.size=U0.1.size+1:=by rw[kG];simp
 obtain⟨U2,tK⟩:∃Y,Y=U1.alloc (.cells #[vI 0,vI 0,vI 0,vI 0,.slice none 0 0,.slice none 0 0,vI 0] 50):=⟨_,rfl⟩
 have IW:Below U1.1.size U1 U2:=by rw[tK];exact aJ.alloc aR _
 have OQ:Bx U2 U1.1.size CJ:=by rw[tK];exact Bx.made U1 CJ _
 have Ub:U2.1.size=U1.1.size+1:=by rw[tK];simp
 have hU:U2=((w.alloc (.cells #[vI k.u,vI k.l,.slice a1 k.f.length c1,.slice a2 k.aa.length c2,.slice a3 k.c.length c3,.bool k.w] 32)).alloc (.cells #[vI t.id,vI t.o,vI t.q,vI t.v,.slice v.ar t.a.length v.cr,.slice v.ah t.ag.length v.ch,vI t.aA] 50)).alloc (.cells #[vI 0,vI 0,vI 0,vI 0,.slice none 0 0,.slice none 0 0,vI 0] 50):=by rw[tK,kG,iQ]
 have bU:Below w.1.size w U2:=ay (ay sG yx) IW;have z1:U1.1.size=w.1.size+2:=by rw[H8,ym]
 have x0:=(wY.later yx).later IW;have x1:=Ck.later IW;rw[ym]at x1;rw[z1]at OQ;have HS:Hid (JD w U2 a1 c1 a2 c2 a3 c3 k v t):=⟨bU,x0,x1,OQ,h.later bU,hs.later bU,by rw[Ub,z1];omega⟩
 have HK:Hid (aD k=true/\bK.L k/\tx.TL t/\tx.jI t=true/\t.a.length<=v.cr/\t.a.length<=12/\t.ag.length<=12/\tx.lW w v t/\bK.Rd w a1 c1 a2 c2 a3 c3 k):=⟨hk,hl,PN,hT,hc,(tx.kL hT).1,(tx.kL hT).2,hs,h⟩
 have V6:=hl.p;unfold maxLen at V6;have p2:=x0.1 2 _ rfl;rw[hU]at p2;have JZ:=fw U2 r 0 ((k.f.length:Int)-1);clear iQ kG tK sG yx IW wY Ck OQ ym H8 Ub bU z1 x0 x1 h hs hk hl PN hT hc;clear U0 U1;go_enter Tryz.func17,Tryz.ntmps17;go_wp2_with fail;rw[<-hU];clear hU p2;refine JZ.mono ?_;clear JZ;rintro e w9 ⟨rfl,rG⟩;replace rG:=rG.symm;subst rG;by_cases hI:aY 0 ((k.f.length:Int)-1) r=true;rotate_left
 ·have j2:aY 0 ((k.f.length:Int)-1) r=false:=by simpa using hI
  have Az:Ah k r s=5:=by rw[Ah,j2];rfl
  have HC:Hid (uV k t r s=t/\rW k t r s=0/\qo k t r s=5):=by
   have h5:qo k t r s=5:=by rw[qo,Az];rfl
   exact⟨by rw[uV,Az];rfl,by rw[rW,h5];rfl,h5⟩
  clear hI Az;have p0:=HS.out.bt.1 0 _ rfl;have c0:=HS.out.bz.1 0 _ rfl;have f0:=HS.out.bz.2.1 0;have p1:=HS.out.bt.1 1 _ rfl;have c1:=HS.out.bz.1 1 _ rfl;have f1:=HS.out.bz.2.1 1;have p2:=HS.out.bt.1 2 _ rfl;have c2:=HS.out.bz.1 2 _ rfl;have f2:=HS.out.bz.2.1 2;have p3:=HS.out.bt.1 3 _ rfl;have c3:=HS.out.bz.1 3 _ rfl;have f3:=HS.out.bz.2.1 3;have p4:=HS.out.bt.1 4 _ rfl;have c4:=HS.out.bz.1 4 _ rfl;have f4:=HS.out.bz.2.1 4;have p5:=HS.out.bt.1 5 _ rfl;have c5:=HS.out.bz.1 5 _ rfl;have f5:=HS.out.bz.2.1 5;have p6:=HS.out.bt.1 6 _ rfl;have c6:=HS.out.bz.1 6 _ rfl;have f6:=HS.out.bz.2.1 6;have xz:=HS.out.bz;have zb:=xz.put (tx.iC v.ar v.cr v.ah v.ch t) rfl;obtain⟨Z,hZ⟩:∃Z,Z=di U2 (w.1.size+2) 0 (tx.iC v.ar v.cr v.ah v.ch t):=⟨_,rfl⟩
  rw[<-hZ]at zb;have HZ:Hid (Z=(((((((U2.setCell ⟨w.1.size+2,0,none⟩ (vI t.id)).setCell ⟨w.1.size+2,1,none⟩ (vI t.o)).setCell ⟨w.1.size+2,2,none⟩ (vI t.q)).setCell ⟨w.1.size+2,3,none⟩ (vI t.v)).setCell ⟨w.1.size+2,4,none⟩ (.slice v.ar t.a.length v.cr)).setCell ⟨w.1.size+2,5,none⟩ (.slice v.ah t.ag.length v.ch)).setCell ⟨w.1.size+2,6,none⟩ (vI t.aA))):=hZ;have bZ:Below w.1.size w Z:=by rw[hZ];exact aU (by omega) _ _ _ HS.out.sP
  have KE:Hid (Ox w v t (uV k t r s) (rW k t r s) (qo k t r s) (.returned (.tuple #[.agg #[vI t.id,vI t.o,vI t.q,vI t.v,.slice v.ar t.a.length v.cr,.slice v.ah t.ag.length v.ch,vI t.aA],vI 0,vI 5])) Z):=by
   unfold Hid;rw[HC.out.1,HC.out.2.1,HC.out.2.2];exact⟨v,rfl,bZ,.inl ⟨rfl,rfl⟩⟩
  have z0:=zb.1 0 _ rfl;have z1:=zb.1 1 _ rfl;have z2:=zb.1 2 _ rfl;have z3:=zb.1 3 _ rfl;have z4:=zb.1 4 _ rfl;have z5:=zb.1 5 _ rfl;have z6:=zb.1 6 _ rfl;clear hZ zb bZ xz;go_wp2;rw[<-HZ.out];exact bodyPost_ret (v:=.tuple #[.agg #[vI t.id,vI t.o,vI t.q,vI t.v,.slice v.ar t.a.length v.cr,.slice v.ah t.ag.length v.ch,vI t.aA],vI 0,vI 5]) (by simp[results,Tryz.results17,go_sem,z0,z1,z2,z3,z4,z5,z6]) rfl KE.out
 have gy:=Ac U2 s;go_wp2_with fail;refine gy.mono ?_;clear gy;rintro e w9 ⟨rfl,rG⟩;replace rG:=rG.symm;subst rG;by_cases hJ:aY 0 5 s=true;rotate_left
 ·have j7:aY 0 5 s=false:=by simpa using hJ
  have Az:Ah k r s=5:=by rw[Ah,j7,Bool.and_false];rfl
  have HC:Hid (uV k t r s=t/\rW k t r s=0/\qo k t r s=5):=by
   have h5:qo k t r s=5:=by rw[qo,Az];rfl
   exact⟨by rw[uV,Az];rfl,by rw[rW,h5];rfl,h5⟩
  clear hJ Az;have p0:=HS.out.bt.1 0 _ rfl;have c0:=HS.out.bz.1 0 _ rfl;have f0:=HS.out.bz.2.1 0;have p1:=HS.out.bt.1 1 _ rfl;have c1:=HS.out.bz.1 1 _ rfl;have f1:=HS.out.bz.2.1 1;have p2:=HS.out.bt.1 2 _ rfl;have c2:=HS.out.bz.1 2 _ rfl;have f2:=HS.out.bz.2.1 2;have p3:=HS.out.bt.1 3 _ rfl;have c3:=HS.out.bz.1 3 _ rfl;have f3:=HS.out.bz.2.1 3;have p4:=HS.out.bt.1 4 _ rfl;have c4:=HS.out.bz.1 4 _ rfl;have f4:=HS.out.bz.2.1 4;have p5:=HS.out.bt.1 5 _ rfl;have c5:=HS.out.bz.1 5 _ rfl;have f5:=HS.out.bz.2.1 5;have p6:=HS.out.bt.1 6 _ rfl;have c6:=HS.out.bz.1 6 _ rfl;have f6:=HS.out.bz.2.1 6;have xz:=HS.out.bz;have zb:=xz.put (tx.iC v.ar v.cr v.ah v.ch t) rfl;obtain⟨Z,hZ⟩:∃Z,Z=di U2 (w.1.size+2) 0 (tx.iC v.ar v.cr v.ah v.ch t):=⟨_,rfl⟩
  rw[<-hZ]at zb;have HZ:Hid (Z=(((((((U2.setCell ⟨w.1.size+2,0,none⟩ (vI t.id)).setCell ⟨w.1.size+2,1,none⟩ (vI t.o)).setCell ⟨w.1.size+2,2,none⟩ (vI t.q)).setCell ⟨w.1.size+2,3,none⟩ (vI t.v)).setCell ⟨w.1.size+2,4,none⟩ (.slice v.ar t.a.length v.cr)).setCell ⟨w.1.size+2,5,none⟩ (.slice v.ah t.ag.length v.ch)).setCell ⟨w.1.size+2,6,none⟩ (vI t.aA))):=hZ;have bZ:Below w.1.size w Z:=by rw[hZ];exact aU (by omega) _ _ _ HS.out.sP
  have KE:Hid (Ox w v t (uV k t r s) (rW k t r s) (qo k t r s) (.returned (.tuple #[.agg #[vI t.id,vI t.o,vI t.q,vI t.v,.slice v.ar t.a.length v.cr,.slice v.ah t.ag.length v.ch,vI t.aA],vI 0,vI 5])) Z):=by
   unfold Hid;rw[HC.out.1,HC.out.2.1,HC.out.2.2];exact⟨v,rfl,bZ,.inl ⟨rfl,rfl⟩⟩
  have z0:=zb.1 0 _ rfl;have z1:=zb.1 1 _ rfl;have z2:=zb.1 2 _ rfl;have z3:=zb.1 3 _ rfl;have z4:=zb.1 4 _ rfl;have z5:=zb.1 5 _ rfl;have z6:=zb.1 6 _ rfl;clear hZ zb bZ xz;go_wp2;rw[<-HZ.out];exact bodyPost_ret (v:=.tuple #[.agg #[vI t.id,vI t.o,vI t.q,vI t.v,.slice v.ar t.a.length v.cr,.slice v.ah t.ag.length v.ch,vI t.aA],vI 0,vI 5]) (by simp[results,Tryz.results17,go_sem,z0,z1,z2,z3,z4,z5,z6]) rfl KE.out
 have Az:Ah k r s=0:=by rw[Ah,hI,hJ];rfl
 have DF:=aB Az;have hy:=dm.1 hI;have hs:=dm.1 hJ;obtain⟨i,Aj⟩:∃i:Nat,r=(i:Int):=⟨r.toNat,by omega⟩
 obtain⟨n,Ey⟩:∃n:Nat,s=(n:Int):=⟨s.toNat,by omega⟩
 have hi:i<k.f.length:=by omega
 have hn:n<6:=by omega
 have HI:Hid (r=(i:Int)/\s=(n:Int)):=⟨Aj,Ey⟩
 have QT:=HK.out.2.2.2.2.2.1;have XQ:=HK.out.2.2.2.2.2.2.1;have cS:=tx.Ke U2 v t r s (by omega) HS.out.sl;simp only[tx.TV.val]at cS;have p0:=HS.out.bt.1 0 _ rfl;have p1:=HS.out.bt.1 1 _ rfl;have p2:=HS.out.bt.1 2 _ rfl;have p3:=HS.out.bt.1 3 _ rfl;have p4:=HS.out.bt.1 4 _ rfl;have p5:=HS.out.bt.1 5 _ rfl;have p6:=HS.out.bt.1 6 _ rfl;clear Az hy hs Aj Ey;rcases lK:tx.o9 t.ag r s with _|j
 rotate_left
 ·have Ev:j<t.ag.length:=(List.findIdx?_eq_some_iff_getElem.1 lK).1;have Ws:tx.setAt t.ag r s=(j:Int):=by rw[tx.setAt,lK]
  have HC:Hid (uV k t r s=t/\rW k t r s=(if (tx.ax t.ag j).i=true then(tx.ax t.ag j).g else 0)/\qo k t r s=(if (tx.ax t.ag j).i=true then 0 else 8)):=Hl DF.out (by rw[wX,lK];rfl) (by rw[qx,lK];rfl) (by rw[Gb,lK,tx.LA,lK];rfl) (by rw[Gc,lK,tx.LA,lK];rfl);rw[Ws]at cS
  obtain⟨b,off,ha,oM,kH⟩:∃b off,v.ah=some ⟨b,off,none⟩/\b<w.1.size/\tx.aX w b off t.ag:=by
   rcases HK.out.2.2.2.2.2.2.2.1.s.2 with h|h
   ·omega
   ·exact h
  have HB:Hid (b<w.1.size/\tx.aX w b off t.ag):=⟨oM,kH⟩
  have Yl:Hid (b≠w.1.size+2):=by unfold Hid;omega
  have UA:=aB ha;clear lK Ws oM kH ha;go_wp2_with fail;refine cS.mono ?_;clear cS p0 p1 p2 p3 p4 p5 p6;rintro e W1 ⟨rfl,b1⟩;have qC:Hid (JD w W1 a1 c1 a2 c2 a3 c3 k v t):=HS.out.later b1;clear b1 HS;have x1:=qC.out.bt;rw[UA.out]at x1;have bg:=(HB.out.2 j _ (tx.gM Ev)).below qC.out.sP HB.out.1;have e2:=bg.c2;have e3:=bg.c3;have p5:=x1.1 5 _ rfl;have jn:(j:Int)<(t.ag.length:Int):=by omega
  obtain⟨val,vG⟩:∃x,(tx.ax t.ag j).g=x:=⟨_,rfl⟩
  rw[vG]at e2;have HV:=aB vG;have HE2:=aB e2;clear bg vG e2;by_cases hu:(tx.ax t.ag j).i=true;rotate_left
  ·have PO:(tx.ax t.ag j).i=false:=by simpa using hu
   rw[PO]at e3;have Cr:Hid (uV k t r s=t/\rW k t r s=0/\qo k t r s=8):=⟨HC.out.1,by rw[HC.out.2.1,PO];rfl,by rw[HC.out.2.2,PO];rfl⟩
   clear hu PO;have p0:=x1.1 0 _ rfl;have c0:=qC.out.bz.1 0 _ rfl;have f0:=qC.out.bz.2.1 0;have p1:=x1.1 1 _ rfl;have c1:=qC.out.bz.1 1 _ rfl;have f1:=qC.out.bz.2.1 1;have p2:=x1.1 2 _ rfl;have c2:=qC.out.bz.1 2 _ rfl;have f2:=qC.out.bz.2.1 2;have p3:=x1.1 3 _ rfl;have c3:=qC.out.bz.1 3 _ rfl;have f3:=qC.out.bz.2.1 3;have p4:=x1.1 4 _ rfl;have c4:=qC.out.bz.1 4 _ rfl;have f4:=qC.out.bz.2.1 4;have p5:=x1.1 5 _ rfl;have c5:=qC.out.bz.1 5 _ rfl;have f5:=qC.out.bz.2.1 5;have p6:=x1.1 6 _ rfl;have c6:=qC.out.bz.1 6 _ rfl;have f6:=qC.out.bz.2.1 6;have xz:=qC.out.bz;have zb:=xz.put (tx.iC v.ar v.cr (some ⟨b,off,none⟩) v.ch t) rfl;obtain⟨Z,hZ⟩:∃Z,Z=di W1 (w.1.size+2) 0 (tx.iC v.ar v.cr (some ⟨b,off,none⟩) v.ch t):=⟨_,rfl⟩
   rw[<-hZ]at zb;have HZ:Hid (Z=(((((((W1.setCell ⟨w.1.size+2,0,none⟩ (vI t.id)).setCell ⟨w.1.size+2,1,none⟩ (vI t.o)).setCell ⟨w.1.size+2,2,none⟩ (vI t.q)).setCell ⟨w.1.size+2,3,none⟩ (vI t.v)).setCell ⟨w.1.size+2,4,none⟩ (.slice v.ar t.a.length v.cr)).setCell ⟨w.1.size+2,5,none⟩ (.slice (some ⟨b,off,none⟩) t.ag.length v.ch)).setCell ⟨w.1.size+2,6,none⟩ (vI t.aA))):=hZ;have bZ:Below w.1.size w Z:=by rw[hZ];exact aU (by omega) _ _ _ qC.out.sP
   have KE:Hid (Ox w v t (uV k t r s) (rW k t r s) (qo k t r s) (.returned (.tuple #[.agg #[vI t.id,vI t.o,vI t.q,vI t.v,.slice v.ar t.a.length v.cr,.slice (some ⟨b,off,none⟩) t.ag.length v.ch,vI t.aA],vI 0,vI 8])) Z):=by
    unfold Hid;rw[Cr.out.1,Cr.out.2.1,Cr.out.2.2];exact⟨v,by simp only[tx.TV.val,UA.out],bZ,.inl ⟨rfl,rfl⟩⟩
   have z0:=zb.1 0 _ rfl;have z1:=zb.1 1 _ rfl;have z2:=zb.1 2 _ rfl;have z3:=zb.1 3 _ rfl;have z4:=zb.1 4 _ rfl;have z5:=zb.1 5 _ rfl;have z6:=zb.1 6 _ rfl;clear hZ zb bZ xz;go_wp2;rw[<-HZ.out];exact bodyPost_ret (v:=.tuple #[.agg #[vI t.id,vI t.o,vI t.q,vI t.v,.slice v.ar t.a.length v.cr,.slice (some ⟨b,off,none⟩) t.ag.length v.ch,vI t.aA],vI 0,vI 8]) (by simp[results,Tryz.results17,go_sem,z0,z1,z2,z3,z4,z5,z6]) rfl KE.out
  ·rw[hu]at e3;have Cr:Hid (uV k t r s=t/\rW k t r s=val/\qo k t r s=0):=⟨HC.out.1,by rw[HC.out.2.1,hu,HV.out];rfl,by rw[HC.out.2.2,hu];rfl⟩
   clear hu;have bD:Below W1.1.size W1 W1.drew:=aJ.drew;have BD:=aB bD;have hS:(fun Y:World=>Bx Y (w.1.size+1) (tx.iC v.ar v.cr (some ⟨b,off,none⟩) v.ch t)/\Y.cell? ⟨b,off+j*5+2,none⟩=some (vI val)) W1.drew:=⟨x1.later bD,HE2.out⟩
   have gg:Hid (Bx W1 (w.1.size+1) (tx.iC v.ar v.cr (some ⟨b,off,none⟩) v.ch t)):=x1;clear bD x1;go_wp2_with fail;refine bu (fun _=>false) (fun Y:World=>Bx Y (w.1.size+1) (tx.iC v.ar v.cr (some ⟨b,off,none⟩) v.ch t)/\Y.cell? ⟨b,off+j*5+2,none⟩=some (vI val)) (by kernel_rfl) ?_;generalize W1.drew=D at *;refine jg 0 (.agg #[vI t.id,vI t.o,vI t.q,vI t.v,.slice v.ar t.a.length v.cr,.slice (some ⟨b,off,none⟩) t.ag.length v.ch,vI t.aA]) rfl ?_ hS ?_
   ·(intro w aG;have q0:=aG.1.1 0 _ rfl;have q1:=aG.1.1 1 _ rfl;have q2:=aG.1.1 2 _ rfl;have q3:=aG.1.1 3 _ rfl;have q4:=aG.1.1 4 _ rfl;have q5:=aG.1.1 5 _ rfl;have q6:=aG.1.1 6 _ rfl;clear hS aG;go_simp)
   simp only[Act.put];refine cz 1 ?_ rfl ?_ hS ?_;rotate_left
   ·(intro w _;go_simp;first|done|with_reducible rfl)
   simp only[Act.put];refine jg 2 (.slice (some ⟨b,off,none⟩) t.ag.length v.ch) rfl ?_ hS ?_
   ·(intro w aG;have q5:=aG.1.1 5 _ rfl;clear hS aG;go_simp)
   simp only[Act.put];refine cz 3 ?_ rfl ?_ hS ?_;rotate_left
   ·(intro w _;go_simp;first|done|with_reducible rfl)
   simp only[Act.put];refine cz 4 (.pointer (some ⟨b,off+j*5,none⟩)) rfl ?_ hS ?_
   ·(intro w _;go_simp;first|done|(rw[if_pos (by omega)]))
   simp only[Act.put];refine cz 5 (.pointer (some ⟨b,off+j*5+2,none⟩)) rfl ?_ hS ?_
   ·(intro w _;go_simp)
   simp only[Act.put];refine jg 6 (vI val) rfl ?_ hS ?_
   ·(intro w aG;have q:=aG.2;clear hS aG;go_simp)
   simp only[Act.put];have xr:=qC.out.bz.later BD.out;have c0:=xr.1 0 _ rfl;have f0:=xr.2.1 0;have c1:=xr.1 1 _ rfl;have f1:=xr.2.1 1;have c2:=xr.1 2 _ rfl;have f2:=xr.2.1 2;have c3:=xr.1 3 _ rfl;have f3:=xr.2.1 3;have c4:=xr.1 4 _ rfl;have f4:=xr.2.1 4;have c5:=xr.1 5 _ rfl;have f5:=xr.2.1 5;have c6:=xr.1 6 _ rfl;have f6:=xr.2.1 6;obtain⟨Z,hZ⟩:∃Z,Z=di D (w.1.size+2) 0 (tx.iC v.ar v.cr (some ⟨b,off,none⟩) v.ch t):=⟨_,rfl⟩
   have zb:=xr.put (tx.iC v.ar v.cr (some ⟨b,off,none⟩) v.ch t) rfl;rw[<-hZ]at zb;have OZ:Hid (Z=(((((((D.setCell ⟨w.1.size+2,0,none⟩ (vI t.id)).setCell ⟨w.1.size+2,1,none⟩ (vI t.o)).setCell ⟨w.1.size+2,2,none⟩ (vI t.q)).setCell ⟨w.1.size+2,3,none⟩ (vI t.v)).setCell ⟨w.1.size+2,4,none⟩ (.slice v.ar t.a.length v.cr)).setCell ⟨w.1.size+2,5,none⟩ (.slice (some ⟨b,off,none⟩) t.ag.length v.ch)).setCell ⟨w.1.size+2,6,none⟩ (vI t.aA))):=hZ;have hf:∀q,q≠w.1.size+2->Z.1[q]?=D.1[q]?:=fun q hq=>by rw[hZ];exact aV hq _ _ _
   have jo:(fun Y:World=>Bx Y (w.1.size+1) (tx.iC v.ar v.cr (some ⟨b,off,none⟩) v.ch t)/\Y.cell? ⟨b,off+j*5+2,none⟩=some (vI val)) Z:=⟨hS.1.aj (hf _ (by omega)) (by rw[hZ,bf];exact Nat.le_refl _),(World.cell?_of_block (a:=⟨b,off+j*5+2,none⟩) (hf b Yl.out)).trans hS.2⟩
   have mV:=aB jo;have bZ:Below w.1.size w Z:=by rw[hZ];exact aU (by omega) _ _ _ (ay qC.out.sP BD.out)
   have KE:Hid (Ox w v t (uV k t r s) (rW k t r s) (qo k t r s) (.returned (.tuple #[.agg #[vI t.id,vI t.o,vI t.q,vI t.v,.slice v.ar t.a.length v.cr,.slice (some ⟨b,off,none⟩) t.ag.length v.ch,vI t.aA],vI val,vI 0])) Z):=by
    unfold Hid;rw[Cr.out.1,Cr.out.2.1,Cr.out.2.2];exact⟨v,by simp only[tx.TV.val,UA.out],bZ,.inl ⟨rfl,rfl⟩⟩
   have z0:=zb.1 0 _ rfl;have z1:=zb.1 1 _ rfl;have z2:=zb.1 2 _ rfl;have z3:=zb.1 3 _ rfl;have z4:=zb.1 4 _ rfl;have z5:=zb.1 5 _ rfl;have z6:=zb.1 6 _ rfl;clear hZ jo hf zb xr bZ;refine cZ 7 rfl (fun K hK=>?_);go_simp;rw[<-OZ.out];refine hK.out _ _ (fun _=>mV.out) ?_;clear hK K hS c0 f0 c1 f1 c2 f2 c3 f3 c4 f4 c5 f5 c6 f6;refine cZ 8 rfl (fun K hK=>?_);go_simp;refine hK.out _ _ (fun _=>mV.out) ?_;clear hK K;refine cZ 9 rfl (fun K hK=>?_);go_simp;refine hK.out _ _ (fun _=>mV.out) ?_;clear hK K;refine dL (by kernel_rfl) ?_ _;go_wp2;exact bodyPost_ret (v:=.tuple #[.agg #[vI t.id,vI t.o,vI t.q,vI t.v,.slice v.ar t.a.length v.cr,.slice (some ⟨b,off,none⟩) t.ag.length v.ch,vI t.aA],vI val,vI 0]) (by simp[results,Tryz.results17,go_sem,z0,z1,z2,z3,z4,z5,z6]) rfl KE.out
 have Ws:tx.setAt t.ag r s=-1:=by rw[tx.setAt,lK]
 rw[Ws]at cS;have Ov:Hid (wX k t r s=DT k t r s/\qx k t r s=Fe k t r s/\Gc k t r s=(lZ k t r s).g/\Gb k t r s=(lZ k t r s).i):=⟨by rw[wX,lK];rfl,by rw[qx,lK];rfl,by rw[Gc,lK];rfl,by rw[Gb,lK];rfl⟩
 clear lK Ws;go_wp2_with fail;refine cS.mono ?_;clear cS p0 p1 p2 p3 p4 p5 p6;rintro e W1 ⟨rfl,b1⟩;have qC:Hid (JD w W1 a1 c1 a2 c2 a3 c3 k v t):=HS.out.later b1;clear b1 HS;have cR:=tx.rO W1 v t r s (by omega) qC.out.sl;simp only[tx.TV.val]at cR;have p0:=qC.out.bt.1 0 _ rfl;have p1:=qC.out.bt.1 1 _ rfl;have p2:=qC.out.bt.1 2 _ rfl;have p3:=qC.out.bt.1 3 _ rfl;have p4:=qC.out.bt.1 4 _ rfl;have p5:=qC.out.bt.1 5 _ rfl;have p6:=qC.out.bt.1 6 _ rfl;have DL:(∃j,tx.jB t.a r s=some j)\/tx.jB t.a r s=none:=by cases tx.jB t.a r s<;>simp
 rcases DL with ⟨j,DL⟩|DL
 case' inl=>
  have Ev:j<t.a.length:=(List.findIdx?_eq_some_iff_getElem.1 DL).1;have QZ:tx.jR t.a r s=(j:Int):=by rw[tx.jR,DL]
  rw[QZ]at cR;have Y6:lZ k t r s=tx.au t.a j:=by rw[lZ,DL,tx.Jp,DL];rfl
  have HC:=aB (Hl (u:=(tx.au t.a j).i) (x:=(tx.au t.a j).g) (N:=t) DF.out (Ov.out.1.trans (by simp[DT,DL])) (Ov.out.2.1.trans (by simp[Fe,DL])) (by rw[Ov.out.2.2.2,Y6]) (by rw[Ov.out.2.2.1,Y6]));clear DL QZ Y6;go_wp2_with fail;refine cR.mono ?_;clear cR p0 p1 p2 p3 p4 p5 p6;rintro e X ⟨rfl,b1⟩
  have Vh:Hid (Xx w X a1 c1 a2 c2 a3 c3 k v t r s v t j):=by
   refine⟨qC.out.later b1,HC.out.1,HC.out.2.2,HC.out.2.1,.inl ⟨rfl,rfl⟩,Ev,by omega,?_⟩;rcases HK.out.2.2.2.2.2.2.2.1.r.2 with h|⟨b,off,h1,h2,h3⟩
   ·omega
   ·exact⟨b,off,h1,by omega,h3.below (ay qC.out.sP b1) h2⟩
  obtain⟨u,N,HF⟩:∃u N,Hid (Xx w X a1 c1 a2 c2 a3 c3 k v t r s u N j):=⟨_,_,Vh⟩
  clear Vh HC b1 qC Ev;have dj:decide ((j:Int)<0)=false:=by simp
  have Zq:=HI.out.1;have PM:=HI.out.2;subst Zq;subst PM
 case' inr=>
  have QZ:tx.jR t.a r s=-1:=by rw[tx.jR,DL]
  rw[QZ]at cR;have RJ:Hid (DT k t r s=(if pG k r=true then Jl (jh k r) t r s else 6)/\Fe k t r s=tx.dO t (nI (jh k r) r s)/\lZ k t r s=nI (jh k r) r s/\tx.jB t.a r s=none):=⟨by rw[DT,DL];rfl,by rw[Fe,DL];rfl,by rw[lZ,DL];rfl,DL⟩
  clear DL QZ;go_wp2_with fail;refine cR.mono ?_;clear cR p0 p1 p2 p3 p4 p5 p6;rintro e W2 ⟨rfl,b1⟩;have HS2:Hid (JD w W2 a1 c1 a2 c2 a3 c3 k v t):=qC.out.later b1;clear b1 qC;obtain⟨z,hz,xu,GA,mH,QV,Et⟩:=CB HK.out.1 hi;have cP:=AR W2 a1 c1 a2 c2 a3 c3 k i z HK.out.2.1 HS2.out.rd hi hz xu GA;rw[<-HI.out.1]at cP;have p0:=HS2.out.bc.1 0 _ rfl;have p1:=HS2.out.bc.1 1 _ rfl;have p2:=HS2.out.bc.1 2 _ rfl;have p3:=HS2.out.bc.1 3 _ rfl;have p4:=HS2.out.bc.1 4 _ rfl;have p5:=HS2.out.bc.1 5 _ rfl;by_cases ha:(aS k.aa z).x=true;rotate_left
  ·have YU:(aS k.aa z).x=false:=by simpa using ha
   rw[YU]at cP;simp only[Bool.false_eq_true,if_false]at cP
   have Px:pG k r=false:=(yD (k:=k) (y:=r) (fun h=>by
    have:=h.2.2.2
    rw[HI.out.1,Int.toNat_natCast,mH,YU]at this;cases this)).2
   have HC:Hid (uV k t r s=t/\rW k t r s=0/\qo k t r s=6):=NF DF.out (by rw[Ov.out.1,RJ.out.1,Px];rfl) (by decide);clear Et Px ha YU QV mH;go_wp2_with fail;refine cP.mono ?_;clear cP p0 p1 p2 p3 p4 p5;rintro e W3 ⟨rfl,b1⟩;have mV:Hid (JD w W3 a1 c1 a2 c2 a3 c3 k v t):=HS2.out.later b1;clear b1 HS2;have p0:=mV.out.bt.1 0 _ rfl;have c0:=mV.out.bz.1 0 _ rfl;have f0:=mV.out.bz.2.1 0;have p1:=mV.out.bt.1 1 _ rfl;have c1:=mV.out.bz.1 1 _ rfl;have f1:=mV.out.bz.2.1 1;have p2:=mV.out.bt.1 2 _ rfl;have c2:=mV.out.bz.1 2 _ rfl;have f2:=mV.out.bz.2.1 2;have p3:=mV.out.bt.1 3 _ rfl;have c3:=mV.out.bz.1 3 _ rfl;have f3:=mV.out.bz.2.1 3;have p4:=mV.out.bt.1 4 _ rfl;have c4:=mV.out.bz.1 4 _ rfl;have f4:=mV.out.bz.2.1 4;have p5:=mV.out.bt.1 5 _ rfl;have c5:=mV.out.bz.1 5 _ rfl;have f5:=mV.out.bz.2.1 5;have p6:=mV.out.bt.1 6 _ rfl;have c6:=mV.out.bz.1 6 _ rfl;have f6:=mV.out.bz.2.1 6;have xz:=mV.out.bz;have zb:=xz.put (tx.iC v.ar v.cr v.ah v.ch t) rfl;obtain⟨Z,hZ⟩:∃Z,Z=di W3 (w.1.size+2) 0 (tx.iC v.ar v.cr v.ah v.ch t):=⟨_,rfl⟩
   rw[<-hZ]at zb;have HZ:Hid (Z=(((((((W3.setCell ⟨w.1.size+2,0,none⟩ (vI t.id)).setCell ⟨w.1.size+2,1,none⟩ (vI t.o)).setCell ⟨w.1.size+2,2,none⟩ (vI t.q)).setCell ⟨w.1.size+2,3,none⟩ (vI t.v)).setCell ⟨w.1.size+2,4,none⟩ (.slice v.ar t.a.length v.cr)).setCell ⟨w.1.size+2,5,none⟩ (.slice v.ah t.ag.length v.ch)).setCell ⟨w.1.size+2,6,none⟩ (vI t.aA))):=hZ;have bZ:Below w.1.size w Z:=by rw[hZ];exact aU (by omega) _ _ _ mV.out.sP
   have KE:Hid (Ox w v t (uV k t r s) (rW k t r s) (qo k t r s) (.returned (.tuple #[.agg #[vI t.id,vI t.o,vI t.q,vI t.v,.slice v.ar t.a.length v.cr,.slice v.ah t.ag.length v.ch,vI t.aA],vI 0,vI 6])) Z):=by
    unfold Hid;rw[HC.out.1,HC.out.2.1,HC.out.2.2];exact⟨v,rfl,bZ,.inl ⟨rfl,rfl⟩⟩
   have z0:=zb.1 0 _ rfl;have z1:=zb.1 1 _ rfl;have z2:=zb.1 2 _ rfl;have z3:=zb.1 3 _ rfl;have z4:=zb.1 4 _ rfl;have z5:=zb.1 5 _ rfl;have z6:=zb.1 6 _ rfl;clear hZ zb bZ xz;go_wp2;rw[<-HZ.out];exact bodyPost_ret (v:=.tuple #[.agg #[vI t.id,vI t.o,vI t.q,vI t.v,.slice v.ar t.a.length v.cr,.slice v.ah t.ag.length v.ch,vI t.aA],vI 0,vI 6]) (by simp[results,Tryz.results17,go_sem,z0,z1,z2,z3,z4,z5,z6]) rfl KE.out
  rw[ha]at cP;simp only[if_true]at cP;have cY:=Et ha;have aN:=yh (aS k.aa z) (i:Int);rw[cY]at aN
  obtain⟨j0,UT,Ev⟩:∃j:Nat,rJ (aS k.aa z) (i:Int)=(j:Int)/\j<(aS k.aa z).af.length:=by
   rcases lM (aS k.aa z) (i:Int)with ⟨e,_⟩|⟨j,e,hj,_,_⟩
   ·rw[e]at aN;simp at aN
   ·exact⟨j,e,hj⟩
  rw[HI.out.1,UT,<-HI.out.1]at cP;have Sv:=Cy (j:=j0) HK.out.1 hi (by rw[mH];exact ha) (by rw[mH];exact UT);rw[mH,<-HI.out.1]at Sv;have sH:=GN QV _ (List.mem_of_getElem? (eX Ev));have HN:=aB Sv;clear aN Et Sv cY ha UT QV mH;go_wp2_with fail;refine cP.mono ?_;clear cP p0 p1 p2 p3 p4 p5;rintro e W3 ⟨rfl,b1⟩;have mV:Hid (JD w W3 a1 c1 a2 c2 a3 c3 k v t):=HS2.out.later b1;clear b1 HS2;have p3:=mV.out.bc.1 3 _ rfl;have pV:=mV.out.rd.m;rcases pV with OI|⟨b2,iX,VH,ky,h1⟩
  ·rw[OI]at xu;simp at xu
  rw[VH]at p3;obtain⟨⟨m0,m1,m2,m3,m4,m5⟩,bg,fM⟩:=h1 z _ (il xu);have e1:W3.cell? ⟨b2,iX+z*4+1,none⟩=some (.slice m0 (aS k.aa z).af.length m1):=bg 1 _ rfl;obtain⟨_,SL⟩:=fM.k;dsimp only at SL;rcases SL with SL|⟨b3,mB,rfl,iR,cy⟩
  ·omega
  have Az:=cy j0 _ (eX Ev);obtain⟨a',aZ,cx,gy,jJ⟩:=Az.c1;have h6:=vv sH;rcases gy.2 with PM|⟨b4,mC,rfl,ke,iM⟩
  ·omega
  have QL:=iM.get (i:=n) (by omega);have nW:fJ (cO (aS k.aa z).af j0).cells=true/\aY 0 4000003 (at2 (cO (aS k.aa z).af j0).cells n).head=true:=⟨sH,yF sH hn⟩
  obtain⟨xs,oN⟩:∃xs,(cO (aS k.aa z).af j0).cells=xs:=⟨_,rfl⟩
  rw[oN]at HN QL nW cx h6;obtain⟨x,hx⟩:∃x,at2 xs n=x:=⟨_,rfl⟩
  rw[hx]at QL nW;have g0:=QL.c0;have g1:=QL.c1
  have OX:Hid (kI xs s=!jA x.head/\(kI xs s=true->nI xs r s=⟨r,s,eD x.head,x.g,aY 0 4000003 x.head&&bN x.head⟩)/\jh k r=xs/\pG k r=true):=by
   have h7:kI xs s=!jA x.head:=by rw[kI,nW.1,hJ,HI.out.2,Int.toNat_natCast,hx];rfl
   refine⟨h7,fun h=>?_,HN.out.1,HN.out.2⟩;have h8:fA xs s=x:=by rw[fA,if_pos h,HI.out.2,Int.toNat_natCast,hx]
   rw[nI,h8]
  have gd:=aB nW.2;have i2:(z:Int)<(k.aa.length:Int):=by omega
  have i3:(j0:Int)<((aS k.aa z).af.length:Int):=by omega
  have i4:(n:Int)<(xs.length:Int):=by omega
  have dz:decide ((z:Int)<0)=false:=by simp
  have HM:=HK.out.2.1.m;have HKK:=(HK.out.2.1.ms _ (List.mem_of_getElem? (il xu))).k;unfold maxLen at HM HKK;have vF:=HI.out.2;obtain⟨V,hV⟩:∃V,V=W3.alloc (.cells #[vI x.head,vI x.g] 104):=⟨_,rfl⟩
  have bV:Below W3.1.size W3 V:=by rw[hV];exact aJ.alloc aR _
  have Ur:Bx V W3.1.size [vI x.head,vI x.g]:=by rw[hV];exact Bx.made W3 [vI x.head,vI x.g] _
  have sw:Hid (JD w V a1 c1 a2 c2 a3 c3 k v t):=mV.out.later bV;have Z9:Hid (Bx V W3.1.size [vI x.head,vI x.g]/\w.1.size+3<=W3.1.size):=⟨Ur,mV.out.sz⟩
  have y0:=Ur.1 0 _ rfl;rw[hV]at y0;have cL:=Aa x.head V;clear h1 bg fM cy Az gy iM QL sH nW hx oN HN mV bV Ur VH jJ hz GA ky iR ke;subst vF;go_wp2_with fail;rw[<-hV];clear hV y0 p3 e1 cx g0 g1 i2 i3 i4 dz HM HKK;refine cL.mono ?_;clear cL;rintro e w9 ⟨rfl,rG⟩;replace rG:=rG.symm;subst rG;rw[gd.out];by_cases Ew:jA x.head=true
  ·have HC:Hid (uV k t r (n:Int)=t/\rW k t r (n:Int)=0/\qo k t r (n:Int)=7):=NF DF.out (by rw[Ov.out.1,RJ.out.1,OX.out.2.2.2,if_pos rfl,OX.out.2.2.1,Jl,OX.out.1,Ew];rfl) (by decide);have p0:=sw.out.bt.1 0 _ rfl;have c0:=sw.out.bz.1 0 _ rfl;have f0:=sw.out.bz.2.1 0;have p1:=sw.out.bt.1 1 _ rfl;have c1:=sw.out.bz.1 1 _ rfl;have f1:=sw.out.bz.2.1 1;have p2:=sw.out.bt.1 2 _ rfl;have c2:=sw.out.bz.1 2 _ rfl;have f2:=sw.out.bz.2.1 2;have p3:=sw.out.bt.1 3 _ rfl;have c3:=sw.out.bz.1 3 _ rfl;have f3:=sw.out.bz.2.1 3;have p4:=sw.out.bt.1 4 _ rfl;have c4:=sw.out.bz.1 4 _ rfl;have f4:=sw.out.bz.2.1 4;have p5:=sw.out.bt.1 5 _ rfl;have c5:=sw.out.bz.1 5 _ rfl;have f5:=sw.out.bz.2.1 5;have p6:=sw.out.bt.1 6 _ rfl;have c6:=sw.out.bz.1 6 _ rfl;have f6:=sw.out.bz.2.1 6;have xz:=sw.out.bz;have zb:=xz.put (tx.iC v.ar v.cr v.ah v.ch t) rfl;obtain⟨Z,hZ⟩:∃Z,Z=di V (w.1.size+2) 0 (tx.iC v.ar v.cr v.ah v.ch t):=⟨_,rfl⟩
   rw[<-hZ]at zb;have HZ:Hid (Z=(((((((V.setCell ⟨w.1.size+2,0,none⟩ (vI t.id)).setCell ⟨w.1.size+2,1,none⟩ (vI t.o)).setCell ⟨w.1.size+2,2,none⟩ (vI t.q)).setCell ⟨w.1.size+2,3,none⟩ (vI t.v)).setCell ⟨w.1.size+2,4,none⟩ (.slice v.ar t.a.length v.cr)).setCell ⟨w.1.size+2,5,none⟩ (.slice v.ah t.ag.length v.ch)).setCell ⟨w.1.size+2,6,none⟩ (vI t.aA))):=hZ;have bZ:Below w.1.size w Z:=by rw[hZ];exact aU (by omega) _ _ _ sw.out.sP
   have KE:Hid (Ox w v t (uV k t r (n:Int)) (rW k t r (n:Int)) (qo k t r (n:Int)) (.returned (.tuple #[.agg #[vI t.id,vI t.o,vI t.q,vI t.v,.slice v.ar t.a.length v.cr,.slice v.ah t.ag.length v.ch,vI t.aA],vI 0,vI 7])) Z):=by
    unfold Hid;rw[HC.out.1,HC.out.2.1,HC.out.2.2];exact⟨v,rfl,bZ,.inl ⟨rfl,rfl⟩⟩
   have z0:=zb.1 0 _ rfl;have z1:=zb.1 1 _ rfl;have z2:=zb.1 2 _ rfl;have z3:=zb.1 3 _ rfl;have z4:=zb.1 4 _ rfl;have z5:=zb.1 5 _ rfl;have z6:=zb.1 6 _ rfl;clear hZ zb bZ xz;go_wp2;rw[<-HZ.out];exact bodyPost_ret (v:=.tuple #[.agg #[vI t.id,vI t.o,vI t.q,vI t.v,.slice v.ar t.a.length v.cr,.slice v.ah t.ag.length v.ch,vI t.aA],vI 0,vI 7]) (by simp[results,Tryz.results17,go_sem,z0,z1,z2,z3,z4,z5,z6]) rfl KE.out
  have Zf:jA x.head=false:=by simpa using Ew
  have Jb:kI xs (n:Int)=true:=by rw[OX.out.1,Zf];rfl
  have RI:Hid (nI (jh k r) r (n:Int)=⟨r,(n:Int),eD x.head,x.g,aY 0 4000003 x.head&&bN x.head⟩/\wX k t r (n:Int)=Ls t ⟨r,(n:Int),eD x.head,x.g,aY 0 4000003 x.head&&bN x.head⟩):=by
   have e1:nI (jh k r) r (n:Int)=⟨r,(n:Int),eD x.head,x.g,aY 0 4000003 x.head&&bN x.head⟩:=by rw[OX.out.2.2.1];exact OX.out.2.1 Jb
   exact⟨e1,by rw[Ov.out.1,RJ.out.1,OX.out.2.2.2,if_pos rfl,Jl,OX.out.2.2.1,if_pos Jb,<-OX.out.2.2.1,e1]⟩
  obtain⟨xb,Wy⟩:∃xb,xb=W3.1.size:=⟨_,rfl⟩
  rw[<-Wy]at Z9;rw[<-Wy];have hS:(fun Y:World=>Below V.1.size V Y/\Bx Y (w.1.size+1) (tx.iC v.ar v.cr v.ah v.ch t)/\Bx Y xb [vI x.head,vI x.g]) V.drew:=⟨aJ.drew,sw.out.bt.later (aJ.drew),Z9.out.1.later (aJ.drew)⟩
  have Zq:=HI.out.1;clear Ew Jb Wy;clear W3;subst Zq;go_wp2_with fail;refine bu (fun z=>z==17) (fun Y:World=>Below V.1.size V Y/\Bx Y (w.1.size+1) (tx.iC v.ar v.cr v.ah v.ch t)/\Bx Y xb [vI x.head,vI x.g]) (by kernel_rfl) ?_;generalize V.drew=Wd at *;refine jg 0 (.agg #[vI t.id,vI t.o,vI t.q,vI t.v,.slice v.ar t.a.length v.cr,.slice v.ah t.ag.length v.ch,vI t.aA]) rfl ?_ hS ?_
  ·(intro w aG;have q0:=aG.2.1.1 0 _ rfl;have q1:=aG.2.1.1 1 _ rfl;have q2:=aG.2.1.1 2 _ rfl;have q3:=aG.2.1.1 3 _ rfl;have q4:=aG.2.1.1 4 _ rfl;have q5:=aG.2.1.1 5 _ rfl;have q6:=aG.2.1.1 6 _ rfl;clear hS aG;go_simp)
  simp only[Act.put];refine cz 1 ?_ rfl ?_ hS ?_;rotate_left
  ·(intro w _;go_simp;first|done|with_reducible rfl)
  simp only[Act.put];refine cz 2 ?_ rfl ?_ hS ?_;rotate_left
  ·(intro w _;go_simp;first|done|with_reducible rfl)
  simp only[Act.put];refine cz 3 ?_ rfl ?_ hS ?_;rotate_left
  ·(intro w _;go_simp;first|done|with_reducible rfl)
  simp only[Act.put];refine jg 4 (vI x.head) rfl ?_ hS ?_
  ·(intro w aG;have q0:=aG.2.2.1 0 _ rfl;clear hS aG;go_simp)
  simp only[Act.put];refine cz 6 ?_ rfl ?_ hS ?_;rotate_left
  ·(intro w _;go_simp;first|done|with_reducible rfl)
  simp only[Act.put];refine jg 7 (vI x.g) rfl ?_ hS ?_
  ·(intro w aG;have q1:=aG.2.2.1 1 _ rfl;clear hS aG;go_simp)
  simp only[Act.put];refine cz 8 ?_ rfl ?_ hS ?_;rotate_left
  ·(intro w _;go_simp;first|done|with_reducible rfl)
  simp only[Act.put];refine jg 9 (vI x.head) rfl ?_ hS ?_
  ·(intro w aG;have q0:=aG.2.2.1 0 _ rfl;clear hS aG;go_simp)
  simp only[Act.put];refine iI (rs:=[5,16]) (by kernel_rfl) (by simp) ?_;refine iU.cons rfl (fun K hK=>?nb) (iU.cons rfl (fun K hK=>?nj) iU.nil)
  case' nb=>
   go_simp;refine(oU _ _).mono ?_;rintro e w9 ⟨rfl,rG⟩;replace rG:=rG.symm;subst rG;refine hK.out _ _ (fun _=>hS) ?_;clear hK K;refine iI (rs:=[10,16]) (by kernel_rfl) (by simp) ?_;refine iU.cons rfl (fun K hK=>?nf) (iU.cons rfl (fun K hK=>?nm) iU.nil)
   case' nf=>
    go_simp;refine(kZ _ _).mono ?_;rintro e w9 ⟨rfl,rG⟩;replace rG:=rG.symm;subst rG;refine hK.out _ _ (fun _=>hS) ?_;clear hK K;refine cz 11 ?_ rfl ?_ hS ?_;rotate_left
    ·(intro w _;go_simp;first|done|with_reducible rfl)
    simp only[Act.put];refine iI (rs:=[12,16]) (by kernel_rfl) (by simp) ?_;refine iU.cons rfl (fun K hK=>?nh) (iU.cons rfl (fun K hK=>?np) iU.nil)
    case' nh=>
     go_simp;have cN:=tx.jC Wd v t ⟨(i:Int),(n:Int),eD x.head,x.g,aY 0 4000003 x.head&&bN x.head⟩ HK.out.2.2.1 (sw.out.sl.later hS.1) HK.out.2.2.2.2.1;simp only[tx.TV.val]at cN;obtain⟨N,hN⟩:∃N,tx.dO t ⟨(i:Int),(n:Int),eD x.head,x.g,aY 0 4000003 x.head&&bN x.head⟩=N:=⟨_,rfl⟩
     obtain⟨ok,je⟩:∃ok,tx.eT t ⟨(i:Int),(n:Int),eD x.head,x.g,aY 0 4000003 x.head&&bN x.head⟩=ok:=⟨_,rfl⟩
     rw[hN,je]at cN;refine cN.mono ?_;clear cN;rintro e X ⟨va,vc,vh,vd,PR,PS,rfl,rE,bX⟩;have HO:Hid (tx.dO t ⟨(i:Int),(n:Int),eD x.head,x.g,aY 0 4000003 x.head&&bN x.head⟩=N/\tx.eT t ⟨(i:Int),(n:Int),eD x.head,x.g,aY 0 4000003 x.head&&bN x.head⟩=ok/\V.1.size<=Wd.1.size):=⟨hN,je,hS.1.size⟩
     clear hN je;replace rE:=rE.low (B':=V.1.size) (fun q hq=>by have:=(rE.of hq).1;have:=HO.out.2.2;omega);replace HO:Hid (tx.dO t ⟨(i:Int),(n:Int),eD x.head,x.g,aY 0 4000003 x.head&&bN x.head⟩=N/\tx.eT t ⟨(i:Int),(n:Int),eD x.head,x.g,aY 0 4000003 x.head&&bN x.head⟩=ok):=⟨HO.out.1,HO.out.2.1⟩
     replace hS:(fun Y:World=>Below V.1.size V Y/\Bx Y (w.1.size+1) (tx.iC v.ar v.cr v.ah v.ch t)/\Bx Y xb [vI x.head,vI x.g]) X:=⟨ay hS.1 bX,hS.2.1.later bX,hS.2.2.later bX⟩
     clear bX;refine hK.out _ _ (fun _=>hS) ?_;clear hK K;clear Wd;generalize X=Wd at *;refine cz 13 ?_ rfl ?_ hS ?_;rotate_left
     ·(intro w _;go_simp;first|done|with_reducible rfl)
     simp only[Act.put];refine cz 14 ?_ rfl ?_ hS ?_;rotate_left
     ·(intro w _;go_simp;first|done|with_reducible rfl)
     simp only[Act.put];refine cz 15 ?_ rfl ?_ hS ?_;rotate_left
     ·(intro w _;go_simp;first|done|with_reducible rfl)
     simp only[Act.put];refine cZ 16 rfl (fun K hK=>?_);go_simp;obtain⟨X,hX⟩:∃X,X=Wd.alloc (.cells #[vI 0,vI 0,vI 0,vI 0,.slice none 0 0,.slice none 0 0,vI 0] 50):=⟨_,rfl⟩
     obtain⟨bb,iE⟩:∃bb,bb=Wd.1.size:=⟨_,rfl⟩
     have bX:Below Wd.1.size Wd X:=by rw[hX];exact aJ.alloc aR _
     have xV:Bx X bb CJ:=by rw[hX,iE];exact Bx.made Wd CJ _
     rw[<-hX,<-iE];have HB:Hid (V.1.size<=bb):=by unfold Hid;have:=hS.1.size;omega
     have Wj:∀q,tx.oW PR PS q->q≠bb:=fun q hq=>by have:=(rE.of hq).2;omega
     replace rE:=rE.later bX;replace hS:(fun Y:World=>Below V.1.size V Y/\Bx Y (w.1.size+1) (tx.iC v.ar v.cr v.ah v.ch t)/\Bx Y xb [vI x.head,vI x.g]) X:=⟨ay hS.1 bX,hS.2.1.later bX,hS.2.2.later bX⟩
     clear hX iE bX;refine hK.out _ _ (fun _=>hS) ?_;clear hK K;clear Wd;generalize X=Wd at *
    case' np=>
     go_simp;obtain⟨X,hX⟩:∃X,X=Wd.alloc (.cells #[vI 0,vI 0,vI 0,vI 0,.slice none 0 0,.slice none 0 0,vI 0] 50):=⟨_,rfl⟩
     obtain⟨bb,iE⟩:∃bb,bb=Wd.1.size:=⟨_,rfl⟩
     have bX:Below Wd.1.size Wd X:=by rw[hX];exact aJ.alloc aR _
     have xV:Bx X bb CJ:=by rw[hX,iE];exact Bx.made Wd CJ _
     rw[<-hX,<-iE];have HB:Hid (V.1.size<=bb):=by unfold Hid;have:=hS.1.size;omega
     replace hS:(fun Y:World=>Below V.1.size V Y/\Bx Y (w.1.size+1) (tx.iC v.ar v.cr v.ah v.ch t)/\Bx Y xb [vI x.head,vI x.g]) X:=⟨ay hS.1 bX,hS.2.1.later bX,hS.2.2.later bX⟩
     clear hX iE bX;refine hK.out _ _ (fun _=>hS) ?_;clear hK K;clear Wd;generalize X=Wd at *;refine cZ 12 rfl (fun K hK=>?_);go_simp;have cN:=tx.jC Wd v t ⟨(i:Int),(n:Int),eD x.head,x.g,aY 0 4000003 x.head&&bN x.head⟩ HK.out.2.2.1 (sw.out.sl.later hS.1) HK.out.2.2.2.2.1;simp only[tx.TV.val]at cN;obtain⟨N,hN⟩:∃N,tx.dO t ⟨(i:Int),(n:Int),eD x.head,x.g,aY 0 4000003 x.head&&bN x.head⟩=N:=⟨_,rfl⟩
     obtain⟨ok,je⟩:∃ok,tx.eT t ⟨(i:Int),(n:Int),eD x.head,x.g,aY 0 4000003 x.head&&bN x.head⟩=ok:=⟨_,rfl⟩
     rw[hN,je]at cN;refine cN.mono ?_;clear cN;rintro e X ⟨va,vc,vh,vd,PR,PS,rfl,rE,bX⟩;have HO:Hid (tx.dO t ⟨(i:Int),(n:Int),eD x.head,x.g,aY 0 4000003 x.head&&bN x.head⟩=N/\tx.eT t ⟨(i:Int),(n:Int),eD x.head,x.g,aY 0 4000003 x.head&&bN x.head⟩=ok/\V.1.size<=Wd.1.size):=⟨hN,je,hS.1.size⟩
     clear hN je;have Wj:∀q,tx.oW PR PS q->q≠bb:=fun q hq=>by have:=(rE.of hq).1;have:=xV.2.2;omega
     replace xV:=xV.later bX;replace rE:=rE.low (B':=V.1.size) (fun q hq=>by have:=(rE.of hq).1;have:=HO.out.2.2;omega);replace HO:Hid (tx.dO t ⟨(i:Int),(n:Int),eD x.head,x.g,aY 0 4000003 x.head&&bN x.head⟩=N/\tx.eT t ⟨(i:Int),(n:Int),eD x.head,x.g,aY 0 4000003 x.head&&bN x.head⟩=ok):=⟨HO.out.1,HO.out.2.1⟩
     replace hS:(fun Y:World=>Below V.1.size V Y/\Bx Y (w.1.size+1) (tx.iC v.ar v.cr v.ah v.ch t)/\Bx Y xb [vI x.head,vI x.g]) X:=⟨ay hS.1 bX,hS.2.1.later bX,hS.2.2.later bX⟩
     clear bX;refine hK.out _ _ (fun _=>hS) ?_;clear hK K;clear Wd;generalize X=Wd at *;refine cz 13 ?_ rfl ?_ hS ?_;rotate_left
     ·(intro w _;go_simp;first|done|with_reducible rfl)
     simp only[Act.put];refine cz 14 ?_ rfl ?_ hS ?_;rotate_left
     ·(intro w _;go_simp;first|done|with_reducible rfl)
     simp only[Act.put];refine cz 15 ?_ rfl ?_ hS ?_;rotate_left
     ·(intro w _;go_simp;first|done|with_reducible rfl)
     simp only[Act.put]
   case' nm=>
    go_simp;obtain⟨X,hX⟩:∃X,X=Wd.alloc (.cells #[vI 0,vI 0,vI 0,vI 0,.slice none 0 0,.slice none 0 0,vI 0] 50):=⟨_,rfl⟩
    obtain⟨bb,iE⟩:∃bb,bb=Wd.1.size:=⟨_,rfl⟩
    have bX:Below Wd.1.size Wd X:=by rw[hX];exact aJ.alloc aR _
    have xV:Bx X bb CJ:=by rw[hX,iE];exact Bx.made Wd CJ _
    rw[<-hX,<-iE];have HB:Hid (V.1.size<=bb):=by unfold Hid;have:=hS.1.size;omega
    replace hS:(fun Y:World=>Below V.1.size V Y/\Bx Y (w.1.size+1) (tx.iC v.ar v.cr v.ah v.ch t)/\Bx Y xb [vI x.head,vI x.g]) X:=⟨ay hS.1 bX,hS.2.1.later bX,hS.2.2.later bX⟩
    clear hX iE bX;refine hK.out _ _ (fun _=>hS) ?_;clear hK K;clear Wd;generalize X=Wd at *;refine cZ 10 rfl (fun K hK=>?_);go_simp;refine(kZ _ _).mono ?_;rintro e w9 ⟨rfl,rG⟩;replace rG:=rG.symm;subst rG;refine hK.out _ _ (fun _=>hS) ?_;clear hK K;refine cz 11 ?_ rfl ?_ hS ?_;rotate_left
    ·(intro w _;go_simp;first|done|with_reducible rfl)
    simp only[Act.put];refine cZ 12 rfl (fun K hK=>?_);go_simp;have cN:=tx.jC Wd v t ⟨(i:Int),(n:Int),eD x.head,x.g,aY 0 4000003 x.head&&bN x.head⟩ HK.out.2.2.1 (sw.out.sl.later hS.1) HK.out.2.2.2.2.1;simp only[tx.TV.val]at cN;obtain⟨N,hN⟩:∃N,tx.dO t ⟨(i:Int),(n:Int),eD x.head,x.g,aY 0 4000003 x.head&&bN x.head⟩=N:=⟨_,rfl⟩
    obtain⟨ok,je⟩:∃ok,tx.eT t ⟨(i:Int),(n:Int),eD x.head,x.g,aY 0 4000003 x.head&&bN x.head⟩=ok:=⟨_,rfl⟩
    rw[hN,je]at cN;refine cN.mono ?_;clear cN;rintro e X ⟨va,vc,vh,vd,PR,PS,rfl,rE,bX⟩;have HO:Hid (tx.dO t ⟨(i:Int),(n:Int),eD x.head,x.g,aY 0 4000003 x.head&&bN x.head⟩=N/\tx.eT t ⟨(i:Int),(n:Int),eD x.head,x.g,aY 0 4000003 x.head&&bN x.head⟩=ok/\V.1.size<=Wd.1.size):=⟨hN,je,hS.1.size⟩
    clear hN je;have Wj:∀q,tx.oW PR PS q->q≠bb:=fun q hq=>by have:=(rE.of hq).1;have:=xV.2.2;omega
    replace xV:=xV.later bX;replace rE:=rE.low (B':=V.1.size) (fun q hq=>by have:=(rE.of hq).1;have:=HO.out.2.2;omega);replace HO:Hid (tx.dO t ⟨(i:Int),(n:Int),eD x.head,x.g,aY 0 4000003 x.head&&bN x.head⟩=N/\tx.eT t ⟨(i:Int),(n:Int),eD x.head,x.g,aY 0 4000003 x.head&&bN x.head⟩=ok):=⟨HO.out.1,HO.out.2.1⟩
    replace hS:(fun Y:World=>Below V.1.size V Y/\Bx Y (w.1.size+1) (tx.iC v.ar v.cr v.ah v.ch t)/\Bx Y xb [vI x.head,vI x.g]) X:=⟨ay hS.1 bX,hS.2.1.later bX,hS.2.2.later bX⟩
    clear bX;refine hK.out _ _ (fun _=>hS) ?_;clear hK K;clear Wd;generalize X=Wd at *;refine cz 13 ?_ rfl ?_ hS ?_;rotate_left
    ·(intro w _;go_simp;first|done|with_reducible rfl)
    simp only[Act.put];refine cz 14 ?_ rfl ?_ hS ?_;rotate_left
    ·(intro w _;go_simp;first|done|with_reducible rfl)
    simp only[Act.put];refine cz 15 ?_ rfl ?_ hS ?_;rotate_left
    ·(intro w _;go_simp;first|done|with_reducible rfl)
    simp only[Act.put]
  case' nj=>
   go_simp;obtain⟨X,hX⟩:∃X,X=Wd.alloc (.cells #[vI 0,vI 0,vI 0,vI 0,.slice none 0 0,.slice none 0 0,vI 0] 50):=⟨_,rfl⟩
   obtain⟨bb,iE⟩:∃bb,bb=Wd.1.size:=⟨_,rfl⟩
   have bX:Below Wd.1.size Wd X:=by rw[hX];exact aJ.alloc aR _
   have xV:Bx X bb CJ:=by rw[hX,iE];exact Bx.made Wd CJ _
   rw[<-hX,<-iE];have HB:Hid (V.1.size<=bb):=by unfold Hid;have:=hS.1.size;omega
   replace hS:(fun Y:World=>Below V.1.size V Y/\Bx Y (w.1.size+1) (tx.iC v.ar v.cr v.ah v.ch t)/\Bx Y xb [vI x.head,vI x.g]) X:=⟨ay hS.1 bX,hS.2.1.later bX,hS.2.2.later bX⟩
   clear hX iE bX;refine hK.out _ _ (fun _=>hS) ?_;clear hK K;clear Wd;generalize X=Wd at *;refine cZ 5 rfl (fun K hK=>?_);go_simp;refine(oU _ _).mono ?_;rintro e w9 ⟨rfl,rG⟩;replace rG:=rG.symm;subst rG;refine hK.out _ _ (fun _=>hS) ?_;clear hK K;refine cZ 10 rfl (fun K hK=>?_);go_simp;refine(kZ _ _).mono ?_;rintro e w9 ⟨rfl,rG⟩;replace rG:=rG.symm;subst rG;refine hK.out _ _ (fun _=>hS) ?_;clear hK K;refine cz 11 ?_ rfl ?_ hS ?_;rotate_left
   ·(intro w _;go_simp;first|done|with_reducible rfl)
   simp only[Act.put];refine cZ 12 rfl (fun K hK=>?_);go_simp;have cN:=tx.jC Wd v t ⟨(i:Int),(n:Int),eD x.head,x.g,aY 0 4000003 x.head&&bN x.head⟩ HK.out.2.2.1 (sw.out.sl.later hS.1) HK.out.2.2.2.2.1;simp only[tx.TV.val]at cN;obtain⟨N,hN⟩:∃N,tx.dO t ⟨(i:Int),(n:Int),eD x.head,x.g,aY 0 4000003 x.head&&bN x.head⟩=N:=⟨_,rfl⟩
   obtain⟨ok,je⟩:∃ok,tx.eT t ⟨(i:Int),(n:Int),eD x.head,x.g,aY 0 4000003 x.head&&bN x.head⟩=ok:=⟨_,rfl⟩
   rw[hN,je]at cN;refine cN.mono ?_;clear cN;rintro e X ⟨va,vc,vh,vd,PR,PS,rfl,rE,bX⟩;have HO:Hid (tx.dO t ⟨(i:Int),(n:Int),eD x.head,x.g,aY 0 4000003 x.head&&bN x.head⟩=N/\tx.eT t ⟨(i:Int),(n:Int),eD x.head,x.g,aY 0 4000003 x.head&&bN x.head⟩=ok/\V.1.size<=Wd.1.size):=⟨hN,je,hS.1.size⟩
   clear hN je;have Wj:∀q,tx.oW PR PS q->q≠bb:=fun q hq=>by have:=(rE.of hq).1;have:=xV.2.2;omega
   replace xV:=xV.later bX;replace rE:=rE.low (B':=V.1.size) (fun q hq=>by have:=(rE.of hq).1;have:=HO.out.2.2;omega);replace HO:Hid (tx.dO t ⟨(i:Int),(n:Int),eD x.head,x.g,aY 0 4000003 x.head&&bN x.head⟩=N/\tx.eT t ⟨(i:Int),(n:Int),eD x.head,x.g,aY 0 4000003 x.head&&bN x.head⟩=ok):=⟨HO.out.1,HO.out.2.1⟩
   replace hS:(fun Y:World=>Below V.1.size V Y/\Bx Y (w.1.size+1) (tx.iC v.ar v.cr v.ah v.ch t)/\Bx Y xb [vI x.head,vI x.g]) X:=⟨ay hS.1 bX,hS.2.1.later bX,hS.2.2.later bX⟩
   clear bX;refine hK.out _ _ (fun _=>hS) ?_;clear hK K;clear Wd;generalize X=Wd at *;refine cz 13 ?_ rfl ?_ hS ?_;rotate_left
   ·(intro w _;go_simp;first|done|with_reducible rfl)
   simp only[Act.put];refine cz 14 ?_ rfl ?_ hS ?_;rotate_left
   ·(intro w _;go_simp;first|done|with_reducible rfl)
   simp only[Act.put];refine cz 15 ?_ rfl ?_ hS ?_;rotate_left
   ·(intro w _;go_simp;first|done|with_reducible rfl)
   simp only[Act.put]
  all_goals
   have c0:=xV.1 0 _ rfl;have f0:=xV.2.1 0;have c1:=xV.1 1 _ rfl;have f1:=xV.2.1 1;have c2:=xV.1 2 _ rfl;have f2:=xV.2.1 2;have c3:=xV.1 3 _ rfl;have f3:=xV.2.1 3;have c4:=xV.1 4 _ rfl;have f4:=xV.2.1 4;have c5:=xV.1 5 _ rfl;have f5:=xV.2.1 5;have c6:=xV.1 6 _ rfl;have f6:=xV.2.1 6;refine cZ 17 rfl (fun K hK=>?_);go_simp;refine hK.out _ _ (fun h=>absurd (show false=true from h.symm.trans (by kernel_rfl)) (by decide)) ?_;clear hK K;refine cZ 18 rfl (fun K hK=>?_);go_simp;refine hK.out _ _ (fun h=>absurd (show false=true from h.symm.trans (by kernel_rfl)) (by decide)) ?_;clear hK K;refine dL (by kernel_rfl) ?_ _;clear c0 c1 c2 c3 c4 c5 c6 f0 f1 f2 f3 f4 f5 f6;obtain⟨Y,hY⟩:∃Y,Y=di Wd bb 0 (tx.iC va vc vh vd N):=⟨_,rfl⟩
   have yb:=xV.put (tx.iC va vc vh vd N) rfl;rw[<-hY]at yb;have qN:Y=(((((((Wd.setCell ⟨bb,0,none⟩ (vI N.id)).setCell ⟨bb,1,none⟩ (vI N.o)).setCell ⟨bb,2,none⟩ (vI N.q)).setCell ⟨bb,3,none⟩ (vI N.v)).setCell ⟨bb,4,none⟩ (.slice va N.a.length vc)).setCell ⟨bb,5,none⟩ (.slice vh N.ag.length vd)).setCell ⟨bb,6,none⟩ (vI N.aA)):=hY;rw[<-qN];have dQ:Y.1.size=Wd.1.size:=by rw[hY];exact bf _ _ _ _
   have dZ:∀q,q≠bb->Y.1[q]?=Wd.1[q]?:=fun q hq=>by rw[hY];exact aV hq _ _ _
   have bY:Below V.1.size V Y:=by rw[hY];exact aU HB.out _ _ _ hS.1
   have mD:Hid (JD w Y a1 c1 a2 c2 a3 c3 k v t):=sw.out.later bY;have Ou:Hid (tx.OT Y V.1.size ⟨va,vc,vh,vd⟩ N PR PS/\Bx Y bb (tx.iC va vc vh vd N)/\V.1.size<=bb):=⟨rE.aQ (Nat.le_of_eq dQ.symm) (fun q _ hq=>dZ q (Wj q hq)),yb,HB.out⟩
   clear qN hY yb dQ dZ bY rE Wj hS xV HB;by_cases je:ok=true;rotate_left
   ·have V7:ok=false:=by simpa using je
    have HC:Hid (uV k t (i:Int) (n:Int)=t/\rW k t (i:Int) (n:Int)=0/\qo k t (i:Int) (n:Int)=9):=NF DF.out (by rw[RI.out.2,Ls,HO.out.2,V7];rfl) (by decide);subst V7;clear je;have p0:=mD.out.bt.1 0 _ rfl;have c0:=mD.out.bz.1 0 _ rfl;have f0:=mD.out.bz.2.1 0;have p1:=mD.out.bt.1 1 _ rfl;have c1:=mD.out.bz.1 1 _ rfl;have f1:=mD.out.bz.2.1 1;have p2:=mD.out.bt.1 2 _ rfl;have c2:=mD.out.bz.1 2 _ rfl;have f2:=mD.out.bz.2.1 2;have p3:=mD.out.bt.1 3 _ rfl;have c3:=mD.out.bz.1 3 _ rfl;have f3:=mD.out.bz.2.1 3;have p4:=mD.out.bt.1 4 _ rfl;have c4:=mD.out.bz.1 4 _ rfl;have f4:=mD.out.bz.2.1 4;have p5:=mD.out.bt.1 5 _ rfl;have c5:=mD.out.bz.1 5 _ rfl;have f5:=mD.out.bz.2.1 5;have p6:=mD.out.bt.1 6 _ rfl;have c6:=mD.out.bz.1 6 _ rfl;have f6:=mD.out.bz.2.1 6;have xz:=mD.out.bz;have zb:=xz.put (tx.iC v.ar v.cr v.ah v.ch t) rfl;obtain⟨Z,hZ⟩:∃Z,Z=di Y (w.1.size+2) 0 (tx.iC v.ar v.cr v.ah v.ch t):=⟨_,rfl⟩
    rw[<-hZ]at zb;have HZ:Hid (Z=(((((((Y.setCell ⟨w.1.size+2,0,none⟩ (vI t.id)).setCell ⟨w.1.size+2,1,none⟩ (vI t.o)).setCell ⟨w.1.size+2,2,none⟩ (vI t.q)).setCell ⟨w.1.size+2,3,none⟩ (vI t.v)).setCell ⟨w.1.size+2,4,none⟩ (.slice v.ar t.a.length v.cr)).setCell ⟨w.1.size+2,5,none⟩ (.slice v.ah t.ag.length v.ch)).setCell ⟨w.1.size+2,6,none⟩ (vI t.aA))):=hZ;have bZ:Below w.1.size w Z:=by rw[hZ];exact aU (by omega) _ _ _ mD.out.sP
    have KE:Hid (Ox w v t (uV k t (i:Int) (n:Int)) (rW k t (i:Int) (n:Int)) (qo k t (i:Int) (n:Int)) (.returned (.tuple #[.agg #[vI t.id,vI t.o,vI t.q,vI t.v,.slice v.ar t.a.length v.cr,.slice v.ah t.ag.length v.ch,vI t.aA],vI 0,vI 9])) Z):=by
     unfold Hid;rw[HC.out.1,HC.out.2.1,HC.out.2.2];exact⟨v,rfl,bZ,.inl ⟨rfl,rfl⟩⟩
    have z0:=zb.1 0 _ rfl;have z1:=zb.1 1 _ rfl;have z2:=zb.1 2 _ rfl;have z3:=zb.1 3 _ rfl;have z4:=zb.1 4 _ rfl;have z5:=zb.1 5 _ rfl;have z6:=zb.1 6 _ rfl;clear hZ zb bZ xz;go_wp2;rw[<-HZ.out];exact bodyPost_ret (v:=.tuple #[.agg #[vI t.id,vI t.o,vI t.q,vI t.v,.slice v.ar t.a.length v.cr,.slice v.ah t.ag.length v.ch,vI t.aA],vI 0,vI 9]) (by simp[results,Tryz.results17,go_sem,z0,z1,z2,z3,z4,z5,z6]) rfl KE.out
   subst je;have y0:=Ou.out.2.1.1 0 _ rfl;have g0:=mD.out.bt.1 0 _ rfl;have f0:=mD.out.bt.2.1 0;have y1:=Ou.out.2.1.1 1 _ rfl;have g1:=mD.out.bt.1 1 _ rfl;have f1:=mD.out.bt.2.1 1;have y2:=Ou.out.2.1.1 2 _ rfl;have g2:=mD.out.bt.1 2 _ rfl;have f2:=mD.out.bt.2.1 2;have y3:=Ou.out.2.1.1 3 _ rfl;have g3:=mD.out.bt.1 3 _ rfl;have f3:=mD.out.bt.2.1 3;have y4:=Ou.out.2.1.1 4 _ rfl;have g4:=mD.out.bt.1 4 _ rfl;have f4:=mD.out.bt.2.1 4;have y5:=Ou.out.2.1.1 5 _ rfl;have g5:=mD.out.bt.1 5 _ rfl;have f5:=mD.out.bt.2.1 5;have y6:=Ou.out.2.1.1 6 _ rfl;have g6:=mD.out.bt.1 6 _ rfl;have f6:=mD.out.bt.2.1 6;obtain⟨Z,hZ⟩:∃Z,Z=di Y (w.1.size+1) 0 (tx.iC va vc vh vd N):=⟨_,rfl⟩
   have zb:=mD.out.bt.put (tx.iC va vc vh vd N) rfl;rw[<-hZ]at zb;have HZ:Hid (Z=(((((((Y.setCell ⟨w.1.size+1,0,none⟩ (vI N.id)).setCell ⟨w.1.size+1,1,none⟩ (vI N.o)).setCell ⟨w.1.size+1,2,none⟩ (vI N.q)).setCell ⟨w.1.size+1,3,none⟩ (vI N.v)).setCell ⟨w.1.size+1,4,none⟩ (.slice va N.a.length vc)).setCell ⟨w.1.size+1,5,none⟩ (.slice vh N.ag.length vd)).setCell ⟨w.1.size+1,6,none⟩ (vI N.aA))):=hZ;have zs:Z.1.size=Y.1.size:=by rw[hZ];exact bf _ _ _ _
   have zf:∀q,q≠w.1.size+1->Z.1[q]?=Y.1[q]?:=fun q hq=>by rw[hZ];exact aV hq _ _ _
   have bZ:Below w.1.size w Z:=by rw[hZ];exact aU (by omega) _ _ _ mD.out.sP
   have fL:=sw.out.sz;have SS:tx.OT Z V.1.size ⟨va,vc,vh,vd⟩ N PR PS:=Ou.out.1.aQ (Nat.le_of_eq zs.symm) (fun q _ hq=>zf q (by have:=(Ou.out.1.of hq).1;omega));have Yo:Hid (JD w Z a1 c1 a2 c2 a3 c3 k ⟨va,vc,vh,vd⟩ N):=⟨bZ,mD.out.bc.aj (zf _ (by omega)) (Nat.le_of_eq zs.symm),zb,mD.out.bz.aj (zf _ (by omega)) (Nat.le_of_eq zs.symm),HK.out.2.2.2.2.2.2.2.2.later bZ,SS.sl,by rw[zs];exact mD.out.sz⟩
   have YO:N.a.length<=13:=by have:=tx.LZ t ⟨(i:Int),(n:Int),eD x.head,x.g,aY 0 4000003 x.head&&bN x.head⟩;rw[HO.out.1]at this;omega
   have Py:=tx.Gh (n:=⟨(i:Int),(n:Int),eD x.head,x.g,aY 0 4000003 x.head&&bN x.head⟩) RJ.out.2.2.2 HO.out.2;rw[HO.out.1]at Py;obtain⟨j,hj⟩:=Option.isSome_iff_exists.1 Py.1;have OH:tx.jB N.a (i:Int) (n:Int)=some j:=hj
   have bg:tx.au N.a j=⟨(i:Int),(n:Int),eD x.head,x.g,aY 0 4000003 x.head&&bN x.head⟩:=by
    have:=Py.2.1;rw[tx.Jp,hj]at this;exact this
   have HC:=aB (Hl (u:=(tx.au N.a j).i) (x:=(tx.au N.a j).g) (N:=N) DF.out (by rw[RI.out.2,Ls,HO.out.2];rfl) (by rw[Ov.out.2.1,RJ.out.2.1,RI.out.1,HO.out.1]) (by rw[Ov.out.2.2.2,RJ.out.2.2.1,RI.out.1,bg]) (by rw[Ov.out.2.2.1,RJ.out.2.2.1,RI.out.1,bg]));have Ev:j<N.a.length:=(List.findIdx?_eq_some_iff_getElem.1 OH).1;have XC:=tx.rO Z ⟨va,vc,vh,vd⟩ N (i:Int) (n:Int) (by omega) Yo.out.sl;simp only[tx.TV.val]at XC;have QZ:tx.jR N.a (i:Int) (n:Int)=(j:Int):=by rw[tx.jR,OH]
   rw[QZ]at XC;have Vj:Hid (tx.OT Z V.1.size ⟨va,vc,vh,vd⟩ N PR PS/\w.1.size+3<=V.1.size/\N.a.length<=13/\j<N.a.length):=⟨SS,fL,YO,Ev⟩
   have z0:=zb.1 0 _ rfl;have z1:=zb.1 1 _ rfl;have z2:=zb.1 2 _ rfl;have z3:=zb.1 3 _ rfl;have z4:=zb.1 4 _ rfl;have z5:=zb.1 5 _ rfl;have z6:=zb.1 6 _ rfl;rw[HZ.out]at z0 z1 z2 z3 z4 z5 z6;clear hZ zb zs zf bZ fL SS YO Py hj OH bg QZ Ev;go_wp2_with fail;rw[<-HZ.out];clear y0 y1 y2 y3 y4 y5 y6 g0 g1 g2 g3 g4 g5 g6 f0 f1 f2 f3 f4 f5 f6 z0 z1 z2 z3 z4 z5 z6;refine XC.mono ?_;clear XC;rintro e X ⟨rfl,bX⟩
   have Vh:Hid (Xx w X a1 c1 a2 c2 a3 c3 k v t (i:Int) (n:Int) ⟨va,vc,vh,vd⟩ N j):=by
    have ho:=Vj.out.1.later bX;have h3:=Vj.out.2.1;have h4:=Vj.out.2.2.2;refine⟨Yo.out.later bX,HC.out.1,HC.out.2.2,HC.out.2.1,.inr ⟨PR,PS,ho.low (fun q hq=>by have:=(ho.of hq).1;omega),fun q hq=>by have:=(ho.of hq).1;omega⟩,h4,by have:=Vj.out.2.2.1;omega,?_⟩;rcases ho.r with h|⟨b,h1,hp,_,h2,_⟩
    ·rw[h]at h4;simp at h4
    ·exact⟨b,0,h1,by have:=(ho.rB b hp).1;omega,h2⟩
   obtain⟨u,N,HF⟩:∃u N',Hid (Xx w X a1 c1 a2 c2 a3 c3 k v t (i:Int) (n:Int) u N' j):=⟨_,_,Vh⟩
   clear Vh HC Vj Yo HO Ou mD bX;have dj:decide ((j:Int)<0)=false:=by simp
 all_goals
  have YO:=HF.out.2.2.2.2.2.2.1;have Ev:=HF.out.2.2.2.2.2.1;obtain⟨b,off,ha,Ak,kH⟩:=HF.out.2.2.2.2.2.2.2;have Yl:Hid (b≠w.1.size+2):=Ak;have UA:=aB ha;have bg:=kH j _ (tx.fE Ev);have x1:=HF.out.1.bt;rw[ha]at x1;have e3:=bg.c3;have e4:=bg.c4;have p4:=x1.1 4 _ rfl;have jn:(j:Int)<(N.a.length:Int):=by omega
  obtain⟨val,vG⟩:∃x,(tx.au N.a j).g=x:=⟨_,rfl⟩
  rw[vG]at e3;have HV:=aB vG;have gb:=aB e3;clear ha Ak kH bg vG e3;by_cases hu:(tx.au N.a j).i=true;rotate_left
  ·have PO:(tx.au N.a j).i=false:=by simpa using hu
   rw[PO]at e4;have Cr:Hid (rW k t (i:Int) (n:Int)=0/\qo k t (i:Int) (n:Int)=8):=⟨by rw[HF.out.2.2.2.1,PO];rfl,by rw[HF.out.2.2.1,PO];rfl⟩
   clear hu PO;have p0:=x1.1 0 _ rfl;have c0:=HF.out.1.bz.1 0 _ rfl;have f0:=HF.out.1.bz.2.1 0;have p1:=x1.1 1 _ rfl;have c1:=HF.out.1.bz.1 1 _ rfl;have f1:=HF.out.1.bz.2.1 1;have p2:=x1.1 2 _ rfl;have c2:=HF.out.1.bz.1 2 _ rfl;have f2:=HF.out.1.bz.2.1 2;have p3:=x1.1 3 _ rfl;have c3:=HF.out.1.bz.1 3 _ rfl;have f3:=HF.out.1.bz.2.1 3;have p4:=x1.1 4 _ rfl;have c4:=HF.out.1.bz.1 4 _ rfl;have f4:=HF.out.1.bz.2.1 4;have p5:=x1.1 5 _ rfl;have c5:=HF.out.1.bz.1 5 _ rfl;have f5:=HF.out.1.bz.2.1 5;have p6:=x1.1 6 _ rfl;have c6:=HF.out.1.bz.1 6 _ rfl;have f6:=HF.out.1.bz.2.1 6;have xz:=HF.out.1.bz;have zb:=xz.put (tx.iC (some ⟨b,off,none⟩) u.cr u.ah u.ch N) rfl;obtain⟨Z,hZ⟩:∃Z,Z=di X (w.1.size+2) 0 (tx.iC (some ⟨b,off,none⟩) u.cr u.ah u.ch N):=⟨_,rfl⟩
   rw[<-hZ]at zb;have HZ:Hid (Z=(((((((X.setCell ⟨w.1.size+2,0,none⟩ (vI N.id)).setCell ⟨w.1.size+2,1,none⟩ (vI N.o)).setCell ⟨w.1.size+2,2,none⟩ (vI N.q)).setCell ⟨w.1.size+2,3,none⟩ (vI N.v)).setCell ⟨w.1.size+2,4,none⟩ (.slice (some ⟨b,off,none⟩) N.a.length u.cr)).setCell ⟨w.1.size+2,5,none⟩ (.slice u.ah N.ag.length u.ch)).setCell ⟨w.1.size+2,6,none⟩ (vI N.aA))):=hZ;have bZ:Below w.1.size w Z:=by rw[hZ];exact aU (by omega) _ _ _ HF.out.1.sP
   have KE:Hid (Ox w v t (uV k t (i:Int) (n:Int)) (rW k t (i:Int) (n:Int)) (qo k t (i:Int) (n:Int)) (.returned (.tuple #[.agg #[vI N.id,vI N.o,vI N.q,vI N.v,.slice (some ⟨b,off,none⟩) N.a.length u.cr,.slice u.ah N.ag.length u.ch,vI N.aA],vI 0,vI 8])) Z):=by
    unfold Hid;rw[HF.out.2.1,Cr.out.1,Cr.out.2];refine⟨u,by simp only[tx.TV.val,UA.out],bZ,?_⟩;rcases HF.out.2.2.2.2.1 with h|⟨PR,PS,h1,h2⟩
    ·exact .inl h
    ·exact .inr ⟨PR,PS,h1.aQ (by rw[hZ,bf];exact Nat.le_refl _) (fun q _ hq=>by rw[hZ];exact aV (by have:=h2 q hq;omega) _ _ _)⟩
   have z0:=zb.1 0 _ rfl;have z1:=zb.1 1 _ rfl;have z2:=zb.1 2 _ rfl;have z3:=zb.1 3 _ rfl;have z4:=zb.1 4 _ rfl;have z5:=zb.1 5 _ rfl;have z6:=zb.1 6 _ rfl;clear hZ zb bZ xz;go_wp2;rw[<-HZ.out];exact bodyPost_ret (v:=.tuple #[.agg #[vI N.id,vI N.o,vI N.q,vI N.v,.slice (some ⟨b,off,none⟩) N.a.length u.cr,.slice u.ah N.ag.length u.ch,vI N.aA],vI 0,vI 8]) (by simp[results,Tryz.results17,go_sem,z0,z1,z2,z3,z4,z5,z6]) rfl KE.out
  ·rw[hu]at e4;have Cr:Hid (rW k t (i:Int) (n:Int)=val/\qo k t (i:Int) (n:Int)=0):=⟨by rw[HF.out.2.2.2.1,hu,HV.out];rfl,by rw[HF.out.2.2.1,hu];rfl⟩
   clear hu;have bD:Below X.1.size X X.drew:=aJ.drew;have BD:=aB bD;have hS:(fun Y:World=>Bx Y (w.1.size+1) (tx.iC (some ⟨b,off,none⟩) u.cr u.ah u.ch N)/\Y.cell? ⟨b,off+j*5+3,none⟩=some (vI val)) X.drew:=⟨x1.later bD,gb.out⟩
   have gg:Hid (Bx X (w.1.size+1) (tx.iC (some ⟨b,off,none⟩) u.cr u.ah u.ch N)):=x1;clear bD x1;go_wp2_with fail;refine bu (fun _=>false) (fun Y:World=>Bx Y (w.1.size+1) (tx.iC (some ⟨b,off,none⟩) u.cr u.ah u.ch N)/\Y.cell? ⟨b,off+j*5+3,none⟩=some (vI val)) (by kernel_rfl) ?_;generalize X.drew=D at *;refine jg 0 (.agg #[vI N.id,vI N.o,vI N.q,vI N.v,.slice (some ⟨b,off,none⟩) N.a.length u.cr,.slice u.ah N.ag.length u.ch,vI N.aA]) rfl ?_ hS ?_
   ·(intro w aG;have q0:=aG.1.1 0 _ rfl;have q1:=aG.1.1 1 _ rfl;have q2:=aG.1.1 2 _ rfl;have q3:=aG.1.1 3 _ rfl;have q4:=aG.1.1 4 _ rfl;have q5:=aG.1.1 5 _ rfl;have q6:=aG.1.1 6 _ rfl;clear hS aG;go_simp)
   simp only[Act.put];refine cz 1 ?_ rfl ?_ hS ?_;rotate_left
   ·(intro w _;go_simp;first|done|with_reducible rfl)
   simp only[Act.put];refine jg 2 (.slice (some ⟨b,off,none⟩) N.a.length u.cr) rfl ?_ hS ?_
   ·(intro w aG;have q4:=aG.1.1 4 _ rfl;clear hS aG;go_simp)
   simp only[Act.put];refine cz 3 ?_ rfl ?_ hS ?_;rotate_left
   ·(intro w _;go_simp;first|done|with_reducible rfl)
   simp only[Act.put];refine cz 4 (.pointer (some ⟨b,off+j*5,none⟩)) rfl ?_ hS ?_
   ·(intro w _;go_simp;first|done|(rw[if_pos (by omega)]))
   simp only[Act.put];refine cz 5 (.pointer (some ⟨b,off+j*5+3,none⟩)) rfl ?_ hS ?_
   ·(intro w _;go_simp)
   simp only[Act.put];refine jg 6 (vI val) rfl ?_ hS ?_
   ·(intro w aG;have q:=aG.2;clear hS aG;go_simp)
   simp only[Act.put];have xr:=HF.out.1.bz.later BD.out;have c0:=xr.1 0 _ rfl;have f0:=xr.2.1 0;have c1:=xr.1 1 _ rfl;have f1:=xr.2.1 1;have c2:=xr.1 2 _ rfl;have f2:=xr.2.1 2;have c3:=xr.1 3 _ rfl;have f3:=xr.2.1 3;have c4:=xr.1 4 _ rfl;have f4:=xr.2.1 4;have c5:=xr.1 5 _ rfl;have f5:=xr.2.1 5;have c6:=xr.1 6 _ rfl;have f6:=xr.2.1 6;obtain⟨Z,hZ⟩:∃Z,Z=di D (w.1.size+2) 0 (tx.iC (some ⟨b,off,none⟩) u.cr u.ah u.ch N):=⟨_,rfl⟩
   have zb:=xr.put (tx.iC (some ⟨b,off,none⟩) u.cr u.ah u.ch N) rfl;rw[<-hZ]at zb;have OZ:Hid (Z=(((((((D.setCell ⟨w.1.size+2,0,none⟩ (vI N.id)).setCell ⟨w.1.size+2,1,none⟩ (vI N.o)).setCell ⟨w.1.size+2,2,none⟩ (vI N.q)).setCell ⟨w.1.size+2,3,none⟩ (vI N.v)).setCell ⟨w.1.size+2,4,none⟩ (.slice (some ⟨b,off,none⟩) N.a.length u.cr)).setCell ⟨w.1.size+2,5,none⟩ (.slice u.ah N.ag.length u.ch)).setCell ⟨w.1.size+2,6,none⟩ (vI N.aA))):=hZ;have hf:∀q,q≠w.1.size+2->Z.1[q]?=D.1[q]?:=fun q hq=>by rw[hZ];exact aV hq _ _ _
   have jo:(fun Y:World=>Bx Y (w.1.size+1) (tx.iC (some ⟨b,off,none⟩) u.cr u.ah u.ch N)/\Y.cell? ⟨b,off+j*5+3,none⟩=some (vI val)) Z:=⟨hS.1.aj (hf _ (by omega)) (by rw[hZ,bf];exact Nat.le_refl _),(World.cell?_of_block (a:=⟨b,off+j*5+3,none⟩) (hf b Yl.out)).trans hS.2⟩
   have mV:=aB jo;have bZ:Below w.1.size w Z:=by rw[hZ];exact aU (by omega) _ _ _ (ay HF.out.1.sP BD.out)
   have KE:Hid (Ox w v t (uV k t (i:Int) (n:Int)) (rW k t (i:Int) (n:Int)) (qo k t (i:Int) (n:Int)) (.returned (.tuple #[.agg #[vI N.id,vI N.o,vI N.q,vI N.v,.slice (some ⟨b,off,none⟩) N.a.length u.cr,.slice u.ah N.ag.length u.ch,vI N.aA],vI val,vI 0])) Z):=by
    unfold Hid;rw[HF.out.2.1,Cr.out.1,Cr.out.2];refine⟨u,by simp only[tx.TV.val,UA.out],bZ,?_⟩;rcases HF.out.2.2.2.2.1 with h|⟨PR,PS,h1,h2⟩
    ·exact .inl h
    ·exact .inr ⟨PR,PS,(h1.later BD.out).aQ (by rw[hZ,bf];exact Nat.le_refl _) (fun q _ hq=>by rw[hZ];exact aV (by have:=h2 q hq;omega) _ _ _)⟩
   have z0:=zb.1 0 _ rfl;have z1:=zb.1 1 _ rfl;have z2:=zb.1 2 _ rfl;have z3:=zb.1 3 _ rfl;have z4:=zb.1 4 _ rfl;have z5:=zb.1 5 _ rfl;have z6:=zb.1 6 _ rfl;clear hZ jo hf zb xr bZ;refine cZ 7 rfl (fun K hK=>?_);go_simp;rw[<-OZ.out];refine hK.out _ _ (fun _=>mV.out) ?_;clear hK K hS c0 f0 c1 f1 c2 f2 c3 f3 c4 f4 c5 f5 c6 f6;refine cZ 8 rfl (fun K hK=>?_);go_simp;refine hK.out _ _ (fun _=>mV.out) ?_;clear hK K;refine cZ 9 rfl (fun K hK=>?_);go_simp;refine hK.out _ _ (fun _=>mV.out) ?_;clear hK K;refine dL (by kernel_rfl) ?_ _;go_wp2;exact bodyPost_ret (v:=.tuple #[.agg #[vI N.id,vI N.o,vI N.q,vI N.v,.slice (some ⟨b,off,none⟩) N.a.length u.cr,.slice u.ah N.ag.length u.ch,vI N.aA],vI val,vI 0]) (by simp[results,Tryz.results17,go_sem,z0,z1,z2,z3,z4,z5,z6]) rfl KE.out
end
theorem cu.P9{c s:Nat}{w X:World}(h:cu c w X)(hs:w.1.size<=s)(i:Nat)(cs:List Value):cu c w (di X s i cs):=by
 have zo:Below 0 X (di X s i cs):=aU (Nat.zero_le _) _ _ _ aJ;exact⟨zo.os.trans h.os,zo.tape.trans h.tape,zo.output.trans h.output,by rw[bf];exact h.size,fun q hq hc=>(aV (by omega) _ _ _).trans (h.block q hq hc)⟩
def Yi(X:World)(b:Nat)(v:Int)(k:C6)(n:Int)(e:Ending)(w':World):Prop:=∃(a1:Option Addr) (c1:Nat) (a2:Option Addr) (c2:Nat) (a3:Option Addr) (c3:Nat) (P:Nat->Prop),e=.returned (.tuple #[.agg #[vI k.u,vI k.l,.slice a1 k.f.length c1,.slice a2 k.aa.length c2,.slice a3 k.c.length c3,.bool k.w],vI n])/\bK.Ow w' X.1.size a1 c1 a2 c2 a3 c3 k P/\cu b X w'/\w'.cell? ⟨b,0,none⟩=some (vI v)
theorem JR(w:World)(b1 b2 b3 b4 b5:Nat)(v:Int)(k:C6)(n:Int)(hg:HG w)(h5:b5<w.1.size)(j1:b5≠0)
  (hC:∀X,X=(w.alloc (.cells #[vI 0,vI 0,.slice none 0 0,.slice none 0 0,.slice none 0 0,.bool false] 32)).alloc (.cells #[vI 0] 2)->Calls Tryz.prog 22 #[.pointer (some ⟨b1,0,none⟩),.pointer (some ⟨b2,0,none⟩),.pointer (some ⟨b3,0,none⟩),.pointer (some ⟨b4,0,none⟩),.pointer (some ⟨b5,0,none⟩)] X (QE X b5 v k n)):
  Calls Tryz.prog 21 #[.func (.func 22) #[] #[.pointer (some ⟨b1,0,none⟩),.pointer (some ⟨b2,0,none⟩),.pointer (some ⟨b3,0,none⟩),.pointer (some ⟨b4,0,none⟩),.pointer (some ⟨b5,0,none⟩)]] w (Yi w b5 v k n):=by
 have lf:∀(fn:Fn) (first cap:Array Value) (w:World),(Instr.makeFunc fn first cap).run Tryz.prog w=.ok (.func fn first cap) w:=fun _ _ _ _=>rfl
 obtain⟨W1,ja⟩:∃X,X=(w.alloc (.cells #[vI 0,vI 0,.slice none 0 0,.slice none 0 0,.slice none 0 0,.bool false] 32)).alloc (.cells #[vI 0] 2):=⟨_,rfl⟩
 have hc:=hC W1 ja;have b1':Below w.1.size w W1:=by rw[ja];exact(aJ.alloc aR _).alloc (by simp) _
 have s1:W1.1.size=w.1.size+2:=by rw[ja];simp
 have x0:Bx W1 w.1.size kv:=by
  have:=(Bx.made w kv 32).later (aJ.alloc aR (.cells #[vI 0] 2));rw[ja];exact this
 have x1:Bx W1 (w.1.size+1) [vI 0]:=by
  have h:=Bx.made (w.alloc (.cells #[vI 0,vI 0,.slice none 0 0,.slice none 0 0,.slice none 0 0,.bool false] 32)) [vI 0] 2;rw[show(w.alloc (.cells #[vI 0,vI 0,.slice none 0 0,.slice none 0 0,.slice none 0 0,.bool false] 32)).1.size=w.1.size+1 by simp]at h;rw[ja];exact h
 have K:Hid (Below w.1.size w W1/\W1.1.size=w.1.size+2/\Bx W1 w.1.size kv/\Bx W1 (w.1.size+1) [vI 0]/\HG W1):=⟨b1',s1,x0,x1,hg.later b1'⟩
 clear b1' s1 x0 x1 hC hg;go_enter_defers Tryz.func21,Tryz.ntmps21;go_wp2_with fail;rw[<-ja];clear ja;refine hc.mono ?_;clear hc;rintro e w2 ⟨a1,c1,a2,c2,a3,c3,P,YZ,how,t2,v2⟩;obtain⟨k1,k2,k3,k4,k5⟩:=K.out;have y0:=k3.aj (t2.block _ k3.2.2 (by omega)) t2.size;have y1:=k4.aj (t2.block _ k4.2.2 (by omega)) t2.size;have UM:=((cu.refl b5 w).dK k1).trans t2;have XU:=t2.size;have AB:HG w2:=(World.cell?_of_block (a:=⟨0,0,none⟩) (t2.block 0 (by omega) (fun e=>j1 e.symm))).trans k5;rcases YZ with ⟨rfl,rfl⟩|⟨hn,rfl⟩
 ·obtain⟨Y,hY⟩:∃Y,Y=(di w2 w.1.size 0 (dJ a1 c1 a2 c2 a3 c3 k)).setCell ⟨w.1.size+1,0,none⟩ (vI 0):=⟨_,rfl⟩
  have KE:Hid (Yi w b5 v k 0 (.returned (.tuple #[.agg #[vI k.u,vI k.l,.slice a1 k.f.length c1,.slice a2 k.aa.length c2,.slice a3 k.c.length c3,.bool k.w],vI 0])) Y):=⟨a1,c1,a2,c2,a3,c3,P,rfl,by rw[hY];exact(bK.Ow.low how (by omega)).aQ (by simp[World.setCell,bf]) (fun q hq=>(Below.heap_setCell _ _ _ _ (show q≠w.1.size+1 by have:=(how.of hq).1;omega)).trans (aV (show q≠w.1.size by have:=(how.of hq).1;omega) _ _ _)),by rw[hY];exact(UM.P9 aR _ _).P9 (s:=w.1.size+1) (by omega) 0 [vI 0],by rw[hY];exact(World.cell?_of_block (a:=⟨b5,0,none⟩) ((Below.heap_setCell _ _ _ _ (show b5≠w.1.size+1 by omega)).trans (aV (show b5≠w.1.size by omega) _ _ _))).trans v2⟩
  have yb:Bx Y w.1.size (dJ a1 c1 a2 c2 a3 c3 k):=by rw[hY];exact(y0.put (dJ a1 c1 a2 c2 a3 c3 k) rfl).dZ (by omega) _
  have t0:Y.cell? ⟨w.1.size+1,0,none⟩=some (vI 0):=by rw[hY];exact az ((World.cell?_of_block (a:=⟨w.1.size+1,0,none⟩) (aV (show w.1.size+1≠w.1.size by omega) _ _ _)).trans (y1.1 0 _ rfl))
  have z0:=yb.1 0 _ rfl;have z1:=yb.1 1 _ rfl;have z2:=yb.1 2 _ rfl;have z3:=yb.1 3 _ rfl;have z4:=yb.1 4 _ rfl;have z5:=yb.1 5 _ rfl;have r0:=y0.1 0 _ rfl;have r1:=y0.1 1 _ rfl;have r2:=y0.1 2 _ rfl;have r3:=y0.1 3 _ rfl;have r4:=y0.1 4 _ rfl;have r5:=y0.1 5 _ rfl;have f0:=y0.2.1 0;have f1:=y0.2.1 1;have f2:=y0.2.1 2;have f3:=y0.2.1 3;have f4:=y0.2.1 4;have f5:=y0.2.1 5;have s0:=y1.1 0 _ rfl;have g0:=y1.2.1 0;simp only[di]at hY;clear y0 y1 UM how k1 k2 k3 k4 k5 t2 XU K yb v2 AB;go_wp2;rw[<-hY];clear hY r0 r1 r2 r3 r4 r5 f0 f1 f2 f3 f4 f5 s0 g0;refine leaves_cons (f:=56) (args:=#[.pointer (some ⟨w.1.size,0,none⟩),.pointer (some ⟨w.1.size+1,0,none⟩)]) (by simp) (by simp[go_sem]) ?_;refine(Gp w.1.size (w.1.size+1) Y).mono ?_;rintro e u' fq ⟨rfl,rfl,rfl⟩;simp only[Leaves,settle];refine⟨.tuple #[.agg #[vI k.u,vI k.l,.slice a1 k.f.length c1,.slice a2 k.aa.length c2,.slice a3 k.c.length c3,.bool k.w],vI 0],by simp[results,Tryz.results21,go_sem,z0,z1,z2,z3,z4,z5,t0],KE.out⟩
 ·have cF:=xh w.1.size (w.1.size+1) n k.u k.l a1 k.f.length c1 a2 k.aa.length c2 a3 k.c.length c3 k.w kv (vI 0) w2 AB rfl y0 y1 (by omega);have KX:Hid (Bx w2 w.1.size kv/\Bx w2 (w.1.size+1) [vI 0]/\cu b5 w w2/\bK.Ow w2 W1.1.size a1 c1 a2 c2 a3 c3 k P/\W1.1.size=w.1.size+2/\w2.cell? ⟨b5,0,none⟩=some (vI v)/\W1.1.size<=w2.1.size):=⟨y0,y1,UM,how,k2,v2,XU⟩
  clear y0 y1 UM how k1 k2 k3 k4 k5 t2 XU K v2 AB;go_wp2;refine leaves_cons (f:=56) (args:=#[.pointer (some ⟨w.1.size,0,none⟩),.pointer (some ⟨w.1.size+1,0,none⟩)]) (by simp) (by simp[go_sem]) ?_;refine cF.mono ?_;rintro e u' w3 ⟨rfl,rfl,X,bX,hY⟩;obtain⟨y0,y1,UM,how,k2,v2,XU⟩:=KX.out;have Zn:=how.later bX;have y0':=y0.later bX;have y1':=y1.later bX;have KE:Hid (Yi w b5 v k n (.returned (.tuple #[.agg #[vI k.u,vI k.l,.slice a1 k.f.length c1,.slice a2 k.aa.length c2,.slice a3 k.c.length c3,.bool k.w],vI n])) w3):=⟨a1,c1,a2,c2,a3,c3,P,rfl,by rw[hY];exact(bK.Ow.low Zn (by omega)).aQ (by simp[World.setCell,bf]) (fun q hq=>(Below.heap_setCell _ _ _ _ (show q≠w.1.size+1 by have:=(how.of hq).1;omega)).trans (aV (show q≠w.1.size by have:=(how.of hq).1;omega) _ _ _)),by rw[hY];exact((UM.dK bX).P9 aR _ _).P9 (s:=w.1.size+1) (by omega) 0 [vI n],by rw[hY];exact(World.cell?_of_block (a:=⟨b5,0,none⟩) ((Below.heap_setCell _ _ _ _ (show b5≠w.1.size+1 by omega)).trans (aV (show b5≠w.1.size by omega) _ _ _))).trans ((bX.cell (p:=⟨b5,0,none⟩) (show b5<w2.1.size by omega)).trans v2)⟩
  have yb:Bx w3 w.1.size (dJ a1 c1 a2 c2 a3 c3 k):=by rw[hY];exact(y0'.put (dJ a1 c1 a2 c2 a3 c3 k) rfl).dZ (by omega) _
  have t0:w3.cell? ⟨w.1.size+1,0,none⟩=some (vI n):=by rw[hY];exact az ((World.cell?_of_block (a:=⟨w.1.size+1,0,none⟩) (aV (show w.1.size+1≠w.1.size by omega) _ _ _)).trans (y1'.1 0 _ rfl))
  have z0:=yb.1 0 _ rfl;have z1:=yb.1 1 _ rfl;have z2:=yb.1 2 _ rfl;have z3:=yb.1 3 _ rfl;have z4:=yb.1 4 _ rfl;have z5:=yb.1 5 _ rfl;simp only[settle];refine⟨.tuple #[.agg #[vI k.u,vI k.l,.slice a1 k.f.length c1,.slice a2 k.aa.length c2,.slice a3 k.c.length c3,.bool k.w],vI n],by simp[results,Tryz.results21,go_sem,z0,z1,z2,z3,z4,z5,t0],KE.out⟩
def DW(X:World)(k:C6)(v n:Int)(e:Ending)(w':World):Prop:=∃(a1:Option Addr) (c1:Nat) (a2:Option Addr) (c2:Nat) (a3:Option Addr) (c3:Nat) (P:Nat->Prop),e=.returned (.tuple #[.agg #[vI k.u,vI k.l,.slice a1 k.f.length c1,.slice a2 k.aa.length c2,.slice a3 k.c.length c3,.bool k.w],vI v,vI n])/\bK.Ow w' X.1.size a1 c1 a2 c2 a3 c3 k P/\Below X.1.size X w'
theorem CX(w:World)(a1:Option Addr)(c1:Nat)(a2:Option Addr)(c2:Nat)(a3:Option Addr)(c3:Nat)(k:C6)(y r s:Int)(hl:bK.L k)(h:bK.Rd w a1 c1 a2 c2 a3 c3 k)(hg:HG w):
  Calls Tryz.prog 7 #[.agg #[vI k.u,vI k.l,.slice a1 k.f.length c1,.slice a2 k.aa.length c2,.slice a3 k.c.length c3,.bool k.w],vI y,vI r,vI s] w (DW w (sI k y r s) (uW k y r s) (qU k y r s)):=by
 have lf:∀(fn:Fn) (first cap:Array Value) (w:World),(Instr.makeFunc fn first cap).run Tryz.prog w=.ok (.func fn first cap) w:=fun _ _ _ _=>rfl
 obtain⟨U0,iQ⟩:∃Y,Y=w.alloc (.cells #[vI k.u,vI k.l,.slice a1 k.f.length c1,.slice a2 k.aa.length c2,.slice a3 k.c.length c3,.bool k.w] 32):=⟨_,rfl⟩
 have sG:Below w.1.size w U0:=by rw[iQ];exact aJ.alloc aR _
 have wY:Bx U0 w.1.size (dJ a1 c1 a2 c2 a3 c3 k):=by rw[iQ];exact Bx.made w (dJ a1 c1 a2 c2 a3 c3 k) _
 have ym:U0.1.size=w.1.size+1:=by rw[iQ];simp
 obtain⟨U1,kG⟩:∃Y,Y=U0.alloc (.cells #[vI y] 2):=⟨_,rfl⟩
 have yx:Below U0.1.size U0 U1:=by rw[kG];exact aJ.alloc aR _
 have Ck:Bx U1 U0.1.size [vI y]:=by rw[kG];exact Bx.made U0 [vI y] _
 have H8:U1.1.size=U0.1.size+1:=by rw[kG];simp
 obtain⟨U2,tK⟩:∃Y,Y=U1.alloc (.cells #[vI r] 2):=⟨_,rfl⟩
 have IW:Below U1.1.size U1 U2:=by rw[tK];exact aJ.alloc aR _
 have OQ:Bx U2 U1.1.size [vI r]:=by rw[tK];exact Bx.made U1 [vI r] _
 have Ub:U2.1.size=U1.1.size+1:=by rw[tK];simp
 obtain⟨U3,VB⟩:∃Y,Y=U2.alloc (.cells #[vI s] 2):=⟨_,rfl⟩
 have Vs:Below U2.1.size U2 U3:=by rw[VB];exact aJ.alloc aR _
 have fN:Bx U3 U2.1.size [vI s]:=by rw[VB];exact Bx.made U2 [vI s] _
 have m8:U3.1.size=U2.1.size+1:=by rw[VB];simp
 obtain⟨U4,VC⟩:∃Y,Y=U3.alloc (.cells #[vI 0,vI 0,.slice none 0 0,.slice none 0 0,.slice none 0 0,.bool false] 32):=⟨_,rfl⟩
 have UL:Below U3.1.size U3 U4:=by rw[VC];exact aJ.alloc aR _
 have fS:Bx U4 U3.1.size kv:=by rw[VC];exact Bx.made U3 kv _
 have m9:U4.1.size=U3.1.size+1:=by rw[VC];simp
 obtain⟨U5,VD⟩:∃Y,Y=U4.alloc (.cells #[vI 0] 2):=⟨_,rfl⟩
 have RX:Below U4.1.size U4 U5:=by rw[VD];exact aJ.alloc aR _
 have fW:Bx U5 U4.1.size [vI 0]:=by rw[VD];exact Bx.made U4 [vI 0] _
 have na:U5.1.size=U4.1.size+1:=by rw[VD];simp
 have hU:U5=((((((w.alloc (.cells #[vI k.u,vI k.l,.slice a1 k.f.length c1,.slice a2 k.aa.length c2,.slice a3 k.c.length c3,.bool k.w] 32)).alloc (.cells #[vI y] 2)).alloc (.cells #[vI r] 2)).alloc (.cells #[vI s] 2)).alloc (.cells #[vI 0,vI 0,.slice none 0 0,.slice none 0 0,.slice none 0 0,.bool false] 32)).alloc (.cells #[vI 0] 2)):=by rw[VD,VC,VB,tK,kG,iQ]
 have z1:U1.1.size=w.1.size+2:=by omega
 have z2:U2.1.size=w.1.size+3:=by omega
 have z3:U3.1.size=w.1.size+4:=by omega
 have z4:U4.1.size=w.1.size+5:=by omega
 have z5:U5.1.size=w.1.size+6:=by omega
 have b5:Below w.1.size w U5:=ay (ay (ay (ay (ay sG yx) IW) Vs) UL) RX;have x0:=((((wY.later yx).later IW).later Vs).later UL).later RX;have x1:=(((Ck.later IW).later Vs).later UL).later RX;have x2:=((OQ.later Vs).later UL).later RX;have x3:=(fN.later UL).later RX;have x4:=fS.later RX;have x5:=fW;rw[ym]at x1;rw[z1]at x2;rw[z2]at x3;rw[z3]at x4;rw[z4]at x5
 have h0:0<w.1.size:=by
  unfold HG at hg;rcases Nat.eq_zero_or_pos w.1.size with h0|h0
  ·exfalso;have:w.1[0]?=none:=Array.getElem?_eq_none (by omega);simp[World.cell?,this]at hg
  ·exact h0
 have hf:=JR U5 w.1.size (w.1.size+1) (w.1.size+2) (w.1.size+3) (w.1.size+5) (uW k y r s) (sI k y r s) (qU k y r s) (hg.later b5) (by omega) (by omega) (fun X hX=>by
  have bX:Below U5.1.size U5 X:=by rw[hX];exact(aJ.alloc aR _).alloc (by simp) _
  exact KG w X w.1.size (w.1.size+1) (w.1.size+2) (w.1.size+3) (w.1.size+5) a1 c1 a2 c2 a3 c3 k y r s hl h (ay b5 bX) (x0.later bX) (x1.later bX) (x2.later bX) (x3.later bX) (x5.later bX) (by omega))
 have H:Hid (Below w.1.size w U5/\Bx U5 (w.1.size+4) kv/\U5.1.size=w.1.size+6):=⟨b5,x4,z5⟩
 clear iQ kG tK VB VC VD sG yx IW Vs UL RX wY Ck OQ fN fS fW ym H8 Ub m8 m9 na z1 z2 z3 z4 z5 b5 x0 x1 x2 x3 x4 x5 h0 h hg hl;clear U0 U1 U2 U3 U4;obtain⟨N,hN⟩:∃N,sI k y r s=N:=⟨_,rfl⟩
 obtain⟨v,hv⟩:∃v,uW k y r s=v:=⟨_,rfl⟩
 obtain⟨n,hn⟩:∃n,qU k y r s=n:=⟨_,rfl⟩
 rw[hN,hv,hn]at hf;rw[hN,hv,hn];clear hN hv hn;go_enter Tryz.func7,Tryz.ntmps7;go_wp2_with fail;rw[<-hU];clear hU;refine hf.mono ?_;clear hf;rintro e Q ⟨e1,g1,e2,g2,e3,g3,PP,rfl,how,tq,vq⟩;obtain⟨V,hV⟩:∃V,V=Q.alloc (.cells #[vI N.u,vI N.l,.slice e1 N.f.length g1,.slice e2 N.aa.length g2,.slice e3 N.c.length g3,.bool N.w] 32):=⟨_,rfl⟩
 have bV:Below Q.1.size Q V:=by rw[hV];exact aJ.alloc aR _
 have xV:Bx V Q.1.size (dJ e1 g1 e2 g2 e3 g3 N):=by rw[hV];exact Bx.made Q (dJ e1 g1 e2 g2 e3 g3 N) _
 have hs:=H.out.2.2;have nq:=tq.size;have x4:Bx V (w.1.size+4) kv:=(H.out.2.1.aj (tq.block _ H.out.2.1.2.2 (by omega)) tq.size).later bV;have v5:V.cell? ⟨w.1.size+5,0,none⟩=some (vI v):=(bV.cell (p:=⟨w.1.size+5,0,none⟩) (show w.1.size+5<Q.1.size by omega)).trans vq;have bw:Below w.1.size w V:=ay (H.out.1.trans (tq.below (by omega) (by omega))) bV;have KE:Hid (bK.Ow V U5.1.size e1 g1 e2 g2 e3 g3 N PP/\Below w.1.size w V/\Bx V (w.1.size+4) kv/\U5.1.size=w.1.size+6/\w.1.size+6<=Q.1.size):=⟨how.later bV,bw,x4,hs,by omega⟩
 have hS:(fun Z:World=>Bx Z Q.1.size (dJ e1 g1 e2 g2 e3 g3 N)/\Z.cell? ⟨w.1.size+5,0,none⟩=some (vI v)) V.drew:=⟨xV.later (aJ.drew),v5⟩
 have bD:Below V.1.size V V.drew:=aJ.drew;have BD:=aB bD;clear bV xV hs x4 v5 bw how tq vq H bD nq;go_wp2_with fail;rw[<-hV];clear hV;refine bu (fun _=>false) (fun Z:World=>Bx Z Q.1.size (dJ e1 g1 e2 g2 e3 g3 N)/\Z.cell? ⟨w.1.size+5,0,none⟩=some (vI v)) (by kernel_rfl) ?_;generalize V.drew=D at *;refine jg 0 (.agg #[vI N.u,vI N.l,.slice e1 N.f.length g1,.slice e2 N.aa.length g2,.slice e3 N.c.length g3,.bool N.w]) rfl ?_ hS ?_
 ·(intro w aG;have q0:=aG.1.1 0 _ rfl;have q1:=aG.1.1 1 _ rfl;have q2:=aG.1.1 2 _ rfl;have q3:=aG.1.1 3 _ rfl;have q4:=aG.1.1 4 _ rfl;have q5:=aG.1.1 5 _ rfl;clear hS aG;go_simp)
 simp only[Act.put];refine jg 1 (vI v) rfl ?_ hS ?_
 ·(intro w aG;have q6:=aG.2;clear hS aG;go_simp)
 simp only[Act.put];refine cz 2 ?_ rfl ?_ hS ?_;rotate_left
 ·(intro w _;go_simp;first|done|with_reducible rfl)
 simp only[Act.put];have xr:=KE.out.2.2.1.later BD.out;have c0:=xr.1 0 _ rfl;have f0:=xr.2.1 0;have c1:=xr.1 1 _ rfl;have f1:=xr.2.1 1;have c2:=xr.1 2 _ rfl;have f2:=xr.2.1 2;have c3:=xr.1 3 _ rfl;have f3:=xr.2.1 3;have c4:=xr.1 4 _ rfl;have f4:=xr.2.1 4;have c5:=xr.1 5 _ rfl;have f5:=xr.2.1 5;obtain⟨Z,hZ⟩:∃Z,Z=di D (w.1.size+4) 0 (dJ e1 g1 e2 g2 e3 g3 N):=⟨_,rfl⟩
 have zb:=xr.put (dJ e1 g1 e2 g2 e3 g3 N) rfl;rw[<-hZ]at zb;have OZ:Hid (Z=((((((D.setCell ⟨w.1.size+4,0,none⟩ (vI N.u)).setCell ⟨w.1.size+4,1,none⟩ (vI N.l)).setCell ⟨w.1.size+4,2,none⟩ (.slice e1 N.f.length g1)).setCell ⟨w.1.size+4,3,none⟩ (.slice e2 N.aa.length g2)).setCell ⟨w.1.size+4,4,none⟩ (.slice e3 N.c.length g3)).setCell ⟨w.1.size+4,5,none⟩ (.bool N.w))):=hZ
 have jo:(fun Z:World=>Bx Z Q.1.size (dJ e1 g1 e2 g2 e3 g3 N)/\Z.cell? ⟨w.1.size+5,0,none⟩=some (vI v)) Z:=by
  have hf:∀q,q≠w.1.size+4->Z.1[q]?=D.1[q]?:=fun q hq=>by rw[hZ];exact aV hq _ _ _
  have h6:=KE.out.2.2.2.2;exact⟨hS.1.aj (hf _ (by omega)) (by rw[hZ,bf];exact Nat.le_refl _),(World.cell?_of_block (a:=⟨w.1.size+5,0,none⟩) (hf (w.1.size+5) (by omega))).trans hS.2⟩
 have HZ:=aB hZ;have mV:=aB jo;clear hZ jo;refine cZ 3 rfl (fun K hK=>?_);go_simp;rw[<-OZ.out];refine hK.out _ _ (fun _=>mV.out) ?_;clear hK K hS;refine cZ 4 rfl (fun K hK=>?_);go_simp;refine hK.out _ _ (fun _=>mV.out) ?_;clear hK K;refine cZ 5 rfl (fun K hK=>?_);go_simp;refine hK.out _ _ (fun _=>mV.out) ?_;clear hK K;refine dL (by kernel_rfl) ?_ _;have hZ:=HZ.out;have zs:Z.1.size=D.1.size:=by rw[hZ];exact bf _ _ _ _
 have zf:∀q,q≠w.1.size+4->Z.1[q]?=D.1[q]?:=fun q hq=>by rw[hZ];exact aV hq _ _ _
 have bZ:Below w.1.size w Z:=by rw[hZ];exact aU (by omega) _ _ _ (ay KE.out.2.1 BD.out)
 have HX:Hid (DW w N v n (.returned (.tuple #[.agg #[vI N.u,vI N.l,.slice e1 N.f.length g1,.slice e2 N.aa.length g2,.slice e3 N.c.length g3,.bool N.w],vI v,vI n])) Z):=by
  have hs:=KE.out.2.2.2.1;refine⟨e1,g1,e2,g2,e3,g3,PP,rfl,((KE.out.1.later BD.out).aQ (Nat.le_of_eq zs.symm) (fun q hq=>zf q (by have:=(KE.out.1.of hq).1;omega))).low (by omega),bZ⟩
 have z0:=zb.1 0 _ rfl;have z1:=zb.1 1 _ rfl;have z2:=zb.1 2 _ rfl;have z3:=zb.1 3 _ rfl;have z4:=zb.1 4 _ rfl;have z5:=zb.1 5 _ rfl;clear hZ zs zf bZ zb xr c0 f0 c1 f1 c2 f2 c3 f3 c4 f4 c5 f5;go_wp2;exact bodyPost_ret (v:=.tuple #[.agg #[vI N.u,vI N.l,.slice e1 N.f.length g1,.slice e2 N.aa.length g2,.slice e3 N.c.length g3,.bool N.w],vI v,vI n]) (by simp[results,Tryz.results7,go_sem,z0,z1,z2,z3,z4,z5]) rfl HX.out
def LW(w W0:World)(m:M4)(s3:Value)(wx:World):Prop:=∃(p:Nat) (a':Option Addr) (c':Nat),s3=.pointer (some ⟨p,0,none⟩)/\C3 w.1.size p m.x wx (.slice none 0 0) (.slice none 0 0) (.slice a' m.ai.length c')/\MR (w.1.size+2) p wx (.slice none 0 0) (.slice none 0 0) (.slice a' m.ai.length c') [] [] m.ai gz gz/\Below (w.1.size+1) W0 wx
theorem GH(w:World)(v:MV)(m:M4)(hm:O4 m)(hs:pF w v m):
  Calls Tryz.prog 42 #[v.val m] w fun e w'=>∃(u:MV) (p:Nat) (gk gr:Nat->Nat),e=.returned (u.val m)/\MR (w.1.size+2) p w' (.slice u.ac m.af.length u.cc) (.slice u.al m.h.length u.cl) (.slice u.ad m.ai.length u.cd) m.af m.h m.ai gk gr/\Below w.1.size w w':=by
 obtain⟨ac,cc,al,cl,ad,cd⟩:=v;simp only[MV.val];obtain⟨W0,eB⟩:∃W0,W0=w.alloc (.cells #[.bool m.x,.slice ac m.af.length cc,.slice al m.h.length cl,.slice ad m.ai.length cd] 92):=⟨_,rfl⟩
 have b0:Below w.1.size w W0:=by subst eB;exact aJ.alloc aR _
 have s0:W0.1.size=w.1.size+1:=by subst eB;simp
 have c0:∀X,Below (w.1.size+1) W0 X->X.cell? ⟨w.1.size,0,none⟩=some (.bool m.x)/\X.cell? ⟨w.1.size,1,none⟩=some (.slice ac m.af.length cc)/\X.cell? ⟨w.1.size,2,none⟩=some (.slice al m.h.length cl)/\X.cell? ⟨w.1.size,3,none⟩=some (.slice ad m.ai.length cd):=fun X hX=>by
  refine⟨(hX.cell (p:=⟨w.1.size,0,none⟩) (by simp)).trans ?_,(hX.cell (p:=⟨w.1.size,1,none⟩) (by simp)).trans ?_,(hX.cell (p:=⟨w.1.size,2,none⟩) (by simp)).trans ?_,(hX.cell (p:=⟨w.1.size,3,none⟩) (by simp)).trans ?_⟩;all_goals (subst eB;go_simp)
 have H:Hid (O4 m/\pF w ⟨ac,cc,al,cl,ad,cd⟩ m/\Below w.1.size w W0/\W0.1.size=w.1.size+1):=⟨hm,hs,b0,s0⟩
 have HC:=aB c0;clear hm hs b0 s0 c0;go_enter Tryz.func42,Tryz.ntmps42;go_upto_region 1 with fail
 go_cut[3]from 6 to 12 (fun s3 wx=>LW w W0 m s3 wx)
 case first=>
  obtain⟨W1,ja⟩:∃W1,W1=(W0.alloc (.cells #[.bool false,.slice none 0 0,.slice none 0 0,.slice none 0 0] 92)).drew:=⟨_,rfl⟩
  have b1:Below W0.1.size W0 W1:=by subst ja;exact(aJ.alloc aR _).drew
  have s1:W1.1.size=w.1.size+2:=by subst ja;simp[H.out.2.2.2]
  have b1':Below (w.1.size+1) W0 W1:=b1.mono (by rw[H.out.2.2.2];exact Nat.le_refl _);obtain⟨ca,_,_,UN⟩:=HC.out W1 b1'
  have wR:W1.1[w.1.size+1]?=some (.cells #[.bool false,.slice none 0 0,.slice none 0 0,.slice none 0 0] 92 (0,0)):=by
   subst ja;rw[<-H.out.2.2.2];exact heap_alloc_new W0 _
  have DI:(fun X:World=>X.cell? ⟨w.1.size,0,none⟩=some (.bool m.x)/\X.cell? ⟨w.1.size,3,none⟩=some (.slice ad m.ai.length cd)) W1:=⟨ca,UN⟩
  refine bL 8 (fun X:World=>X.cell? ⟨w.1.size,0,none⟩=some (.bool m.x)/\X.cell? ⟨w.1.size,3,none⟩=some (.slice ad m.ai.length cd)) (by kernel_rfl) ?_;have KW:Hid (Below w.1.size w W1/\Below (w.1.size+1) W0 W1/\W1.1.size=w.1.size+2/\W1.1[w.1.size+1]?=some (.cells #[.bool false,.slice none 0 0,.slice none 0 0,.slice none 0 0] 92 (0,0))/\(∀X,Below W1.1.size W1 X->(fun X:World=>X.cell? ⟨w.1.size,0,none⟩=some (.bool m.x)/\X.cell? ⟨w.1.size,3,none⟩=some (.slice ad m.ai.length cd)) X)):=⟨H.out.2.2.1.trans (b1'.mono (by omega)),b1',s1,wR,fun X hX=>⟨(hX.cell (p:=⟨w.1.size,0,none⟩) (by show w.1.size<W1.1.size;omega)).trans ca,(hX.cell (p:=⟨w.1.size,3,none⟩) (by show w.1.size<W1.1.size;omega)).trans UN⟩⟩
  clear b1 s1 b1' ca UN wR;subst eB;rw[<-ja];clear ja;refine eQ 0 ?_ rfl ?_ DI ?_;rotate_left
  ·(intro w aG;go_simp;first|done|with_reducible rfl|exact aG.1|exact aG.2)
  simp only[Act.put];refine eQ 1 ?_ rfl ?_ DI ?_;rotate_left
  ·(intro w aG;go_simp;first|done|with_reducible rfl|exact aG.1|exact aG.2)
  simp only[Act.put];refine eQ 3 ?_ rfl ?_ DI ?_;rotate_left
  ·(intro w aG;go_simp;first|done|with_reducible rfl|exact aG.1|exact aG.2)
  simp only[Act.put];refine eQ 4 ?_ rfl ?_ DI ?_;rotate_left
  ·(intro w aG;go_simp;first|done|with_reducible rfl|exact aG.1|exact aG.2)
  simp only[Act.put];refine kD (rs:=[2,7]) (by kernel_rfl) (by simp) ?_;refine pg.cons rfl (fun K hK=>?_) (pg.cons rfl (fun K hK=>?_) pg.nil)
  ·have bE:Below W1.1.size W1 (W1.alloc (.cells #[] 2)):=aJ.alloc aR _;have sE:(W1.alloc (.cells #[] 2)).1.size=W1.1.size+1:=by simp
   have hE:(W1.alloc (.cells #[] 2)).1[W1.1.size]?=some (.cells #[] 2 (0,0)):=heap_alloc_new W1 _;have Pq:=KW.out.2.2.2.2 _ bE;go_simp;refine hK.out _ _ (fun _=>Pq) ?_;clear hK K;refine kD (rs:=[5,7]) (by kernel_rfl) (by simp) ?_;refine pg.cons rfl (fun K hK=>?_) (pg.cons rfl (fun K hK=>?_) pg.nil)
   ·obtain⟨a',c',WA,hr,hd,hg,hl⟩:=sM (W1.alloc (.cells #[] 2)) (w.1.size+2) (some ⟨W1.1.size,0,none⟩) 0 (rY hE (by have:=KW.out.2.2.1;omega)) m.ai (by have:=H.out.1.n;omega) 74 ad cd ((H.out.2.1.later KW.out.1).later bE).n (by have:=KW.out.2.2.1;omega);have bA:Below W1.1.size W1 WA:=bE.grown hg bE.size (fun k h=>by cases h;exact Nat.le_refl _);have DJ:=KW.out.2.2.2.2 _ bA;have KA:Hid (Below W1.1.size W1 WA/\WA.ownsRow (w.1.size+2) 2 1 (.slice a' m.ai.length c') m.ai.length (m.ai.map (Value.int .i64))):=⟨bA,hd⟩
    clear hd hg hl bA bE sE hE;refine df _ rfl (.tmp 8) (.tmp 10) 74 rfl _ _ _ _ (by first|rfl|simp[Act.eval,Act.put]) (by first|rfl|simp[Act.eval,Act.put]) hr ?_;refine hK.out _ _ (fun _=>DJ) ?_;clear hK K hr DI Pq;simp only[Act.put];refine eQ 6 ?_ rfl ?_ DJ ?_;rotate_left
    ·(intro w aG;go_simp;first|done|with_reducible rfl|exact aG.1|exact aG.2)
    simp only[Act.put];refine dX 7 rfl (fun K hK=>?_);go_simp;have bB:Below WA.1.size WA (WA.alloc (.cells #[.bool false,.slice none 0 0,.slice none 0 0,.slice none 0 0] 92)):=aJ.alloc aR _;have OC:=KW.out.2.2.2.2 _ (KA.out.1.trans (bB.mono KA.out.1.size));refine hK.out _ _ (fun _=>OC) ?_;clear hK K bB OC DJ;refine dX 8 rfl (fun K hK=>?_);go_simp;refine hK.out _ _ (fun h=>absurd rfl h) ?_;clear hK K;refine bS (by kernel_rfl) ?_ _;go_wp2_with fail;go_meet;have q1:=KA.out.1.size;have q2:=KW.out.2.2.1;obtain⟨f1,f2⟩:=ME (s:=w.1.size) (alive:=m.x) (X:=WA) (by omega) ((KA.out.1.block _ (by omega)).trans KW.out.2.2.2.1) KA.out.2;exact⟨WA.1.size,a',c',rfl,f1,f2,KW.out.2.1.trans ((KA.out.1.mono (by omega)).alloc (by omega) _)⟩
   ·have bZ:Below (W1.1.size+1) (W1.alloc (.cells #[] 2)) ((W1.alloc (.cells #[] 2)).alloc (.cells #[.bool false,.slice none 0 0,.slice none 0 0,.slice none 0 0] 92)):=aJ.alloc (by rw[sE];exact Nat.le_refl _) _;have bX:Below W1.1.size W1 ((W1.alloc (.cells #[] 2)).alloc (.cells #[.bool false,.slice none 0 0,.slice none 0 0,.slice none 0 0] 92)):=bE.trans (bZ.mono (by omega));have sX:((W1.alloc (.cells #[] 2)).alloc (.cells #[.bool false,.slice none 0 0,.slice none 0 0,.slice none 0 0] 92)).1.size=W1.1.size+2:=by simp
    have hq:((W1.alloc (.cells #[] 2)).alloc (.cells #[.bool false,.slice none 0 0,.slice none 0 0,.slice none 0 0] 92)).1[W1.1.size]?=some (.cells #[] 2 (0,0)):=(bZ.block _ (by omega)).trans hE;have hp:((W1.alloc (.cells #[] 2)).alloc (.cells #[.bool false,.slice none 0 0,.slice none 0 0,.slice none 0 0] 92)).1[W1.1.size+1]?=some (.cells #[.bool false,.slice none 0 0,.slice none 0 0,.slice none 0 0] 92 (0,0)):=by rw[<-sE];exact heap_alloc_new _ _
    have dW:=KW.out.2.2.2.2 _ bX;obtain⟨a',c',WA,hr,hd,hg,hl⟩:=sM ((W1.alloc (.cells #[] 2)).alloc (.cells #[.bool false,.slice none 0 0,.slice none 0 0,.slice none 0 0] 92)) (w.1.size+2) (some ⟨W1.1.size,0,none⟩) 0 (rY hq (by have:=KW.out.2.2.1;omega)) m.ai (by have:=H.out.1.n;omega) 74 ad cd ((H.out.2.1.later KW.out.1).later bX).n (by have:=KW.out.2.2.1;omega);have bA:Below W1.1.size W1 WA:=bX.grown hg bX.size (fun k h=>by cases h;show W1.1.size<=W1.1.size;omega);have SV:WA.1[(W1.1.size+1)]?=some (.cells #[.bool false,.slice none 0 0,.slice none 0 0,.slice none 0 0] 92 (0,0)):=(hg.block (W1.1.size+1) (by omega) (fun e=>by have e':(W1.1.size+1)=W1.1.size:=Option.some.inj e;omega)).trans hp
    have fF:(Value.slice a' m.ai.length c').ownBlock≠some (W1.1.size+1):=fun e=>by
     rcases hl with e'|e'
     ·rw[e']at e;have JP:W1.1.size=(W1.1.size+1):=Option.some.inj e;omega
     ·rw[e']at e;have:=Option.some.inj e;omega
    have CV:(W1.1.size+1)<WA.1.size:=by have:=hg.size;omega
    obtain⟨z0,z1,z2,z3,zf⟩:=nO SV;have ZV:=zf 0;have ZW:=zf 1;have ZX:=zf 2;have ZY:=zf 3;have DJ:=KW.out.2.2.2.2 _ bA;have KA:Hid (Below W1.1.size W1 WA/\WA.ownsRow (w.1.size+2) 2 1 (.slice a' m.ai.length c') m.ai.length (m.ai.map (Value.int .i64))/\WA.1[(W1.1.size+1)]?=some (.cells #[.bool false,.slice none 0 0,.slice none 0 0,.slice none 0 0] 92 (0,0))/\(Value.slice a' m.ai.length c').ownBlock≠some (W1.1.size+1)/\(W1.1.size+1)<WA.1.size/\W1.1.size<=(W1.1.size+1)):=⟨bA,hd,SV,fF,CV,by omega⟩
    clear hd hg hl bA SV fF CV zf bX bZ hq hp bE hE;go_simp;refine hK.out _ _ (fun _=>dW) ?_;clear hK K DI Pq;refine dX 5 rfl (fun K hK=>?_);refine df _ rfl (.tmp 8) (.tmp 10) 74 rfl _ _ _ _ (by first|rfl|simp[Act.eval,Act.put]) (by first|rfl|simp[Act.eval,Act.put]) hr ?_;refine hK.out _ _ (fun _=>DJ) ?_;clear hK K hr dW sX sE;simp only[Act.put];refine eQ 6 ?_ rfl ?_ DJ ?_;rotate_left
    ·(intro w aG;go_simp;first|done|with_reducible rfl|exact aG.1|exact aG.2)
    simp only[Act.put];refine dX 8 rfl (fun K hK=>?_);go_simp;refine hK.out _ _ (fun h=>absurd rfl h) ?_;clear hK K;refine bS (by kernel_rfl) ?_ _;go_wp2_with fail;go_meet;have q2:=KW.out.2.2.1;obtain⟨k1,k2,k3,k4,k5,k6⟩:=KA.out;obtain⟨f1,f2⟩:=Ej (s:=w.1.size) (p:=(W1.1.size+1)) (alive:=m.x) (X:=WA) (by omega) k5 ((k1.block _ (by omega)).trans KW.out.2.2.2.1) k3 k2 k4;exact⟨(W1.1.size+1),a',c',rfl,f1,f2,((((KW.out.2.1.trans (k1.mono (by omega))).setCell (p:=⟨_,_,none⟩) (by simp;omega) _).setCell (p:=⟨_,_,none⟩) (by simp;omega) _).setCell (p:=⟨_,_,none⟩) (by simp;omega) _).setCell (p:=⟨_,_,none⟩) (by simp;omega) _⟩
  ·have bE:Below W1.1.size W1 (W1.alloc (.cells #[.bool false,.slice none 0 0,.slice none 0 0,.slice none 0 0] 92)):=aJ.alloc aR _;have sE:(W1.alloc (.cells #[.bool false,.slice none 0 0,.slice none 0 0,.slice none 0 0] 92)).1.size=W1.1.size+1:=by simp
   have hE:(W1.alloc (.cells #[.bool false,.slice none 0 0,.slice none 0 0,.slice none 0 0] 92)).1[W1.1.size]?=some (.cells #[.bool false,.slice none 0 0,.slice none 0 0,.slice none 0 0] 92 (0,0)):=heap_alloc_new W1 _;have bZ:Below (W1.1.size+1) (W1.alloc (.cells #[.bool false,.slice none 0 0,.slice none 0 0,.slice none 0 0] 92)) ((W1.alloc (.cells #[.bool false,.slice none 0 0,.slice none 0 0,.slice none 0 0] 92)).alloc (.cells #[] 2)):=aJ.alloc (by rw[sE];exact Nat.le_refl _) _;have bX:Below W1.1.size W1 ((W1.alloc (.cells #[.bool false,.slice none 0 0,.slice none 0 0,.slice none 0 0] 92)).alloc (.cells #[] 2)):=bE.trans (bZ.mono (by omega));have sX:((W1.alloc (.cells #[.bool false,.slice none 0 0,.slice none 0 0,.slice none 0 0] 92)).alloc (.cells #[] 2)).1.size=W1.1.size+2:=by simp
   have hp:((W1.alloc (.cells #[.bool false,.slice none 0 0,.slice none 0 0,.slice none 0 0] 92)).alloc (.cells #[] 2)).1[W1.1.size]?=some (.cells #[.bool false,.slice none 0 0,.slice none 0 0,.slice none 0 0] 92 (0,0)):=(bZ.block _ (by omega)).trans hE;have hq:((W1.alloc (.cells #[.bool false,.slice none 0 0,.slice none 0 0,.slice none 0 0] 92)).alloc (.cells #[] 2)).1[W1.1.size+1]?=some (.cells #[] 2 (0,0)):=by rw[<-sE];exact heap_alloc_new _ _
   have Pq:=KW.out.2.2.2.2 _ bE;have dW:=KW.out.2.2.2.2 _ bX;obtain⟨a',c',WA,hr,hd,hg,hl⟩:=sM ((W1.alloc (.cells #[.bool false,.slice none 0 0,.slice none 0 0,.slice none 0 0] 92)).alloc (.cells #[] 2)) (w.1.size+2) (some ⟨(W1.1.size+1),0,none⟩) 0 (rY hq (by have:=KW.out.2.2.1;omega)) m.ai (by have:=H.out.1.n;omega) 74 ad cd ((H.out.2.1.later KW.out.1).later bX).n (by have:=KW.out.2.2.1;omega);have bA:Below W1.1.size W1 WA:=bX.grown hg bX.size (fun k h=>by cases h;show W1.1.size<=(W1.1.size+1);omega);have SV:WA.1[W1.1.size]?=some (.cells #[.bool false,.slice none 0 0,.slice none 0 0,.slice none 0 0] 92 (0,0)):=(hg.block W1.1.size (by omega) (fun e=>by have e':W1.1.size=(W1.1.size+1):=Option.some.inj e;omega)).trans hp
   have fF:(Value.slice a' m.ai.length c').ownBlock≠some W1.1.size:=fun e=>by
    rcases hl with e'|e'
    ·rw[e']at e;have JP:(W1.1.size+1)=W1.1.size:=Option.some.inj e;omega
    ·rw[e']at e;have:=Option.some.inj e;omega
   have CV:W1.1.size<WA.1.size:=by have:=hg.size;omega
   obtain⟨z0,z1,z2,z3,zf⟩:=nO SV;have ZV:=zf 0;have ZW:=zf 1;have ZX:=zf 2;have ZY:=zf 3;have DJ:=KW.out.2.2.2.2 _ bA;have KA:Hid (Below W1.1.size W1 WA/\WA.ownsRow (w.1.size+2) 2 1 (.slice a' m.ai.length c') m.ai.length (m.ai.map (Value.int .i64))/\WA.1[W1.1.size]?=some (.cells #[.bool false,.slice none 0 0,.slice none 0 0,.slice none 0 0] 92 (0,0))/\(Value.slice a' m.ai.length c').ownBlock≠some W1.1.size/\W1.1.size<WA.1.size/\W1.1.size<=W1.1.size):=⟨bA,hd,SV,fF,CV,by omega⟩
   clear hd hg hl bA SV fF CV zf bX bZ hq hp bE hE;go_simp;refine hK.out _ _ (fun _=>Pq) ?_;clear hK K DI;refine dX 2 rfl (fun K hK=>?_);go_simp;refine hK.out _ _ (fun _=>dW) ?_;clear hK K Pq;refine dX 5 rfl (fun K hK=>?_);refine df _ rfl (.tmp 8) (.tmp 10) 74 rfl _ _ _ _ (by first|rfl|simp[Act.eval,Act.put]) (by first|rfl|simp[Act.eval,Act.put]) hr ?_;refine hK.out _ _ (fun _=>DJ) ?_;clear hK K hr dW sX sE;simp only[Act.put];refine eQ 6 ?_ rfl ?_ DJ ?_;rotate_left
   ·(intro w aG;go_simp;first|done|with_reducible rfl|exact aG.1|exact aG.2)
   simp only[Act.put];refine dX 8 rfl (fun K hK=>?_);go_simp;refine hK.out _ _ (fun h=>absurd rfl h) ?_;clear hK K;refine bS (by kernel_rfl) ?_ _;go_wp2_with fail;go_meet;have q2:=KW.out.2.2.1;obtain⟨k1,k2,k3,k4,k5,k6⟩:=KA.out;obtain⟨f1,f2⟩:=Ej (s:=w.1.size) (p:=W1.1.size) (alive:=m.x) (X:=WA) (by omega) k5 ((k1.block _ (by omega)).trans KW.out.2.2.2.1) k3 k2 k4;exact⟨W1.1.size,a',c',rfl,f1,f2,((((KW.out.2.1.trans (k1.mono (by omega))).setCell (p:=⟨_,_,none⟩) (by simp;omega) _).setCell (p:=⟨_,_,none⟩) (by simp;omega) _).setCell (p:=⟨_,_,none⟩) (by simp;omega) _).setCell (p:=⟨_,_,none⟩) (by simp;omega) _⟩
 case rest=>
  obtain⟨p,a',c',rfl,iR,lI,bC⟩:=hcut;have KC:Hid (C3 w.1.size p m.x wc (.slice none 0 0) (.slice none 0 0) (.slice a' m.ai.length c')/\MR (w.1.size+2) p wc (.slice none 0 0) (.slice none 0 0) (.slice a' m.ai.length c') [] [] m.ai gz gz/\Below (w.1.size+1) W0 wc):=⟨iR,lI,bC⟩
  have kA:m.af.length<=6:=H.out.1.k;clear iR lI bC;go_wp2;go_loopw[4] (fun v4 wr=>∃(j:Nat) (ak:Option Addr) (ck:Nat) (gk:Nat->Nat),j<=m.af.length/\v4=vI j/\C3 w.1.size p m.x wr (.slice ak j ck) (.slice none 0 0) (.slice a' m.ai.length c')/\MR (w.1.size+2) p wr (.slice ak j ck) (.slice none 0 0) (.slice a' m.ai.length c') (m.af.take j) [] m.ai gk gz/\Below (w.1.size+1) W0 wr) (fun v4 _=>m.af.length-(intOf v4).toNat)
  case atStart=>exact⟨0,none,0,gz,Nat.zero_le _,rfl,KC.out.1,by rw[List.take_zero];exact KC.out.2.1,KC.out.2.2⟩
  case round=>
   obtain⟨j,ak,ck,gk,hj,rfl,iR,lI,bC⟩:=hrel;obtain⟨_,c1,_,_⟩:=HC.out wr bC;by_cases aN:j<m.af.length
   ·have oM:Below w.1.size w wr:=H.out.2.2.1.trans (bC.mono (by omega));obtain⟨_,gu⟩:=H.out.2.1.k;have rC:m.af[j]?=some (cO m.af j):=eX aN;have h6:(cO m.af j).cells.length=6:=H.out.1.ks _ (List.mem_of_getElem? rC);simp only[]at gu;rcases gu with gu|⟨b,off,rfl,hb,h1⟩
    ·omega
    have hr:=(h1 j _ rC).below oM hb;have k0:=hr.c0;obtain⟨a1,p1,k1,gy,jJ⟩:=hr.c1;have bX:Below wr.1.size wr wr.drew:=aJ.drew;have hc:=GG wr.drew a1 p1 (cO m.af j).cells (by omega) (by omega) ((gy.mono oM.size).later bX)
    have pO:∀Y:World,(∀x,x<w.1.size+1->Y.1[x]?=wr.1[x]?)->Y.1[p]?=wr.1[p]?->(fun X:World=>X.cell? ⟨p,1,none⟩=some (.slice ak j ck)/\X.cell? ⟨w.1.size,1,none⟩=some (.slice (some ⟨b,off,none⟩) m.af.length cc)/\X.cell? ⟨b,off+j*2,none⟩=some (vI (cO m.af j).b)/\X.cell? ⟨b,off+j*2+1,none⟩=some (.slice a1 (cO m.af j).cells.length p1)) Y:=fun Y h1 h2=>
     ⟨(World.cell?_of_block (a:=⟨p,1,none⟩) h2).trans iR.o1,(World.cell?_of_block (a:=⟨w.1.size,1,none⟩) (h1 w.1.size (by omega))).trans c1,(World.cell?_of_block (a:=⟨b,off+j*2,none⟩) (h1 b (by omega))).trans k0,(World.cell?_of_block (a:=⟨b,off+j*2+1,none⟩) (h1 b (by omega))).trans k1⟩
    have dW:=pO wr.drew (fun _ _=>rfl) rfl;have KH:Hid (C3 w.1.size p m.x wr (.slice ak j ck) (.slice none 0 0) (.slice a' m.ai.length c')/\MR (w.1.size+2) p wr (.slice ak j ck) (.slice none 0 0) (.slice a' m.ai.length c') (m.af.take j) [] m.ai gk gz/\Below (w.1.size+1) W0 wr/\Below wr.1.size wr wr.drew/\m.af[j]?=some (cO m.af j)/\(∀Y:World,(∀x,x<w.1.size+1->Y.1[x]?=wr.1[x]?)->Y.1[p]?=wr.1[p]?->(fun X:World=>X.cell? ⟨p,1,none⟩=some (.slice ak j ck)/\X.cell? ⟨w.1.size,1,none⟩=some (.slice (some ⟨b,off,none⟩) m.af.length cc)/\X.cell? ⟨b,off+j*2,none⟩=some (vI (cO m.af j).b)/\X.cell? ⟨b,off+j*2+1,none⟩=some (.slice a1 (cO m.af j).cells.length p1)) Y)):=⟨iR,lI,bC,bX,rC,pO⟩
    have Am:=iR.pX;have SK:(j:Int)<(m.af.length:Int):=by omega
    clear iR lI bC oM h1 hr gy jJ bX rC h6 pO;go_wp2_with fail;refine bL 19 (fun X:World=>X.cell? ⟨p,1,none⟩=some (.slice ak j ck)/\X.cell? ⟨w.1.size,1,none⟩=some (.slice (some ⟨b,off,none⟩) m.af.length cc)/\X.cell? ⟨b,off+j*2,none⟩=some (vI (cO m.af j).b)/\X.cell? ⟨b,off+j*2+1,none⟩=some (.slice a1 (cO m.af j).cells.length p1)) (by kernel_rfl) ?_;generalize Sm:wr.drew=X at *;clear Sm k0 k1 c1;refine eQ 0 ?_ rfl ?_ dW ?_;rotate_left
    ·(intro w aG;obtain⟨gX,gY,iy,iA⟩:=aG;go_simp;first|done|with_reducible rfl|exact gX|exact gY|exact iy|exact iA|(rw[if_pos (by omega)]))
    simp only[Act.put];refine eQ 1 ?_ rfl ?_ dW ?_;rotate_left
    ·(intro w aG;obtain⟨gX,gY,iy,iA⟩:=aG;go_simp;first|done|with_reducible rfl|exact gX|exact gY|exact iy|exact iA|(rw[if_pos (by omega)]))
    simp only[Act.put];refine eQ 2 ?_ rfl ?_ dW ?_;rotate_left
    ·(intro w aG;obtain⟨gX,gY,iy,iA⟩:=aG;go_simp;first|done|with_reducible rfl|exact gX|exact gY|exact iy|exact iA|(rw[if_pos (by omega)]))
    simp only[Act.put];refine eQ 3 ?_ rfl ?_ dW ?_;rotate_left
    ·(intro w aG;obtain⟨gX,gY,iy,iA⟩:=aG;go_simp;first|done|with_reducible rfl|exact gX|exact gY|exact iy|exact iA|(rw[if_pos (by omega)]))
    simp only[Act.put];refine eQ 4 ?_ rfl ?_ dW ?_;rotate_left
    ·(intro w aG;obtain⟨gX,gY,iy,iA⟩:=aG;go_simp;first|done|with_reducible rfl|exact gX|exact gY|exact iy|exact iA|(rw[if_pos (by omega)]))
    simp only[Act.put];refine eQ 5 ?_ rfl ?_ dW ?_;rotate_left
    ·(intro w aG;obtain⟨gX,gY,iy,iA⟩:=aG;go_simp;first|done|with_reducible rfl|exact gX|exact gY|exact iy|exact iA|(rw[if_pos (by omega)]))
    simp only[Act.put];refine eQ 6 ?_ rfl ?_ dW ?_;rotate_left
    ·(intro w aG;obtain⟨gX,gY,iy,iA⟩:=aG;go_simp;first|done|with_reducible rfl|exact gX|exact gY|exact iy|exact iA|(rw[if_pos (by omega)]))
    simp only[Act.put];refine eQ 7 ?_ rfl ?_ dW ?_;rotate_left
    ·(intro w aG;obtain⟨gX,gY,iy,iA⟩:=aG;go_simp;first|done|with_reducible rfl|exact gX|exact gY|exact iy|exact iA|(rw[if_pos (by omega)]))
    simp only[Act.put];refine eQ 8 ?_ rfl ?_ dW ?_;rotate_left
    ·(intro w aG;obtain⟨gX,gY,iy,iA⟩:=aG;go_simp;first|done|with_reducible rfl|exact gX|exact gY|exact iy|exact iA|(rw[if_pos (by omega)]))
    simp only[Act.put];refine eQ 9 ?_ rfl ?_ dW ?_;rotate_left
    ·(intro w aG;obtain⟨gX,gY,iy,iA⟩:=aG;go_simp;first|done|with_reducible rfl|exact gX|exact gY|exact iy|exact iA|(rw[if_pos (by omega)]))
    simp only[Act.put];refine eQ 10 ?_ rfl ?_ dW ?_;rotate_left
    ·(intro w aG;obtain⟨gX,gY,iy,iA⟩:=aG;go_simp;first|done|with_reducible rfl|exact gX|exact gY|exact iy|exact iA|(rw[if_pos (by omega)]))
    simp only[Act.put];refine eQ 11 ?_ rfl ?_ dW ?_;rotate_left
    ·(intro w aG;obtain⟨gX,gY,iy,iA⟩:=aG;go_simp;first|done|with_reducible rfl|exact gX|exact gY|exact iy|exact iA|(rw[if_pos (by omega)]))
    simp only[Act.put];refine eQ 12 ?_ rfl ?_ dW ?_;rotate_left
    ·(intro w aG;obtain⟨gX,gY,iy,iA⟩:=aG;go_simp;first|done|with_reducible rfl|exact gX|exact gY|exact iy|exact iA|(rw[if_pos (by omega)]))
    simp only[Act.put];refine eQ 13 ?_ rfl ?_ dW ?_;rotate_left
    ·(intro w aG;obtain⟨gX,gY,iy,iA⟩:=aG;go_simp;first|done|with_reducible rfl|exact gX|exact gY|exact iy|exact iA|(rw[if_pos (by omega)]))
    simp only[Act.put];refine dX 14 rfl (fun K hK=>?_);go_simp;refine hc.mono ?_;clear hc;rintro e X2 ⟨q,cp,rfl,Gz,M5,M6,M7,Lv,b2⟩;obtain⟨iR,lI,bC,bX,rC,pO⟩:=KH.out;have CV:=iR.pl;have l6:Below wr.1.size wr X2:=bX.trans (b2.mono bX.size);have iD:=pO X2 (fun x hx=>l6.block x (by omega)) (l6.block p Am);have b3:Below X2.1.size X2 (X2.alloc (.cells #[vI (cO m.af j).b,.slice (some ⟨q,0,none⟩) (cO m.af j).cells.length cp] 107)):=aJ.alloc aR _;have s3:(X2.alloc (.cells #[vI (cO m.af j).b,.slice (some ⟨q,0,none⟩) (cO m.af j).cells.length cp] 107)).1.size=X2.1.size+1:=by simp
    have nR:Below wr.1.size wr (X2.alloc (.cells #[vI (cO m.af j).b,.slice (some ⟨q,0,none⟩) (cO m.af j).cells.length cp] 107)):=l6.trans (b3.mono l6.size);have jo:=pO (X2.alloc (.cells #[vI (cO m.af j).b,.slice (some ⟨q,0,none⟩) (cO m.af j).cells.length cp] 107)) (fun x hx=>nR.block x (by omega)) (nR.block p Am);obtain⟨v',Y,hr,lJ,iT,Gy⟩:=lI.Rp nR (by omega) Am (cO m.af j) q cp X2.1.size (by simp;omega) 89 (by go_simp) (by go_simp) (lD.aj _ _ _ _ (b3.block q M5) ⟨M7,Lv⟩) M6 (by have:=bX.size;omega) (by omega);have EC:m.af.take j++[(cO m.af j)]=m.af.take (j+1):=by rw[List.take_add_one,rC];rfl
    have gL:∀x,x=p\/x<w.1.size+2->Y.1[x]?=wr.1[x]?:=fun x hx=>(iT.block x (by have:=nR.size;omega) (fun e=>by have:=Gy x e.symm;omega)).trans (nR.block x (by omega))
    have mQ:=pO Y (fun x hx=>gL x (by omega)) (gL p (.inl rfl));have nW:(m.af.take (j+1)).length=j+1:=by rw[List.length_take];omega
    rw[EC,List.length_take,Nat.min_eq_left (by omega)]at lJ;obtain⟨yb,yc,rfl,-⟩:=gZ.own (hd:=pQ) (sz:=2) (fun _=>rfl) lJ.gK (fun e=>by rw[e]at nW;simp at nW);rw[nW]at hr lJ;have nU:C3 w.1.size p m.x Y (.slice ak j ck) (.slice none 0 0) (.slice a' m.ai.length c'):=iR.aQ (Nat.le_trans nR.size iT.size) (gL (w.1.size+1) (.inr (by omega))) (gL p (.inl rfl));have o2:=nU.o1;have XF:=nU.fo 1
    have KE:Hid (C3 w.1.size p m.x (Y.setCell ⟨p,1,none⟩ (.slice (some ⟨yb,0,none⟩) (j+1) yc)) (.slice (some ⟨yb,0,none⟩) (j+1) yc) (.slice none 0 0) (.slice a' m.ai.length c')/\MR (w.1.size+2) p (Y.setCell ⟨p,1,none⟩ (.slice (some ⟨yb,0,none⟩) (j+1) yc)) (.slice (some ⟨yb,0,none⟩) (j+1) yc) (.slice none 0 0) (.slice a' m.ai.length c') (m.af.take (j+1)) [] m.ai (fun i=>if i=j then q else gk i) gz/\Below (w.1.size+1) W0 (Y.setCell ⟨p,1,none⟩ (.slice (some ⟨yb,0,none⟩) (j+1) yc))):=
     ⟨nU.Ui _,lJ.set,((bC.trans (nR.mono (by omega))).grown iT (by have:=nR.size;omega) (fun x e=>by have:=Gy x e;omega)).setCell (p:=⟨p,1,none⟩) (by show w.1.size+1<=p;omega) _⟩
    refine hK.out _ _ (fun _=>iD) ?_;clear hK K iR lI bC bX rC l6 b3 s3 nR lJ iT Gy EC gL nW nU dW b2 Gz M5 M6 M7 Lv KH pO CV;refine eQ 15 ?_ rfl ?_ iD ?_;rotate_left
    ·(intro w aG;obtain⟨gX,gY,iy,iA⟩:=aG;go_simp;first|done|with_reducible rfl|exact gX|exact gY|exact iy|exact iA|(rw[if_pos (by omega)]))
    simp only[Act.put];refine dX 16 rfl (fun K hK=>?_);go_simp;refine hK.out _ _ (fun _=>jo) ?_;clear hK K iD;refine dX 17 rfl (fun K hK=>?_);refine df _ rfl (.tmp 21) (.tmp 36) 89 rfl _ _ _ _ (by first|rfl|simp[Act.eval,Act.put]) (by first|rfl|simp[Act.eval,Act.put]) hr ?_;refine hK.out _ _ (fun _=>mQ) ?_;clear hK K hr jo;simp only[Act.put];refine dX 18 rfl (fun K hK=>?_);go_simp;refine hK.out _ _ (fun _=>mQ) ?_;clear hK K;refine dX 19 rfl (fun K hK=>?_);go_simp;refine hK.out _ _ (fun h=>absurd rfl h) ?_;clear hK K;refine bS (by kernel_rfl) ?_ _;go_wp2;exact⟨⟨j+1,some ⟨yb,0,none⟩,yc,_,by omega,by simp,KE.out.1,KE.out.2.1,KE.out.2.2⟩,by simp[intOf];omega⟩
   ·obtain rfl:j=m.af.length:=by omega
    have hd:decide ((m.af.length:Int)<(m.af.length:Int))=false:=by simp
    rw[List.take_length]at lI;have O0:Hid (C3 w.1.size p m.x wr (.slice ak m.af.length ck) (.slice none 0 0) (.slice a' m.ai.length c')/\MR (w.1.size+2) p wr (.slice ak m.af.length ck) (.slice none 0 0) (.slice a' m.ai.length c') m.af [] m.ai gk gz/\Below (w.1.size+1) W0 wr):=⟨iR,lI,bC⟩
    have Wm:m.h.length<=200:=H.out.1.r;clear iR lI bC KC hj aN;generalize wr=wk at *;go_wp2;clear c1;go_loopw[5] (fun v5 wr=>∃(j:Nat) (ar:Option Addr) (cr:Nat) (gr:Nat->Nat),j<=m.h.length/\v5=vI j/\C3 w.1.size p m.x wr (.slice ak m.af.length ck) (.slice ar j cr) (.slice a' m.ai.length c')/\MR (w.1.size+2) p wr (.slice ak m.af.length ck) (.slice ar j cr) (.slice a' m.ai.length c') m.af (m.h.take j) m.ai gk gr/\Below (w.1.size+1) W0 wr) (fun v5 _=>m.h.length-(intOf v5).toNat)
    case atStart=>exact⟨0,none,0,gz,Nat.zero_le _,rfl,O0.out.1,by rw[List.take_zero];exact O0.out.2.1,O0.out.2.2⟩
    case round=>
     obtain⟨j,ar,cr,gr,hj,rfl,iR,lI,bC⟩:=hrel;obtain⟨_,_,c2,_⟩:=HC.out wr bC;by_cases aN:j<m.h.length
     ·have oM:Below w.1.size w wr:=H.out.2.2.1.trans (bC.mono (by omega));obtain⟨_,gu⟩:=H.out.2.1.r;have rC:m.h[j]?=some (atR m.h j):=iV aN;have h6:=H.out.1.rs _ (List.mem_of_getElem? rC);simp only[]at gu;rcases gu with gu|⟨b,off,rfl,hb,h1⟩
      ·omega
      have hr:=(h1 j _ rC).below oM hb;have k0:=hr.c0;have k1:=hr.c1;have k2:=hr.c2;obtain⟨a1,p1,k3,gy,jJ⟩:=hr.c3;have bX:Below wr.1.size wr wr.drew:=aJ.drew;have hc:=C9 wr.drew (atR m.h j) a1 p1 h6.1 (by omega) (((gy.mono oM.size).below bX).mono bX.size);simp only[R4.val]at hc
      have pO:∀Y:World,(∀x,x<w.1.size+1->Y.1[x]?=wr.1[x]?)->Y.1[p]?=wr.1[p]?->(fun X:World=>X.cell? ⟨p,2,none⟩=some (.slice ar j cr)/\X.cell? ⟨w.1.size,2,none⟩=some (.slice (some ⟨b,off,none⟩) m.h.length cl)/\X.cell? ⟨b,off+j*4,none⟩=some (vI (atR m.h j).kind)/\X.cell? ⟨b,off+j*4+1,none⟩=some (vI (atR m.h j).tx)/\X.cell? ⟨b,off+j*4+2,none⟩=some (vI (atR m.h j).b)/\X.cell? ⟨b,off+j*4+3,none⟩=some (.slice a1 (atR m.h j).ag.length p1)) Y:=fun Y h1 h2=>
       ⟨(World.cell?_of_block (a:=⟨p,2,none⟩) h2).trans iR.o2,(World.cell?_of_block (a:=⟨w.1.size,2,none⟩) (h1 w.1.size (by omega))).trans c2,(World.cell?_of_block (a:=⟨b,off+j*4,none⟩) (h1 b (by omega))).trans k0,(World.cell?_of_block (a:=⟨b,off+j*4+1,none⟩) (h1 b (by omega))).trans k1,(World.cell?_of_block (a:=⟨b,off+j*4+2,none⟩) (h1 b (by omega))).trans k2,(World.cell?_of_block (a:=⟨b,off+j*4+3,none⟩) (h1 b (by omega))).trans k3⟩
      have dW:=pO wr.drew (fun _ _=>rfl) rfl;have KH:Hid (C3 w.1.size p m.x wr (.slice ak m.af.length ck) (.slice ar j cr) (.slice a' m.ai.length c')/\MR (w.1.size+2) p wr (.slice ak m.af.length ck) (.slice ar j cr) (.slice a' m.ai.length c') m.af (m.h.take j) m.ai gk gr/\Below (w.1.size+1) W0 wr/\Below wr.1.size wr wr.drew/\m.h[j]?=some (atR m.h j)/\(∀Y:World,(∀x,x<w.1.size+1->Y.1[x]?=wr.1[x]?)->Y.1[p]?=wr.1[p]?->(fun X:World=>X.cell? ⟨p,2,none⟩=some (.slice ar j cr)/\X.cell? ⟨w.1.size,2,none⟩=some (.slice (some ⟨b,off,none⟩) m.h.length cl)/\X.cell? ⟨b,off+j*4,none⟩=some (vI (atR m.h j).kind)/\X.cell? ⟨b,off+j*4+1,none⟩=some (vI (atR m.h j).tx)/\X.cell? ⟨b,off+j*4+2,none⟩=some (vI (atR m.h j).b)/\X.cell? ⟨b,off+j*4+3,none⟩=some (.slice a1 (atR m.h j).ag.length p1)) Y)):=⟨iR,lI,bC,bX,rC,pO⟩
      have Am:=iR.pX;have SK:(j:Int)<(m.h.length:Int):=by omega
      clear iR lI bC oM h1 hr gy jJ bX rC h6 pO;go_wp2_with fail;refine bL 11 (fun X:World=>X.cell? ⟨p,2,none⟩=some (.slice ar j cr)/\X.cell? ⟨w.1.size,2,none⟩=some (.slice (some ⟨b,off,none⟩) m.h.length cl)/\X.cell? ⟨b,off+j*4,none⟩=some (vI (atR m.h j).kind)/\X.cell? ⟨b,off+j*4+1,none⟩=some (vI (atR m.h j).tx)/\X.cell? ⟨b,off+j*4+2,none⟩=some (vI (atR m.h j).b)/\X.cell? ⟨b,off+j*4+3,none⟩=some (.slice a1 (atR m.h j).ag.length p1)) (by kernel_rfl) ?_;generalize Sm:wr.drew=X at *;clear Sm k0 k1 k2 k3 c2;refine eQ 0 ?_ rfl ?_ dW ?_;rotate_left
      ·(intro w aG;obtain⟨gX,gY,iy,iA,K8,K9⟩:=aG;go_simp;first|done|with_reducible rfl|exact gX|exact gY|exact iy|exact iA|exact K8|exact K9|(rw[if_pos (by omega)]))
      simp only[Act.put];refine eQ 1 ?_ rfl ?_ dW ?_;rotate_left
      ·(intro w aG;obtain⟨gX,gY,iy,iA,K8,K9⟩:=aG;go_simp;first|done|with_reducible rfl|exact gX|exact gY|exact iy|exact iA|exact K8|exact K9|(rw[if_pos (by omega)]))
      simp only[Act.put];refine eQ 2 ?_ rfl ?_ dW ?_;rotate_left
      ·(intro w aG;obtain⟨gX,gY,iy,iA,K8,K9⟩:=aG;go_simp;first|done|with_reducible rfl|exact gX|exact gY|exact iy|exact iA|exact K8|exact K9|(rw[if_pos (by omega)]))
      simp only[Act.put];refine eQ 3 ?_ rfl ?_ dW ?_;rotate_left
      ·(intro w aG;obtain⟨gX,gY,iy,iA,K8,K9⟩:=aG;go_simp;first|done|with_reducible rfl|exact gX|exact gY|exact iy|exact iA|exact K8|exact K9|(rw[if_pos (by omega)]))
      simp only[Act.put];refine eQ 4 ?_ rfl ?_ dW ?_;rotate_left
      ·(intro w aG;obtain⟨gX,gY,iy,iA,K8,K9⟩:=aG;go_simp;first|done|with_reducible rfl|exact gX|exact gY|exact iy|exact iA|exact K8|exact K9|(rw[if_pos (by omega)]))
      simp only[Act.put];refine eQ 5 ?_ rfl ?_ dW ?_;rotate_left
      ·(intro w aG;obtain⟨gX,gY,iy,iA,K8,K9⟩:=aG;go_simp;first|done|with_reducible rfl|exact gX|exact gY|exact iy|exact iA|exact K8|exact K9|(rw[if_pos (by omega)]))
      simp only[Act.put];refine eQ 6 ?_ rfl ?_ dW ?_;rotate_left
      ·(intro w aG;obtain⟨gX,gY,iy,iA,K8,K9⟩:=aG;go_simp;first|done|with_reducible rfl|exact gX|exact gY|exact iy|exact iA|exact K8|exact K9|(rw[if_pos (by omega)]))
      simp only[Act.put];refine dX 7 rfl (fun K hK=>?_);go_simp;refine hc.mono ?_;clear hc;rintro e X2 ⟨q,cp,rfl,Gz,M5,M6,M7,b2⟩;obtain⟨iR,lI,bC,bX,rC,pO⟩:=KH.out;have CV:=iR.pl;have l6:Below wr.1.size wr X2:=bX.trans (b2.mono bX.size);have iD:=pO X2 (fun x hx=>l6.block x (by omega)) (l6.block p Am);have b3:Below X2.1.size X2 (X2.alloc (.cells #[vI (atR m.h j).kind,vI (atR m.h j).tx,vI (atR m.h j).b,.slice (some ⟨q,0,none⟩) (atR m.h j).ag.length cp] 148)):=aJ.alloc aR _;have s3:(X2.alloc (.cells #[vI (atR m.h j).kind,vI (atR m.h j).tx,vI (atR m.h j).b,.slice (some ⟨q,0,none⟩) (atR m.h j).ag.length cp] 148)).1.size=X2.1.size+1:=by simp
      have nR:Below wr.1.size wr (X2.alloc (.cells #[vI (atR m.h j).kind,vI (atR m.h j).tx,vI (atR m.h j).b,.slice (some ⟨q,0,none⟩) (atR m.h j).ag.length cp] 148)):=l6.trans (b3.mono l6.size);have jo:=pO (X2.alloc (.cells #[vI (atR m.h j).kind,vI (atR m.h j).tx,vI (atR m.h j).b,.slice (some ⟨q,0,none⟩) (atR m.h j).ag.length cp] 148)) (fun x hx=>nR.block x (by omega)) (nR.block p Am);obtain⟨v',Y,hr,lJ,iT,Gy⟩:=lI.Rq nR (by omega) Am (atR m.h j) q cp X2.1.size (by simp;omega) 90 (by go_simp) (by go_simp) (by go_simp) (by go_simp) (AtR.aj _ _ _ _ (b3.block q M5) M7) M6 (by have:=bX.size;omega) (by omega);have EC:m.h.take j++[(atR m.h j)]=m.h.take (j+1):=by rw[List.take_add_one,rC];rfl
      have gL:∀x,x=p\/x<w.1.size+2->Y.1[x]?=wr.1[x]?:=fun x hx=>(iT.block x (by have:=nR.size;omega) (fun e=>by have:=Gy x e.symm;omega)).trans (nR.block x (by omega))
      have mQ:=pO Y (fun x hx=>gL x (by omega)) (gL p (.inl rfl));have nW:(m.h.take (j+1)).length=j+1:=by rw[List.length_take];omega
      rw[EC,List.length_take,Nat.min_eq_left (by omega)]at lJ;obtain⟨yb,yc,rfl,-⟩:=gZ.own (hd:=oZ) (sz:=4) (fun _=>rfl) lJ.gR (fun e=>by rw[e]at nW;simp at nW);rw[nW]at hr lJ;have nU:C3 w.1.size p m.x Y (.slice ak m.af.length ck) (.slice ar j cr) (.slice a' m.ai.length c'):=iR.aQ (Nat.le_trans nR.size iT.size) (gL (w.1.size+1) (.inr (by omega))) (gL p (.inl rfl));have o2:=nU.o2;have XF:=nU.fo 2
      have KE:Hid (C3 w.1.size p m.x (Y.setCell ⟨p,2,none⟩ (.slice (some ⟨yb,0,none⟩) (j+1) yc)) (.slice ak m.af.length ck) (.slice (some ⟨yb,0,none⟩) (j+1) yc) (.slice a' m.ai.length c')/\MR (w.1.size+2) p (Y.setCell ⟨p,2,none⟩ (.slice (some ⟨yb,0,none⟩) (j+1) yc)) (.slice ak m.af.length ck) (.slice (some ⟨yb,0,none⟩) (j+1) yc) (.slice a' m.ai.length c') m.af (m.h.take (j+1)) m.ai gk (fun i=>if i=j then q else gr i)/\Below (w.1.size+1) W0 (Y.setCell ⟨p,2,none⟩ (.slice (some ⟨yb,0,none⟩) (j+1) yc))):=
       ⟨nU.NZ _,lJ.set,((bC.trans (nR.mono (by omega))).grown iT (by have:=nR.size;omega) (fun x e=>by have:=Gy x e;omega)).setCell (p:=⟨p,2,none⟩) (by show w.1.size+1<=p;omega) _⟩
      refine hK.out _ _ (fun _=>iD) ?_;clear hK K iR lI bC bX rC l6 b3 s3 nR lJ iT Gy EC gL nW nU dW b2 Gz M5 M6 M7 KH pO CV;refine dX 8 rfl (fun K hK=>?_);go_simp;refine hK.out _ _ (fun _=>jo) ?_;clear hK K iD;refine dX 9 rfl (fun K hK=>?_);refine df _ rfl (.tmp 47) (.tmp 54) 90 rfl _ _ _ _ (by first|rfl|simp[Act.eval,Act.put]) (by first|rfl|simp[Act.eval,Act.put]) hr ?_;refine hK.out _ _ (fun _=>mQ) ?_;clear hK K hr jo;simp only[Act.put];refine dX 10 rfl (fun K hK=>?_);go_simp;refine hK.out _ _ (fun _=>mQ) ?_;clear hK K;refine dX 11 rfl (fun K hK=>?_);go_simp;refine hK.out _ _ (fun h=>absurd rfl h) ?_;clear hK K;refine bS (by kernel_rfl) ?_ _;go_wp2;exact⟨⟨j+1,some ⟨yb,0,none⟩,yc,_,by omega,by simp,KE.out.1,KE.out.2.1,KE.out.2.2⟩,by simp[intOf];omega⟩
     ·obtain rfl:j=m.h.length:=by omega
      have ki:decide ((m.h.length:Int)<(m.h.length:Int))=false:=by simp
      rw[List.take_length]at lI;have KF:Hid (MR (w.1.size+2) p wr (.slice ak m.af.length ck) (.slice ar m.h.length cr) (.slice a' m.ai.length c') m.af m.h m.ai gk gr/\Below (w.1.size+1) W0 wr):=⟨lI,bC⟩
      obtain⟨r0,r1,r2,r3,fr,o0,o1,o2,o3,fo,pl,pX⟩:=iR;have f0:=fr 0;have f1:=fr 1;have f2:=fr 2;have f3:=fr 3;clear lI bC O0 hj aN fr fo;go_wp2;refine bodyPost_ret (v:=.agg #[.bool m.x,.slice ak m.af.length ck,.slice ar m.h.length cr,.slice a' m.ai.length c']) (by simp[results,Tryz.results42,go_sem,r0,r1,r2,r3]) rfl ⟨⟨ak,ck,ar,cr,a',c'⟩,p,gk,gr,rfl,?_,?_⟩
      ·refine KF.out.1.aQ (by simp[World.setCell]) (fun x _ hx _=>?_);exact(Below.heap_setCell _ _ _ _ (by show x≠w.1.size+1;omega)).trans ((Below.heap_setCell _ _ _ _ (by show x≠w.1.size+1;omega)).trans ((Below.heap_setCell _ _ _ _ (by show x≠w.1.size+1;omega)).trans (Below.heap_setCell _ _ _ _ (by show x≠w.1.size+1;omega))))
      ·exact((((H.out.2.2.1.trans (KF.out.2.mono (by omega))).setCell (p:=⟨_,_,none⟩) (by simp) _).setCell (p:=⟨_,_,none⟩) (by simp) _).setCell (p:=⟨_,_,none⟩) (by simp) _).setCell (p:=⟨_,_,none⟩) (by simp) _
end Go.Proofs.YtalnmfefmiapoaaGreatDoor
