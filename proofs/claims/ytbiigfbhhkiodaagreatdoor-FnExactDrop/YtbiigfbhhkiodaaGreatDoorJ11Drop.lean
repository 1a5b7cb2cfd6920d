import Derived.Test.YtbiigfbhhkiodaaGreatDoorJ10Both
import Derived.Test.YtbiigfbhhkiodaaGreatDoorTie
import Derived.Test.YtbiigfbhhkiodaaGreatDoorCards
set_option maxHeartbeats 16000000
set_option maxRecDepth 100000
namespace Go.Proofs.YtbiigfbhhkiodaaGreatDoor
open Go.RowKit
open Go.Sort (grow)
section
open Go.Proofs.Tryz
theorem Gy(w:World)(a1:OA)(c1:Nat)(a2:OA)(c2:Nat)(a3:OA)(c3:Nat)(k:C6)(y r s:Int)(hl:df.L k)(h:df.Rd w a1 c1 a2 c2 a3 c3 k):
  Calls prog 6 #[.agg #[vI k.v,vI k.u,.slice a1 k.f.length c1,.slice a2 k.aa.length c2,.slice a3 k.c.length c3,.bool k.w],vI y,vI r,vI s] w (jZ w (zZ k y r s) (AR k y r s)):=by
 obtain⟨U0,kN,lD,nO,sM⟩:=iI w (dU a1 c1 a2 c2 a3 c3 k) 32;obtain⟨U1,uN,vH,zI,Gx⟩:=iI U0 sH 32;have hU:U1=(w.alloc (.cells #[vI k.v,vI k.u,.slice a1 k.f.length c1,.slice a2 k.aa.length c2,.slice a3 k.c.length c3,.bool k.w] 32)).alloc (.cells #[vI 0,vI 0,.slice none 0 0,.slice none 0 0,.slice none 0 0,.bool false] 32):=by rw[uN,kN]
 rw[sM]at zI;have x0:=nO.later vH;have bU:=au lD vH;have H:=nE bU (show w.1.size+2<=U1.1.size by omega) x0 zI (h.later bU);have hc:=Cq U1 a1 c1 a2 c2 a3 c3 k y hl (h.later bU);have HL:=af hl;have p0:=x0.c6;rw[hU]at p0;clear kN uN lD vH nO zI sM Gx x0 bU h hl;clear U0;go_enter func6,ntmps6;go_wp2_with fail;rw[<-hU];clear hU p0;refine hc.mono ?_;clear hc;rintro e w1 ⟨rfl,b1⟩;have H1:=nE (au H.out.1 b1) (Nat.le_trans H.out.2.1 b1.size) (H.out.2.2.1.later b1) (H.out.2.2.2.1.later b1) (H.out.2.2.2.2.later b1);clear b1 H;have q0:=H1.out.2.2.1.c6;by_cases hz:fK k y=0;rotate_left
 ·obtain⟨JW,Zr⟩:=Jw k y;have jD:=tY w1 a1 c1 a2 c2 a3 c3 k (fK k y) H1.out.2.2.2.2 JW Zr;have HX:=dw (show AR k y r s=fK k y by rw[AR,if_neg hz]) (show zZ k y r s=iE k by rw[zZ,if_neg hz]);have eO:(fK k y != 0)=true:=by simpa using hz
  rw[uI hz];clear JW Zr hz;generalize fK k y=n at *;generalize iE k=N at *;go_wp2_with fail;refine jD.mono ?_;clear jD q0;rintro e w2 ⟨e1,g1,e2,g2,e3,g3,PP,rfl,how,b2⟩;have xr:=H1.out.2.2.2.1.later b2;have zb:=xr.put (dU e1 g1 e2 g2 e3 g3 N) rfl;obtain⟨Z,hZ⟩:=bO (cO w2 (w.1.size+1) 0 (dU e1 g1 e2 g2 e3 g3 N));rw[<-hZ]at zb;have HZ:Hid (Z=((((((w2.setCell ⟨w.1.size+1,0,none⟩ (vI N.v)).setCell ⟨w.1.size+1,1,none⟩ (vI N.u)).setCell ⟨w.1.size+1,2,none⟩ (.slice e1 N.f.length g1)).setCell ⟨w.1.size+1,3,none⟩ (.slice e2 N.aa.length g2)).setCell ⟨w.1.size+1,4,none⟩ (.slice e3 N.c.length g3)).setCell ⟨w.1.size+1,5,none⟩ (.bool N.w))):=hZ;have Al:=H1.out.2.1
  have KE:Hid (jZ w (zZ k y r s) (AR k y r s) (.returned (.tuple #[.agg #[vI N.v,vI N.u,.slice e1 N.f.length g1,.slice e2 N.aa.length g2,.slice e3 N.c.length g3,.bool N.w],vI n])) Z):=by
   unfold Hid;rw[HX.out.1,HX.out.2];refine⟨e1,g1,e2,g2,e3,g3,PP,rfl,?_,?_⟩
   ·exact(how.low (show w.1.size<=_ by omega)).aM (by rw[hZ,aS];exact Nat.le_refl _) (fun q hq=>by rw[hZ];exact aO (fun e=>by have:=(how.of hq).1;omega) _ _ _)
   ·rw[hZ];exact aI (by omega) _ _ _ (au H1.out.1 b2)
  have c0:=xr.1 0 _ rfl;have c1:=xr.1 1 _ rfl;have c2:=xr.1 2 _ rfl;have c3:=xr.1 3 _ rfl;have c4:=xr.1 4 _ rfl;have c5:=xr.1 5 _ rfl;have f0:=xr.2.1 0;have f1:=xr.2.1 1;have f2:=xr.2.1 2;have f3:=xr.2.1 3;have f4:=xr.2.1 4;have f5:=xr.2.1 5;have z0:=zb.c6;clear xr zb hZ Al how b2 H1 HX;go_wp2;rw[<-HZ.out];exact bodyPost_ret (v:=.tuple #[.agg #[vI N.v,vI N.u,.slice e1 N.f.length g1,.slice e2 N.aa.length g2,.slice e3 N.c.length g3,.bool N.w],vI n]) (by simp[results,results6,go_sem,z0]) rfl KE.out
 obtain⟨hk,hi,-,-⟩:=lh hz;rw[hz,Dq hz];have hs:=Ff w1 a1 c1 a2 c2 a3 c3 k y r s 0 false hk hi HL.out H1.out.2.2.2.2;have HX:=dw (show AR k y r s=wO k y r s 0 false by rw[AR,if_pos hz]) (show zZ k y r s=Af k y r s 0 false by rw[zZ,if_pos hz]);clear hz hk hi;generalize wO k y r s 0 false=n at *;generalize Af k y r s 0 false=N at *;generalize (ib k.c y:Int)=ix at *;go_wp2_with fail;refine hs.mono ?_;clear hs q0;rintro e w2 ⟨e1,g1,e2,g2,e3,g3,PP,rfl,how,b2⟩;have xr:=H1.out.2.2.2.1.later b2;have zb:=xr.put (dU e1 g1 e2 g2 e3 g3 N) rfl;obtain⟨Z,hZ⟩:=bO (cO w2 (w.1.size+1) 0 (dU e1 g1 e2 g2 e3 g3 N));rw[<-hZ]at zb;have HZ:Hid (Z=((((((w2.setCell ⟨w.1.size+1,0,none⟩ (vI N.v)).setCell ⟨w.1.size+1,1,none⟩ (vI N.u)).setCell ⟨w.1.size+1,2,none⟩ (.slice e1 N.f.length g1)).setCell ⟨w.1.size+1,3,none⟩ (.slice e2 N.aa.length g2)).setCell ⟨w.1.size+1,4,none⟩ (.slice e3 N.c.length g3)).setCell ⟨w.1.size+1,5,none⟩ (.bool N.w))):=hZ;have Al:=H1.out.2.1
 have KE:Hid (jZ w (zZ k y r s) (AR k y r s) (.returned (.tuple #[.agg #[vI N.v,vI N.u,.slice e1 N.f.length g1,.slice e2 N.aa.length g2,.slice e3 N.c.length g3,.bool N.w],vI n])) Z):=by
  unfold Hid;rw[HX.out.1,HX.out.2];refine⟨e1,g1,e2,g2,e3,g3,PP,rfl,?_,?_⟩
  ·exact(how.low (show w.1.size<=_ by omega)).aM (by rw[hZ,aS];exact Nat.le_refl _) (fun q hq=>by rw[hZ];exact aO (fun e=>by have:=(how.of hq).1;omega) _ _ _)
  ·rw[hZ];exact aI (by omega) _ _ _ (au H1.out.1 b2)
 have c0:=xr.c6;have f0:=xr.f6;have z0:=zb.c6;clear xr zb hZ Al how b2 H1 HX;go_wp2;rw[<-HZ.out];exact bodyPost_ret (v:=.tuple #[.agg #[vI N.v,vI N.u,.slice e1 N.f.length g1,.slice e2 N.aa.length g2,.slice e3 N.c.length g3,.bool N.w],vI n]) (by simp[results,results6,go_sem,z0]) rfl KE.out
end
section
open Go.Proofs.Tryz
theorem NV(w:World)(b1 b2 b3 b4:Nat)(k:C6)(n:Int)(hg:HG w)
  (hC:∀X,X=(w.alloc (.cells #[vI 0,vI 0,.slice none 0 0,.slice none 0 0,.slice none 0 0,.bool false] 32)).alloc (.cells #[vI 0] 2)->Calls prog 24 #[.pointer (some ⟨b1,0,none⟩),.pointer (some ⟨b2,0,none⟩),.pointer (some ⟨b3,0,none⟩),.pointer (some ⟨b4,0,none⟩)] X (xg X k n)):
  Calls prog 23 #[.func (.func 24) #[] #[.pointer (some ⟨b1,0,none⟩),.pointer (some ⟨b2,0,none⟩),.pointer (some ⟨b3,0,none⟩),.pointer (some ⟨b4,0,none⟩)]] w (jZ w k n):=by
 have kn:∀(fn:Fn) (first cap:Array Value) (w:World),(Instr.makeFunc fn first cap).run prog w=.ok (.func fn first cap) w:=fun _ _ _ _=>rfl
 obtain⟨W1,fA⟩:=bO ((w.alloc (.cells #[vI 0,vI 0,.slice none 0 0,.slice none 0 0,.slice none 0 0,.bool false] 32)).alloc (.cells #[vI 0] 2));have hc:=hC W1 fA;have b1':Below w.1.size w W1:=by rw[fA];exact(aK.alloc aU _).alloc (by simp) _
 have s1:W1.1.size=w.1.size+2:=by rw[fA];simp
 have x0:Bx W1 w.1.size sH:=by
  have:=(Bx.made w sH 32).later (aK.alloc aU (.cells #[vI 0] 2));rw[fA];exact this
 have x1:Bx W1 (w.1.size+1) [vI 0]:=by
  have h:=Bx.made (w.alloc (.cells #[vI 0,vI 0,.slice none 0 0,.slice none 0 0,.slice none 0 0,.bool false] 32)) [vI 0] 2;rw[show(w.alloc (.cells #[vI 0,vI 0,.slice none 0 0,.slice none 0 0,.slice none 0 0,.bool false] 32)).1.size=w.1.size+1 by simp]at h;rw[fA];exact h
 have K:=nE b1' s1 x0 x1 (hg.later b1');clear b1' s1 x0 x1 hC hg;go_enter_defers func23,ntmps23;go_wp2_with fail;rw[<-fA];clear fA;refine hc.mono ?_;clear hc;rintro e w2 ⟨a1,c1,a2,c2,a3,c3,P,WG,how,b2'⟩;obtain⟨k1,k2,k3,k4,k5⟩:=K.out;have y0:=k3.later b2';have y1:=k4.later b2';have NI:=au k1 b2';have ZG:=b2'.size;rcases WG with ⟨rfl,rfl⟩|⟨hn,rfl⟩
 ·obtain⟨Y,hY⟩:=bO ((cO w2 w.1.size 0 (dU a1 c1 a2 c2 a3 c3 k)).setCell ⟨w.1.size+1,0,none⟩ (vI 0));have KE:Hid (jZ w k 0 (.returned (.tuple #[.agg #[vI k.v,vI k.u,.slice a1 k.f.length c1,.slice a2 k.aa.length c2,.slice a3 k.c.length c3,.bool k.w],vI 0])) Y):=⟨a1,c1,a2,c2,a3,c3,P,rfl,by rw[hY];exact(df.Ow.low how (by omega)).aM (by simp[World.setCell,aS]) (fun q hq=>(Below.heap_setCell _ _ _ _ (show q≠w.1.size+1 by have:=(how.of hq).1;omega)).trans (aO (show q≠w.1.size by have:=(how.of hq).1;omega) _ _ _)),by rw[hY];exact(aI (w:=w) aU _ _ _ NI).setCell (p:=⟨w.1.size+1,0,none⟩) (by show w.1.size<=w.1.size+1;omega) _⟩
  have yb:Bx Y w.1.size (dU a1 c1 a2 c2 a3 c3 k):=by rw[hY];exact(y0.put (dU a1 c1 a2 c2 a3 c3 k) rfl).dS (by omega) _
  have t0:Y.cell? ⟨w.1.size+1,0,none⟩=some (vI 0):=by rw[hY];exact ay ((World.cell?_of_block (a:=⟨w.1.size+1,0,none⟩) (aO (show w.1.size+1≠w.1.size by omega) _ _ _)).trans (y1.1 0 _ rfl))
  have z0:=yb.c6;have r0:=y0.c6;have f0:=y0.f6;have s0:=y1.1 0 _ rfl;have g0:=y1.2.1 0;simp only[cO]at hY;clear y0 y1 NI how k1 k2 k3 k4 k5 b2' ZG K yb;go_wp2;rw[<-hY];clear hY r0 f0 s0 g0;refine leaves_cons (f:=54) (args:=#[.pointer (some ⟨w.1.size,0,none⟩),.pointer (some ⟨w.1.size+1,0,none⟩)]) (by simp) (by simp[go_sem]) ?_;refine(BN w.1.size (w.1.size+1) Y).mono ?_;rintro e u' gH ⟨rfl,rfl,rfl⟩;simp only[Leaves,settle];refine⟨.tuple #[.agg #[vI k.v,vI k.u,.slice a1 k.f.length c1,.slice a2 k.aa.length c2,.slice a3 k.c.length c3,.bool k.w],vI 0],by simp[results,results23,go_sem,z0,t0],KE.out⟩
 ·have cF:=rQ w.1.size (w.1.size+1) n k.v k.u a1 k.f.length c1 a2 k.aa.length c2 a3 k.c.length c3 k.w sH (vI 0) w2 (k5.later b2') rfl y0 y1 (by omega);have KX:=nE y0 y1 NI how k2;clear y0 y1 NI how k1 k2 k3 k4 k5 b2' ZG K;go_wp2;refine leaves_cons (f:=54) (args:=#[.pointer (some ⟨w.1.size,0,none⟩),.pointer (some ⟨w.1.size+1,0,none⟩)]) (by simp) (by simp[go_sem]) ?_;refine cF.mono ?_;rintro e u' w3 ⟨rfl,rfl,X,bX,hY⟩;obtain⟨y0,y1,NI,how,k2⟩:=KX.out;have WU:=how.later bX;have y0':=y0.later bX;have y1':=y1.later bX;have KE:Hid (jZ w k n (.returned (.tuple #[.agg #[vI k.v,vI k.u,.slice a1 k.f.length c1,.slice a2 k.aa.length c2,.slice a3 k.c.length c3,.bool k.w],vI n])) w3):=⟨a1,c1,a2,c2,a3,c3,P,rfl,by rw[hY];exact(df.Ow.low WU (by omega)).aM (by simp[World.setCell,aS]) (fun q hq=>(Below.heap_setCell _ _ _ _ (show q≠w.1.size+1 by have:=(how.of hq).1;omega)).trans (aO (show q≠w.1.size by have:=(how.of hq).1;omega) _ _ _)),by rw[hY];exact(aI (w:=w) aU _ _ _ (au NI bX)).setCell (p:=⟨w.1.size+1,0,none⟩) (by show w.1.size<=w.1.size+1;omega) _⟩
  have yb:Bx w3 w.1.size (dU a1 c1 a2 c2 a3 c3 k):=by rw[hY];exact(y0'.put (dU a1 c1 a2 c2 a3 c3 k) rfl).dS (by omega) _
  have t0:w3.cell? ⟨w.1.size+1,0,none⟩=some (vI n):=by rw[hY];exact ay ((World.cell?_of_block (a:=⟨w.1.size+1,0,none⟩) (aO (show w.1.size+1≠w.1.size by omega) _ _ _)).trans (y1'.1 0 _ rfl))
  have z0:=yb.c6;simp only[settle];refine⟨.tuple #[.agg #[vI k.v,vI k.u,.slice a1 k.f.length c1,.slice a2 k.aa.length c2,.slice a3 k.c.length c3,.bool k.w],vI n],by simp[results,results23,go_sem,z0,t0],KE.out⟩
end
section
open Go.Proofs.Tryz
theorem Gi(w:World)(a1:OA)(c1:Nat)(a2:OA)(c2:Nat)(a3:OA)(c3:Nat)(k:C6)(y r s:Int)(hl:df.L k)(h:df.Rd w a1 c1 a2 c2 a3 c3 k)(hg:HG w):
  Calls prog 8 #[.agg #[vI k.v,vI k.u,.slice a1 k.f.length c1,.slice a2 k.aa.length c2,.slice a3 k.c.length c3,.bool k.w],vI y,vI r,vI s] w (jZ w (zZ k y r s) (AR k y r s)):=by
 have kn:∀(fn:Fn) (first cap:Array Value) (w:World),(Instr.makeFunc fn first cap).run prog w=.ok (.func fn first cap) w:=fun _ _ _ _=>rfl
 obtain⟨U0,kN,lD,nO,sM⟩:=iI w (dU a1 c1 a2 c2 a3 c3 k) 32;obtain⟨U1,uN,vH,zI,Gx⟩:=iI U0 [vI y] 2;obtain⟨U2,Iq,FQ,Px,UE⟩:=iI U1 [vI r] 2;obtain⟨U3,Y6,P9,cj,nm⟩:=iI U2 [vI s] 2;obtain⟨U4,Y7,NG,cm,np⟩:=iI U3 sH 32;have hU:U4=(((((w.alloc (.cells #[vI k.v,vI k.u,.slice a1 k.f.length c1,.slice a2 k.aa.length c2,.slice a3 k.c.length c3,.bool k.w] 32)).alloc (.cells #[vI y] 2)).alloc (.cells #[vI r] 2)).alloc (.cells #[vI s] 2)).alloc (.cells #[vI 0,vI 0,.slice none 0 0,.slice none 0 0,.slice none 0 0,.bool false] 32)):=by rw[Y7,Y6,Iq,uN,kN]
 have z1:U1.1.size=w.1.size+2:=by omega
 have z2:U2.1.size=w.1.size+3:=by omega
 have z3:U3.1.size=w.1.size+4:=by omega
 have z4:U4.1.size=w.1.size+5:=by omega
 have b5:=(au (au (au (au lD vH) FQ) P9) NG)
 have x0:=((((nO.later vH).later FQ).later P9).later NG)
 have x1:=(((zI.later FQ).later P9).later NG)
 have x2:=((Px.later P9).later NG)
 have x3:=(cj.later NG)
 have x4:=cm;rw[sM]at x1;rw[z1]at x2;rw[z2]at x3;rw[z3]at x4
 have hf:=NV U4 w.1.size (w.1.size+1) (w.1.size+2) (w.1.size+3) (zZ k y r s) (AR k y r s) (hg.later b5) (fun X hX=>by
  have bX:Below U4.1.size U4 X:=by rw[hX];exact(aK.alloc aU _).alloc (by simp) _
  exact NS X w.1.size (w.1.size+1) (w.1.size+2) (w.1.size+3) a1 c1 a2 c2 a3 c3 k y r s hl (h.later (au b5 bX)) (x0.later bX) (x1.later bX) (x2.later bX) (x3.later bX))
 have H:=fP b5 x4 z4;clear kN lD nO sM x0 uN vH zI Gx x1 Iq FQ Px UE x2 Y6 P9 cj nm x3 Y7 NG cm np x4 z1 z2 z3 z4 b5 h hg hl;clear U0 U1 U2 U3;go_enter func8,ntmps8;go_wp2_with fail;rw[<-hU];clear hU;refine hf.mono ?_;clear hf;rintro e w3 ⟨e1,g1,e2,g2,e3,g3,PP,rfl,how,b3⟩;have y0:=H.out.2.1.later b3;have r0:=y0.c6;have f0:=y0.f6;have KE:=fP how (au H.out.1 b3) H.out.2.2;clear y0 how b3 H;generalize zZ k y r s=N at *;generalize AR k y r s=n at *;go_wp2;refine bodyPost_ret (v:=.tuple #[.agg #[vI N.v,vI N.u,.slice e1 N.f.length g1,.slice e2 N.aa.length g2,.slice e3 N.c.length g3,.bool N.w],vI n]) (by simp[results,results8,go_sem,r0]) rfl ?_;refine⟨e1,g1,e2,g2,e3,g3,PP,rfl,?_,?_⟩
 ·exact(KE.out.1.low (by have:=KE.out.2.2;omega)).aM (w':=cO w3 (w.1.size+4) 0 (dU e1 g1 e2 g2 e3 g3 N)) (by rw[aS];exact Nat.le_refl _) (fun q hq=>aO (fun e=>by have:=(KE.out.1.of hq).1;have:=KE.out.2.2;omega) _ _ _)
 ·exact aI (w:=w) (by omega) (dU e1 g1 e2 g2 e3 g3 N) w3 0 KE.out.2.1
end
namespace fnExactDrop
open Go.Proofs.Tryz
open Go.ChangeShapes Go.WideShapes Go.ChangeAt Go.RowKit
theorem own:ownKnob prog.godebug=none:=by kernel_rfl
theorem laidOut:laidOutB prog=true:=by kernel_rfl
def Yv(X:World)(N:C6)(o0:Int)(e:Ending)(w':World):Prop:=∃(ra:OA) (rb:Nat) (rc:OA) (rd:Nat) (re:OA) (rf:Nat) (P:Nat->Prop),e=.returned (.tuple #[.agg #[vI N.v,vI N.u,.slice ra N.f.length rb,.slice rc N.aa.length rd,.slice re N.c.length rf,.bool N.w],vI o0])/\df.Ow w' X.1.size ra rb rc rd re rf N P/\Below X.1.size X w'
theorem wz(w:World)(qp:OA)(qx:Nat)(qy:OA)(qA:Nat)(qB:OA)(qC:Nat)(k:C6)(y:Int)(r:Int)(s:Int)(lk:df.L k)(hk:df.Rd w qp qx qy qA qB qC k)(Qz:HG w)(hg:vv k<=1048576):
  Calls prog 3 #[.agg #[vI k.v,vI k.u,.slice qp k.f.length qx,.slice qy k.aa.length qA,.slice qB k.c.length qC,.bool k.w],vI y,vI r,vI s] w fun e w'=>e=.returned (.bool true)/\Below w.1.size w w':=by
 have tk:=af (df.S.of (by omega));obtain⟨N,hN⟩:=bO (zZ k y r s);obtain⟨o0,SB⟩:=bO (AR k y r s)
 have A1:Hid (∀(X:World) (rG:OA) (rH:Nat) (rJ:OA) (rM:Nat) (rO:OA) (rP:Nat),df.Rd X rG rH rJ rM rO rP k->HG X->Calls prog 6 #[.agg #[vI k.v,vI k.u,.slice rG k.f.length rH,.slice rJ k.aa.length rM,.slice rO k.c.length rP,.bool k.w],vI y,vI r,vI s] X (Yv X N o0)):=by
  rw[hN,SB];intro X rG rH rJ rM rO rP h1 _;exact Gy X rG rH rJ rM rO rP k y r s lk h1
 have A2:Hid (∀(X:World) (rG:OA) (rH:Nat) (rJ:OA) (rM:Nat) (rO:OA) (rP:Nat),df.Rd X rG rH rJ rM rO rP k->HG X->Calls prog 8 #[.agg #[vI k.v,vI k.u,.slice rG k.f.length rH,.slice rJ k.aa.length rM,.slice rO k.c.length rP,.bool k.w],vI y,vI r,vI s] X (Yv X N o0)):=by
  rw[hN,SB];intro X rG rH rJ rM rO rP h1 hX;exact Gi X rG rH rJ rM rO rP k y r s lk h1 hX
 have tN:Hid (df.S N):=by
  rw[hN];exact df.S.of (Qt k y r s (by omega))
 have zN:Hid (vv N<=1048576):=by
  rw[hN];exact Qt k y r s (by omega)
 clear hN SB;have tD:(o0 != o0)=false:=by simp
 obtain⟨U0,kN,lD,nO,Yd⟩:=iI w (dU qp qx qy qA qB qC k) 26;have Fk:=af (nO);have Rk:=af ((hk).later lD);have Bw:=af (lD);have VM:=af (Qz);clear Qz;have ZU:Hid (U0.1.size=w.1.size+1):=by unfold Hid;omega
 clear lD nO Yd hk;have kC:Hid (Below U0.1.size U0 U0):=aK;go_enter func3,ntmps3;have bL:=(Fk.out.later kC.out)
 have p0:=bL.c6;clear bL;rw[kN]at p0;go_wp2_with fail;rw[<-kN];clear kN;refine(df.sz U0 qp qx qy qA qB qC k lk (Rk.out.later kC.out)).mono ?_;rw[cu (by omega)];rintro e s1 ⟨rfl,Kb⟩;clear p0;have oU:=af (au kC.out Kb);have J6:=af (Kb.size);clear kC Kb;have g0:decide ((((1048576-vv k):Nat):Int)<0)=false:=by simp
 have bL:=(Fk.out.later oU.out)
 have p0:=bL.c6;clear bL;go_wp2_with fail;refine(df.to s1 qp qx qy qA qB qC k tk.out (Rk.out.later oU.out)).mono ?_;rintro e t2 ⟨Mq,Mr,Ms,Mt,Mv,Mw,_,rfl,oT,VU⟩;have RI:=af oT.sl;clear oT p0;have Bc:=af (au oU.out VU);have Nz:=af (VU.size);clear oU VU;go_wp2_with fail;refine(A1.out t2 Mq Mr Ms Mt Mv Mw RI.out ((VM.out.later Bw.out).later Bc.out)).mono ?_;rintro e t3 ⟨OO,OP,OQ,OU,OV,OW,Pw,rfl,ow,VV⟩;clear RI;obtain⟨vw,QX⟩:=bO (t3.alloc (.cells #[vI N.v,vI N.u,.slice OO N.f.length OP,.slice OQ N.aa.length OU,.slice OV N.c.length OW,.bool N.w] 32));have V7:Below t3.1.size t3 vw:=by rw[QX];exact aK.alloc aU _
 have Fw:Hid (Bx vw t3.1.size (dU OO OP OQ OU OV OW N)):=by rw[QX];exact Bx.made t3 (dU OO OP OQ OU OV OW N) _
 have Ow:=af (ow.later V7);have tf:Hid (∀x,Pw x->x≠t3.1.size):=fun x hx=>by have:=(ow.of hx).2;omega
 obtain⟨qw,mm⟩:=bO t3.1.size;have bb:=au VV V7;have Lw:=af (VV.size);clear ow VV V7 mm qw;have wQ:=af (au Bc.out bb);have ND:=af (bb.size);clear Bc bb;have Hd:Hid (Below vw.1.size vw vw):=aK;have bL:=(Fk.out.later wQ.out)
 have p0:=bL.c6;clear bL;rw[QX]at p0;go_wp2_with fail;rw[<-QX];clear QX;refine(df.to vw qp qx qy qA qB qC k tk.out (Rk.out.later wQ.out)).mono ?_;rintro e t4 ⟨zJ,zK,zL,zM,zO,zP,Xk,rfl,ox,VW⟩;clear p0;obtain⟨xk,zg⟩:=bO (t4.alloc (.cells #[vI k.v,vI k.u,.slice zJ k.f.length zK,.slice zL k.aa.length zM,.slice zO k.c.length zP,.bool k.w] 32));have V9:Below t4.1.size t4 xk:=by rw[zg];exact aK.alloc aU _
 have fa:Hid (Bx xk t4.1.size (dU zJ zK zL zM zO zP k)):=by rw[zg];exact Bx.made t4 (dU zJ zK zL zM zO zP k) _
 have S9:=af (ox.later V9);have Ta:Hid (∀q,Xk q->vw.1.size<=q/\q<t4.1.size):=fun q hq=>ox.of hq
 have bb:=au VW V9;have Nw:=af (VW.size);have Ny:Hid (xk.1.size=t4.1.size+1):=by rw[Hid,zg];simp
 clear ox VW V9;have Bd:=af (au wQ.out bb);have He:=af (au Hd.out bb);have NF:=af (bb.size);clear wQ Hd bb;have qK:Hid (Below xk.1.size xk xk):=aK;have wX:Hid (Below xk.1.size xk xk):=aK;have YI:=af ((S9.out.later qK.out).sl);have Nv:=af (fa.out.later qK.out);have bL:=(Nv.out.later wX.out)
 have aw:=bL.c6;clear bL;rw[zg]at aw;go_wp2_with fail;rw[<-zg];clear zg;refine(A2.out xk zJ zK zL zM zO zP (YI.out.later wX.out) ((VM.out.later Bw.out).later Bd.out)).mono ?_;rintro e t5 ⟨CY,CZ,C8,C9,Da,Db,Pg,rfl,og,VX⟩;clear aw;obtain⟨vg,QV⟩:=bO (t5.alloc (.cells #[vI N.v,vI N.u,.slice CY N.f.length CZ,.slice C8 N.aa.length C9,.slice Da N.c.length Db,.bool N.w] 32));have VY:Below t5.1.size t5 vg:=by rw[QV];exact aK.alloc aU _
 have Fg:Hid (Bx vg t5.1.size (dU CY CZ C8 C9 Da Db N)):=by rw[QV];exact Bx.made t5 (dU CY CZ C8 C9 Da Db N) _
 have Og:=af (og.later VY);have fs:Hid (∀x,Pg x->x≠t5.1.size):=fun x hx=>by have:=(og.of hx).2;omega
 obtain⟨qg,me⟩:=bO t5.1.size;have bb:=au VX VY;have Lg:=af (VX.size);clear og VX VY me qg;have G8:=af (au Bd.out bb);have wV:=af (au He.out bb);have Bl:=af (au qK.out bb);have Hf:=af (au wX.out bb);have NC:=af (bb.size);clear Bd He qK wX bb;have wY:Hid (Below vg.1.size vg vg):=aK;have bL:=(Fg.out.later wY.out)
 have g0:=bL.c6;clear bL;have bL:=(Fw.out.later wV.out)
 have y0:=bL.c6;clear bL;rw[QV]at g0 y0;go_wp2_with fail;rw[<-QV];clear QV;refine(df.eq vg CY CZ C8 C9 Da Db OO OP OQ OU OV OW N tN.out (Og.out.sl.later wY.out) (Ow.out.sl.later wV.out)).mono ?_;rintro e t6 ⟨rfl,Ke⟩;clear g0 y0;have wP:=af (au G8.out Ke);have Ha:=af (au wV.out Ke);have Bj:=af (au Bl.out Ke);have sO:=af (au Hf.out Ke);have Hg:=af (au wY.out Ke);have NA:=af (Ke.size);clear G8 wV Bl Hf wY Ke;go_upto_region 10 with fail
 go_cut[57]from 53 to 57 (fun s0 wx=>s0=.bool false/\Below t6.1.size t6 wx)
 case first=>
  have bd:Below t6.1.size t6 t6.drew:=aK.drew;have bL:=(Fk.out.later (au wP.out bd))
  have p0:=bL.c6;clear bL;have bL:=(Nv.out.later (au sO.out bd))
  have e0:=bL.1 0 _ rfl;have e1:=bL.1 1 _ rfl;have e2:=bL.1 2 _ rfl;have e3:=bL.1 3 _ rfl;have e4:=bL.1 4 _ rfl;have e5:=bL.1 5 _ rfl;clear bL;have NZ:=(Nv.out.later (au sO.out bd)).2.2;have sx:=af (YI.out.later (au sO.out bd));have KB:=af bd;have ra:=Rk.out.later (au wP.out bd);clear bd
  go_region_with (first
   | (go_at_call 7
      refine(df.to t6.drew qp qx qy qA qB qC k tk.out ra).mono ?_;rintro e w8 ⟨X7,X8,X9,Ya,Yb,Yc,_,rfl,o8,b8⟩;have tG:=(b8.cell (p:=⟨t4.1.size,0,none⟩) NZ).trans e0;have tI:=(b8.cell (p:=⟨t4.1.size,1,none⟩) NZ).trans e1;have e2':=(b8.cell (p:=⟨t4.1.size,2,none⟩) NZ).trans e2;have e3':=(b8.cell (p:=⟨t4.1.size,3,none⟩) NZ).trans e3;have e4':=(b8.cell (p:=⟨t4.1.size,4,none⟩) NZ).trans e4;have e5':=(b8.cell (p:=⟨t4.1.size,5,none⟩) NZ).trans e5;have S8:=fP (sx.out.later b8) o8.sl (au KB.out b8)
      clear o8 b8)
   | (go_at_call 9
      refine(df.eq w8 zJ zK zL zM zO zP X7 X8 X9 Ya Yb Yc k tk.out S8.out.1 S8.out.2.1).mono ?_
      rintro e w9 ⟨rfl,b9⟩))
  all_goals (
   go_wp2_with fail;go_meet
   exact⟨rfl,au S8.out.2.2 b9⟩)
 case rest=>
 obtain⟨rfl,bx⟩:=hcut;generalize wc=t7 at *;have PM:=af (au wP.out bx);have PO:=af (au Ha.out bx);have J2:=af (au Bj.out bx);have PT:=af (au sO.out bx);have Hl:=af (au Hg.out bx);have NB:=af (bx.size);clear wP Ha Bj sO Hg bx;have S9:=af (S9.out.later J2.out);have Nv:=af (Nv.out.later PT.out);have Og:=af (Og.out.later Hl.out);have Fg:=af (Fg.out.later Hl.out);have k0:Hid ((0:Int)<=1/\(1:Int)<=1):=by unfold Hid;omega
 have bL:=Nv.out;have e0:=bL.1 0 _ rfl;have e1:=bL.1 1 _ rfl;have e2:=bL.1 2 _ rfl;have e3:=bL.1 3 _ rfl;have e4:=bL.1 4 _ rfl;have e5:=bL.1 5 _ rfl;clear bL;have mQ:=df.mark t7 _ zJ zK zL zM zO zP k Xk 1 (by have:=k0.out;omega) (by have:=k0.out;omega) (by omega) tk.out S9.out;obtain⟨E0,Wp⟩:=bO ((nK k 1));rw[<-Wp]at mQ
 have k1:Hid ((0:Int)<=E0/\E0<=300000000):=by
  rw[Wp];have:=k0.out;have e1:=Hw k;unfold nK;refine⟨by omega,by omega⟩
 clear Wp;have dE:decide (E0<0)=false:=by have:=k1.out;simp;omega
 go_wp2_with fail;refine mQ.mono ?_;clear mQ e0 e1 e2 e3 e4 e5;rintro e t8 ⟨rfl,kp⟩;have G7:Hid (Below U0.1.size U0 t8):=zS PM.out kp (fun q hq=>by have:=ZU.out;have:=J6.out;have:=Nz.out;have:=Lw.out;have:=ND.out;have:=Nw.out;have:=Ny.out;have:=NF.out;have:=Lg.out;have:=NC.out;have:=NA.out;have:=NB.out;have:=(Ta.out q hq).1;omega);have wU:Hid (Below vw.1.size vw t8):=zS PO.out kp (fun q hq=>by have:=ZU.out;have:=J6.out;have:=Nz.out;have:=Lw.out;have:=ND.out;have:=Nw.out;have:=Ny.out;have:=NF.out;have:=Lg.out;have:=NC.out;have:=NA.out;have:=NB.out;have:=(Ta.out q hq).1;omega);have Og:Hid (df.Ow t8 xk.1.size CY CZ C8 C9 Da Db N Pg):=Og.out.aM kp.size (fun q hq=>kp.block q (Og.out.of hq).2 (fun e=>by have:=ZU.out;have:=J6.out;have:=Nz.out;have:=Lw.out;have:=ND.out;have:=Nw.out;have:=Ny.out;have:=NF.out;have:=Lg.out;have:=NC.out;have:=NA.out;have:=NB.out;have:=(Ta.out q e).2;have:=(Og.out.of hq).1;omega));have Fg:Hid (Bx t8 t5.1.size (dU CY CZ C8 C9 Da Db N)):=Fg.out.aj (kp.block _ Fg.out.2.2 (fun e=>by have:=ZU.out;have:=J6.out;have:=Nz.out;have:=Lw.out;have:=ND.out;have:=Nw.out;have:=Ny.out;have:=NF.out;have:=Lg.out;have:=NC.out;have:=NA.out;have:=NB.out;have:=(Ta.out _ e).2;omega)) kp.size;have YL:=af (kp.size);clear kp;have wZ:Hid (Below t8.1.size t8 t8):=aK;have bL:=(Fg.out.later wZ.out)
 have g0:=bL.c6;clear bL;have bL:=(Fw.out.later wU.out)
 have y0:=bL.c6;clear bL;go_wp2_with fail;refine(df.eq t8 CY CZ C8 C9 Da Db OO OP OQ OU OV OW N tN.out (Og.out.sl.later wZ.out) (Ow.out.sl.later wU.out)).mono ?_;rintro e t9 ⟨rfl,Qa⟩;clear g0 y0;have PN:=af (au G7.out Qa);have PQ:=af (au wU.out Qa);have sP:=af (au wZ.out Qa);have YM:=af (Qa.size);clear G7 wU wZ Qa;have mQ:=df.Vw t9 xk.1.size CY CZ C8 C9 Da Db N Pg 1 (by omega) (by omega) zN.out tN.out (Og.out.later sP.out);have HH:Hid (∀X,df.Rd X CY CZ C8 C9 Da Db (Uc N 1)->Calls prog 11 #[.agg #[vI N.v,vI N.u,.slice CY N.f.length CZ,.slice C8 N.aa.length C9,.slice Da N.c.length Db,.bool N.w],vI 1] X fun e w'=>e=.returned (vI (nK N 1))/\Below X.1.size X w'):=fun X hX=>df.held X CY CZ C8 C9 Da Db N 1 (by omega) (by omega) zN.out tN.out hX
 obtain⟨G,hG⟩:=bO ((nK N 1));rw[<-hG]at mQ HH
 have dG:decide (G<0)=false:=by
  rw[hG];unfold nK;simp;omega
 have dH:(G != G)=false:=by simp
 clear hG;have bL:=(Fg.out.later sP.out)
 have g0:=bL.c6;clear bL;go_wp2_with fail;refine mQ.mono ?_;clear mQ g0;rintro e t10 ⟨rfl,kp,om⟩;have Ba:Hid (Below U0.1.size U0 t10):=zS PN.out kp (fun q hq=>by have:=ZU.out;have:=J6.out;have:=Nz.out;have:=Lw.out;have:=ND.out;have:=Nw.out;have:=Ny.out;have:=NF.out;have:=Lg.out;have:=NC.out;have:=NA.out;have:=NB.out;have:=YL.out;have:=YM.out;have:=(Og.out.of hq).1;omega);have Bf:Hid (Below vw.1.size vw t10):=zS PQ.out kp (fun q hq=>by have:=ZU.out;have:=J6.out;have:=Nz.out;have:=Lw.out;have:=ND.out;have:=Nw.out;have:=Ny.out;have:=NF.out;have:=Lg.out;have:=NC.out;have:=NA.out;have:=NB.out;have:=YL.out;have:=YM.out;have:=(Og.out.of hq).1;omega);have Fg:=af ((Fg.out.later sP.out).aj (kp.block _ (Fg.out.later sP.out).2.2 (fun e=>fs.out _ e rfl)) kp.size);have Om:=af om;have fv:=af (kp.size);clear kp om sP;have mf:Hid (Below t10.1.size t10 t10):=aK;have bL:=(Fg.out.later mf.out)
 have g0:=bL.c6;clear bL;go_wp2_with fail;refine(HH.out t10 (Om.out.later mf.out)).mono ?_;rintro e t11 ⟨rfl,Bv⟩;clear g0;have qI:=af (au Ba.out Bv);have Bg:=af (au Bf.out Bv);have wR:=af (au mf.out Bv);have fx:=af (Bv.size);clear Ba Bf mf Bv;have bL:=(Fk.out.later qI.out)
 have p0:=bL.c6;clear bL;go_wp2_with fail;refine(df.to t11 qp qx qy qA qB qC k tk.out (Rk.out.later qI.out)).mono ?_;rintro e t12 ⟨Mq,Mr,Ms,Mt,Mv,Mw,_,rfl,oT,Bz⟩;have RI:=af oT.sl;clear oT p0;have vD:=af (au qI.out Bz);have Bh:=af (au Bg.out Bz);have wS:=af (au wR.out Bz);have fy:=af (Bz.size);clear qI Bg wR Bz;go_wp2_with fail;refine(A2.out t12 Mq Mr Ms Mt Mv Mw RI.out ((VM.out.later Bw.out).later vD.out)).mono ?_;rintro e t13 ⟨Ui,Uj,Uk,Ul,Um,Un,Ph,rfl,oh,Kc⟩;clear RI;obtain⟨vh,QW⟩:=bO (t13.alloc (.cells #[vI N.v,vI N.u,.slice Ui N.f.length Uj,.slice Uk N.aa.length Ul,.slice Um N.c.length Un,.bool N.w] 32));have VZ:Below t13.1.size t13 vh:=by rw[QW];exact aK.alloc aU _
 have Fh:Hid (Bx vh t13.1.size (dU Ui Uj Uk Ul Um Un N)):=by rw[QW];exact Bx.made t13 (dU Ui Uj Uk Ul Um Un N) _
 have Oh:=af (oh.later VZ);have te:Hid (∀x,Ph x->x≠t13.1.size):=fun x hx=>by have:=(oh.of hx).2;omega
 obtain⟨qh,mj⟩:=bO t13.1.size;have bb:=au Kc VZ;have Lh:=af (Kc.size);clear oh Kc VZ mj qh;have G9:=af (au vD.out bb);have wW:=af (au Bh.out bb);have Be:=af (au wS.out bb);have tj:=af (bb.size);clear vD Bh wS bb;have qJ:Hid (Below vh.1.size vh vh):=aK;have bL:=(Fh.out.later qJ.out)
 have g0:=bL.c6;clear bL;have bL:=(Fw.out.later wW.out)
 have y0:=bL.c6;clear bL;rw[QW]at g0 y0;go_wp2_with fail;rw[<-QW];clear QW;refine(df.eq vh Ui Uj Uk Ul Um Un OO OP OQ OU OV OW N tN.out (Oh.out.sl.later qJ.out) (Ow.out.sl.later wW.out)).mono ?_;rintro e t14 ⟨rfl,yZ⟩;clear g0 y0;have Bb:=af (au G9.out yZ);have Bi:=af (au wW.out yZ);have mg:=af (au Be.out yZ);have wT:=af (au qJ.out yZ);have fL:=af (yZ.size);clear G9 wW Be qJ yZ;have bL:=(Fg.out.later mg.out)
 have g0:=bL.c6;clear bL;go_wp2_with fail;refine(HH.out t14 (Om.out.later mg.out)).mono ?_;rintro e t15 ⟨rfl,y7⟩;clear g0;have JZ:=af (au Bb.out y7);have VJ:=af (au Bi.out y7);have SI:=af (au mg.out y7);have SK:=af (au wT.out y7);have fN:=af (y7.size);clear Bb Bi mg wT y7;go_wp2;go_ret;exact⟨rfl,au Bw.out JZ.out⟩
theorem uw(w:World)(qp:OA)(qx:Nat)(qy:OA)(qA:Nat)(qB:OA)(qC:Nat)(k:C6)(y:Int)(r:Int)(s:Int)(lk:df.L k)(hk:df.Rd w qp qx qy qA qB qC k)(_:HG w)(hg:¬vv k<=1048576):
  Calls prog 3 #[.agg #[vI k.v,vI k.u,.slice qp k.f.length qx,.slice qy k.aa.length qA,.slice qB k.c.length qC,.bool k.w],vI y,vI r,vI s] w fun e w'=>e=.returned (.bool true)/\Below w.1.size w w':=by
 obtain⟨U0,kN,lD,nO,Yd⟩:=iI w (dU qp qx qy qA qB qC k) 26;have Fk:=af (nO);have Rk:=af ((hk).later lD);have Bw:=af (lD);have ZU:Hid (U0.1.size=w.1.size+1):=by unfold Hid;omega
 clear lD nO Yd hk;have kC:Hid (Below U0.1.size U0 U0):=aK;go_enter func3,ntmps3;have bL:=(Fk.out.later kC.out)
 have p0:=bL.c6;clear bL;rw[kN]at p0;go_wp2_with fail;rw[<-kN];clear kN;refine(df.sz U0 qp qx qy qA qB qC k lk (Rk.out.later kC.out)).mono ?_;rw[bI (by omega)];rintro e s1 ⟨rfl,Kb⟩;clear p0;have oU:=af (au kC.out Kb);have J6:=af (Kb.size);clear kC Kb;go_wp2;go_ret;exact⟨rfl,au Bw.out oU.out⟩
theorem walk(w:World)(qp:OA)(qx:Nat)(qy:OA)(qA:Nat)(qB:OA)(qC:Nat)(k:C6)(y:Int)(r:Int)(s:Int)(lk:df.L k)(hk:df.Rd w qp qx qy qA qB qC k)(Qz:HG w):
  Calls prog 3 #[.agg #[vI k.v,vI k.u,.slice qp k.f.length qx,.slice qy k.aa.length qA,.slice qB k.c.length qC,.bool k.w],vI y,vI r,vI s] w fun e w'=>e=.returned (.bool true)/\Below w.1.size w w':=by
 by_cases g0:vv k<=1048576
 case neg=>exact uw w qp qx qy qA qB qC k y r s lk hk Qz g0
 exact wz w qp qx qy qA qB qC k y r s lk hk Qz g0
end fnExactDrop
namespace fnExactDrop
open Go.Proofs.Tryz
open Go.ChangeShapes Go.WideShapes Go.ChangeAt Go.RowKit
theorem gv:prog.globalNamed "errors.errorType"=some 0:=by kernel_rfl
theorem nh:(prog.cutTypes.find? (·.1 == "internal/reflectlite.rtype")).map (·.2)=some 244:=by kernel_rfl
theorem LB:((List.range 358).filter fun t=>prog.rowNamed t [101,114,114,111,114])=[154]:=by kernel_rfl
theorem RU:prog.types.size=358:=by kernel_rfl
theorem mP{W:World}(h:laidMetH prog Rows.fnExactDropRow.laid W):HG W:=by
 have h':=h;obtain⟨name,u,ty,e1,e2,e3,e4,e5⟩:=h'.2 _ (List.mem_singleton.2 rfl);have en:=(Option.some.inj e1).symm;subst en;obtain rfl:=Option.some.inj (nh.symm.trans e2);have hm:ty∈(List.range 358).filter fun t=>prog.rowNamed t [101,114,114,111,114]:=List.mem_filter.2 ⟨List.mem_range.2 (by rw[<-RU];exact e3),e4⟩
 rw[LB]at hm;obtain rfl:=List.mem_singleton.1 hm;have hh:typeHandle prog 154=.pointer (some ⟨1,154,none⟩):=by kernel_rfl
 rw[hh]at e5;simpa[HG]using World.var?_cell gv e5 0
noncomputable def pV(os:Os):World:=
 let w0:=World.holding prog os ⟨#[],#[],[]⟩
 { w0 with heap:=w0.1.modify 0 fun
   | .cells _ t frozen=>.cells #[.iface 244 (.agg #[.pointer (some ⟨1,154,none⟩)])] t frozen
   | o=>o }
theorem oG(os:Os)(args:Array Value):laidMetH prog Rows.fnExactDropRow.laid ((pV os).forCall (fun _ _=>0) ⟨#[],args,[]⟩).memory:=
 laidMetH_of_parts (laidMet_nil _ _) (by kernel_rfl)
theorem lifted(os:Os)(started:os.Started)(H:Type)(enc:TypeId×Value->H):
  ReturnsInHanded {} Tryz.checked os 3 .any (fun w args=>(Rows.fnExactDropSpec.pre enc prog Tryz.f3 [] false w args/\laidMetH prog Rows.fnExactDropRow.laid w)/\sizedMet enc prog Tryz.f3 (OpenSpec.ofChange Rows.fnExactDropSpec) false w args)
   (Rows.fnExactDropSpec.post enc prog Tryz.f3 false true false false):=by
 refine returnsInHanded_of_change_and (C:=Tryz.checked) (X:=fun w _=>laidMetH prog Rows.fnExactDropRow.laid w) (fun _ _ _ hh h=>h.of_heap hh) own started (by kernel_rfl) func3
  (ChangeSpec.witness_at (enc:=enc) (C:=Tryz.checked) (os:=os) (X:=fun w _=>laidMetH prog Rows.fnExactDropRow.laid w) false (pV os) #[.agg #[vI 0,vI 0,.slice none 0 0,.slice none 0 0,.slice none 0 0,.bool false],vI 0,vI 0,vI 0] 8 rfl (by kernel_rfl) (by kernel_rfl) (by kernel_rfl) (by kernel_rfl) (by kernel_rfl) (oG os _)) ?_
 intro W base args ds gs before IM hW _ _ hL _;have pO:∀(j:Nat) t v,Tryz.f3.params[j]?=some t->args[j]?=some v->Value.okWide prog W .any base t v:=IM;have UZ:=hW;obtain⟨p,q,YT,hV,rfl,vy,xa⟩:=hW;have hA:=YT;rw[params3]at hA pO;obtain⟨v0,zv,d0,ds0,p0,q0,Zc,rfl,rfl,h0,r0⟩:=trodAll_cons hA;obtain⟨v1,vs1,d1,ds1,p1,q1,rfl,rfl,rfl,h1,r1⟩:=trodAll_cons r0;obtain⟨v2,vs2,d2,tE,p2,q2,rfl,rfl,rfl,h2,r2⟩:=trodAll_cons r1;obtain⟨v3,vs3,d3,ds3,p3,q3,rfl,rfl,rfl,h3,r3⟩:=trodAll_cons r2;obtain⟨rfl,rfl,rfl⟩:=trodAll_nil r3;obtain rfl:args=#[v0,v1,v2,v3]:=by cases args;simp_all
 obtain⟨rfl,rfl⟩:=trodVars_none hV;obtain⟨cs0,rfl,iu⟩:=okWide_struct underlying26 (pO 0 26 v0 rfl rfl);have k0:=h0;have m9:∀x∈p0,x.block<W.1.size:=by obtain⟨n,hn⟩:=k0;exact DataW.trod_lt n _ _ _ hn
 obtain⟨qp,qx,qy,qA,qB,qC,k,rfl,hk,lk⟩:∃(a1:OA) (c1:Nat) (a2:OA) (c2:Nat) (a3:OA) (c3:Nat) (m:C6),cs0=#[vI m.v,vI m.u,.slice a1 m.f.length c1,.slice a2 m.aa.length c2,.slice a3 m.c.length c3,.bool m.w]/\df.Rd W a1 c1 a2 c2 a3 c3 m/\df.L m:=by
  obtain⟨fuel,hf⟩:=h0;obtain⟨a1,c1,a2,c2,a3,c3,m,e,hs,hl⟩:=oc.yu hf;exact⟨a1,c1,a2,c2,a3,c3,m,by cases cs0;simpa[Value.cells]using e,hs,hl⟩
 obtain⟨y,rfl,rfl,rfl,w1⟩:=open_int underlying2 (pO 1 2 v1 rfl rfl) h1;obtain⟨r,rfl,rfl,rfl,w2⟩:=open_int underlying2 (pO 2 2 v2 rfl rfl) h2;obtain⟨s,rfl,rfl,rfl,w3⟩:=open_int underlying2 (pO 3 2 v3 rfl rfl) h3;clear YT IM;refine(walk W qp qx qy qA qB qC k y r s lk hk (mP hL)).mono fun e W' ⟨he,uU⟩=>?_
 subst he;exact⟨_,rfl,_,_,_,[],_,[],UZ,trodAll_mk1 (shut_bool underlying4 _),(trodAll_cons_mk (Below.trod laidOut (by kernel_rfl) (of_decide_eq_true (by kernel_rfl)) k0 uU m9) (trodAll_cons_mk (shut_int underlying2 w1) (trodAll_cons_mk (shut_int underlying2 w2) (trodAll_cons_mk (shut_int underlying2 w3) trodAll_mk0)))),rfl,uU.frame _,fun h=>by cases h⟩
end fnExactDrop
end Go.Proofs.YtbiigfbhhkiodaaGreatDoor
