import Derived.Test.YtajmlpgodcfghaaGreatDoorJ9Alloc
import Derived.Lib.SmallJoins
import Derived.Test.YtajmlpgodcfghaaGreatDoorTie
import Derived.Test.YtajmlpgodcfghaaGreatDoorCards
set_option maxHeartbeats 16000000
set_option maxRecDepth 100000
namespace Go.Proofs.YtajmlpgodcfghaaGreatDoor
open Go.RowKit
open Go.Sort (grow)
section
open Go.Proofs.Tryz
variable {k:C6}
structure Nu(w X:World)(a1:OA)(c1:Nat)(a2:OA)(c2:Nat)(a3:OA)(c3:Nat)(k:C6):Prop where
 yu:Below w.1.size w X
 sz:w.1.size+2<=X.1.size
 bc:Bx X w.1.size (dR a1 c1 a2 c2 a3 c3 k)
 bz:Bx X (w.1.size+1) nJ
 rd:cO.Rd X a1 c1 a2 c2 a3 c3 k
theorem Nu.later{w X Y:World}{a1:OA}{c1:Nat}{a2:OA}{c2:Nat}{a3:OA}{c3:Nat}(h:Nu w X a1 c1 a2 c2 a3 c3 k)(b:Below X.1.size X Y):Nu w Y a1 c1 a2 c2 a3 c3 k:=⟨au h.yu b,Nat.le_trans h.sz b.size,h.bc.later b,h.bz.later b,h.rd.later b⟩
theorem Xr{y r:Int}(hz:gW k y=0):jv k y r=nD k (aS k.c (iO k.c y)) r/\(nD k (aS k.c (iO k.c y)) r=0->jw k y r=qL k (aS k.c (iO k.c y)) r/\iX k y r=lI k (iO k.c y) (sP k (aS k.c (iO k.c y)) r))/\(nD k (aS k.c (iO k.c y)) r≠0->jw k y r=-1/\iX k y r=k):=by
 have h1:jv k y r=nD k (aS k.c (iO k.c y)) r:=if_pos hz;refine⟨h1,fun h=>⟨by rw[jw,h1,if_pos h];rfl,by rw[iX,if_pos hz];exact if_pos h⟩,fun h=>⟨by rw[jw,h1,if_neg h],by rw[iX,if_pos hz];exact if_neg h⟩⟩
theorem CL(w:World)(a1:OA)(c1:Nat)(a2:OA)(c2:Nat)(a3:OA)(c3:Nat)(k:C6)(y r:Int)(hl:cO.L k)(h:cO.Rd w a1 c1 a2 c2 a3 c3 k)(hc:y7.pK w a3 k.c):
  Calls prog 5 #[.agg #[vI k.v,vI k.q,.slice a1 k.f.length c1,.slice a2 k.aa.length c2,.slice a3 k.c.length c3,.bool k.w],vI y,vI r] w (tJ w (iX k y r) (jw k y r) (jv k y r)):=by
 have gS:Hid (∀X,Below w.1.size w X->cO.Rd X a1 c1 a2 c2 a3 c3 k):=fun X hX=>h.later hX
 obtain⟨U0,wz,DZ,Ii,M8⟩:=jU w (dR a1 c1 a2 c2 a3 c3 k) 32;obtain⟨U1,Cc,II,Ns,Sc⟩:=jU U0 nJ 32;have hU:U1=(w.alloc (.cells #[vI k.v,vI k.q,.slice a1 k.f.length c1,.slice a2 k.aa.length c2,.slice a3 k.c.length c3,.bool k.w] 32)).alloc (.cells #[vI 0,vI 0,.slice none 0 0,.slice none 0 0,.slice none 0 0,.bool false] 32):=by rw[Cc,wz]
 rw[M8]at Ns;have x0:=Ii.later II;have bU:=au DZ II;have H:Hid (Nu w U1 a1 c1 a2 c2 a3 c3 k/\y7.pK U1 a3 k.c):=⟨⟨bU,by omega,x0,Ns,h.later bU⟩,hc.later bU⟩
 have hr:=Jh U1 a1 c1 a2 c2 a3 c3 k y hl (h.later bU);have HL:=ay hl;have p0:=x0.c6;rw[hU]at p0;clear wz Cc DZ II Ii Ns M8 Sc x0 bU h hl hc;clear U0;go_enter func5,ntmps5;go_wp2_with fail;rw[<-hU];clear hU p0;refine hr.mono ?_;clear hr;rintro e w1 ⟨rfl,b1⟩;have H1:Hid (Nu w w1 a1 c1 a2 c2 a3 c3 k/\y7.pK w1 a3 k.c):=⟨H.out.1.later b1,H.out.2.later b1⟩
 clear b1 H;have q0:=H1.out.1.bc.c6;by_cases hz:gW k y=0;rotate_left
 ·obtain⟨Rt,mw⟩:=Qc k y;have oG:=Gt w1 a1 c1 a2 c2 a3 c3 k (gW k y) H1.out.1.rd Rt mw;have hC:jv k y r=gW k y:=by rw[jv,if_neg hz]
  have HX:Hid (jv k y r=gW k y/\jw k y r=-1/\iX k y r=kg k):=⟨hC,by rw[jw,hC,if_neg hz],by rw[iX,if_neg hz]⟩
  have eO:(gW k y != 0)=true:=by simpa using hz
  have heq:(gW k y==0)=false:=by simpa using hz
  rw[vK hz];clear Rt mw hC hz;generalize gW k y=n at *;generalize kg k=N at *;go_wp2_with fail;refine oG.mono ?_;clear oG q0 eO heq;rintro e w2 ⟨e1,g1,e2,g2,e3,g3,PP,rfl,how,b2⟩;obtain⟨W3,Uw,Q4,Za,fY⟩:=jU w2 (dR e1 g1 e2 g2 e3 g3 N) 32;have xr:=(H1.out.1.bz.later b2).later Q4;have zb:=xr.put (dR e1 g1 e2 g2 e3 g3 N) rfl;obtain⟨Z,hZ⟩:∃Z,Z=dU W3 (w.1.size+1) 0 (dR e1 g1 e2 g2 e3 g3 N):=⟨_,rfl⟩
  rw[<-hZ]at zb;have HZ:Hid (Z=((((((W3.setCell ⟨w.1.size+1,0,none⟩ (vI N.v)).setCell ⟨w.1.size+1,1,none⟩ (vI N.q)).setCell ⟨w.1.size+1,2,none⟩ (.slice e1 N.f.length g1)).setCell ⟨w.1.size+1,3,none⟩ (.slice e2 N.aa.length g2)).setCell ⟨w.1.size+1,4,none⟩ (.slice e3 N.c.length g3)).setCell ⟨w.1.size+1,5,none⟩ (.bool N.w))):=hZ;have Fs:=H1.out.1.sz
  have KE:Hid (tJ w (iX k y r) (jw k y r) (jv k y r) (.returned (.tuple #[.agg #[vI N.v,vI N.q,.slice e1 N.f.length g1,.slice e2 N.aa.length g2,.slice e3 N.c.length g3,.bool N.w],vI (-1),vI n])) Z):=by
   unfold Hid;rw[HX.out.1,HX.out.2.1,HX.out.2.2];refine⟨e1,g1,e2,g2,e3,g3,PP,rfl,?_,?_⟩
   ·exact((how.later Q4).low (show w.1.size<=_ by omega)).aL (by rw[hZ,bu];exact Nat.le_refl _) (fun q hq=>by rw[hZ];exact aX (fun e=>by have:=(how.of hq).1;omega) _ _ _)
   ·rw[hZ];exact bn (by omega) _ _ _ (au (au H1.out.1.yu b2) Q4)
  have c0:=xr.1 0 _ rfl;have c1:=xr.1 1 _ rfl;have c2:=xr.1 2 _ rfl;have c3:=xr.1 3 _ rfl;have c4:=xr.1 4 _ rfl;have c5:=xr.1 5 _ rfl;have f0:=xr.2.1 0;have f1:=xr.2.1 1;have f2:=xr.2.1 2;have f3:=xr.2.1 3;have f4:=xr.2.1 4;have f5:=xr.2.1 5;have p0:=Za.c6;have z0:=zb.c6;rw[Uw]at c0 c1 c2 c3 c4 c5 f0 f1 f2 f3 f4 f5 p0;have HW3:=ay Uw;clear Uw Q4 Za fY xr zb hZ Fs how b2;go_wp2;rw[<-HW3.out,<-HZ.out];exact bodyPost_ret (v:=.tuple #[.agg #[vI N.v,vI N.q,.slice e1 N.f.length g1,.slice e2 N.aa.length g2,.slice e3 N.c.length g3,.bool N.w],vI (-1),vI n]) (by simp[results,results5,go_sem,z0]) rfl KE.out
 obtain⟨hk,hi,-,-⟩:=uF hz;have hT:=(Ea hk).2.1 _ hi;have QG:tx.TL (aS k.c (iO k.c y)):=HL.out.ts _ (List.mem_of_getElem? (ib hi));have ha:=Xr (r:=r) hz;rw[hz,G8 hz];obtain⟨i,qR⟩:∃i,iO k.c y=i:=⟨_,rfl⟩
 rw[qR]at hi hT QG ha;rw[qR];obtain⟨t,ht⟩:∃t,aS k.c i=t:=⟨_,rfl⟩
 rw[ht]at hT QG ha;have hle:=tx.jT hT;have HA:Hid (jv k y r=nD k t r/\(nD k t r=0->jw k y r=qL k t r/\iX k y r=lI k i (sP k t r))/\(nD k t r≠0->jw k y r=-1/\iX k y r=k)):=ha;have HK:Hid (aF k=true/\cO.L k/\tx.TL t/\tx.ky t=true/\i<k.c.length/\aS k.c i=t/\t.b.length<=12/\t.ag.length<=12):=⟨hk,HL.out,QG,hT,hi,ht,hle⟩
 have BJ:=fF w1 r 0 ((k.f.length:Int)-1);have Ta:=HL.out.p;unfold maxLen at Ta;clear hz hT QG ha qR ht HL hle
 cases hI:bH 0 ((k.f.length:Int)-1) r with
 | false=>
  rw[hI]at BJ;have oG:=Gt w1 a1 c1 a2 c2 a3 c3 k 5 H1.out.1.rd (.inl hk) (fun _=>by decide);have lT:kg k=k:=if_pos hk;rw[lT]at oG
  have HX:Hid (jv k y r=5/\jw k y r=-1/\iX k y r=k):=by
   have hC:nD k t r=5:=by rw[nD,hI];rfl
   exact⟨by rw[HA.out.1,hC],(HA.out.2.2 (by rw[hC];decide)).1,(HA.out.2.2 (by rw[hC];decide)).2⟩
  clear lT hI hk hi;go_wp2_with fail;refine BJ.mono ?_;clear BJ;rintro e w9 ⟨rfl,Jb⟩;replace Jb:=Jb.symm;subst Jb;go_wp2_with fail;refine oG.mono ?_;clear oG q0 Ta;rintro e w2 ⟨e1,g1,e2,g2,e3,g3,PP,rfl,how,b2⟩;obtain⟨W3,Uw,Q4,Za,fY⟩:=jU w2 (dR e1 g1 e2 g2 e3 g3 k) 32;have xr:=(H1.out.1.bz.later b2).later Q4;have zb:=xr.put (dR e1 g1 e2 g2 e3 g3 k) rfl;obtain⟨Z,hZ⟩:∃Z,Z=dU W3 (w.1.size+1) 0 (dR e1 g1 e2 g2 e3 g3 k):=⟨_,rfl⟩
  rw[<-hZ]at zb;have HZ:Hid (Z=((((((W3.setCell ⟨w.1.size+1,0,none⟩ (vI k.v)).setCell ⟨w.1.size+1,1,none⟩ (vI k.q)).setCell ⟨w.1.size+1,2,none⟩ (.slice e1 k.f.length g1)).setCell ⟨w.1.size+1,3,none⟩ (.slice e2 k.aa.length g2)).setCell ⟨w.1.size+1,4,none⟩ (.slice e3 k.c.length g3)).setCell ⟨w.1.size+1,5,none⟩ (.bool k.w))):=hZ;have Fs:=H1.out.1.sz
  have KE:Hid (tJ w (iX k y r) (jw k y r) (jv k y r) (.returned (.tuple #[.agg #[vI k.v,vI k.q,.slice e1 k.f.length g1,.slice e2 k.aa.length g2,.slice e3 k.c.length g3,.bool k.w],vI (-1),vI 5])) Z):=by
   unfold Hid;rw[HX.out.1,HX.out.2.1,HX.out.2.2];refine⟨e1,g1,e2,g2,e3,g3,PP,rfl,?_,?_⟩
   ·exact((how.later Q4).low (show w.1.size<=_ by omega)).aL (by rw[hZ,bu];exact Nat.le_refl _) (fun q hq=>by rw[hZ];exact aX (fun e=>by have:=(how.of hq).1;omega) _ _ _)
   ·rw[hZ];exact bn (by omega) _ _ _ (au (au H1.out.1.yu b2) Q4)
  have c0:=xr.1 0 _ rfl;have c1:=xr.1 1 _ rfl;have c2:=xr.1 2 _ rfl;have c3:=xr.1 3 _ rfl;have c4:=xr.1 4 _ rfl;have c5:=xr.1 5 _ rfl;have f0:=xr.2.1 0;have f1:=xr.2.1 1;have f2:=xr.2.1 2;have f3:=xr.2.1 3;have f4:=xr.2.1 4;have f5:=xr.2.1 5;have p0:=Za.c6;have z0:=zb.c6;rw[Uw]at c0 c1 c2 c3 c4 c5 f0 f1 f2 f3 f4 f5 p0;have HW3:=ay Uw;clear Uw Q4 Za fY xr zb hZ Fs how b2;go_wp2;rw[<-HW3.out,<-HZ.out];exact bodyPost_ret (v:=.tuple #[.agg #[vI k.v,vI k.q,.slice e1 k.f.length g1,.slice e2 k.aa.length g2,.slice e3 k.c.length g3,.bool k.w],vI (-1),vI 5]) (by simp[results,results5,go_sem,z0]) rfl KE.out
 | true=>
 rw[hI]at BJ;have ki:=dI.1 hI;obtain⟨ri,U7⟩:∃ri:Nat,r=(ri:Int):=⟨r.toNat,by omega⟩
 have Yi:ri<k.f.length:=by omega
 have Z4:Hid (nD k t r=if qZ k r=true then(if qL k t r<0 then 9 else(if tx.fD t (pM k t r)=true then(if tx.fV (tx.dL t (pM k t r)) (xW k t r)=true then 0 else 9)else 9))else 6):=by unfold Hid;rw[nD,if_pos hI]
 obtain⟨z,hz,qV,Io,jN,S9,F9⟩:=D9 hk Yi;have cP:=Cu w1 a1 c1 a2 c2 a3 c3 k ri z HK.out.2.1 H1.out.1.rd Yi hz qV Io;rw[<-U7]at cP;by_cases za:(aT k.aa z).x=true;rotate_left
 ·have da:(aT k.aa z).x=false:=by simpa using za
  rw[da]at cP;simp only[Bool.false_eq_true,if_false]at cP
  have lA:qZ k r=false:=(zI (k:=k) (y:=r) (fun h=>by
   have:=h.2.2.2
   rw[U7,Int.toNat_natCast,jN,da]at this;cases this)).2
  have HX:Hid (jv k y r=6/\jw k y r=-1/\iX k y r=k):=by
   have hC:nD k t r=6:=by rw[Z4.out,lA];rfl
   exact⟨by rw[HA.out.1,hC],(HA.out.2.2 (by rw[hC];decide)).1,(HA.out.2.2 (by rw[hC];decide)).2⟩
  clear F9 lA za da S9 jN hz Io hI ki hk hi U7 Yi qV;go_wp2_with fail;refine BJ.mono ?_;clear BJ;rintro e w9 ⟨rfl,Jb⟩;replace Jb:=Jb.symm;subst Jb;go_wp2_with fail;refine cP.mono ?_;clear cP q0;rintro e w3 ⟨rfl,b3⟩;have HS:Hid (Nu w w3 a1 c1 a2 c2 a3 c3 k):=H1.out.1.later b3;clear b3 H1 Ta;have Ld:=ng w3 a1 c1 a2 c2 a3 c3 k HK.out.1 HS.out.rd;have p0:=HS.out.bc.1 0 _ rfl;have p1:=HS.out.bc.1 1 _ rfl;have p2:=HS.out.bc.1 2 _ rfl;have p3:=HS.out.bc.1 3 _ rfl;have p4:=HS.out.bc.1 4 _ rfl;have p5:=HS.out.bc.1 5 _ rfl;go_wp2_with fail;refine Ld.mono ?_;clear Ld p0 p1 p2 p3 p4 p5;rintro e w4 ⟨e1,g1,e2,g2,e3,g3,ps,gp,ms,gm,ts,gt,rfl,O7,x1,x2,x3,b4⟩;have how:=O7.ow x1 x2 x3;have xr:=HS.out.bz.later b4;have zb:=xr.put (dR e1 g1 e2 g2 e3 g3 k) rfl;obtain⟨Z,hZ⟩:∃Z,Z=dU w4 (w.1.size+1) 0 (dR e1 g1 e2 g2 e3 g3 k):=⟨_,rfl⟩
  rw[<-hZ]at zb;have HZ:Hid (Z=((((((w4.setCell ⟨w.1.size+1,0,none⟩ (vI k.v)).setCell ⟨w.1.size+1,1,none⟩ (vI k.q)).setCell ⟨w.1.size+1,2,none⟩ (.slice e1 k.f.length g1)).setCell ⟨w.1.size+1,3,none⟩ (.slice e2 k.aa.length g2)).setCell ⟨w.1.size+1,4,none⟩ (.slice e3 k.c.length g3)).setCell ⟨w.1.size+1,5,none⟩ (.bool k.w))):=hZ;have Fs:=HS.out.sz
  have KE:Hid (tJ w (iX k y r) (jw k y r) (jv k y r) (.returned (.tuple #[.agg #[vI k.v,vI k.q,.slice e1 k.f.length g1,.slice e2 k.aa.length g2,.slice e3 k.c.length g3,.bool k.w],vI (-1),vI 6])) Z):=by
   unfold Hid;rw[HX.out.1,HX.out.2.1,HX.out.2.2];refine⟨e1,g1,e2,g2,e3,g3,_,rfl,(how.low (show w.1.size<=_ by omega)).aL (by rw[hZ,bu];exact Nat.le_refl _) (fun q hq=>by rw[hZ];exact aX (fun e=>by have:=(how.of hq).1;omega) _ _ _),?_⟩;rw[hZ];exact bn (by omega) _ _ _ (au HS.out.yu b4)
  have c0:=xr.1 0 _ rfl;have c1:=xr.1 1 _ rfl;have c2:=xr.1 2 _ rfl;have c3:=xr.1 3 _ rfl;have c4:=xr.1 4 _ rfl;have c5:=xr.1 5 _ rfl;have f0:=xr.2.1 0;have f1:=xr.2.1 1;have f2:=xr.2.1 2;have f3:=xr.2.1 3;have f4:=xr.2.1 4;have f5:=xr.2.1 5;have z0:=zb.c6;clear xr zb hZ Fs how b4 O7 x1 x2 x3;go_wp2;rw[<-HZ.out];exact bodyPost_ret (v:=.tuple #[.agg #[vI k.v,vI k.q,.slice e1 k.f.length g1,.slice e2 k.aa.length g2,.slice e3 k.c.length g3,.bool k.w],vI (-1),vI 6]) (by simp[results,results5,go_sem,z0]) rfl KE.out
 rw[za]at cP;simp only[if_true]at cP;have mm:=F9 za;have aK:=ze (aT k.aa z) (ri:Int);rw[mm]at aK
 obtain⟨j0,WO,OW⟩:∃j:Nat,uu (aT k.aa z) (ri:Int)=(j:Int)/\j<(aT k.aa z).af.length:=by
  rcases mY (aT k.aa z) (ri:Int)with ⟨e,_⟩|⟨j,e,hj,_,_⟩
  ·rw[e]at aK;simp at aK
  ·exact⟨j,e,hj⟩
 rw[U7,WO,<-U7]at cP;have Rn:=D7 (j:=j0) hk Yi (by rw[jN];exact za) (by rw[jN];exact WO);rw[jN,<-U7]at Rn;have rE:=Jj S9 _ (List.mem_of_getElem? (eY OW));have HJ:Hid (jF k r=(dD (aT k.aa z).af j0).cells/\qZ k r=true/\eG (dD (aT k.aa z).af j0).cells=true/\z<k.aa.length/\j0<(aT k.aa z).af.length):=⟨Rn.1,Rn.2,rE,qV,OW⟩
 have dz:decide ((z:Int)<0)=false:=by simp
 clear F9 mm aK za WO Rn rE S9 jN hz Io hI ki hk U7 Yi qV OW;go_wp2_with fail;refine BJ.mono ?_;clear BJ;rintro e w9 ⟨rfl,Jb⟩;replace Jb:=Jb.symm;subst Jb;go_wp2_with fail;refine cP.mono ?_;clear cP q0;rintro e w3 ⟨rfl,b3⟩;have H3:Hid (Nu w w3 a1 c1 a2 c2 a3 c3 k/\y7.pK w3 a3 k.c):=⟨H1.out.1.later b3,H1.out.2.later b3⟩
 clear b3 H1 Ta;have hi:=HK.out.2.2.2.2.1
 obtain⟨tb,Ib,nm,tc,Yo⟩:∃b off,a3=some ⟨b,off,none⟩/\b<w3.1.size/\∀j d,k.c[j]?=some d->∃v,At w3 b (off+j*y7.n) (y7.cells v d)/\y7.Rd w3 v d:=by
  rcases H3.out.2 with h0|h0
  ·rw[h0]at hi;simp at hi
  ·exact h0
 obtain⟨v,bg,gM,XT,XR⟩:=Yo i t (by rw[<-HK.out.2.2.2.2.2.1];exact ib hi);have F5:At w3 tb (Ib+i*7) (tx.nO v.ar v.cr v.ah v.ch t):=bg;have p4:=H3.out.1.bc.1 4 _ rfl;rw[nm]at p4;have q0:w3.cell? ⟨tb,Ib+i*7,none⟩=some (vI t.id):=F5 0 _ rfl;have q1:w3.cell? ⟨tb,Ib+i*7+1,none⟩=some (vI t.l):=F5 1 _ rfl;have q2:w3.cell? ⟨tb,Ib+i*7+2,none⟩=some (vI t.o):=F5 2 _ rfl;have q3:w3.cell? ⟨tb,Ib+i*7+3,none⟩=some (vI t.u):=F5 3 _ rfl;have q4:w3.cell? ⟨tb,Ib+i*7+4,none⟩=some (.slice v.ar t.b.length v.cr):=F5 4 _ rfl;have q5:w3.cell? ⟨tb,Ib+i*7+5,none⟩=some (.slice v.ah t.ag.length v.ch):=F5 5 _ rfl;have q6:w3.cell? ⟨tb,Ib+i*7+6,none⟩=some (vI t.az):=F5 6 _ rfl;have jn:(i:Int)<(k.c.length:Int):=by omega
 have ie:=HK.out.2.1.t;unfold maxLen at ie;obtain⟨V,hV,bV,xV,sV⟩:=jU w3 (tx.nO v.ar v.cr v.ah v.ch t) 53;obtain⟨V2,u7,Ij,tP,tG⟩:=jU V [] 2;have HV:Hid (Nu w V a1 c1 a2 c2 a3 c3 k/\Bx V w3.1.size (tx.nO v.ar v.cr v.ah v.ch t)/\tx.kR V v t/\t.b.length<=v.cr/\t.ag.length<=v.ch/\w.1.size+2<=w3.1.size/\V.1.size=w3.1.size+1):=⟨H3.out.1.later bV,xV,gM.later bV,XT,XR,H3.out.1.sz,sV⟩
 have eX:tx.fO V2 V.1.size (.slice (some ⟨V.1.size,0,none⟩) 0 0) (fZ t r 0):=by rw[u7];exact tx.fO.made V
 rw[sV]at eX;have HRW:=ay eX;have HB2:Hid (Below V.1.size V V2):=Ij;have kt:V2=(w3.alloc (.cells #[vI t.id,vI t.l,vI t.o,vI t.u,.slice v.ar t.b.length v.cr,.slice v.ah t.ag.length v.ch,vI t.az] 53)).alloc (.cells #[] 2):=by rw[u7,hV]
 clear hV u7 bV Ij xV tP tG eX sV F5 bg gM XT XR Yo tc nm;go_wp2;rw[<-kt];clear kt p4 q0 q1 q2 q3 q4 q5 q6 jn ie dz;go_loopw[16,17] (fun v16 v17 wr=>∃j:Nat,j<=6/\v17=vI j/\tx.fO wr V.1.size v16 (fZ t r j)/\Below V.1.size V wr) (fun _ v17 _=>6-(intOf v17).toNat)
 case atStart=>exact⟨0,Nat.zero_le _,rfl,by rw[HV.out.2.2.2.2.2.2];exact HRW.out,HB2.out⟩
 case round=>
  obtain⟨j,hj,rfl,eX,aD⟩:=hrel;by_cases aK:j<6
  ·have Cj:(j:Int)<6:=by omega
   have HR:Hid (tx.fO wr V.1.size u16 (fZ t r j)/\Below V.1.size V wr/\j<6):=⟨eX,aD,aK⟩
   have xt:=HV.out.2.1.later aD;have q0:=xt.c7;have cR:=tx.Aj wr v t r (j:Int) (by have:=HK.out.2.2.2.2.2.2.1;omega) (HV.out.2.2.1.later aD);simp only[tx.TV.val]at cR;clear eX aD xt aK;go_wp2_with fail;refine cR.mono ?_;clear cR q0;rintro e X ⟨rfl,bX⟩;have HX:Hid (tx.fO X V.1.size u16 (fZ t r j)/\Below V.1.size V X/\j<6/\V.1.size<=X.1.size):=⟨HR.out.1.later bX,au HR.out.2.1 bX,HR.out.2.2,Nat.le_trans HR.out.2.1.size bX.size⟩
   clear bX HR;rcases hw:tx.nV t.b r (j:Int)with _|jj
   ·have O8:tx.lX t.b r (j:Int)=-1:=by rw[tx.lX,hw]
    rw[O8];have xt:=HV.out.2.1.later HX.out.2.1;have q0:=xt.c7;have cR:=tx.Dp X v t r (j:Int) (by have:=HK.out.2.2.2.2.2.2.2;omega) (HV.out.2.2.1.later HX.out.2.1);simp only[tx.TV.val]at cR;clear xt O8;go_wp2_with fail;refine cR.mono ?_;clear cR q0;rintro e Y ⟨rfl,bY⟩;have HY:Hid (tx.fO Y V.1.size u16 (fZ t r j)/\Below V.1.size V Y/\j<6/\V.1.size<=Y.1.size):=⟨HX.out.1.later bY,au HX.out.2.1 bY,HX.out.2.2.1,Nat.le_trans HX.out.2.2.2 bY.size⟩
    clear bY HX;clear X;rcases hs:tx.mi t.ag r (j:Int)with _|jj
    ·have O8:tx.setAt t.ag r (j:Int)=-1:=by rw[tx.setAt,hs]
     rw[O8];have hb:fZ t r (j+1)=fZ t r j:=by rw[fZ,D6,hw,hs];rfl
     have KE:Hid (tx.fO Y V.1.size u16 (fZ t r (j+1))/\Below V.1.size V Y/\j<6):=⟨by rw[hb];exact HY.out.1,HY.out.2.1,HY.out.2.2.1⟩
     clear O8 hb hw hs HY;go_wp2;exact⟨⟨j+1,by have:=KE.out.2.2;omega,by simp,KE.out.1,KE.out.2.1⟩,by have:=KE.out.2.2;simp[intOf];omega⟩
    ·have O8:tx.setAt t.ag r (j:Int)=(jj:Int):=by rw[tx.setAt,hs]
     rw[O8];have hb:fZ t r (j+1)=fZ t r j++[(j:Int)]:=by rw[fZ,D6,hw,hs];rfl
     have pN:decide (0<=(jj:Int))=true:=by simp
     clear O8 hs hw;obtain⟨G,hG⟩:∃G,G=Y.alloc (.cells #[vI (j:Int)] 2):=⟨_,rfl⟩
     have bG:Below Y.1.size Y G:=by rw[hG];exact aN.alloc aU _
     have gG:G.cell? ⟨Y.1.size,0,none⟩=some (vI (j:Int)):=by rw[hG];go_simp
     obtain⟨v',F,Pb,iY,fI,fK⟩:=tx.LD (HY.out.1.later bG) (j:Int) (by have:=su t r j;have:=HY.out.2.2.1;omega) 54 Y.1.size 1 gG (by have:=bG.size;have:=HY.out.2.2.2;omega)
     have KE:Hid (tx.fO F V.1.size v' (fZ t r (j+1))/\Below V.1.size V F/\j<6):=by
      refine⟨by rw[hb];exact iY,?_,HY.out.2.2.1⟩;exact(HY.out.2.1.trans (bG.mono HY.out.2.2.2)).grown fI (by have:=bG.size;have:=HY.out.2.2.2;omega) (fun q e=>(HY.out.1.lt e).1)
     rw[hG]at Pb;clear hG bG gG iY fI fK hb HY;go_wp2_with (at_builtin;refine dF _ rfl (.tmp 83) (.tmp 85) 54 rfl _ _ _ _ rfl rfl Pb ?_);exact⟨⟨j+1,by have:=KE.out.2.2;omega,by simp,KE.out.1,KE.out.2.1⟩,by have:=KE.out.2.2;simp[intOf];omega⟩
   ·have O8:tx.lX t.b r (j:Int)=(jj:Int):=by rw[tx.lX,hw]
    rw[O8];have hb:fZ t r (j+1)=fZ t r j++[(j:Int)]:=by rw[fZ,D6,hw];rfl
    have pN:decide (0<=(jj:Int))=true:=by simp
    clear O8 hw;obtain⟨G,hG⟩:∃G,G=X.alloc (.cells #[vI (j:Int)] 2):=⟨_,rfl⟩
    have bG:Below X.1.size X G:=by rw[hG];exact aN.alloc aU _
    have gG:G.cell? ⟨X.1.size,0,none⟩=some (vI (j:Int)):=by rw[hG];go_simp
    obtain⟨v',F,Pb,iY,fI,fK⟩:=tx.LD (HX.out.1.later bG) (j:Int) (by have:=su t r j;have:=HX.out.2.2.1;omega) 54 X.1.size 1 gG (by have:=bG.size;have:=HX.out.2.2.2;omega)
    have KE:Hid (tx.fO F V.1.size v' (fZ t r (j+1))/\Below V.1.size V F/\j<6):=by
     refine⟨by rw[hb];exact iY,?_,HX.out.2.2.1⟩;exact(HX.out.2.1.trans (bG.mono HX.out.2.2.2)).grown fI (by have:=bG.size;have:=HX.out.2.2.2;omega) (fun q e=>(HX.out.1.lt e).1)
    rw[hG]at Pb;clear hG bG gG iY fI fK hb HX;go_wp2_with (at_builtin;refine dF _ rfl (.tmp 83) (.tmp 85) 54 rfl _ _ _ _ rfl rfl Pb ?_);exact⟨⟨j+1,by have:=KE.out.2.2;omega,by simp,KE.out.1,KE.out.2.1⟩,by have:=KE.out.2.2;simp[intOf];omega⟩
  ·obtain rfl:j=6:=by omega
   obtain⟨va,vc,rfl,X9,-⟩:=tx.fO.form eX;have HW:Hid (Nu w wr a1 c1 a2 c2 a3 c3 k/\Bx wr w3.1.size (tx.nO v.ar v.cr v.ah v.ch t)/\tx.kR wr v t/\w.1.size+2<=w3.1.size/\w3.1.size<wr.1.size/\ll wr wr.1.size va (fZ t r 6).length (fZ t r 6)/\(fZ t r 6).length<=6):=⟨HV.out.1.later aD,HV.out.2.1.later aD,HV.out.2.2.1.later aD,HV.out.2.2.2.2.2.1,by have:=aD.size;have:=HV.out.2.2.2.2.2.2;omega,X9.sl,su t r 6⟩
   have gO:Hid (t.b.length<=v.cr/\t.ag.length<=v.ch):=⟨HV.out.2.2.2.1,HV.out.2.2.2.2.1⟩
   clear eX aD X9 HV HB2 HRW hj;have p3:=HW.out.1.bc.1 3 _ rfl;have qH:=HW.out.1.rd.m;obtain⟨-,-,-,qV,OW⟩:=HJ.out;rcases qH with QK|⟨b2,jA,XM,lu,h1⟩
   ·rw[QK]at qV;simp at qV
   rw[XM]at p3;obtain⟨⟨m0,m1,m2,m3,m4,m5⟩,bg,fG⟩:=h1 z _ (iP qV);have e1:wr.cell? ⟨b2,jA+z*4+1,none⟩=some (.slice m0 (aT k.aa z).af.length m1):=bg 1 _ rfl;obtain⟨_,UR⟩:=fG.k;dsimp only at UR;rcases UR with UR|⟨b3,tm,rfl,jC,lE⟩
   ·omega
   have lf:=lE j0 _ (eY OW);obtain⟨a',aW,cx,gM,kL⟩:=lf.c1;have h6:=mD HJ.out.2.2.1;have i2:(z:Int)<(k.aa.length:Int):=by omega
   have i3:(j0:Int)<((aT k.aa z).af.length:Int):=by omega
   have HM:=HK.out.2.1.m;have HKK:=(HK.out.2.1.ms _ (List.mem_of_getElem? (iP qV))).k;unfold maxLen at HM HKK;have Iu:Hid (nD k t r=if qL k t r<0 then 9 else(if tx.fD t (pM k t r)=true then(if tx.fV (tx.dL t (pM k t r)) (xW k t r)=true then 0 else 9)else 9)):=by unfold Hid;rw[Z4.out,if_pos HJ.out.2.1]
   have Ce:qL k t r=iL (jF k r) (fZ t r 6):=(Mh (jF k r) t r).symm;have lT:=fun h=>(Kt (k:=k) (t:=t) (r:=r) h).1
   have Yp:IB k t r=kP (at2 (jF k r) (qL k t r).toNat).head:=rfl;have rE:=HJ.out.2.2.1;rw[HJ.out.1]at Ce Yp;obtain⟨xs,tH⟩:∃xs,(dD (aT k.aa z).af j0).cells=xs:=⟨_,rfl⟩
   rw[tH]at cx gM h6 Ce Yp rE;obtain⟨s,hs⟩:∃s,qL k t r=s:=⟨_,rfl⟩
   have HD:Hid (pM k t r=⟨r,s,IB k t r,0,false⟩/\xW k t r=⟨r,s,0,true,IB k t r⟩/\sP k t r=tx.dw (tx.dL t (pM k t r)) (xW k t r)):=⟨by rw[<-hs];rfl,by rw[<-hs];rfl,rfl⟩
   rw[hs]at Iu Ce lT Yp;have hf:=xJ wr a' xs.length aW va (fZ t r 6).length vc xs (fZ t r 6) (by unfold maxLen;omega) gM (by have:=HW.out.2.2.2.2.2.2;unfold maxLen;omega) HW.out.2.2.2.2.2.1;rw[<-Ce]at hf;have HX:Hid (qL k t r=s/\IB k t r=kP (at2 xs s.toNat).head/\nN wr wr.1.size a' xs.length xs/\eG xs=true/\xs.length=6/\(¬s<0->bH 0 5 s=true)):=⟨hs,Yp,gM,rE,h6,lT⟩
   clear fG bg h1 lE lf kL hs Ce lT Yp rE gM lu jC XM qV OW tH Z4 HJ h6;generalize fZ t r 6=zs at *;go_wp2_with fail;refine hf.mono ?_;clear hf p3 e1 cx i2 i3 HM HKK;rintro e w5 ⟨rfl,b5⟩;have H5:Hid (Nu w w5 a1 c1 a2 c2 a3 c3 k/\Bx w5 w3.1.size (tx.nO v.ar v.cr v.ah v.ch t)/\tx.kR w5 v t/\w.1.size+2<=w3.1.size/\w3.1.size<w5.1.size/\nN w5 w5.1.size a' xs.length xs):=⟨HW.out.1.later b5,HW.out.2.1.later b5,HW.out.2.2.1.later b5,HW.out.2.2.2.1,Nat.lt_of_lt_of_le HW.out.2.2.2.2.1 b5.size,HX.out.2.2.1.later b5⟩
   clear b5 HW;by_cases oQ:s<0
   ·have SS:decide (s<0)=true:=by simpa using oQ
    have LU:Hid (jv k y r=9/\jw k y r=-1/\iX k y r=k):=by
     have hC:nD k t r=9:=by rw[Iu.out,if_pos oQ]
     exact⟨by rw[HA.out.1,hC],(HA.out.2.2 (by rw[hC];decide)).1,(HA.out.2.2 (by rw[hC];decide)).2⟩
    clear oQ;have Ld:=ng w5 a1 c1 a2 c2 a3 c3 k HK.out.1 H5.out.1.rd;have p0:=H5.out.1.bc.c6;go_wp2_with fail;refine Ld.mono ?_;clear Ld p0;rintro e w4 ⟨e1,g1,e2,g2,e3,g3,ps,gp,ms,gm,ts,gt,rfl,O7,x1,x2,x3,b4⟩;have how:=O7.ow x1 x2 x3;have xr:=H5.out.1.bz.later b4;have zb:=xr.put (dR e1 g1 e2 g2 e3 g3 k) rfl;obtain⟨Z,hZ⟩:∃Z,Z=dU w4 (w.1.size+1) 0 (dR e1 g1 e2 g2 e3 g3 k):=⟨_,rfl⟩
    rw[<-hZ]at zb;have HZ:Hid (Z=((((((w4.setCell ⟨w.1.size+1,0,none⟩ (vI k.v)).setCell ⟨w.1.size+1,1,none⟩ (vI k.q)).setCell ⟨w.1.size+1,2,none⟩ (.slice e1 k.f.length g1)).setCell ⟨w.1.size+1,3,none⟩ (.slice e2 k.aa.length g2)).setCell ⟨w.1.size+1,4,none⟩ (.slice e3 k.c.length g3)).setCell ⟨w.1.size+1,5,none⟩ (.bool k.w))):=hZ;have Fs:=H5.out.1.sz
    have KE:Hid (tJ w (iX k y r) (jw k y r) (jv k y r) (.returned (.tuple #[.agg #[vI k.v,vI k.q,.slice e1 k.f.length g1,.slice e2 k.aa.length g2,.slice e3 k.c.length g3,.bool k.w],vI (-1),vI 9])) Z):=by
     unfold Hid;rw[LU.out.1,LU.out.2.1,LU.out.2.2];refine⟨e1,g1,e2,g2,e3,g3,_,rfl,(how.low (show w.1.size<=_ by omega)).aL (by rw[hZ,bu];exact Nat.le_refl _) (fun q hq=>by rw[hZ];exact aX (fun e=>by have:=(how.of hq).1;omega) _ _ _),?_⟩;rw[hZ];exact bn (by omega) _ _ _ (au H5.out.1.yu b4)
    have c0:=xr.1 0 _ rfl;have c1:=xr.1 1 _ rfl;have c2:=xr.1 2 _ rfl;have c3:=xr.1 3 _ rfl;have c4:=xr.1 4 _ rfl;have c5:=xr.1 5 _ rfl;have f0:=xr.2.1 0;have f1:=xr.2.1 1;have f2:=xr.2.1 2;have f3:=xr.2.1 3;have f4:=xr.2.1 4;have f5:=xr.2.1 5;have z0:=zb.c6;clear xr zb hZ Fs how b4 O7 x1 x2 x3;go_wp2;rw[<-HZ.out];exact bodyPost_ret (v:=.tuple #[.agg #[vI k.v,vI k.q,.slice e1 k.f.length g1,.slice e2 k.aa.length g2,.slice e3 k.c.length g3,.bool k.w],vI (-1),vI 9]) (by simp[results,results5,go_sem,z0]) rfl KE.out
   have SS:decide (s<0)=false:=by simpa using oQ
   have dy:=dI.1 (HX.out.2.2.2.2.2 (by omega));obtain⟨n,hn⟩:∃n:Nat,s=(n:Int):=⟨s.toNat,by omega⟩
   have my:n<xs.length:=by have:=HX.out.2.2.2.2.1;omega
   obtain⟨_,Yl⟩:=H5.out.2.2.2.2.2;rcases Yl with Yl|⟨b4,tt,rfl,rn,jh⟩
   ·omega
   have lB:=jh.get (i:=n) my;have g0:=lB.c0;have SG:Hid (nD k t r=if tx.fD t (pM k t r)=true then(if tx.fV (tx.dL t (pM k t r)) (xW k t r)=true then 0 else 9)else 9):=by unfold Hid;rw[Iu.out,if_neg oQ]
   have WT:IB k t r=kP (at2 xs n).head:=by have:=HX.out.2.1;rw[hn,Int.toNat_natCast]at this;exact this
   obtain⟨hd,WN⟩:∃hd,(at2 xs n).head=hd:=⟨_,rfl⟩
   rw[WN]at g0 WT;have cV:=yX hd w5;rw[<-WT]at cV;obtain⟨Iq,yE⟩:∃Iq,IB k t r=Iq:=⟨_,rfl⟩
   rw[yE]at cV;have pe:=ay yE;have uc:=HX.out.2.2.2.2.1;have i4:(n:Int)<(xs.length:Int):=by omega
   have ud:Hid (s=(n:Int)):=hn;have mz:pM k t r=⟨r,s,Iq,0,false⟩:=by rw[HD.out.1,yE]
   have cA:=tx.xI w5 v t ⟨r,s,Iq,0,false⟩ HK.out.2.2.1 H5.out.2.2.1 gO.out.1;simp only[tx.TV.val]at cA;rw[<-mz]at cA;have y0:=H5.out.2.1.c7;have Tg:=HK.out.2.2.2.2.2.2;have ia:Hid (qL k t r=(n:Int)):=by unfold Hid;rw[HX.out.1,hn]
   clear oQ dy jh rn lB WN WT yE mz Iu;subst hn;go_wp2_with fail;refine cV.mono ?_;clear cV g0 i4 my;rintro e w9 ⟨rfl,Jb⟩;replace Jb:=Jb.symm;subst Jb;go_wp2_with fail;refine cA.mono ?_;clear cA y0;have mh:=C9 t (pM k t r);have WK:nD k t r=if tx.fD t (pM k t r)=true then Nw (tx.dL t (pM k t r)) (xW k t r)else 9:=SG.out
   obtain⟨N,hN⟩:∃N,tx.dL t (pM k t r)=N:=⟨_,rfl⟩
   obtain⟨ok,jG⟩:∃ok,tx.fD t (pM k t r)=ok:=⟨_,rfl⟩
   have HD2:Hid (sP k t r=tx.dw N (xW k t r)/\xW k t r=⟨r,(n:Int),0,true,Iq⟩):=⟨by rw[HD.out.2.2,hN],by rw[HD.out.2.1,pe.out]⟩
   rw[hN,jG]at WK;rw[hN]at mh;have Z6:=ay WK;rw[hN,jG];rintro e w6 ⟨na,nc,nh,nd,PR,PS,rfl,yD,b6,WR⟩;obtain⟨V3,wL,bk,oE,oe⟩:=jU w6 (tx.nO na nc nh nd N) 53;have H6:Hid (Nu w V3 a1 c1 a2 c2 a3 c3 k/\Bx V3 w6.1.size (tx.nO na nc nh nd N)/\tx.OT V3 w5.1.size ⟨na,nc,nh,nd⟩ N PR PS/\N.ag.length<=nd/\tx.TL N/\w.1.size+2<=w5.1.size/\w5.1.size<=w6.1.size/\V3.1.size=w6.1.size+1):=⟨(H5.out.1.later b6).later bk,oE,yD.later bk,WR,⟨by unfold maxLen;omega,by unfold maxLen;omega⟩,H5.out.1.sz,b6.size,oe⟩
   clear WK hN jG mh yD b6 WR bk oE oe Tg H5 HX SG
   cases ok with
   | false=>
    have LU:Hid (jv k y r=9/\jw k y r=-1/\iX k y r=k):=by
     have hC:nD k t r=9:=by rw[Z6.out];rfl
     exact⟨by rw[HA.out.1,hC],(HA.out.2.2 (by rw[hC];decide)).1,(HA.out.2.2 (by rw[hC];decide)).2⟩
    have Ld:=ng V3 a1 c1 a2 c2 a3 c3 k HK.out.1 H6.out.1.rd;have p0:=H6.out.1.bc.c6;rw[wL]at p0;have Z8:=ay wL;clear wL;go_wp2_with fail;rw[<-Z8.out];refine Ld.mono ?_;clear Ld p0;rintro e w4 ⟨e1,g1,e2,g2,e3,g3,ps,gp,ms,gm,ts,gt,rfl,O7,x1,x2,x3,b4⟩;have how:=O7.ow x1 x2 x3;have xr:=H6.out.1.bz.later b4;have zb:=xr.put (dR e1 g1 e2 g2 e3 g3 k) rfl;obtain⟨Z,hZ⟩:∃Z,Z=dU w4 (w.1.size+1) 0 (dR e1 g1 e2 g2 e3 g3 k):=⟨_,rfl⟩
    rw[<-hZ]at zb;have HZ:Hid (Z=((((((w4.setCell ⟨w.1.size+1,0,none⟩ (vI k.v)).setCell ⟨w.1.size+1,1,none⟩ (vI k.q)).setCell ⟨w.1.size+1,2,none⟩ (.slice e1 k.f.length g1)).setCell ⟨w.1.size+1,3,none⟩ (.slice e2 k.aa.length g2)).setCell ⟨w.1.size+1,4,none⟩ (.slice e3 k.c.length g3)).setCell ⟨w.1.size+1,5,none⟩ (.bool k.w))):=hZ;have Fs:=H6.out.1.sz
    have KE:Hid (tJ w (iX k y r) (jw k y r) (jv k y r) (.returned (.tuple #[.agg #[vI k.v,vI k.q,.slice e1 k.f.length g1,.slice e2 k.aa.length g2,.slice e3 k.c.length g3,.bool k.w],vI (-1),vI 9])) Z):=by
     unfold Hid;rw[LU.out.1,LU.out.2.1,LU.out.2.2];refine⟨e1,g1,e2,g2,e3,g3,_,rfl,(how.low (show w.1.size<=_ by omega)).aL (by rw[hZ,bu];exact Nat.le_refl _) (fun q hq=>by rw[hZ];exact aX (fun e=>by have:=(how.of hq).1;omega) _ _ _),?_⟩;rw[hZ];exact bn (by omega) _ _ _ (au H6.out.1.yu b4)
    have c0:=xr.1 0 _ rfl;have c1:=xr.1 1 _ rfl;have c2:=xr.1 2 _ rfl;have c3:=xr.1 3 _ rfl;have c4:=xr.1 4 _ rfl;have c5:=xr.1 5 _ rfl;have f0:=xr.2.1 0;have f1:=xr.2.1 1;have f2:=xr.2.1 2;have f3:=xr.2.1 3;have f4:=xr.2.1 4;have f5:=xr.2.1 5;have z0:=zb.c6;clear xr zb hZ Fs how b4 O7 x1 x2 x3;go_wp2;rw[<-HZ.out];exact bodyPost_ret (v:=.tuple #[.agg #[vI k.v,vI k.q,.slice e1 k.f.length g1,.slice e2 k.aa.length g2,.slice e3 k.c.length g3,.bool k.w],vI (-1),vI 9]) (by simp[results,results5,go_sem,z0]) rfl KE.out
   | true=>
   have gE:Hid (nD k t r=Nw N (xW k t r)):=Z6.out;have cB:=tx.Bo V3 ⟨na,nc,nh,nd⟩ N ⟨r,(n:Int),0,true,Iq⟩ H6.out.2.2.2.2.1 H6.out.2.2.1.sl H6.out.2.2.2.1;simp only[tx.TV.val]at cB;rw[<-HD2.out.2]at cB;have y0:=H6.out.2.1.c7;rw[wL]at y0;have pd:=ay wL;obtain⟨Qp,Yn⟩:∃q,w6.1.size=q:=⟨_,rfl⟩
   have Zk:=ay Yn;clear wL Z6 Yn;go_wp2_with fail;rw[<-pd.out,Zk.out];refine cB.mono ?_;clear cB y0;obtain⟨M,hM⟩:∃M,tx.dw N (xW k t r)=M:=⟨_,rfl⟩
   obtain⟨ok,jG⟩:∃ok,tx.fV N (xW k t r)=ok:=⟨_,rfl⟩
   have WK:nD k t r=if ok=true then 0 else 9:=by rw[gE.out,Nw,jG]
   have Zj:Hid (sP k t r=M/\(nD k t r=if ok=true then 0 else 9)):=⟨by rw[HD2.out.1,hM],WK⟩
   rw[hM,jG];rintro e w7 ⟨va,vc,vh,vd,QR,QS,rfl,yD,b7⟩;have x7:=H6.out.2.1.later b7;rw[Zk.out]at x7;obtain⟨Y,hY⟩:∃Y,Y=dU w7 Qp 0 (tx.nO va vc vh vd M):=⟨_,rfl⟩
   have yb:=x7.put (tx.nO va vc vh vd M) rfl;rw[<-hY]at yb;have La:Y=(((((((w7.setCell ⟨Qp,0,none⟩ (vI M.id)).setCell ⟨Qp,1,none⟩ (vI M.l)).setCell ⟨Qp,2,none⟩ (vI M.o)).setCell ⟨Qp,3,none⟩ (vI M.u)).setCell ⟨Qp,4,none⟩ (.slice va M.b.length vc)).setCell ⟨Qp,5,none⟩ (.slice vh M.ag.length vd)).setCell ⟨Qp,6,none⟩ (vI M.az)):=hY;have dO:Y.1.size=w7.1.size:=by rw[hY];exact bu _ _ _ _
   have dX:∀q,q≠Qp->Y.1[q]?=w7.1[q]?:=fun q hq=>by rw[hY];exact aX hq _ _ _
   have qu:=H6.out.2.2.2.2.2.1;have ke:=H6.out.2.2.2.2.2.2.1;have kf:=H6.out.2.2.2.2.2.2.2;rw[Zk.out]at ke kf;have XJ:=H6.out.1.later b7;have bY:Below w.1.size w Y:=by rw[hY];exact bn (by omega) _ _ _ XJ.yu
   have qM:Below w5.1.size w5 w5:=aN;have mB:∀q,tx.nC QR QS q->V3.1.size<=q/\q<w7.1.size:=fun q hq=>yD.of hq
   have rv:=b7.size
   have H7:Hid (Nu w Y a1 c1 a2 c2 a3 c3 k/\Bx Y Qp (tx.nO va vc vh vd M)/\tx.OT Y V3.1.size ⟨va,vc,vh,vd⟩ M QR QS/\w.1.size+2<=V3.1.size/\Qp<V3.1.size/\V3.1.size<=Y.1.size):=by
    refine⟨⟨bY,by rw[dO];exact XJ.sz,XJ.bc.aj (dX _ (by omega)) (Nat.le_of_eq dO.symm),XJ.bz.aj (dX _ (by omega)) (Nat.le_of_eq dO.symm),?_⟩,yb,yD.aL (Nat.le_of_eq dO.symm) (fun q _ hq=>dX q (by have:=mB q hq;omega)),by omega,by omega,by omega⟩;exact gS.out Y bY
   have tR:=x7.c7;have tS:=x7.f7;have Ws:=ay La;clear WK hM jG hY yb La dO dX qu ke kf XJ bY qM mB yD b7 rv x7 H6 gE HD2 HD
   cases ok with
   | false=>
    have LU:Hid (jv k y r=9/\jw k y r=-1/\iX k y r=k):=by
     have hC:nD k t r=9:=by rw[Zj.out.2,if_neg (by decide)]
     exact⟨by rw[HA.out.1,hC],(HA.out.2.2 (by rw[hC];decide)).1,(HA.out.2.2 (by rw[hC];decide)).2⟩
    have c9:=Ws.out;have Ld:=ng Y a1 c1 a2 c2 a3 c3 k HK.out.1 H7.out.1.rd;have p0:=H7.out.1.bc.c6;rw[c9]at p0;have Z8:=ay c9;clear c9;go_wp2_with fail;rw[<-Z8.out];refine Ld.mono ?_;clear Ld p0;rintro e w4 ⟨e1,g1,e2,g2,e3,g3,ps,gp,ms,gm,ts,gt,rfl,O7,x1,x2,x3,b4⟩;have how:=O7.ow x1 x2 x3;have xr:=H7.out.1.bz.later b4;have zb:=xr.put (dR e1 g1 e2 g2 e3 g3 k) rfl;obtain⟨Z,hZ⟩:∃Z,Z=dU w4 (w.1.size+1) 0 (dR e1 g1 e2 g2 e3 g3 k):=⟨_,rfl⟩
    rw[<-hZ]at zb;have HZ:Hid (Z=((((((w4.setCell ⟨w.1.size+1,0,none⟩ (vI k.v)).setCell ⟨w.1.size+1,1,none⟩ (vI k.q)).setCell ⟨w.1.size+1,2,none⟩ (.slice e1 k.f.length g1)).setCell ⟨w.1.size+1,3,none⟩ (.slice e2 k.aa.length g2)).setCell ⟨w.1.size+1,4,none⟩ (.slice e3 k.c.length g3)).setCell ⟨w.1.size+1,5,none⟩ (.bool k.w))):=hZ;have Fs:=H7.out.1.sz
    have KE:Hid (tJ w (iX k y r) (jw k y r) (jv k y r) (.returned (.tuple #[.agg #[vI k.v,vI k.q,.slice e1 k.f.length g1,.slice e2 k.aa.length g2,.slice e3 k.c.length g3,.bool k.w],vI (-1),vI 9])) Z):=by
     unfold Hid;rw[LU.out.1,LU.out.2.1,LU.out.2.2];refine⟨e1,g1,e2,g2,e3,g3,_,rfl,(how.low (show w.1.size<=_ by omega)).aL (by rw[hZ,bu];exact Nat.le_refl _) (fun q hq=>by rw[hZ];exact aX (fun e=>by have:=(how.of hq).1;omega) _ _ _),?_⟩;rw[hZ];exact bn (by omega) _ _ _ (au H7.out.1.yu b4)
    have c0:=xr.1 0 _ rfl;have c1:=xr.1 1 _ rfl;have c2:=xr.1 2 _ rfl;have c3:=xr.1 3 _ rfl;have c4:=xr.1 4 _ rfl;have c5:=xr.1 5 _ rfl;have f0:=xr.2.1 0;have f1:=xr.2.1 1;have f2:=xr.2.1 2;have f3:=xr.2.1 3;have f4:=xr.2.1 4;have f5:=xr.2.1 5;have z0:=zb.c6;clear xr zb hZ Fs how b4 O7 x1 x2 x3;go_wp2;rw[<-HZ.out];exact bodyPost_ret (v:=.tuple #[.agg #[vI k.v,vI k.q,.slice e1 k.f.length g1,.slice e2 k.aa.length g2,.slice e3 k.c.length g3,.bool k.w],vI (-1),vI 9]) (by simp[results,results5,go_sem,z0]) rfl KE.out
   | true=>
   have h0:nD k t r=0:=by rw[Zj.out.2];rfl
   have HRR:Hid (jv k y r=0/\jw k y r=(n:Int)/\iX k y r=lI k i M):=⟨by rw[HA.out.1,h0],by rw[(HA.out.2.1 h0).1];exact ia.out,by rw[(HA.out.2.1 h0).2,Zj.out.1]⟩
   have Ld:=yn Y a1 c1 a2 c2 a3 c3 k HK.out.1 H7.out.1.rd;have p0:=H7.out.1.bc.c6;rw[Ws.out]at p0;clear h0;go_wp2_with fail;rw[<-Ws.out];refine Ld.mono ?_;clear Ld p0 tR tS Ws;rintro e w8 ⟨b1,d1,b2,d2,b3,d3,ps,gp,ms,gm,ts,gt,rfl,hr,e1,e2,e3,bl,zQ⟩;clear zQ;have hi:=HK.out.2.2.2.2.1;have aK:ts.length=k.c.length:=by rw[<-e3];simp
   have td:i<ts.length:=by omega
   obtain⟨W4,OJ,bo,oR,tI⟩:=jU w8 (dR b1 d1 b2 d2 b3 d3 k) 32;have Xu:=au bl bo;have m8:=hr.later bo;have qv:=H7.out.2.2.2.1;have qS:=H7.out.2.2.2.2.1;have qT:=H7.out.2.2.2.2.2;have yD:=H7.out.2.2.1.later Xu;have UZ:∀q,tx.nC QR QS q->V3.1.size<=q/\q<Y.1.size:=fun q hq=>H7.out.2.2.1.of hq
   obtain⟨b,gJ,qQ,Ej,-,rJ,sY,PP,XF,XA⟩:=FI m8 e1 e2 e3 hi va vc vh vd M (tx.nC QR QS) (KT.ow (yD.low (B':=w.1.size) (fun q hq=>by have:=UZ q hq;omega))) (show w.1.size<=Y.1.size+3 by omega) (fun q hq=>⟨fun h=>by have:=(hr.P.blocks h).1;have:=UZ q hq;omega,fun h=>by have:=(hr.M.blocks h).1;have:=UZ q hq;omega,fun h=>by have:=(hr.T.blocks (.inl h)).1;have:=UZ q hq;omega⟩) (fun j q hj _ h hq=>by have:=(hr.T.blocks (.inr ⟨j,by omega,h⟩)).1;have:=UZ q hq;omega);subst gJ;have qO:=(hr.T.blocks (.inl (by rfl:(Value.slice (some ⟨b,0,none⟩) k.c.length d3).ownBlock=some b))).2;have xo:=oR;have xr:=H7.out.1.bz.later Xu;have ym:=H7.out.2.1.later Xu;obtain⟨V2,u7⟩:∃V,V=dU W4 b (i*7) (tx.nO va vc vh vd M):=⟨_,rfl⟩
   have nL:V2.1.size=W4.1.size:=by rw[u7];exact bu _ _ _ _
   have cE:∀q,q≠b->V2.1[q]?=W4.1[q]?:=fun q hq=>by rw[u7];exact aX hq _ _ _
   have oS:=xo.aj (cE _ (by omega)) (Nat.le_of_eq nL.symm);have ZP:=xr.aj (cE _ (by omega)) (Nat.le_of_eq nL.symm);have XC:cO.Ow V2 w.1.size b1 d1 b2 d2 (some ⟨b,0,none⟩) d3 (lI k i M) PP:=by rw[u7];exact XA
   have ij:Hid (V2=(((((((W4.setCell ⟨b,i*7,none⟩ (vI M.id)).setCell ⟨b,i*7+1,none⟩ (vI M.l)).setCell ⟨b,i*7+2,none⟩ (vI M.o)).setCell ⟨b,i*7+3,none⟩ (vI M.u)).setCell ⟨b,i*7+4,none⟩ (.slice va M.b.length vc)).setCell ⟨b,i*7+5,none⟩ (.slice vh M.ag.length vd)).setCell ⟨b,i*7+6,none⟩ (vI M.az))):=by unfold Hid;rw[u7];rfl
   have zb:=ZP.put (dR b1 d1 b2 d2 (some ⟨b,0,none⟩) d3 k) rfl;obtain⟨Z,hZ⟩:∃Z,Z=dU V2 (w.1.size+1) 0 (dR b1 d1 b2 d2 (some ⟨b,0,none⟩) d3 k):=⟨_,rfl⟩
   rw[<-hZ]at zb;have HZ:Hid (Z=((((((V2.setCell ⟨w.1.size+1,0,none⟩ (vI k.v)).setCell ⟨w.1.size+1,1,none⟩ (vI k.q)).setCell ⟨w.1.size+1,2,none⟩ (.slice b1 k.f.length d1)).setCell ⟨w.1.size+1,3,none⟩ (.slice b2 k.aa.length d2)).setCell ⟨w.1.size+1,4,none⟩ (.slice (some ⟨b,0,none⟩) k.c.length d3)).setCell ⟨w.1.size+1,5,none⟩ (.bool k.w))):=hZ
   have KE:Hid (tJ w (iX k y r) (jw k y r) (jv k y r) (.returned (.tuple #[.agg #[vI k.v,vI k.q,.slice b1 k.f.length d1,.slice b2 k.aa.length d2,.slice (some ⟨b,0,none⟩) k.c.length d3,.bool k.w],vI (n:Int),vI 0])) Z):=by
    unfold Hid;rw[HRR.out.1,HRR.out.2.1,HRR.out.2.2];refine⟨b1,d1,b2,d2,some ⟨b,0,none⟩,d3,PP,by simp[lI],?_,?_⟩
    ·exact XC.aL (by rw[hZ,bu];exact Nat.le_refl _) (fun q hq=>by rw[hZ];exact aX (fun e=>by rcases XF q hq with h|h;have:=UZ q h;omega;omega) _ _ _)
    ·rw[hZ];exact bn (by omega) _ _ _ (by rw[u7];exact bn (by omega) _ _ _ (au H7.out.1.yu Xu))
   have y0:=ym.c7;obtain⟨m0,g0,f0⟩:=rJ (i*7+0) (by omega);obtain⟨m1,g1,f1⟩:=rJ (i*7+1) (by omega);obtain⟨m2,g2,f2⟩:=rJ (i*7+2) (by omega);obtain⟨m3,g3,f3⟩:=rJ (i*7+3) (by omega);obtain⟨m4,g4,f4⟩:=rJ (i*7+4) (by omega);obtain⟨m5,g5,f5⟩:=rJ (i*7+5) (by omega);obtain⟨m6,g6,f6⟩:=rJ (i*7+6) (by omega);rw[Nat.add_zero]at g0 f0;have o4:=xo.1 4 _ rfl;have jn:(i:Int)<(k.c.length:Int):=by omega
   have p0:=oS.c6;have c0:=ZP.c6;have l0:=ZP.f6;have z0:=zb.c6;rw[ij.out]at p0 c0 l0;rw[OJ]at y0 g0 g1 g2 g3 g4 g5 g6 f0 f1 f2 f3 f4 f5 f6 o4 p0 c0 l0;have pf:=ay OJ;clear OJ bo oR tI Xu hr m8 e1 e2 e3 bl hi aK td qv qS qT yD UZ qQ Ej rJ sY XF XA qO xo xr ym u7 nL cE oS ZP XC zb hZ HK HA HRR H7 Zj Zk ia gO gS;go_wp2;rw[<-pf.out,<-ij.out,<-HZ.out];exact bodyPost_ret (v:=.tuple #[.agg #[vI k.v,vI k.q,.slice b1 k.f.length d1,.slice b2 k.aa.length d2,.slice (some ⟨b,0,none⟩) k.c.length d3,.bool k.w],vI (n:Int),vI 0]) (by simp[results,results5,go_sem,z0]) rfl KE.out
end
section
open Go.Proofs.Tryz
theorem IL(w:World)(b1 b2 b3 b5:Nat)(v:Int)(k:C6)(n:Int)(hg:HG w)(h5:b5<w.1.size)(qt:b5≠0)
  (hC:∀X,X=(w.alloc (.cells #[vI 0,vI 0,.slice none 0 0,.slice none 0 0,.slice none 0 0,.bool false] 32)).alloc (.cells #[vI 0] 2)->Calls prog 29 #[.pointer (some ⟨b1,0,none⟩),.pointer (some ⟨b2,0,none⟩),.pointer (some ⟨b3,0,none⟩),.pointer (some ⟨b5,0,none⟩)] X (Wn X b5 v k n)):
  Calls prog 28 #[.func (.func 29) #[] #[.pointer (some ⟨b1,0,none⟩),.pointer (some ⟨b2,0,none⟩),.pointer (some ⟨b3,0,none⟩),.pointer (some ⟨b5,0,none⟩)]] w (ZY w b5 v k n):=by
 have sq:∀(fn:Fn) (first cap:Array Value) (w:World),(Instr.makeFunc fn first cap).run prog w=.ok (.func fn first cap) w:=fun _ _ _ _=>rfl
 obtain⟨W1,gZ⟩:∃X,X=(w.alloc (.cells #[vI 0,vI 0,.slice none 0 0,.slice none 0 0,.slice none 0 0,.bool false] 32)).alloc (.cells #[vI 0] 2):=⟨_,rfl⟩
 have hc:=hC W1 gZ;have b1':Below w.1.size w W1:=by rw[gZ];exact(aN.alloc aU _).alloc (by simp) _
 have s1:W1.1.size=w.1.size+2:=by rw[gZ];simp
 have x0:Bx W1 w.1.size nJ:=by
  have:=(Bx.made w nJ 32).later (aN.alloc aU (.cells #[vI 0] 2));rw[gZ];exact this
 have x1:Bx W1 (w.1.size+1) [vI 0]:=by
  have h:=Bx.made (w.alloc (.cells #[vI 0,vI 0,.slice none 0 0,.slice none 0 0,.slice none 0 0,.bool false] 32)) [vI 0] 2;rw[show(w.alloc (.cells #[vI 0,vI 0,.slice none 0 0,.slice none 0 0,.slice none 0 0,.bool false] 32)).1.size=w.1.size+1 by simp]at h;rw[gZ];exact h
 have K:Hid (Below w.1.size w W1/\W1.1.size=w.1.size+2/\Bx W1 w.1.size nJ/\Bx W1 (w.1.size+1) [vI 0]/\HG W1):=⟨b1',s1,x0,x1,hg.later b1'⟩
 clear b1' s1 x0 x1 hC hg;go_enter_defers func28,ntmps28;go_wp2_with fail;rw[<-gZ];clear gZ;refine hc.mono ?_;clear hc;rintro e w2 ⟨a1,c1,a2,c2,a3,c3,P,dr,how,t2,v2⟩;obtain⟨k1,k2,k3,k4,k5⟩:=K.out;have y0:=k3.aj (t2.block _ k3.2.2 (by omega)) t2.size;have y1:=k4.aj (t2.block _ k4.2.2 (by omega)) t2.size;have WG:=((di.refl b5 w).bN k1).trans t2;have ZC:=t2.size;have Ch:HG w2:=(World.cell?_of_block (a:=⟨0,0,none⟩) (t2.block 0 (by omega) (fun e=>qt e.symm))).trans k5;rcases dr with ⟨rfl,rfl⟩|⟨hn,rfl⟩
 ·obtain⟨Y,hY⟩:∃Y,Y=(dU w2 w.1.size 0 (dR a1 c1 a2 c2 a3 c3 k)).setCell ⟨w.1.size+1,0,none⟩ (vI 0):=⟨_,rfl⟩
  have KE:Hid (ZY w b5 v k 0 (.returned (.tuple #[.agg #[vI k.v,vI k.q,.slice a1 k.f.length c1,.slice a2 k.aa.length c2,.slice a3 k.c.length c3,.bool k.w],vI 0])) Y):=⟨a1,c1,a2,c2,a3,c3,P,rfl,by rw[hY];exact(cO.Ow.low how (by omega)).aL (by simp[World.setCell,bu]) (fun q hq=>(Below.heap_setCell _ _ _ _ (show q≠w.1.size+1 by have:=(how.of hq).1;omega)).trans (aX (show q≠w.1.size by have:=(how.of hq).1;omega) _ _ _)),by rw[hY];exact(WG.RS aU _ _).RS (s:=w.1.size+1) (by omega) 0 [vI 0],by rw[hY];exact(World.cell?_of_block (a:=⟨b5,0,none⟩) ((Below.heap_setCell _ _ _ _ (show b5≠w.1.size+1 by omega)).trans (aX (show b5≠w.1.size by omega) _ _ _))).trans v2⟩
  have yb:Bx Y w.1.size (dR a1 c1 a2 c2 a3 c3 k):=by rw[hY];exact(y0.put (dR a1 c1 a2 c2 a3 c3 k) rfl).dX (by omega) _
  have t0:Y.cell? ⟨w.1.size+1,0,none⟩=some (vI 0):=by rw[hY];exact ax ((World.cell?_of_block (a:=⟨w.1.size+1,0,none⟩) (aX (show w.1.size+1≠w.1.size by omega) _ _ _)).trans (y1.1 0 _ rfl))
  have z0:=yb.c6;have r0:=y0.c6;have f0:=y0.f6;have s0:=y1.1 0 _ rfl;have g0:=y1.2.1 0;simp only[dU]at hY;clear y0 y1 WG how k1 k2 k3 k4 k5 t2 ZC K yb v2 Ch;go_wp2;rw[<-hY];clear hY r0 f0 s0 g0;refine leaves_cons (f:=62) (args:=#[.pointer (some ⟨w.1.size,0,none⟩),.pointer (some ⟨w.1.size+1,0,none⟩)]) (by simp) (by simp[go_sem]) ?_;refine(IK w.1.size (w.1.size+1) Y).mono ?_;rintro e u' eU ⟨rfl,rfl,rfl⟩;simp only[Leaves,settle];refine⟨.tuple #[.agg #[vI k.v,vI k.q,.slice a1 k.f.length c1,.slice a2 k.aa.length c2,.slice a3 k.c.length c3,.bool k.w],vI 0],by simp[results,results28,go_sem,z0,t0],KE.out⟩
 ·have cF:=yw w.1.size (w.1.size+1) n k.v k.q a1 k.f.length c1 a2 k.aa.length c2 a3 k.c.length c3 k.w nJ (vI 0) w2 Ch rfl y0 y1 (by omega);have KX:Hid (Bx w2 w.1.size nJ/\Bx w2 (w.1.size+1) [vI 0]/\di b5 w w2/\cO.Ow w2 W1.1.size a1 c1 a2 c2 a3 c3 k P/\W1.1.size=w.1.size+2/\w2.cell? ⟨b5,0,none⟩=some (vI v)/\W1.1.size<=w2.1.size):=⟨y0,y1,WG,how,k2,v2,ZC⟩
  clear y0 y1 WG how k1 k2 k3 k4 k5 t2 ZC K v2 Ch;go_wp2;refine leaves_cons (f:=62) (args:=#[.pointer (some ⟨w.1.size,0,none⟩),.pointer (some ⟨w.1.size+1,0,none⟩)]) (by simp) (by simp[go_sem]) ?_;refine cF.mono ?_;rintro e u' w3 ⟨rfl,rfl,X,bX,hY⟩;obtain⟨y0,y1,WG,how,k2,v2,ZC⟩:=KX.out;have fc:=how.later bX;have y0':=y0.later bX;have y1':=y1.later bX;have KE:Hid (ZY w b5 v k n (.returned (.tuple #[.agg #[vI k.v,vI k.q,.slice a1 k.f.length c1,.slice a2 k.aa.length c2,.slice a3 k.c.length c3,.bool k.w],vI n])) w3):=⟨a1,c1,a2,c2,a3,c3,P,rfl,by rw[hY];exact(cO.Ow.low fc (by omega)).aL (by simp[World.setCell,bu]) (fun q hq=>(Below.heap_setCell _ _ _ _ (show q≠w.1.size+1 by have:=(how.of hq).1;omega)).trans (aX (show q≠w.1.size by have:=(how.of hq).1;omega) _ _ _)),by rw[hY];exact((WG.bN bX).RS aU _ _).RS (s:=w.1.size+1) (by omega) 0 [vI n],by rw[hY];exact(World.cell?_of_block (a:=⟨b5,0,none⟩) ((Below.heap_setCell _ _ _ _ (show b5≠w.1.size+1 by omega)).trans (aX (show b5≠w.1.size by omega) _ _ _))).trans ((bX.cell (p:=⟨b5,0,none⟩) (show b5<w2.1.size by omega)).trans v2)⟩
  have yb:Bx w3 w.1.size (dR a1 c1 a2 c2 a3 c3 k):=by rw[hY];exact(y0'.put (dR a1 c1 a2 c2 a3 c3 k) rfl).dX (by omega) _
  have t0:w3.cell? ⟨w.1.size+1,0,none⟩=some (vI n):=by rw[hY];exact ax ((World.cell?_of_block (a:=⟨w.1.size+1,0,none⟩) (aX (show w.1.size+1≠w.1.size by omega) _ _ _)).trans (y1'.1 0 _ rfl))
  have z0:=yb.c6;simp only[settle];refine⟨.tuple #[.agg #[vI k.v,vI k.q,.slice a1 k.f.length c1,.slice a2 k.aa.length c2,.slice a3 k.c.length c3,.bool k.w],vI n],by simp[results,results28,go_sem,z0,t0],KE.out⟩
end
section
open Go.Proofs.Tryz
theorem Co(w:World)(a1:OA)(c1:Nat)(a2:OA)(c2:Nat)(a3:OA)(c3:Nat)(k:C6)(y r:Int)(hl:cO.L k)(h:cO.Rd w a1 c1 a2 c2 a3 c3 k)(hg:HG w):
  Calls prog 7 #[.agg #[vI k.v,vI k.q,.slice a1 k.f.length c1,.slice a2 k.aa.length c2,.slice a3 k.c.length c3,.bool k.w],vI y,vI r] w (tJ w (iX k y r) (jw k y r) (jv k y r)):=by
 have sq:∀(fn:Fn) (first cap:Array Value) (w:World),(Instr.makeFunc fn first cap).run prog w=.ok (.func fn first cap) w:=fun _ _ _ _=>rfl
 obtain⟨U0,wz,DZ,Ii,M8⟩:=jU w (dR a1 c1 a2 c2 a3 c3 k) 32;obtain⟨U1,Cc,II,Ns,Sc⟩:=jU U0 [vI y] 2;obtain⟨U2,OI,Q0,WY,ZJ⟩:=jU U1 [vI r] 2;obtain⟨U3,kn,Xv,oy,tD⟩:=jU U2 nJ 32;obtain⟨U4,kq,WE,oA,tE⟩:=jU U3 [vI (-1)] 2;have hU:U4=(((((w.alloc (.cells #[vI k.v,vI k.q,.slice a1 k.f.length c1,.slice a2 k.aa.length c2,.slice a3 k.c.length c3,.bool k.w] 32)).alloc (.cells #[vI y] 2)).alloc (.cells #[vI r] 2)).alloc (.cells #[vI 0,vI 0,.slice none 0 0,.slice none 0 0,.slice none 0 0,.bool false] 32)).alloc (.cells #[vI (-1)] 2)):=by rw[kq,kn,OI,Cc,wz]
 have z1:U1.1.size=w.1.size+2:=by omega
 have z2:U2.1.size=w.1.size+3:=by omega
 have z3:U3.1.size=w.1.size+4:=by omega
 have z4:U4.1.size=w.1.size+5:=by omega
 have b4:Below w.1.size w U4:=au (au (au (au DZ II) Q0) Xv) WE;have x0:=(((Ii.later II).later Q0).later Xv).later WE;have x1:=((Ns.later Q0).later Xv).later WE;have x2:=(WY.later Xv).later WE;have x3:=oy.later WE;have x4:=oA;rw[M8]at x1;rw[z1]at x2;rw[z2]at x3;rw[z3]at x4
 have h0:0<w.1.size:=by
  unfold HG at hg;rcases Nat.eq_zero_or_pos w.1.size with h0|h0
  ·exfalso;have:w.1[0]?=none:=Array.getElem?_eq_none (by omega);simp[World.cell?,this]at hg
  ·exact h0
 have hf:=IL U4 w.1.size (w.1.size+1) (w.1.size+2) (w.1.size+4) (jw k y r) (iX k y r) (jv k y r) (hg.later b4) (by omega) (by omega) (fun X hX=>by
  have bX:Below U4.1.size U4 X:=by rw[hX];exact(aN.alloc aU _).alloc (by simp) _
  exact IC w X w.1.size (w.1.size+1) (w.1.size+2) (w.1.size+4) a1 c1 a2 c2 a3 c3 k y r hl h (au b4 bX) (x0.later bX) (x1.later bX) (x2.later bX) (x4.later bX) (by omega))
 have H:Hid (Below w.1.size w U4/\Bx U4 (w.1.size+3) nJ/\U4.1.size=w.1.size+5):=⟨b4,x3,z4⟩
 clear wz Cc OI kn kq DZ II Q0 Xv WE Ii Ns WY oy oA M8 Sc ZJ tD tE z1 z2 z3 z4 b4 x0 x1 x2 x3 x4 h0 h hg hl;clear U0 U1 U2 U3;obtain⟨N,hN⟩:∃N,iX k y r=N:=⟨_,rfl⟩
 obtain⟨v,hv⟩:∃v,jw k y r=v:=⟨_,rfl⟩
 obtain⟨n,hn⟩:∃n,jv k y r=n:=⟨_,rfl⟩
 rw[hN,hv,hn]at hf;rw[hN,hv,hn];clear hN hv hn;go_enter func7,ntmps7;go_wp2_with fail;rw[<-hU];clear hU;refine hf.mono ?_;clear hf;rintro e Q ⟨e1,g1,e2,g2,e3,g3,PP,rfl,how,tq,vq⟩;obtain⟨V,hV,bV,xV,-⟩:=jU Q (dR e1 g1 e2 g2 e3 g3 N) 32;have hs:=H.out.2.2;have tM:=tq.size;have x4:Bx V (w.1.size+3) nJ:=(H.out.2.1.aj (tq.block _ H.out.2.1.2.2 (by omega)) tq.size).later bV;have v5:V.cell? ⟨w.1.size+4,0,none⟩=some (vI v):=(bV.cell (p:=⟨w.1.size+4,0,none⟩) (show w.1.size+4<Q.1.size by omega)).trans vq;have bw:Below w.1.size w V:=au (H.out.1.trans (tq.below (by omega) (by omega))) bV;have KE:Hid (cO.Ow V U4.1.size e1 g1 e2 g2 e3 g3 N PP/\Below w.1.size w V/\Bx V (w.1.size+3) nJ/\U4.1.size=w.1.size+5/\w.1.size+5<=Q.1.size):=⟨how.later bV,bw,x4,hs,by omega⟩
 have hS:(fun Z:World=>Bx Z Q.1.size (dR e1 g1 e2 g2 e3 g3 N)/\Z.cell? ⟨w.1.size+4,0,none⟩=some (vI v)) V.drew:=⟨xV.later (aN.drew),v5⟩
 have bD:Below V.1.size V V.drew:=aN.drew;have BD:=ay bD;clear bV xV hs x4 v5 bw how tq vq H bD tM;go_wp2_with fail;rw[<-hV];clear hV;refine aY (fun _=>false) (fun Z:World=>Bx Z Q.1.size (dR e1 g1 e2 g2 e3 g3 N)/\Z.cell? ⟨w.1.size+4,0,none⟩=some (vI v)) (by kernel_rfl) ?_;generalize V.drew=D at *;refine iZ 0 (.agg #[vI N.v,vI N.q,.slice e1 N.f.length g1,.slice e2 N.aa.length g2,.slice e3 N.c.length g3,.bool N.w]) rfl ?_ hS ?_
 ·(intro w aH;have q0:=aH.1.1 0 _ rfl;have q1:=aH.1.1 1 _ rfl;have q2:=aH.1.1 2 _ rfl;have q3:=aH.1.1 3 _ rfl;have q4:=aH.1.1 4 _ rfl;have q5:=aH.1.1 5 _ rfl;clear hS aH;go_simp)
 simp only[Act.put];refine iZ 1 (vI v) rfl ?_ hS ?_
 ·(intro w aH;have q6:=aH.2;clear hS aH;go_simp)
 simp only[Act.put];refine cu 2 rfl hS ?_;simp only[Act.put];have xr:=KE.out.2.2.1.later BD.out;have c0:=xr.c6;have f0:=xr.f6;obtain⟨Z,hZ⟩:∃Z,Z=dU D (w.1.size+3) 0 (dR e1 g1 e2 g2 e3 g3 N):=⟨_,rfl⟩
 have zb:=xr.put (dR e1 g1 e2 g2 e3 g3 N) rfl;rw[<-hZ]at zb;have aq:Hid (Z=((((((D.setCell ⟨w.1.size+3,0,none⟩ (vI N.v)).setCell ⟨w.1.size+3,1,none⟩ (vI N.q)).setCell ⟨w.1.size+3,2,none⟩ (.slice e1 N.f.length g1)).setCell ⟨w.1.size+3,3,none⟩ (.slice e2 N.aa.length g2)).setCell ⟨w.1.size+3,4,none⟩ (.slice e3 N.c.length g3)).setCell ⟨w.1.size+3,5,none⟩ (.bool N.w))):=hZ
 have jX:(fun Z:World=>Bx Z Q.1.size (dR e1 g1 e2 g2 e3 g3 N)/\Z.cell? ⟨w.1.size+4,0,none⟩=some (vI v)) Z:=by
  have hf:∀q,q≠w.1.size+3->Z.1[q]?=D.1[q]?:=fun q hq=>by rw[hZ];exact aX hq _ _ _
  have h6:=KE.out.2.2.2.2;exact⟨hS.1.aj (hf _ (by omega)) (by rw[hZ,bu];exact Nat.le_refl _),(World.cell?_of_block (a:=⟨w.1.size+4,0,none⟩) (hf (w.1.size+4) (by omega))).trans hS.2⟩
 have HZ:=ay hZ;have ab:=ay jX;clear hZ jX;refine dJ 3 rfl (fun K hK=>?_);go_simp;rw[<-aq.out];refine hK.out _ _ (fun _=>ab.out) ?_;clear hK K hS;refine dJ 4 rfl (fun K hK=>?_);go_simp;refine hK.out _ _ (fun _=>ab.out) ?_;clear hK K;refine dJ 5 rfl (fun K hK=>?_);go_simp;refine hK.out _ _ (fun _=>ab.out) ?_;clear hK K;refine df (by kernel_rfl) ?_ _;have hZ:=HZ.out;have zs:Z.1.size=D.1.size:=by rw[hZ];exact bu _ _ _ _
 have zf:∀q,q≠w.1.size+3->Z.1[q]?=D.1[q]?:=fun q hq=>by rw[hZ];exact aX hq _ _ _
 have bZ:Below w.1.size w Z:=by rw[hZ];exact bn (by omega) _ _ _ (au KE.out.2.1 BD.out)
 have HX:Hid (tJ w N v n (.returned (.tuple #[.agg #[vI N.v,vI N.q,.slice e1 N.f.length g1,.slice e2 N.aa.length g2,.slice e3 N.c.length g3,.bool N.w],vI v,vI n])) Z):=by
  have hs:=KE.out.2.2.2.1;refine⟨e1,g1,e2,g2,e3,g3,PP,rfl,((KE.out.1.later BD.out).aL (Nat.le_of_eq zs.symm) (fun q hq=>zf q (by have:=(KE.out.1.of hq).1;omega))).low (by omega),bZ⟩
 have z0:=zb.c6;clear hZ zs zf bZ zb xr c0 f0;go_wp2;exact bodyPost_ret (v:=.tuple #[.agg #[vI N.v,vI N.q,.slice e1 N.f.length g1,.slice e2 N.aa.length g2,.slice e3 N.c.length g3,.bool N.w],vI v,vI n]) (by simp[results,results7,go_sem,z0]) rfl HX.out
end
section
open Go.Proofs.Tryz
open Go.ChangeShapes Go.WideShapes Go.ChangeAt Go.RowKit
def S5.cells(s:S5):List Value:=[vI s.a,vI s.e,vI s.h,.bool s.j,vI s.i]
def S5.wf(s:S5):Prop:=(Lit.int .i64 s.a).wf=true/\(Lit.int .i64 s.e).wf=true/\(Lit.int .i64 s.h).wf=true/\(Lit.int .i64 s.i).wf=true
theorem Ak{α:Type}{cs:List α}(h:cs.length=5):∃c0 c1 c2 c3 c4,cs=[c0,c1,c2,c3,c4]:=by
 match cs,h with
 | [c0,c1,c2,c3,c4],_=>exact⟨c0,c1,c2,c3,c4,rfl⟩
theorem oK:prog.cellsOf 199=5:=by kernel_rfl
theorem sw:prog.cellsOf 2=1:=by kernel_rfl
theorem pU:prog.cellsOf 4=1:=by kernel_rfl
theorem A7{H:Type}{enc:TypeId×Value->H}{w:World}{base:Nat}{spare:Nat->Bool}{held:Bool}{fuel:Nat}{cs:List Value}{x:DataW H×List MemPlace}
  (h:DataW.trod enc prog w base spare held fuel 199 cs=some x):∃s:S5,cs=s.cells/\s.wf:=by
 obtain⟨xs,n,_,rfl,hl,hlen,hf⟩:=DataW.trod_struct underlying199 h;rw[oK]at hl;obtain⟨c0,c1,c2,c3,c4,rfl⟩:=Ak hl;obtain⟨y0,y1,y2,y3,y4,rfl⟩:=Ak hlen;have h0:=hf 0 _ rfl;have h1:=hf 1 _ rfl;have h2:=hf 2 _ rfl;have h3:=hf 3 _ rfl;have h4:=hf 4 _ rfl;simp[sw,pU]at h0 h1 h2 h3 h4;obtain⟨z0,e0,_,f0⟩:=DataW.trod_int underlying2 h0;obtain⟨z1,e1,_,f1⟩:=DataW.trod_int underlying2 h1;obtain⟨z2,e2,_,f2⟩:=DataW.trod_int underlying2 h2;obtain⟨z3,e3,_⟩:=DataW.trod_bool underlying4 h3;obtain⟨z4,e4,_,f4⟩:=DataW.trod_int underlying2 h4;simp at e0 e1 e2 e3 e4;subst e0 e1 e2 e3 e4;exact⟨⟨z0,z1,z2,z3,z4⟩,rfl,f0,f1,f2,f4⟩
end
section
open Go.Proofs.Tryz
open Go.ChangeShapes Go.WideShapes Go.ChangeAt Go.RowKit Go.Deep
theorem Lr{α:Type}{cs:List α}(h:cs.length=2):∃c0 c1,cs=[c0,c1]:=by
 match cs,h with
 | [c0,c1],_=>exact⟨c0,c1,rfl⟩
theorem zJ:prog.cellsOf 285=2:=by kernel_rfl
theorem L6:prog.cellsOf 2=1:=by kernel_rfl
theorem MP{H:Type}{enc:TypeId×Value->H}{w:World}{base:Nat}{spare:Nat->Bool}{held:Bool}{fuel:Nat}{cs:List Value}{x:DataW H×List MemPlace}
  (h:DataW.trod enc prog w base spare held fuel 285 cs=some x):∃s:C2,cs=s.cells:=by
 obtain⟨xs,n,_,rfl,hl,hlen,hf⟩:=DataW.trod_struct underlying285 h;rw[zJ]at hl;obtain⟨c0,c1,rfl⟩:=Lr hl;obtain⟨y0,y1,rfl⟩:=Lr hlen;have h0:=hf 0 _ rfl;have h1:=hf 1 _ rfl;simp[L6]at h0 h1;obtain⟨z0,e0,_,_⟩:=DataW.trod_int underlying2 h0;obtain⟨z1,e1,_,_⟩:=DataW.trod_int underlying2 h1;simp at e0 e1;subst e0 e1;exact⟨⟨z0,z1⟩,rfl⟩
theorem nX{α:Type}{p:Nat->α->Prop}(n:Nat)(h:∀i,i<n->∃x,p i x):∃xs:List α,xs.length=n/\∀i x,xs[i]?=some x->p i x:=by
 induction n with
 | zero=>exact⟨[],rfl,fun i x e=>by simp at e⟩
 | succ n ih=>
  obtain⟨xs,hl,hx⟩:=ih fun i hi=>h i (by omega)
  obtain⟨y,hy⟩:=h n (by omega);refine⟨xs++[y],by simp[hl],fun i x e=>?_⟩;by_cases hi:i<xs.length
  ·rw[List.getElem?_append_left hi]at e;exact hx i x e
  ·rw[List.getElem?_append_right (by omega)]at e
   have:i=xs.length:=by
    by_cases h2:i-xs.length=0
    ·omega
    ·rw[List.getElem?_eq_none (by simp;omega)]at e;cases e
   subst this;simp at e;subst e;rw[hl];exact hy
end
namespace om
open Go.Proofs.Tryz
open Go.ChangeShapes Go.WideShapes Go.ChangeAt Go.RowKit Go.Deep
variable {cs:List Value}{fuel:Nat}{spare:Nat->Bool}{w:World}
theorem uR:prog.cellsOf 2=1:=by kernel_rfl
theorem Q6:prog.cellsOf 4=1:=by kernel_rfl
theorem zL:prog.cellsOf 97=1:=by kernel_rfl
theorem Oa:prog.cellsOf 186=1:=by kernel_rfl
theorem Oo:prog.cellsOf 92=1:=by kernel_rfl
theorem Oj:prog.cellsOf 91=1:=by kernel_rfl
theorem Oe:prog.cellsOf 54=1:=by kernel_rfl
theorem K6:prog.cellsOf 191=4:=by kernel_rfl
theorem KJ:prog.cellsOf 188=2:=by kernel_rfl
theorem Q7:prog.cellsOf 94=4:=by kernel_rfl
theorem Ls{α:Type}{cs:List α}(h:cs.length=4):∃c0 c1 c2 c3,cs=[c0,c1,c2,c3]:=by
 match cs,h with
 | [c0,c1,c2,c3],_=>exact⟨c0,c1,c2,c3,rfl⟩
theorem xu{H:Type}{enc:TypeId×Value->H}{held:Bool}{x:DataW H×List MemPlace}
  (h:DataW.trod enc prog w 0 spare held fuel 97 cs=some x):∃a n cap xs,cs=[.slice a n cap]/\n<=maxLen/\n<=cap/\Sl w w.1.size a n xs:=by
 rcases open_slice underlying97 h with ⟨rfl,_⟩|⟨a,len,cap,m,n,D,Pl,rfl,_,hl,hm,zY,_,hx⟩
 ·exact⟨none,0,0,[],rfl,Nat.zero_le _,Nat.le_refl _,⟨rfl,.inl rfl⟩⟩
 ·have Ik:len<=m:=by rw[zY];split<;>omega
  have key:∀i,i<len->∃s:S5,∀k,k<5->w.cell? ((a.add (i*5)).add k)=s.cells[k]?:=fun i hi=>by
   obtain⟨cs',h1,h2⟩:=hx i (by omega);rw[oK]at h1;obtain⟨s,rfl,_⟩:=A7 h2;exact⟨s,(World.cells?_some h1).2.2⟩
  obtain⟨xs,hlen,tH⟩:=nX len key;refine⟨some a,len,cap,xs,rfl,by omega,by omega,⟨hlen,?_⟩⟩
  ·by_cases h0:len=0
   ·exact .inl h0
   ·right;obtain⟨b,off,spot⟩:=a;obtain⟨s,hs⟩:=key 0 (by omega);have c0:w.cell? ⟨b,off,spot⟩=some (vI s.a):=by simpa[Addr.add,S5.cells]using hs 0 (by omega)
    have jQ:spot=none:=by simpa using World.cell?_spot c0
    subst jQ;refine⟨b,off,rfl,block_lt_of_cell c0,fun i s e=>?_⟩;have hk:=tH i s e;simp only[add_plain]at hk;exact⟨by simpa[S5.cells]using hk 0 (by omega),by simpa[S5.cells]using hk 1 (by omega),by simpa[S5.cells]using hk 2 (by omega),by simpa[S5.cells]using hk 3 (by omega),by simpa[S5.cells]using hk 4 (by omega)⟩
theorem JB{H:Type}{enc:TypeId×Value->H}{held:Bool}{x:DataW H×List MemPlace}
  (h:DataW.trod enc prog w 0 spare held fuel 186 cs=some x):∃a n cap xs,cs=[.slice a n cap]/\n<=maxLen/\n<=cap/\nN w w.1.size a n xs:=by
 rcases open_slice underlying186 h with ⟨rfl,_⟩|⟨a,len,cap,m,n,D,Pl,rfl,_,hl,hm,zY,_,hx⟩
 ·exact⟨none,0,0,[],rfl,Nat.zero_le _,Nat.le_refl _,⟨rfl,.inl rfl⟩⟩
 ·have Ik:len<=m:=by rw[zY];split<;>omega
  have key:∀i,i<len->∃s:C2,∀k,k<2->w.cell? ((a.add (i*2)).add k)=s.cells[k]?:=fun i hi=>by
   obtain⟨cs',h1,h2⟩:=hx i (by omega);rw[zJ]at h1;obtain⟨s,rfl⟩:=MP h2;exact⟨s,(World.cells?_some h1).2.2⟩
  obtain⟨xs,hlen,tH⟩:=nX len key;refine⟨some a,len,cap,xs,rfl,by omega,by omega,⟨hlen,?_⟩⟩
  ·by_cases h0:len=0
   ·exact .inl h0
   ·right;obtain⟨b,off,spot⟩:=a;obtain⟨s,hs⟩:=key 0 (by omega);have c0:w.cell? ⟨b,off,spot⟩=some (vI s.head):=by simpa[Addr.add,C2.cells]using hs 0 (by omega)
    have jQ:spot=none:=by simpa using World.cell?_spot c0
    subst jQ;refine⟨b,off,rfl,block_lt_of_cell c0,fun i s e=>?_⟩;have hk:=tH i s e;simp only[add_plain]at hk;exact⟨by simpa[C2.cells]using hk 0 (by omega),by simpa[C2.cells]using hk 1 (by omega)⟩
theorem MU{H:Type}{enc:TypeId×Value->H}{held:Bool}{x:DataW H×List MemPlace}
  (h:DataW.trod enc prog w 0 spare held fuel 54 cs=some x):∃a n cap xs,cs=[.slice a n cap]/\n<=maxLen/\n<=cap/\ll w w.1.size a n xs:=by
 rcases open_slice underlying54 h with ⟨rfl,_⟩|⟨a,len,cap,m,n,D,Pl,rfl,_,hl,hm,zY,_,hx⟩
 ·exact⟨none,0,0,[],rfl,Nat.zero_le _,Nat.le_refl _,⟨rfl,.inl rfl⟩⟩
 ·have Ik:len<=m:=by rw[zY];split<;>omega
  have key:∀i,i<len->∃s:Int,w.cell? (a.add (i*1))=some (vI s):=fun i hi=>by
   obtain⟨cs',h1,h2⟩:=hx i (by omega);rw[uR]at h1;obtain⟨z,e,_⟩:=DataW.trod_int underlying2 h2;subst e;have:=(World.cells?_some h1).2.2 0 (by omega);exact⟨z,by simpa[Addr.add]using this⟩
  obtain⟨xs,hlen,tH⟩:=nX len key;refine⟨some a,len,cap,xs,rfl,by omega,by omega,⟨hlen,?_⟩⟩
  ·by_cases h0:len=0
   ·exact .inl h0
   ·right;obtain⟨b,off,spot⟩:=a;obtain⟨s,hs⟩:=key 0 (by omega);have c0:w.cell? ⟨b,off,spot⟩=some (vI s):=by simpa[Addr.add]using hs
    have jQ:spot=none:=by simpa using World.cell?_spot c0
    subst jQ;refine⟨b,off,rfl,block_lt_of_cell c0,fun i s e=>?_⟩;have hk:=tH i s e;simp only[add_plain]at hk;simpa using hk
theorem PX{H:Type}{enc:TypeId×Value->H}{held:Bool}{x:DataW H×List MemPlace}
  (h:DataW.trod enc prog w 0 spare held fuel 191 cs=some x):∃(r:R4) (a:OA) (cap:Nat),cs=[vI r.kind,vI r.tx,vI r.a,.slice a r.ag.length cap]/\Sl w w.1.size a r.ag.length r.ag/\r.ag.length<=cap/\r.ag.length<=maxLen:=by
 obtain⟨xs,n,_,rfl,hl,hlen,hf⟩:=DataW.trod_struct underlying191 h;rw[K6]at hl;obtain⟨c0,c1,c2,c3,rfl⟩:=Ls hl;obtain⟨y0,y1,y2,y3,rfl⟩:=Ls hlen;have h0:=hf 0 _ rfl;have h1:=hf 1 _ rfl;have h2:=hf 2 _ rfl;have h3:=hf 3 _ rfl;simp[uR,zL]at h0 h1 h2 h3;obtain⟨z0,e0,_,_⟩:=DataW.trod_int underlying2 h0;obtain⟨z1,e1,_,_⟩:=DataW.trod_int underlying2 h1;obtain⟨z2,e2,_,_⟩:=DataW.trod_int underlying2 h2;obtain⟨a,m,cap,ss,e3,hm,hc,hs⟩:=xu h3;simp at e0 e1 e2 e3;subst e0 e1 e2 e3;obtain⟨rfl,z8⟩:=hs;exact⟨⟨z0,z1,z2,ss⟩,a,cap,rfl,⟨rfl,z8⟩,hc,hm⟩
theorem PW{H:Type}{enc:TypeId×Value->H}{held:Bool}{x:DataW H×List MemPlace}
  (h:DataW.trod enc prog w 0 spare held fuel 188 cs=some x):∃(k:K2) (a:OA) (cap:Nat),cs=[vI k.a,.slice a k.cells.length cap]/\nN w w.1.size a k.cells.length k.cells/\k.cells.length<=cap/\k.cells.length<=maxLen:=by
 obtain⟨xs,n,_,rfl,hl,hlen,hf⟩:=DataW.trod_struct underlying188 h;rw[KJ]at hl;obtain⟨c0,c1,rfl⟩:=Lr hl;obtain⟨y0,y1,rfl⟩:=Lr hlen;have h0:=hf 0 _ rfl;have h1:=hf 1 _ rfl;simp[uR,Oa]at h0 h1;obtain⟨z0,e0,_,_⟩:=DataW.trod_int underlying2 h0;obtain⟨a,m,cap,ss,e3,hm,hc,hs⟩:=JB h1;simp at e0 e3;subst e0 e3;obtain⟨rfl,z8⟩:=hs;exact⟨⟨z0,ss⟩,a,cap,rfl,⟨rfl,z8⟩,hc,hm⟩
theorem MW{H:Type}{enc:TypeId×Value->H}{held:Bool}{x:DataW H×List MemPlace}
  (h:DataW.trod enc prog w 0 spare held fuel 92 cs=some x):∃a n cap xs,cs=[.slice a n cap]/\n<=maxLen/\n<=cap/\Iz w w.1.size a n xs/\∀s∈xs,s.ag.length<=maxLen:=by
 rcases open_slice underlying92 h with ⟨rfl,_⟩|⟨a,len,cap,m,n,D,Pl,rfl,_,hl,hm,zY,_,hx⟩
 ·exact⟨none,0,0,[],rfl,Nat.zero_le _,Nat.le_refl _,⟨rfl,.inl rfl⟩,fun s hs=>by cases hs⟩
 ·have Ik:len<=m:=by rw[zY];split<;>omega
  have key:∀i,i<len->∃s:R4,(∃a' aW,(∀k,k<4->w.cell? ((a.add (i*4)).add k)=([vI s.kind,vI s.tx,vI s.a,.slice a' s.ag.length aW]:List Value)[k]?)/\Sl w w.1.size a' s.ag.length s.ag/\s.ag.length<=aW)/\s.ag.length<=maxLen:=fun i hi=>by
   obtain⟨cs',h1,h2⟩:=hx i (by omega);rw[K6]at h1;obtain⟨s,a',aW,rfl,t1,t2,t3⟩:=PX h2;exact⟨s,⟨a',aW,(World.cells?_some h1).2.2,t1,t2⟩,t3⟩
  obtain⟨xs,hlen,tH⟩:=nX len key;refine⟨some a,len,cap,xs,rfl,by omega,by omega,⟨hlen,?_⟩,?_⟩
  ·by_cases h0:len=0
   ·exact .inl h0
   ·right;obtain⟨b,off,spot⟩:=a;obtain⟨s,hs⟩:=key 0 (by omega);obtain⟨⟨a',aW,hs,_⟩,_⟩:=hs;have c0:=hs 0 (by omega);simp[Addr.add]at c0;have jQ:spot=none:=by simpa using World.cell?_spot c0
    subst jQ;refine⟨b,off,rfl,block_lt_of_cell c0,fun i s e=>?_⟩;have hk:=tH i s e;simp only[add_plain]at hk;obtain⟨⟨a',aW,hk,t1,t2⟩,_⟩:=hk;exact⟨by simpa using hk 0 (by omega),by simpa using hk 1 (by omega),by simpa using hk 2 (by omega),a',aW,by simpa using hk 3 (by omega),t1,t2⟩
  ·intro s hs;obtain⟨i,hi,rfl⟩:=List.getElem_of_mem hs;exact(tH i _ (List.getElem?_eq_getElem hi)).2
theorem MQ{H:Type}{enc:TypeId×Value->H}{held:Bool}{x:DataW H×List MemPlace}
  (h:DataW.trod enc prog w 0 spare held fuel 91 cs=some x):∃a n cap xs,cs=[.slice a n cap]/\n<=maxLen/\n<=cap/\yt w w.1.size a n xs/\∀s∈xs,s.cells.length<=maxLen:=by
 rcases open_slice underlying91 h with ⟨rfl,_⟩|⟨a,len,cap,m,n,D,Pl,rfl,_,hl,hm,zY,_,hx⟩
 ·exact⟨none,0,0,[],rfl,Nat.zero_le _,Nat.le_refl _,⟨rfl,.inl rfl⟩,fun s hs=>by cases hs⟩
 ·have Ik:len<=m:=by rw[zY];split<;>omega
  have key:∀i,i<len->∃s:K2,(∃a' aW,(∀k,k<2->w.cell? ((a.add (i*2)).add k)=([vI s.a,.slice a' s.cells.length aW]:List Value)[k]?)/\nN w w.1.size a' s.cells.length s.cells/\s.cells.length<=aW)/\s.cells.length<=maxLen:=fun i hi=>by
   obtain⟨cs',h1,h2⟩:=hx i (by omega);rw[KJ]at h1;obtain⟨s,a',aW,rfl,t1,t2,t3⟩:=PW h2;exact⟨s,⟨a',aW,(World.cells?_some h1).2.2,t1,t2⟩,t3⟩
  obtain⟨xs,hlen,tH⟩:=nX len key;refine⟨some a,len,cap,xs,rfl,by omega,by omega,⟨hlen,?_⟩,?_⟩
  ·by_cases h0:len=0
   ·exact .inl h0
   ·right;obtain⟨b,off,spot⟩:=a;obtain⟨s,hs⟩:=key 0 (by omega);obtain⟨⟨a',aW,hs,_⟩,_⟩:=hs;have c0:=hs 0 (by omega);simp[Addr.add]at c0;have jQ:spot=none:=by simpa using World.cell?_spot c0
    subst jQ;refine⟨b,off,rfl,block_lt_of_cell c0,fun i s e=>?_⟩;have hk:=tH i s e;simp only[add_plain]at hk;obtain⟨⟨a',aW,hk,t1,t2⟩,_⟩:=hk;exact⟨by simpa using hk 0 (by omega),a',aW,by simpa using hk 1 (by omega),t1,t2⟩
  ·intro s hs;obtain⟨i,hi,rfl⟩:=List.getElem_of_mem hs;exact(tH i _ (List.getElem?_eq_getElem hi)).2
theorem EF{H:Type}{enc:TypeId×Value->H}{held:Bool}{x:DataW H×List MemPlace}
  (h:DataW.trod enc prog w 0 spare held fuel 94 cs=some x):∃(v:MV) (m:M4),cs=[.bool m.x,.slice v.ac m.af.length v.cc,.slice v.al m.g.length v.cl,.slice v.ad m.ai.length v.cd]/\qY w v m/\m.af.length<=maxLen/\m.g.length<=maxLen/\m.ai.length<=maxLen/\(∀r∈m.af,r.cells.length<=maxLen)/\(∀r∈m.g,r.ag.length<=maxLen)/\m.af.length<=v.cc/\m.g.length<=v.cl/\m.ai.length<=v.cd:=by
 obtain⟨xs,n,_,rfl,hl,hlen,hf⟩:=DataW.trod_struct underlying94 h;rw[Q7]at hl;obtain⟨c0,c1,c2,c3,rfl⟩:=Ls hl;obtain⟨y0,y1,y2,y3,rfl⟩:=Ls hlen;have h0:=hf 0 _ rfl;have h1:=hf 1 _ rfl;have h2:=hf 2 _ rfl;have h3:=hf 3 _ rfl;simp[Q6,Oj,Oo,Oe]at h0 h1 h2 h3;obtain⟨z0,e0,_⟩:=DataW.trod_bool underlying4 h0;obtain⟨a1,n1,k1,ks,e1,l1,p1,s1,q1⟩:=MQ h1;obtain⟨a2,n2,k2,rs,e2,l2,p2,s2,q2⟩:=MW h2;obtain⟨a3,n3,k3,zs,e3,l3,p3,s3⟩:=MU h3;simp at e0 e1 e2 e3;subst e0 e1 e2 e3;obtain⟨rfl,s1'⟩:=s1;obtain⟨rfl,s2'⟩:=s2;obtain⟨rfl,s3'⟩:=s3;exact⟨⟨a1,k1,a2,k2,a3,k3⟩,⟨z0,ks,rs,zs⟩,rfl,⟨⟨rfl,s1'⟩,⟨rfl,s2'⟩,⟨rfl,s3'⟩⟩,l1,l2,l3,q1,q2,p1,p2,p3⟩
end om
namespace tx.ot
open Go.Proofs.Tryz
open Go.ChangeShapes Go.WideShapes Go.ChangeAt Go.RowKit Go.Deep
variable {cs:List Value}{fuel:Nat}{spare:Nat->Bool}{w:World}
theorem uR:prog.cellsOf 2=1:=by kernel_rfl
theorem zL:prog.cellsOf 97=1:=by kernel_rfl
theorem Ol:prog.cellsOf 96=1:=by kernel_rfl
theorem Q8:prog.cellsOf 99=7:=by kernel_rfl
theorem Tv{α:Type}{cs:List α}(h:cs.length=7):∃c0 c1 c2 c3 c4 c5 c6,cs=[c0,c1,c2,c3,c4,c5,c6]:=by
 match cs,h with
 | [c0,c1,c2,c3,c4,c5,c6],_=>exact⟨c0,c1,c2,c3,c4,c5,c6,rfl⟩
theorem nX{α:Type}{p:Nat->α->Prop}(n:Nat)(h:∀i,i<n->∃x,p i x):∃xs:List α,xs.length=n/\∀i x,xs[i]?=some x->p i x:=by
 induction n with
 | zero=>exact⟨[],rfl,fun i x e=>by simp at e⟩
 | succ n ih=>
  obtain⟨xs,hl,hx⟩:=ih fun i hi=>h i (by omega)
  obtain⟨y,hy⟩:=h n (by omega);refine⟨xs++[y],by simp[hl],fun i x e=>?_⟩;by_cases hi:i<xs.length
  ·rw[List.getElem?_append_left hi]at e;exact hx i x e
  ·rw[List.getElem?_append_right (by omega)]at e
   have:i=xs.length:=by
    by_cases h2:i-xs.length=0
    ·omega
    ·rw[List.getElem?_eq_none (by simp;omega)]at e;cases e
   subst this;simp at e;subst e;rw[hl];exact hy
theorem Ak{α:Type}{cs:List α}(h:cs.length=5):∃c0 c1 c2 c3 c4,cs=[c0,c1,c2,c3,c4]:=by
 match cs,h with
 | [c0,c1,c2,c3,c4],_=>exact⟨c0,c1,c2,c3,c4,rfl⟩
theorem oK:prog.cellsOf 199=5:=by kernel_rfl
theorem sw:prog.cellsOf 2=1:=by kernel_rfl
theorem pU:prog.cellsOf 4=1:=by kernel_rfl
def setCells(s:S5):List Value:=[vI s.a,vI s.e,vI s.h,.bool s.j,vI s.i]
def Y7(s:S5):Prop:=(Lit.int .i64 s.a).wf=true/\(Lit.int .i64 s.e).wf=true/\(Lit.int .i64 s.h).wf=true/\(Lit.int .i64 s.i).wf=true
theorem A7{H:Type}{enc:TypeId×Value->H}{base:Nat}{held:Bool}{x:DataW H×List MemPlace}
  (h:DataW.trod enc prog w base spare held fuel 199 cs=some x):∃s:S5,cs=(setCells s)/\Y7 s:=by
 obtain⟨xs,n,_,rfl,hl,hlen,hf⟩:=DataW.trod_struct underlying199 h;rw[oK]at hl;obtain⟨c0,c1,c2,c3,c4,rfl⟩:=Ak hl;obtain⟨y0,y1,y2,y3,y4,rfl⟩:=Ak hlen;have h0:=hf 0 _ rfl;have h1:=hf 1 _ rfl;have h2:=hf 2 _ rfl;have h3:=hf 3 _ rfl;have h4:=hf 4 _ rfl;simp[sw,pU]at h0 h1 h2 h3 h4;obtain⟨z0,e0,_,f0⟩:=DataW.trod_int underlying2 h0;obtain⟨z1,e1,_,f1⟩:=DataW.trod_int underlying2 h1;obtain⟨z2,e2,_,f2⟩:=DataW.trod_int underlying2 h2;obtain⟨z3,e3,_⟩:=DataW.trod_bool underlying4 h3;obtain⟨z4,e4,_,f4⟩:=DataW.trod_int underlying2 h4;simp at e0 e1 e2 e3 e4;subst e0 e1 e2 e3 e4;exact⟨⟨z0,z1,z2,z3,z4⟩,rfl,f0,f1,f2,f4⟩
theorem xu{H:Type}{enc:TypeId×Value->H}{held:Bool}{x:DataW H×List MemPlace}
  (h:DataW.trod enc prog w 0 spare held fuel 97 cs=some x):∃a n cap xs,cs=[.slice a n cap]/\n<=maxLen/\n<=cap/\Sl w w.1.size a n xs:=by
 rcases open_slice underlying97 h with ⟨rfl,_⟩|⟨a,len,cap,m,n,D,Pl,rfl,_,hl,hm,zY,_,hx⟩
 ·exact⟨none,0,0,[],rfl,Nat.zero_le _,Nat.le_refl _,⟨rfl,.inl rfl⟩⟩
 ·have Ik:len<=m:=by rw[zY];split<;>omega
  have key:∀i,i<len->∃s:S5,∀k,k<5->w.cell? ((a.add (i*5)).add k)=(setCells s)[k]?:=fun i hi=>by
   obtain⟨cs',h1,h2⟩:=hx i (by omega);rw[oK]at h1;obtain⟨s,rfl,_⟩:=A7 h2;exact⟨s,(World.cells?_some h1).2.2⟩
  obtain⟨xs,hlen,tH⟩:=nX len key;refine⟨some a,len,cap,xs,rfl,by omega,by omega,⟨hlen,?_⟩⟩
  ·by_cases h0:len=0
   ·exact .inl h0
   ·right;obtain⟨b,off,spot⟩:=a;obtain⟨s,hs⟩:=key 0 (by omega);have c0:w.cell? ⟨b,off,spot⟩=some (vI s.a):=by simpa[Addr.add,setCells]using hs 0 (by omega)
    have jQ:spot=none:=by simpa using World.cell?_spot c0
    subst jQ;refine⟨b,off,rfl,block_lt_of_cell c0,fun i s e=>?_⟩;have hk:=tH i s e;simp only[add_plain]at hk;exact⟨by simpa[setCells]using hk 0 (by omega),by simpa[setCells]using hk 1 (by omega),by simpa[setCells]using hk 2 (by omega),by simpa[setCells]using hk 3 (by omega),by simpa[setCells]using hk 4 (by omega)⟩
theorem zK:prog.cellsOf 197=5:=by kernel_rfl
def ku(s:N5):List Value:=[vI s.a,vI s.e,vI s.i,vI s.h,.bool s.j]
def VB(s:N5):Prop:=(Lit.int .i64 s.a).wf=true/\(Lit.int .i64 s.e).wf=true/\(Lit.int .i64 s.i).wf=true/\(Lit.int .i64 s.h).wf=true
theorem MS{H:Type}{enc:TypeId×Value->H}{base:Nat}{held:Bool}{x:DataW H×List MemPlace}
  (h:DataW.trod enc prog w base spare held fuel 197 cs=some x):∃s:N5,cs=(ku s)/\VB s:=by
 obtain⟨xs,n,_,rfl,hl,hlen,hf⟩:=DataW.trod_struct underlying197 h;rw[zK]at hl;obtain⟨c0,c1,c2,c3,c4,rfl⟩:=Ak hl;obtain⟨y0,y1,y2,y3,y4,rfl⟩:=Ak hlen;have h0:=hf 0 _ rfl;have h1:=hf 1 _ rfl;have h2:=hf 2 _ rfl;have h3:=hf 3 _ rfl;have h4:=hf 4 _ rfl;simp[sw,pU]at h0 h1 h2 h3 h4;obtain⟨z0,e0,_,f0⟩:=DataW.trod_int underlying2 h0;obtain⟨z1,e1,_,f1⟩:=DataW.trod_int underlying2 h1;obtain⟨z2,e2,_,f2⟩:=DataW.trod_int underlying2 h2;obtain⟨z3,e3,_,f4⟩:=DataW.trod_int underlying2 h3;obtain⟨z4,e4,_⟩:=DataW.trod_bool underlying4 h4;simp at e0 e1 e2 e3 e4;subst e0 e1 e2 e3 e4;exact⟨⟨z0,z1,z2,z3,z4⟩,rfl,f0,f1,f2,f4⟩
theorem JD{H:Type}{enc:TypeId×Value->H}{held:Bool}{x:DataW H×List MemPlace}
  (h:DataW.trod enc prog w 0 spare held fuel 96 cs=some x):∃a n cap xs,cs=[.slice a n cap]/\n<=maxLen/\n<=cap/\jP w w.1.size a n xs:=by
 rcases open_slice underlying96 h with ⟨rfl,_⟩|⟨a,len,cap,m,n,D,Pl,rfl,_,hl,hm,zY,_,hx⟩
 ·exact⟨none,0,0,[],rfl,Nat.zero_le _,Nat.le_refl _,⟨rfl,.inl rfl⟩⟩
 ·have Ik:len<=m:=by rw[zY];split<;>omega
  have key:∀i,i<len->∃s:N5,∀k,k<5->w.cell? ((a.add (i*5)).add k)=(ku s)[k]?:=fun i hi=>by
   obtain⟨cs',h1,h2⟩:=hx i (by omega);rw[zK]at h1;obtain⟨s,rfl,_⟩:=MS h2;exact⟨s,(World.cells?_some h1).2.2⟩
  obtain⟨xs,hlen,tH⟩:=nX len key;refine⟨some a,len,cap,xs,rfl,by omega,by omega,⟨hlen,?_⟩⟩
  ·by_cases h0:len=0
   ·exact .inl h0
   ·right;obtain⟨b,off,spot⟩:=a;obtain⟨s,hs⟩:=key 0 (by omega);have c0:w.cell? ⟨b,off,spot⟩=some (vI s.a):=by simpa[Addr.add,ku]using hs 0 (by omega)
    have jQ:spot=none:=by simpa using World.cell?_spot c0
    subst jQ;refine⟨b,off,rfl,block_lt_of_cell c0,fun i s e=>?_⟩;have hk:=tH i s e;simp only[add_plain]at hk;exact⟨by simpa[ku]using hk 0 (by omega),by simpa[ku]using hk 1 (by omega),by simpa[ku]using hk 2 (by omega),by simpa[ku]using hk 3 (by omega),by simpa[ku]using hk 4 (by omega)⟩
theorem RY{H:Type}{enc:TypeId×Value->H}{held:Bool}{x:DataW H×List MemPlace}
  (h:DataW.trod enc prog w 0 spare held fuel 99 cs=some x):∃(v:TV) (t:T7),cs=(tx.nO v.ar v.cr v.ah v.ch t)/\kR w v t/\TL t:=by
 obtain⟨xs,n,_,rfl,hl,hlen,hf⟩:=DataW.trod_struct underlying99 h;rw[Q8]at hl;obtain⟨c0,c1,c2,c3,c4,c5,c6,rfl⟩:=Tv hl;obtain⟨y0,y1,y2,y3,y4,y5,y6,rfl⟩:=Tv hlen;have h0:=hf 0 _ rfl;have h1:=hf 1 _ rfl;have h2:=hf 2 _ rfl;have h3:=hf 3 _ rfl;have h4:=hf 4 _ rfl;have h5:=hf 5 _ rfl;have h6:=hf 6 _ rfl;simp[uR,Ol,zL]at h0 h1 h2 h3 h4 h5 h6;obtain⟨z0,e0,_,_⟩:=DataW.trod_int underlying2 h0;obtain⟨z1,e1,_,_⟩:=DataW.trod_int underlying2 h1;obtain⟨z2,e2,_,_⟩:=DataW.trod_int underlying2 h2;obtain⟨z3,e3,_,_⟩:=DataW.trod_int underlying2 h3;obtain⟨a4,n4,k4,ns,e4,l4,p4,s4⟩:=JD h4;obtain⟨a5,n5,k5,ss,e5,l5,p5,s5⟩:=xu h5;obtain⟨z6,e6,_,_⟩:=DataW.trod_int underlying2 h6;simp at e0 e1 e2 e3 e4 e5 e6;subst e0 e1 e2 e3 e4 e5 e6;obtain⟨rfl,tw⟩:=s4;obtain⟨rfl,tB⟩:=s5;exact⟨⟨a4,k4,a5,k5⟩,⟨z0,z1,z2,z3,ns,ss,z6⟩,rfl,⟨⟨rfl,tw⟩,⟨rfl,tB⟩⟩,⟨l4,l5⟩⟩
end tx.ot
namespace oc
open Go.Proofs.Tryz
open Go.ChangeShapes Go.WideShapes Go.ChangeAt Go.RowKit Go.Deep
variable {cs:List Value}{fuel:Nat}{spare:Nat->Bool}{w:World}
theorem cells_one:prog.cellsOf 2=1:=by kernel_rfl
theorem L8:prog.cellsOf 54=1:=by kernel_rfl
theorem xZ:prog.cellsOf 89=1:=by kernel_rfl
theorem Tt{α:Type}{cs:List α}(h:cs.length=1):∃c0,cs=[c0]:=by
 match cs,h with
 | [c0],_=>exact⟨c0,rfl⟩
theorem zl{α:Type}{p:Nat->α->Prop}(n:Nat)(h:∀i,i<n->∃x,p i x):∃xs:List α,xs.length=n/\∀i x,xs[i]?=some x->p i x:=by
 induction n with
 | zero=>exact⟨[],rfl,fun i x e=>by simp at e⟩
 | succ n ih=>
  obtain⟨xs,hl,hx⟩:=ih fun i hi=>h i (by omega)
  obtain⟨y,hy⟩:=h n (by omega);refine⟨xs++[y],by simp[hl],fun i x e=>?_⟩;by_cases hi:i<xs.length
  ·rw[List.getElem?_append_left hi]at e;exact hx i x e
  ·rw[List.getElem?_append_right (by omega)]at e
   have:i=xs.length:=by
    by_cases h2:i-xs.length=0
    ·omega
    ·rw[List.getElem?_eq_none (by simp;omega)]at e;cases e
   subst this;simp at e;subst e;rw[hl];exact hy
theorem GQ{H:Type}{enc:TypeId×Value->H}{held:Bool}{x:DataW H×List MemPlace}
  (h:DataW.trod enc prog w 0 spare held fuel 54 cs=some x):∃a n cap zs,cs=[.slice a n cap]/\n<=maxLen/\n<=cap/\ll w w.1.size a n zs:=by
 rcases open_slice underlying54 h with ⟨rfl,_⟩|⟨a,len,cap,m,n,D,Pl,rfl,_,hl,hm,zY,_,hx⟩
 ·exact⟨none,0,0,[],rfl,Nat.zero_le _,Nat.le_refl _,⟨rfl,.inl rfl⟩⟩
 ·have Ik:len<=m:=by rw[zY];split<;>omega
  have key:∀i,i<len->∃z:Int,w.cell? (a.add (i*1))=some (vI z):=fun i hi=>by
   obtain⟨cs',h1,h2⟩:=hx i (by omega);rw[cells_one]at h1;obtain⟨z,e,_⟩:=DataW.trod_int underlying2 h2;subst e;have:=(World.cells?_some h1).2.2 0 (by omega);exact⟨z,by simpa[Addr.add]using this⟩
  obtain⟨zs,hlen,l8⟩:=zl len key;refine⟨some a,len,cap,zs,rfl,by omega,by omega,⟨hlen,?_⟩⟩;by_cases h0:len=0
  ·exact .inl h0
  ·right;obtain⟨b,off,spot⟩:=a;obtain⟨z,hz⟩:=key 0 (by omega);have c0:w.cell? ⟨b,off,spot⟩=some (vI z):=by simpa[Addr.add]using hz
   have jQ:spot=none:=by simpa using World.cell?_spot c0
   subst jQ;refine⟨b,off,rfl,block_lt_of_cell c0,fun i z e=>?_⟩;have hk:=l8 i z e;simpa[add_plain]using hk
def Kq(w:World)(v:Value)(zs:List Int):Prop:=∃a cap,v=.slice a zs.length cap/\ll w w.1.size a zs.length zs/\zs.length<=cap/\zs.length<=maxLen
theorem JE{H:Type}{enc:TypeId×Value->H}{held:Bool}{x:DataW H×List MemPlace}
  (h:DataW.trod enc prog w 0 spare held fuel 89 cs=some x):∃v zs,cs=[v]/\Kq w v zs:=by
 obtain⟨xs,n,_,rfl,hl,hlen,hf⟩:=DataW.trod_struct underlying89 h;rw[xZ]at hl;obtain⟨c0,rfl⟩:=Tt hl;obtain⟨y0,rfl⟩:=Tt hlen;have h0:=hf 0 _ rfl;simp[L8]at h0;obtain⟨a,m,cap,zs,e,hm,hc,hs⟩:=GQ h0;simp at e;subst e;obtain rfl:zs.length=m:=hs.1;exact⟨_,zs,rfl,a,cap,rfl,hs,hc,hm⟩
theorem CG{H:Type}{enc:TypeId×Value->H}{held:Bool}{x:DataW H×List MemPlace}
  (h:DataW.trod enc prog w 0 spare held fuel 22 cs=some x):∃a n cap aP,cs=[.slice a n cap]/\n<=maxLen/\wy w w.1.size a n aP/\∀zs∈aP,zs.length<=maxLen:=by
 rcases open_slice underlying22 h with ⟨rfl,_⟩|⟨a,len,cap,m,n,D,Pl,rfl,_,hl,hm,zY,_,hx⟩
 ·exact⟨none,0,0,[],rfl,Nat.zero_le _,⟨rfl,.inl rfl⟩,fun zs h=>by simp at h⟩
 ·have Ik:len<=m:=by rw[zY];split<;>omega
  have key:∀i,i<len->∃zs:List Int,∃v,w.cell? (a.add (i*1))=some v/\Kq w v zs:=fun i hi=>by
   obtain⟨cs',h1,h2⟩:=hx i (by omega);rw[xZ]at h1;obtain⟨v,zs,rfl,hp⟩:=JE h2;have:=(World.cells?_some h1).2.2 0 (by omega);exact⟨zs,v,by simpa[Addr.add]using this,hp⟩
  obtain⟨aP,hlen,l8⟩:=zl len key;refine⟨some a,len,cap,aP,rfl,by omega,⟨hlen,?_⟩,fun zs hz=>?_⟩
  ·by_cases h0:len=0
   ·exact .inl h0
   ·right;obtain⟨b,off,spot⟩:=a;obtain⟨zs,v,hz,_⟩:=key 0 (by omega);have c0:w.cell? ⟨b,off,spot⟩=some v:=by simpa[Addr.add]using hz
    have jQ:spot=none:=by simpa using World.cell?_spot c0
    subst jQ;refine⟨b,off,rfl,block_lt_of_cell c0,fun i zs e=>?_⟩;obtain⟨v,hk,a',aW,rfl,hs,hc,_⟩:=l8 i zs e;exact⟨a',aW,by simpa[add_plain]using hk,hs,hc⟩
  ·obtain⟨i,hi,rfl⟩:=List.getElem_of_mem hz;obtain⟨v,_,_,_,_,_,_,hm⟩:=l8 i _ (List.getElem?_eq_getElem hi);exact hm
theorem FH:prog.cellsOf 94=4:=by kernel_rfl
theorem JC{H:Type}{enc:TypeId×Value->H}{held:Bool}{x:DataW H×List MemPlace}
  (h:DataW.trod enc prog w 0 spare held fuel 23 cs=some x):∃(a:OA) (cap:Nat) (xs:List M4),cs=[.slice a xs.length cap]/\xs.length<=maxLen/\gQ.pK w a xs/\∀d∈xs,ML d:=by
 rcases open_slice underlying23 h with ⟨rfl,_⟩|⟨a,len,cap,m,n,DD,Pl,rfl,_,hl,hm,zY,_,hx⟩
 ·exact⟨none,0,[],rfl,Nat.zero_le _,.inl rfl,fun s hs=>by cases hs⟩
 ·have Ik:len<=m:=by rw[zY];split<;>omega
  have key:∀i,i<len->∃d:M4,∃v:MV,(∀k,k<4->w.cell? ((a.add (i*4)).add k)=(gQ.cells v d)[k]?)/\gQ.Rd w v d/\ML d:=fun i hi=>by
   obtain⟨cs',h1,h2⟩:=hx i (by omega);rw[FH]at h1;obtain⟨v,d,rfl,t1,l1,l2,l3,k1,k2,_⟩:=om.EF h2;exact⟨d,v,(World.cells?_some h1).2.2,t1,⟨l1,k1,l2,k2,l3⟩⟩
  obtain⟨xs,hlen,tH⟩:=zl len key;subst hlen;refine⟨some a,cap,xs,rfl,by omega,?_,?_⟩
  ·by_cases h0:xs=[]
   ·exact .inl h0
   ·right;obtain⟨b,off,spot⟩:=a;obtain⟨d,v,hs,_⟩:=key 0 (by have:=List.length_pos_iff.2 h0;omega);have c0:=hs 0 (by omega);simp[Addr.add,gQ]at c0;have jQ:spot=none:=by simpa using World.cell?_spot c0
    subst jQ;refine⟨b,off,rfl,block_lt_of_cell c0,fun i d e=>?_⟩;obtain⟨v,hk,t1,_⟩:=tH i d e;simp only[add_plain]at hk;refine⟨v,fun j u hu=>?_,t1⟩;have hj:j<4:=by have:=(List.getElem?_eq_some_iff.1 hu).1;rwa[gQ.len]at this
    have:=hk j hj;rw[hu]at this;exact this
  ·intro d hd;obtain⟨i,hi,rfl⟩:=List.getElem_of_mem hd;obtain⟨_,_,_,h3⟩:=tH i _ (List.getElem?_eq_getElem hi);exact h3
theorem L9:prog.cellsOf 99=7:=by kernel_rfl
theorem PY{H:Type}{enc:TypeId×Value->H}{held:Bool}{x:DataW H×List MemPlace}
  (h:DataW.trod enc prog w 0 spare held fuel 24 cs=some x):∃(a:OA) (cap:Nat) (xs:List tx.T7),cs=[.slice a xs.length cap]/\xs.length<=maxLen/\gY.pK w a xs/\∀d∈xs,tx.TL d:=by
 rcases open_slice underlying24 h with ⟨rfl,_⟩|⟨a,len,cap,m,n,DD,Pl,rfl,_,hl,hm,zY,_,hx⟩
 ·exact⟨none,0,[],rfl,Nat.zero_le _,.inl rfl,fun s hs=>by cases hs⟩
 ·have Ik:len<=m:=by rw[zY];split<;>omega
  have key:∀i,i<len->∃d:tx.T7,∃v:tx.TV,(∀k,k<7->w.cell? ((a.add (i*7)).add k)=(gY.cells v d)[k]?)/\gY.Rd w v d/\tx.TL d:=fun i hi=>by
   obtain⟨cs',h1,h2⟩:=hx i (by omega);rw[L9]at h1;obtain⟨v,d,rfl,t1,l1⟩:=tx.ot.RY h2;exact⟨d,v,(World.cells?_some h1).2.2,t1,l1⟩
  obtain⟨xs,hlen,tH⟩:=zl len key;subst hlen;refine⟨some a,cap,xs,rfl,by omega,?_,?_⟩
  ·by_cases h0:xs=[]
   ·exact .inl h0
   ·right;obtain⟨b,off,spot⟩:=a;obtain⟨d,v,hs,_⟩:=key 0 (by have:=List.length_pos_iff.2 h0;omega);have c0:=hs 0 (by omega);simp[Addr.add,gY]at c0;have jQ:spot=none:=by simpa using World.cell?_spot c0
    subst jQ;refine⟨b,off,rfl,block_lt_of_cell c0,fun i d e=>?_⟩;obtain⟨v,hk,t1,_⟩:=tH i d e;simp only[add_plain]at hk;refine⟨v,fun j u hu=>?_,t1⟩;have hj:j<7:=by have:=(List.getElem?_eq_some_iff.1 hu).1;rwa[gY.len]at this
    have:=hk j hj;rw[hu]at this;exact this
  ·intro d hd;obtain⟨i,hi,rfl⟩:=List.getElem_of_mem hd;obtain⟨_,_,_,h3⟩:=tH i _ (List.getElem?_eq_getElem hi);exact h3
theorem N9:prog.cellsOf 26=6:=by kernel_rfl
theorem Od:prog.cellsOf 22=1:=by kernel_rfl
theorem Oc:prog.cellsOf 23=1:=by kernel_rfl
theorem Oi:prog.cellsOf 24=1:=by kernel_rfl
theorem Ob:prog.cellsOf 4=1:=by kernel_rfl
theorem Tu{α:Type}{cs:List α}(h:cs.length=6):∃c0 c1 c2 c3 c4 c5,cs=[c0,c1,c2,c3,c4,c5]:=by
 match cs,h with
 | [c0,c1,c2,c3,c4,c5],_=>exact⟨c0,c1,c2,c3,c4,c5,rfl⟩
theorem EE{H:Type}{enc:TypeId×Value->H}{held:Bool}{x:DataW H×List MemPlace}
  (h:DataW.trod enc prog w 0 spare held fuel 26 cs=some x):∃(a1:OA) (c1:Nat) (a2:OA) (c2:Nat) (a3:OA) (c3:Nat) (k:C6),cs=(dR a1 c1 a2 c2 a3 c3 k)/\cO.Rd w a1 c1 a2 c2 a3 c3 k/\cO.L k:=by
 obtain⟨xs,n,_,rfl,hl,hlen,hf⟩:=DataW.trod_struct underlying26 h;rw[N9]at hl;obtain⟨c0,c1,c2,c3,c4,c5,rfl⟩:=Tu hl;obtain⟨y0,y1,y2,y3,y4,y5,rfl⟩:=Tu hlen;have h0:=hf 0 _ rfl;have h1:=hf 1 _ rfl;have h2:=hf 2 _ rfl;have h3:=hf 3 _ rfl;have h4:=hf 4 _ rfl;have h5:=hf 5 _ rfl;simp[cells_one,Od,Oc,Oi,Ob]at h0 h1 h2 h3 h4 h5;obtain⟨z0,e0,_,_⟩:=DataW.trod_int underlying2 h0;obtain⟨z1,e1,_,_⟩:=DataW.trod_int underlying2 h1;obtain⟨a1,n1,k1,aP,e2,l1,s1,q1⟩:=CG h2;obtain⟨a2,k2,ms,e3,l2,s2,q2⟩:=JC h3;obtain⟨a3,k3,ts,e4,l3,s3,q3⟩:=PY h4;obtain⟨z5,e5,_⟩:=DataW.trod_bool underlying4 h5;simp at e0 e1 e2 e3 e4 e5;subst e0 e1 e2 e3 e4 e5;obtain rfl:aP.length=n1:=s1.1;exact⟨a1,k1,a2,k2,a3,k3,⟨z0,z1,aP,ms,ts,z5⟩,rfl,⟨s1,s2,s3⟩,⟨l1,q1,l2,q2,l3,q3⟩⟩
end oc
section
open Go.Proofs.Tryz
variable {i:Nat}
def qj(aP:List (List Int))(k:Int)(i:Nat):List Int:=marks (dY aP i).length (k+lens (aP.take i))
def kZ(aP:List (List Int))(k:Int):List (List Int):=(List.range aP.length).map (qj aP k)
theorem nu(aP:List (List Int))(k:Int):(kZ aP k).length=aP.length:=by simp[kZ]
theorem wY{aP:List (List Int)}{k:Int}{zs:List Int}(h:(kZ aP k)[i]?=some zs):i<aP.length/\zs=qj aP k i:=by
 have hi:i<aP.length:=by have:=(List.getElem?_eq_some_iff.1 h).1;rw[nu]at this;exact this
 refine⟨hi,?_⟩;simp[kZ,hi]at h;exact h.symm
theorem qo(aP:List (List Int))(k:Int)(i:Nat):(qj aP k i).length=(dY aP i).length:=by rw[qj,mH]
structure Kept(g:Nat->Nat)(n:Nat)(w w':World):Prop where
 os:w'.os=w.os
 tape:w'.tape=w.tape
 output:w'.output=w.output
 size:w'.1.size=w.1.size
 block:∀q,(∀i,i<n->q≠g i)->w'.1[q]?=w.1[q]?
theorem Kept.refl(g:Nat->Nat)(n:Nat)(w:World):Kept g n w w:=⟨rfl,rfl,rfl,rfl,fun _ _=>rfl⟩
theorem Kept.only{g:Nat->Nat}{n:Nat}{a w w':World}(h:Kept g n a w)(hi:i<n)(ho:aQ (g i) w w'):Kept g n a w':=
 ⟨ho.os.trans h.os,ho.tape.trans h.tape,ho.output.trans h.output,ho.size.trans h.size,fun q hq=>(ho.block q (hq i hi)).trans (h.block q hq)⟩
theorem Aw(w:World)(base b n cap:Nat)(aP:List (List Int))(g:Nat->Nat)(k:Int)(hn:n<=1048576)(hl:lens aP<=1048576)(hk:0<=k)(oN:k<=100000000)(h:lD w base b n aP g):
  Calls prog 36 #[.slice (some ⟨b,0,none⟩) n cap,vI k] w fun e w'=>e=.returned (vI (k+lens aP))/\Kept g n w w'/\lD w' base b n (kZ aP k) g:=by
 have hlen:=h.len;have HO:Hid (lD w base b n aP g):=h;clear h;go_enter func36,ntmps36;go_wp2;go_loopw[1,5] (fun v1 v5 wr=>∃j:Nat,j<=n/\v5=vI j/\v1=vI (k+lens (aP.take j))/\Kept g n w wr/\(∀i,i<j->dQ wr (g i) 0 (qj aP k i))/\(∀i,i<n->Room wr (g i) (dY aP i).length)) (fun _ v5 _=>n-(intOf v5).toNat)
 case atStart=>exact⟨0,Nat.zero_le _,rfl,by simp[lens],Kept.refl _ _ _,fun i hi=>by omega,fun i hi=>HO.out.room i _ (gB (by omega))⟩
 case round=>
  obtain⟨j,hj,rfl,rfl,kT,Eo,eB⟩:=hrel;have hle:=lens_take_le aP j;by_cases aK:j<n
  ·obtain⟨cp,hc,_⟩:=HO.out.cell j _ (gB (by omega));have c:=(World.cell?_of_block (a:=⟨b,j,none⟩) (kT.block b (fun i hi e=>HO.out.ne i hi e.symm))).trans hc;have eZ:=lens_take_succ (aP:=aP) (j:=j) (by omega);have eC:=lens_take_le aP (j+1);have jh:=rR wr (g j) (dY aP j).length cp (k+lens (aP.take j)) (by omega) (by omega) (by omega) (eB j aK);have K:Hid (Kept g n w wr/\(∀i,i<j->dQ wr (g i) 0 (qj aP k i))/\(∀i,i<n->Room wr (g i) (dY aP i).length)):=⟨kT,Eo,eB⟩
   clear kT Eo eB hc;go_wp2_with fail;refine jh.mono ?_;clear jh;rintro e w1 ⟨rfl,ho,Rt,vv⟩;have K1:Hid (aQ (g j) wr w1/\dQ w1 (g j) 0 (qj aP k j)/\Room w1 (g j) (dY aP j).length):=⟨ho,Rt,vv⟩
   clear ho Rt vv;go_wp2;obtain⟨kT,Eo,eB⟩:=K.out;obtain⟨ho,Rt,vv⟩:=K1.out;refine⟨⟨j+1,by omega,by simp,by rw[eZ];simp;omega,kT.only aK ho,fun i hi=>?_,fun i hi=>?_⟩,by simp[intOf];omega⟩
   ·by_cases e:i=j
    ·subst e;exact Rt
    ·exact(Eo i (by omega)).aj (ho.block _ (fun e'=>e (HO.out.inj i j (by omega) aK e')))
   ·by_cases e:i=j
    ·subst e;exact vv
    ·exact(eB i hi).aj (ho.block _ (fun e'=>e (HO.out.inj i j hi aK e')))
  ·have:j=n:=by omega
   subst this;have hd:decide ((j:Int)<(j:Int))=false:=by simp
   rw[show aP.take j=aP from List.take_of_length_le (by omega)];have K:Hid (Kept g j w wr/\(∀i,i<j->dQ wr (g i) 0 (qj aP k i))/\(∀i,i<j->Room wr (g i) (dY aP i).length)):=⟨kT,Eo,eB⟩
   clear kT Eo eB hle;go_wp2;go_ret;obtain⟨kT,Eo,eB⟩:=K.out;refine⟨rfl,kT,⟨by rw[nu];exact hlen,fun i zs e=>?_,HO.out.low,fun i hi=>by rw[kT.size];exact HO.out.lt i hi,HO.out.ne,fun i zs e=>?_,fun i zs e=>?_,HO.out.inj⟩⟩
   ·obtain⟨hi,rfl⟩:=wY e;obtain⟨cp,hc,kL⟩:=HO.out.cell i _ (gB hi);exact⟨cp,by rw[qo];exact(World.cell?_of_block (a:=⟨b,i,none⟩) (kT.block b (fun i hi e=>HO.out.ne i hi e.symm))).trans hc,by rw[qo];exact kL⟩
   ·obtain⟨hi,rfl⟩:=wY e;exact Eo i (by omega)
   ·obtain⟨hi,rfl⟩:=wY e;rw[qo];exact eB i (by omega)
end
section
open Go.Proofs.Tryz
theorem Av(w:World)(cap:Nat)(k:Int):Calls prog 36 #[.slice none 0 cap,vI k] w fun e w'=>e=.returned (vI k)/\w'=w:=by
 go_enter func36,ntmps36;go_wp2;go_loop[1,5] (fun v1 v5=>v5=vI 0/\v1=vI k) (fun _ _=>0)
 case atStart=>exact⟨rfl,rfl⟩
 case round=>
  obtain⟨rfl,rfl⟩:=hrel;go_wp2;go_ret;exact⟨rfl,rfl⟩
theorem vD(w:World)(base:Nat)(a:OA)(n cap:Nat)(aP:List (List Int))(g:Nat->Nat)(k:Int)(hn:n<=1048576)(hl:lens aP<=1048576)(hk:0<=k)(oN:k<=100000000)(h:nZ w base a n aP g):
  Calls prog 36 #[.slice a n cap,vI k] w fun e w'=>e=.returned (vI (k+lens aP))/\Kept g n w w'/\nZ w' base a n (kZ aP k) g:=by
 rcases h with ⟨rfl,rfl,rfl⟩|⟨b,rfl,IY,lu,ho⟩
 ·refine(Av w cap k).mono ?_;rintro e w' ⟨rfl,rfl⟩;exact⟨by simp[lens],Kept.refl _ _ _,.inl ⟨rfl,rfl,rfl⟩⟩
 ·refine(Aw w base b n cap aP g k hn hl hk oN ho).mono ?_;rintro e w' ⟨rfl,kp,o⟩;exact⟨rfl,kp,.inr ⟨b,rfl,IY,by rw[kp.size];exact lu,o⟩⟩
end
section
open Go.Proofs.Tryz
theorem Au(w:World)(a:OA)(cap:Nat)(k:Int):Calls prog 37 #[.slice a 0 cap,vI k] w fun e w'=>e=.returned (vI k)/\w'=w:=by
 go_enter func37,ntmps37;go_wp2;go_loop[1,5] (fun v1 v5=>v1=vI k/\v5=vI 0) (fun _ _=>0)
 case atStart=>exact⟨rfl,rfl⟩
 case round=>
  obtain⟨rfl,rfl⟩:=hrel;go_wp2;go_ret;exact⟨rfl,rfl⟩
theorem Jk(w:World)(B:Nat)(a:OA)(cap:Nat)(xs:List M4)(P:Nat->Prop)(k:Int)(hk:0<=k)(oN:k+(aI cM xs xs.length:Int)<=100000000)(hn:xs.length<=1048576)(ht:∀m∈xs,MT m)(h:gQ.oD w B a xs P):
  Calls prog 37 #[.slice a xs.length cap,vI k] w fun e w'=>e=.returned (vI (k+(aI cM xs xs.length:Int)))/\aA P w w':=by
 obtain⟨h,hP⟩:=h;rcases h with rfl|⟨b,g,rfl,hp,wO,hg⟩
 ·refine(Au w a cap k).mono ?_;rintro e w' ⟨rfl,rfl⟩;exact⟨by simp[aI],aA.refl _ _⟩
 ·exact Vs w B b cap xs g P k hk oN hn ht (hP b hp).2 hp hg wO
theorem Ay(w:World)(a:OA)(cap:Nat)(k:Int):Calls prog 38 #[.slice a 0 cap,vI k] w fun e w'=>e=.returned (vI k)/\w'=w:=by
 go_enter func38,ntmps38;go_wp2;go_loop[1,5] (fun v1 v5=>v1=vI k/\v5=vI 0) (fun _ _=>0)
 case atStart=>exact⟨rfl,rfl⟩
 case round=>
  obtain⟨rfl,rfl⟩:=hrel;go_wp2;go_ret;exact⟨rfl,rfl⟩
theorem Jl(w:World)(B:Nat)(a:OA)(cap:Nat)(xs:List tx.T7)(P:Nat->Prop)(k:Int)(hk:0<=k)(oN:k+(aI cT xs xs.length:Int)<=100000000)(hn:xs.length<=1048576)(ht:∀m∈xs,KT.S m)(h:gY.oD w B a xs P):
  Calls prog 38 #[.slice a xs.length cap,vI k] w fun e w'=>e=.returned (vI (k+(aI cT xs xs.length:Int)))/\aA P w w':=by
 obtain⟨h,hP⟩:=h;rcases h with rfl|⟨b,g,rfl,hp,wO,hg⟩
 ·refine(Ay w a cap k).mono ?_;rintro e w' ⟨rfl,rfl⟩;exact⟨by simp[aI],aA.refl _ _⟩
 ·exact Vu w B b cap xs g P k hk oN hn ht (hP b hp).2 hp hg wO
theorem GN{α:Type}(c l:α->Nat)(a:Nat)(h:∀r,c r<=a+5*l r)(rs:List α):aI c rs rs.length<=a*rs.length+5*(rs.map l).sum:=by
 unfold aI;rw[List.take_of_length_le (by simp)]
 induction rs with
 | nil=>simp
 | cons r rs ih=>
  have:=h r;simp only[List.map_cons,List.sum_cons,List.length_cons,Nat.mul_add,Nat.mul_one];omega
def cC(k:C6):Nat:=lens k.f+aI cM k.aa k.aa.length+aI cT k.c k.c.length
theorem KI(k:C6):cC k<=5*zm k:=by
 have h1:=GN cM (fun d=>JX d) 1 (fun m=>by
  show cM m<=1+5*JX m
  have e1:=zh cK (fun k=>k.cells.length) 1 2 (fun r=>rfl) m.af;have e2:=zh cR (fun k=>k.ag.length) 3 5 (fun r=>rfl) m.g;unfold cM JX jR ko
  omega) k.aa
 have h2:=GN cT (fun d=>tx.uJ d) 5 (fun t=>by show cT t<=5+5*tx.uJ t;unfold cT tx.uJ;omega) k.c;unfold cC zm wo.nM wu.nM;omega
def qN(k:C6)(x:Int):Int:=x+(cC k:Int)
theorem cO.mark(X:World)(B:Nat)(a1:OA)(c1:Nat)(a2:OA)(c2:Nat)(a3:OA)(c3:Nat)(k:C6)(P:Nat->Prop)(x:Int)(hx:0<=x)(BN:x<=1000)(hz:zm k<=1048576)(ht:cO.S k)(h:cO.Ow X B a1 c1 a2 c2 a3 c3 k P):
  Calls prog 9 #[.agg #[vI k.v,vI k.q,.slice a1 k.f.length c1,.slice a2 k.aa.length c2,.slice a3 k.c.length c3,.bool k.w],vI x] X fun r w'=>r=.returned (vI (qN k x))/\aA P X w':=by
 obtain⟨⟨P1,P2,P3,⟨⟨g,oq,ob,og⟩,oB⟩,om,ot,s1,s2,s3,d12,d13,d23⟩,hP⟩:=h;have UG:=KI k;have hC:qN k x=x+(lens k.f:Int)+(aI cM k.aa k.aa.length:Int)+(aI cT k.c k.c.length:Int):=by unfold qN cC;push_cast;omega
 have Im:lens k.f<=1048576:=by unfold zm at hz;omega
 obtain⟨W,hW⟩:∃Y,Y=X.alloc (.cells #[vI k.v,vI k.q,.slice a1 k.f.length c1,.slice a2 k.aa.length c2,.slice a3 k.c.length c3,.bool k.w] 32):=⟨_,rfl⟩
 have bW:Below X.1.size X W:=by rw[hW];exact aN.alloc aU _
 have FA:Hid (Bx W X.1.size (dR a1 c1 a2 c2 a3 c3 k)):=by unfold Hid;rw[hW];exact Bx.made X (dR a1 c1 a2 c2 a3 c3 k) _
 have hc:=vD W B a1 k.f.length c1 k.f g x ht.p Im hx (by omega) (oq.later bW);have H:Hid (gQ.oD W B a2 k.aa P2/\gY.oD W B a3 k.c P3/\(∀q,P1 q->P q)/\(∀q,P2 q->P q)/\(∀q,P3 q->P q)/\(∀q,P1 q->¬P2 q)/\(∀q,P1 q->¬P3 q)/\(∀q,P2 q->¬P3 q)/\(∀q,P q->q<X.1.size)/\(∀i,i<k.f.length->P1 (g i))/\Below X.1.size X W/\cO.S k):=⟨om.later bW,ot.later bW,s1,s2,s3,d12,d13,d23,fun q hq=>(hP q hq).2,og,bW,ht⟩
 have HE:=ay hC;have HL:Hid (x+(lens k.f:Int)+(aI cM k.aa k.aa.length:Int)+(aI cT k.c k.c.length:Int)<=100000000):=by unfold Hid;rw[<-hC];unfold qN;omega
 clear oq ob og oB om ot s1 s2 s3 d12 d13 d23 hP UG hC hz ht bW Im;go_enter func9,ntmps9;go_wp2_with fail;rw[<-hW];clear hW;refine hc.mono ?_;clear hc;rintro e w1 ⟨rfl,kp,-⟩;obtain⟨om,ot,s1,s2,s3,d12,d13,d23,hP,og,bW,ht⟩:=H.out;have k1:aA P1 W w1:=⟨kp.os,kp.tape,kp.output,Nat.le_of_eq kp.size.symm,fun q _ hn=>kp.block q (fun i hi e=>hn (e▸og i hi))⟩
 have F1:Hid (Bx w1 X.1.size (dR a1 c1 a2 c2 a3 c3 k)):=FA.out.aj (k1.block _ FA.out.2.2 (fun e=>by have:=hP _ (s1 _ e);omega)) k1.size;have M1:Hid (gQ.oD w1 B a2 k.aa P2/\gY.oD w1 B a3 k.c P3/\aA P X w1):=⟨om.aL k1.size (fun q hq=>k1.block q (om.of hq).2 (fun e=>d12 q e hq)),ot.aL k1.size (fun q hq=>k1.block q (ot.of hq).2 (fun e=>d13 q e hq)),(aA.bN bW).trans (k1.mono s1)⟩
 clear om ot s1 s2 s3 d12 d13 d23 hP og bW k1 kp ht;have p3:=F1.out.1 3 _ rfl;have l1:=HL.out;generalize hy:x+(lens k.f:Int)=y at *;have Yx:0<=y:=by omega
 go_wp2_with fail;refine(Jk w1 B a2 c2 k.aa P2 y Yx (by omega) H.out.2.2.2.2.2.2.2.2.2.2.2.m H.out.2.2.2.2.2.2.2.2.2.2.2.ms M1.out.1).mono ?_;rintro e w2 ⟨rfl,k2⟩;obtain⟨om,ot,s1,s2,s3,d12,d13,d23,hP,og,bW,ht⟩:=H.out;have F2:Hid (Bx w2 X.1.size (dR a1 c1 a2 c2 a3 c3 k)):=F1.out.aj (k2.block _ F1.out.2.2 (fun e=>by have:=hP _ (s2 _ e);omega)) k2.size;have M2:Hid (gY.oD w2 B a3 k.c P3/\aA P X w2):=⟨M1.out.2.1.aL k2.size (fun q hq=>k2.block q (M1.out.2.1.of hq).2 (fun e=>d23 q e hq)),M1.out.2.2.trans (k2.mono s2)⟩
 clear om ot s1 s2 s3 d12 d13 d23 hP og bW k2 ht p3;have p4:=F2.out.1 4 _ rfl;generalize hz:y+(aI cM k.aa k.aa.length:Int)=z at *;have sD:0<=z:=by omega
 go_wp2_with fail;refine(Jl w2 B a3 c3 k.c P3 z sD (by omega) H.out.2.2.2.2.2.2.2.2.2.2.2.t H.out.2.2.2.2.2.2.2.2.2.2.2.ts M2.out.1).mono ?_;rintro e w3 ⟨rfl,k3⟩;have M3:Hid (aA P X w3):=M2.out.2.trans (k3.mono H.out.2.2.2.2.1);clear k3 p4;go_wp2;go_ret;exact⟨by rw[HE.out];rfl,M3.out⟩
end
section
open Go.Proofs.Tryz
variable {B c1:Nat}{P:Nat->Prop}{a1 a2 a3:OA}{k:C6}{w:World}
def sN.Rd(X:World)(a1:OA)(c1:Nat)(a2:OA)(c2:Nat)(a3:OA)(c3:Nat)(k:C6):Prop:=cO.Rd X a1 c1 a2 c2 a3 c3 k/\y7.pK X a3 k.c
def sN.Ow(w:World)(B:Nat)(a1:OA)(c1:Nat)(a2:OA)(c2:Nat)(a3:OA)(c3:Nat)(k:C6)(P:Nat->Prop):Prop:=cO.Ow w B a1 c1 a2 c2 a3 c3 k P/\y7.pK w a3 k.c
theorem sN.Rd.later{X Y:World}{c2:Nat}{c3:Nat}(h:sN.Rd X a1 c1 a2 c2 a3 c3 k)(b:Below X.1.size X Y):sN.Rd Y a1 c1 a2 c2 a3 c3 k:=⟨h.1.later b,h.2.later b⟩
theorem sN.Ow.later{w':World}{c2:Nat}{c3:Nat}(h:sN.Ow w B a1 c1 a2 c2 a3 c3 k P)(b:Below w.1.size w w'):sN.Ow w' B a1 c1 a2 c2 a3 c3 k P:=⟨h.1.later b,h.2.later b⟩
theorem sN.Ow.of{c2:Nat}{c3:Nat}(h:sN.Ow w B a1 c1 a2 c2 a3 c3 k P){q:Nat}(hq:P q):B<=q/\q<w.1.size:=h.1.of hq
theorem sN.Ow.sl{c2:Nat}{c3:Nat}(h:sN.Ow w B a1 c1 a2 c2 a3 c3 k P):sN.Rd w a1 c1 a2 c2 a3 c3 k:=⟨h.1.sl,h.2⟩
theorem sN.to(X:World)(a1:OA)(c1:Nat)(a2:OA)(c2:Nat)(a3:OA)(c3:Nat)(k:C6)(ht:cO.S k)(h:cO.Rd X a1 c1 a2 c2 a3 c3 k):Calls prog 6 #[.agg #[vI k.v,vI k.q,.slice a1 k.f.length c1,.slice a2 k.aa.length c2,.slice a3 k.c.length c3,.bool k.w]] X fun e w'=>
  ∃(a1:OA) (c1:Nat) (a2:OA) (c2:Nat) (a3:OA) (c3:Nat) (P:Nat->Prop),e=.returned (.agg #[vI k.v,vI k.q,.slice a1 k.f.length c1,.slice a2 k.aa.length c2,.slice a3 k.c.length c3,.bool k.w])/\sN.Ow w' X.1.size a1 c1 a2 c2 a3 c3 k P/\Below X.1.size X w':=by
 refine(cO.to X a1 c1 a2 c2 a3 c3 k ht h).mono ?_;rintro e w' ⟨a1,c1,a2,c2,a3,c3,P,h1,h2,h3,h4⟩;exact⟨a1,c1,a2,c2,a3,c3,P,h1,⟨h2,h4⟩,h3⟩
theorem sN.eq(X:World)(a1:OA)(c1:Nat)(a2:OA)(c2:Nat)(a3:OA)(c3:Nat)(a1':OA)(c1':Nat)(QB:OA)(c2':Nat)(a3':OA)(c3':Nat)(k:C6)(ht:cO.S k)(h1:sN.Rd X a1 c1 a2 c2 a3 c3 k)(h2:sN.Rd X a1' c1' QB c2' a3' c3' k):Calls prog 8 #[.agg #[vI k.v,vI k.q,.slice a1 k.f.length c1,.slice a2 k.aa.length c2,.slice a3 k.c.length c3,.bool k.w],.agg #[vI k.v,vI k.q,.slice a1' k.f.length c1',.slice QB k.aa.length c2',.slice a3' k.c.length c3',.bool k.w]] X fun e w'=>e=.returned (.bool true)/\Below X.1.size X w':=cO.eq X a1 c1 a2 c2 a3 c3 a1' c1' QB c2' a3' c3' k ht h1.1 h2.1
theorem sN.mark(X:World)(B:Nat)(a1:OA)(c1:Nat)(a2:OA)(c2:Nat)(a3:OA)(c3:Nat)(k:C6)(P:Nat->Prop)(x:Int)(hx:0<=x)(BN:x<=1000)(hz:zm k<=1048576)(ht:cO.S k)(h:sN.Ow X B a1 c1 a2 c2 a3 c3 k P):
  Calls prog 9 #[.agg #[vI k.v,vI k.q,.slice a1 k.f.length c1,.slice a2 k.aa.length c2,.slice a3 k.c.length c3,.bool k.w],vI x] X fun r w'=>r=.returned (vI (qN k x))/\aA P X w':=cO.mark X B a1 c1 a2 c2 a3 c3 k P x hx BN hz ht h.1
end
section
open Go.Proofs.Tryz
theorem zS(w:World)(a:OA)(n cap:Nat)(aP:List (List Int))(k:Int)(hn:n<=1048576)(hl:lens aP<=1048576)(hk:0<=k)(oN:k<=100000000)(hs:wy w w.1.size a n (kZ aP k)):
  Calls prog 39 #[.slice a n cap,vI k] w fun e w'=>e=.returned (vI (k+lens aP))/\w'=w:=by
 obtain⟨hx,hs⟩:=hs;rw[nu]at hx;go_enter func39,ntmps39;go_wp2;go_loop[1,5] (fun v1 v5=>∃j:Nat,j<=n/\v5=vI j/\v1=vI (k+lens (aP.take j))) (fun _ v5=>n-(intOf v5).toNat)
 case atStart=>exact⟨0,Nat.zero_le _,rfl,by simp[lens]⟩
 case round=>
  obtain⟨j,hj,rfl,rfl⟩:=hrel;have hle:=lens_take_le aP j;by_cases aK:j<n
  ·rcases hs with hs|⟨b,off,rfl,hb,h1⟩
   ·omega
   ·have hm:(kZ aP k)[j]?=some (qj aP k j):=by simp[kZ,show j<aP.length by omega]
    obtain⟨a',cp,c,gM,_⟩:=h1 j _ hm;rw[qo]at c gM;have eZ:=lens_take_succ (aP:=aP) (j:=j) (by omega);have eC:=lens_take_le aP (j+1);have jh:=rG w a' (dY aP j).length cp (k+lens (aP.take j)) (by omega) (by omega) (by omega) gM;have d0:decide (k+(lens (aP.take j):Int)+((dY aP j).length:Int)<0)=false:=by simp;omega
    clear h1 hm gM;go_wp2_with fail;refine jh.mono ?_;clear jh;rintro e w1 ⟨rfl,rfl⟩;go_wp2;exact⟨⟨j+1,by omega,by simp,by rw[eZ];simp;omega⟩,by simp[intOf];omega⟩
  ·have:j=n:=by omega
   subst this;have hd:decide ((j:Int)<(j:Int))=false:=by simp
   rw[show aP.take j=aP from List.take_of_length_le (by omega)];clear hs hle;go_wp2;go_ret;exact⟨rfl,rfl⟩
end
section
open Go.Proofs.Tryz
theorem Gx(w:World)(B:Nat)(a:OA)(cap:Nat)(xs:List M4)(P:Nat->Prop)(k:Int)(hk:0<=k)(oN:k+(aI cM xs xs.length:Int)<=100000000)(hn:xs.length<=1048576)(ht:∀m∈xs,MT m)(h:gQ.oD w B a xs P):
  Calls prog 37 #[.slice a xs.length cap,vI k] w fun e w'=>e=.returned (vI (k+(aI cM xs xs.length:Int)))/\aA P w w'/\gQ.oD w' B a (xc xs k) P:=by
 obtain⟨h,hP⟩:=h;rcases h with rfl|⟨b,g,rfl,hp,wO,hg⟩
 ·refine(Au w a cap k).mono ?_;rintro e w' ⟨rfl,rfl⟩;exact⟨by simp[aI],aA.refl _ _,.inl rfl,hP⟩
 ·refine(Vr w B b cap xs g P k hk oN hn ht (hP b hp).2 hp hg wO).mono ?_;rintro e w' ⟨rfl,kp,o⟩;exact⟨rfl,kp,.inr ⟨b,g,rfl,hp,by rw[AP];exact o,by rw[AP];exact hg⟩,fun q hq=>⟨(hP q hq).1,Nat.lt_of_lt_of_le (hP q hq).2 kp.size⟩⟩
theorem Gz(w:World)(B:Nat)(a:OA)(cap:Nat)(xs:List tx.T7)(P:Nat->Prop)(k:Int)(hk:0<=k)(oN:k+(aI cT xs xs.length:Int)<=100000000)(hn:xs.length<=1048576)(ht:∀m∈xs,KT.S m)(h:gY.oD w B a xs P):
  Calls prog 38 #[.slice a xs.length cap,vI k] w fun e w'=>e=.returned (vI (k+(aI cT xs xs.length:Int)))/\aA P w w'/\gY.oD w' B a (xg xs k) P:=by
 obtain⟨h,hP⟩:=h;rcases h with rfl|⟨b,g,rfl,hp,wO,hg⟩
 ·refine(Ay w a cap k).mono ?_;rintro e w' ⟨rfl,rfl⟩;exact⟨by simp[aI],aA.refl _ _,.inl rfl,hP⟩
 ·refine(Vt w B b cap xs g P k hk oN hn ht (hP b hp).2 hp hg wO).mono ?_;rintro e w' ⟨rfl,kp,o⟩;exact⟨rfl,kp,.inr ⟨b,g,rfl,hp,by rw[AU];exact o,by rw[AU];exact hg⟩,fun q hq=>⟨(hP q hq).1,Nat.lt_of_lt_of_le (hP q hq).2 kp.size⟩⟩
def Tz(k:C6)(x:Int):C6:=⟨k.v,k.q,kZ k.f x,xc k.aa (x+(lens k.f:Int)),xg k.c (x+(lens k.f:Int)+(aI cM k.aa k.aa.length:Int)),k.w⟩
theorem cO.YF(X:World)(B:Nat)(a1:OA)(c1:Nat)(a2:OA)(c2:Nat)(a3:OA)(c3:Nat)(k:C6)(P:Nat->Prop)(x:Int)(hx:0<=x)(BN:x<=1000)(hz:zm k<=1048576)(ht:cO.S k)(h:cO.Ow X B a1 c1 a2 c2 a3 c3 k P):
  Calls prog 9 #[.agg #[vI k.v,vI k.q,.slice a1 k.f.length c1,.slice a2 k.aa.length c2,.slice a3 k.c.length c3,.bool k.w],vI x] X fun r w'=>r=.returned (vI (qN k x))/\aA P X w'/\cO.Rd w' a1 c1 a2 c2 a3 c3 (Tz k x):=by
 obtain⟨⟨P1,P2,P3,⟨⟨g,oq,ob,og⟩,oB⟩,om,ot,s1,s2,s3,d12,d13,d23⟩,hP⟩:=h;have UG:=KI k;have hC:qN k x=x+(lens k.f:Int)+(aI cM k.aa k.aa.length:Int)+(aI cT k.c k.c.length:Int):=by unfold qN cC;push_cast;omega
 have Im:lens k.f<=1048576:=by unfold zm at hz;omega
 obtain⟨W,hW⟩:∃Y,Y=X.alloc (.cells #[vI k.v,vI k.q,.slice a1 k.f.length c1,.slice a2 k.aa.length c2,.slice a3 k.c.length c3,.bool k.w] 32):=⟨_,rfl⟩
 have bW:Below X.1.size X W:=by rw[hW];exact aN.alloc aU _
 have FA:Hid (Bx W X.1.size (dR a1 c1 a2 c2 a3 c3 k)):=by unfold Hid;rw[hW];exact Bx.made X (dR a1 c1 a2 c2 a3 c3 k) _
 have hc:=vD W B a1 k.f.length c1 k.f g x ht.p Im hx (by omega) (oq.later bW);have H:Hid (gQ.oD W B a2 k.aa P2/\gY.oD W B a3 k.c P3/\(∀q,P1 q->P q)/\(∀q,P2 q->P q)/\(∀q,P3 q->P q)/\(∀q,P1 q->¬P2 q)/\(∀q,P1 q->¬P3 q)/\(∀q,P2 q->¬P3 q)/\(∀q,P q->q<X.1.size)/\(∀i,i<k.f.length->P1 (g i))/\Below X.1.size X W/\cO.S k):=⟨om.later bW,ot.later bW,s1,s2,s3,d12,d13,d23,fun q hq=>(hP q hq).2,og,bW,ht⟩
 have HB:Hid (∀b,a1=some ⟨b,0,none⟩->P1 b):=ob;have HE:=ay hC;have HL:Hid (x+(lens k.f:Int)+(aI cM k.aa k.aa.length:Int)+(aI cT k.c k.c.length:Int)<=100000000):=by unfold Hid;rw[<-hC];unfold qN;omega
 clear oq ob og oB om ot s1 s2 s3 d12 d13 d23 hP UG hC hz ht bW Im;go_enter func9,ntmps9;go_wp2_with fail;rw[<-hW];clear hW;refine hc.mono ?_;clear hc;rintro e w1 ⟨rfl,kp,oq⟩;obtain⟨om,ot,s1,s2,s3,d12,d13,d23,hP,og,bW,ht⟩:=H.out;have k1:aA P1 W w1:=⟨kp.os,kp.tape,kp.output,Nat.le_of_eq kp.size.symm,fun q _ hn=>kp.block q (fun i hi e=>hn (e▸og i hi))⟩
 have F1:Hid (Bx w1 X.1.size (dR a1 c1 a2 c2 a3 c3 k)):=FA.out.aj (k1.block _ FA.out.2.2 (fun e=>by have:=hP _ (s1 _ e);omega)) k1.size;have O1:Hid (nZ w1 B a1 k.f.length (kZ k.f x) g/\X.1.size<=w1.1.size):=⟨oq,Nat.le_trans bW.size k1.size⟩
 have M1:Hid (gQ.oD w1 B a2 k.aa P2/\gY.oD w1 B a3 k.c P3/\aA P X w1):=⟨om.aL k1.size (fun q hq=>k1.block q (om.of hq).2 (fun e=>d12 q e hq)),ot.aL k1.size (fun q hq=>k1.block q (ot.of hq).2 (fun e=>d13 q e hq)),(aA.bN bW).trans (k1.mono s1)⟩
 clear om ot s1 s2 s3 d12 d13 d23 hP og bW k1 kp ht oq;have p3:=F1.out.1 3 _ rfl;have l1:=HL.out;have HM:Hid (Tz k x=⟨k.v,k.q,kZ k.f x,xc k.aa (x+(lens k.f:Int)),xg k.c (x+(lens k.f:Int)+(aI cM k.aa k.aa.length:Int)),k.w⟩):=rfl;generalize hy:x+(lens k.f:Int)=y at *;have Yx:0<=y:=by omega
 go_wp2_with fail;refine(Gx w1 B a2 c2 k.aa P2 y Yx (by omega) H.out.2.2.2.2.2.2.2.2.2.2.2.m H.out.2.2.2.2.2.2.2.2.2.2.2.ms M1.out.1).mono ?_;rintro e w2 ⟨rfl,k2,nt⟩;obtain⟨om,ot,s1,s2,s3,d12,d13,d23,hP,og,bW,ht⟩:=H.out;have F2:Hid (Bx w2 X.1.size (dR a1 c1 a2 c2 a3 c3 k)):=F1.out.aj (k2.block _ F1.out.2.2 (fun e=>by have:=hP _ (s2 _ e);omega)) k2.size;have O2:Hid (nZ w2 B a1 k.f.length (kZ k.f x) g/\X.1.size<=w2.1.size):=⟨O1.out.1.kept k2.size (fun b e=>k2.block b (by have:=hP _ (s1 _ (HB.out b e));have:=O1.out.2;omega) (d12 b (HB.out b e))) (fun i hi=>k2.block _ (by have:=hP _ (s1 _ (og i hi));have:=O1.out.2;omega) (d12 _ (og i hi))),Nat.le_trans O1.out.2 k2.size⟩
 have M2:Hid (gY.oD w2 B a3 k.c P3/\aA P X w2/\gQ.oD w2 B a2 (xc k.aa y) P2):=⟨M1.out.2.1.aL k2.size (fun q hq=>k2.block q (M1.out.2.1.of hq).2 (fun e=>d23 q e hq)),M1.out.2.2.trans (k2.mono s2),nt⟩
 clear om ot s1 s2 s3 d12 d13 d23 hP og bW k2 ht p3 nt O1;have p4:=F2.out.1 4 _ rfl;generalize hz:y+(aI cM k.aa k.aa.length:Int)=z at *;have sD:0<=z:=by omega
 go_wp2_with fail;refine(Gz w2 B a3 c3 k.c P3 z sD (by omega) H.out.2.2.2.2.2.2.2.2.2.2.2.t H.out.2.2.2.2.2.2.2.2.2.2.2.ts M2.out.1).mono ?_;rintro e w3 ⟨rfl,k3,nv⟩
 have M3:Hid (aA P X w3/\cO.Rd w3 a1 c1 a2 c2 a3 c3 (Tz k x)):=by
  obtain⟨om,ot,s1,s2,s3,d12,d13,d23,hP,og,bW,ht⟩:=H.out;have o3:=O2.out.1.kept k3.size (fun b e=>k3.block b (by have:=hP _ (s1 _ (HB.out b e));have:=O2.out.2;omega) (d13 b (HB.out b e))) (fun i hi=>k3.block _ (by have:=hP _ (s1 _ (og i hi));have:=O2.out.2;omega) (d13 _ (og i hi)));have m3:=M2.out.2.2.aL k3.size (fun q hq=>k3.block q (M2.out.2.2.of hq).2 (d23 q hq));refine⟨M2.out.2.1.trans (k3.mono s3),?_⟩;rw[HM.out];exact⟨by rw[nu];exact o3.sl,m3.sl,nv.sl⟩
 clear k3 p4 nv;go_wp2;go_ret;exact⟨by rw[HE.out];rfl,M3.out.1,M3.out.2⟩
theorem cO.held(X:World)(a1:OA)(c1:Nat)(a2:OA)(c2:Nat)(a3:OA)(c3:Nat)(k:C6)(x:Int)(hx:0<=x)(BN:x<=1000)(hz:zm k<=1048576)(ht:cO.S k)(h:cO.Rd X a1 c1 a2 c2 a3 c3 (Tz k x)):
  Calls prog 10 #[.agg #[vI k.v,vI k.q,.slice a1 k.f.length c1,.slice a2 k.aa.length c2,.slice a3 k.c.length c3,.bool k.w],vI x] X fun r w'=>r=.returned (vI (qN k x))/\Below X.1.size X w':=by
 have UG:=KI k;have hC:qN k x=x+(lens k.f:Int)+(aI cM k.aa k.aa.length:Int)+(aI cT k.c k.c.length:Int):=by unfold qN cC;push_cast;omega
 have Im:lens k.f<=1048576:=by unfold zm at hz;omega
 obtain⟨W,hW,bW,FA,-⟩:=jU X (dR a1 c1 a2 c2 a3 c3 k) 32;have h0:=h.later bW;have hp:=h0.p;simp only[Tz,nu]at hp;have hc:=zS W a1 k.f.length c1 k.f x ht.p Im hx (by omega) hp;have HL:Hid (x+(lens k.f:Int)+(aI cM k.aa k.aa.length:Int)+(aI cT k.c k.c.length:Int)<=100000000):=by unfold Hid;rw[<-hC];unfold qN;omega
 have H:Hid (gQ.pK W a2 (xc k.aa (x+(lens k.f:Int)))/\gY.pK W a3 (xg k.c (x+(lens k.f:Int)+(aI cM k.aa k.aa.length:Int)))/\Below X.1.size X W/\cO.S k/\Bx W X.1.size (dR a1 c1 a2 c2 a3 c3 k)):=⟨h0.m,h0.t,bW,ht,FA⟩
 have HE:=ay hC;have p3:=FA.1 3 _ rfl;have p4:=FA.1 4 _ rfl;have d1:decide (x+(lens k.f:Int)<0)=false:=by simp;omega
 have d2:decide (x+(lens k.f:Int)+(aI cM k.aa k.aa.length:Int)<0)=false:=by simp;omega
 have d3:decide (x+(lens k.f:Int)+(aI cM k.aa k.aa.length:Int)+(aI cT k.c k.c.length:Int)<0)=false:=by simp;omega
 clear h h0 hp UG hC hz ht bW Im FA;rw[hW]at p3 p4;go_enter func10,ntmps10;go_wp2_with fail;rw[<-hW];refine hc.mono ?_;clear hc;rintro e w1 ⟨rfl,rfl⟩;rw[<-hW]at p3 p4;clear hW;have l1:=HL.out;generalize hy:x+(lens k.f:Int)=y at *;have Yx:0<=y:=by omega
 go_wp2_with fail;refine(UH w1 a2 c2 k.aa y Yx (by omega) H.out.2.2.2.1.m H.out.2.2.2.1.ms H.out.1).mono ?_;rintro e w2 ⟨rfl,b2⟩;have H2:Hid (gY.pK w2 a3 (xg k.c (y+(aI cM k.aa k.aa.length:Int)))/\Below X.1.size X w2/\Bx w2 X.1.size (dR a1 c1 a2 c2 a3 c3 k)):=⟨H.out.2.1.later b2,au H.out.2.2.1 b2,H.out.2.2.2.2.later b2⟩
 clear b2 p3 p4;have p4:=H2.out.2.2.1 4 _ rfl;generalize hz:y+(aI cM k.aa k.aa.length:Int)=z at *;have sD:0<=z:=by omega
 go_wp2_with fail;refine(UI w2 a3 c3 k.c z sD (by omega) H.out.2.2.2.1.t H.out.2.2.2.1.ts H2.out.1).mono ?_;rintro e w3 ⟨rfl,b3⟩;have H3:Hid (Below X.1.size X w3):=au H2.out.2.1 b3;clear b3 p4;go_wp2;go_ret;exact⟨by rw[HE.out];rfl,H3.out⟩
end
section
open Go.Proofs.Tryz
theorem sI{α:Type}(f:α->Nat)(c:Nat):∀{l:List α},(∀x∈l,f x<=c)->(l.map f).sum<=l.length*c
 | [],_=>by simp
 | a::l,h=>by
  have h1:=h a (by simp);have h2:=sI f c (l:=l) (fun x hx=>h x (by simp[hx]));simp only[List.map_cons,List.sum_cons,List.length_cons,Nat.succ_mul];omega
theorem JY{m:M4}(h:QX m):JX m<=3000:=by
 have h1:=sI (fun c:K2=>c.cells.length) 6 (l:=m.af) (fun c hc=>by rw[h.ks c hc];exact Nat.le_refl _);have h2:=sI (fun r:R4=>r.ag.length) 12 (l:=m.g) (fun c hc=>(h.rs c hc).2);have:=h.k;have:=h.r;have:=h.n;unfold JX jR ko;omega
theorem Sg(t:tx.T7)(n:tx.N5):tx.uJ (tx.dL t n)<=tx.uJ t+1:=by
 unfold tx.dL;split
 ·split
  ·omega
  ·split
   ·simp[tx.uJ,tx.kC]
   ·simp only[tx.uJ,tx.yK,List.length_append,List.length_take,List.length_drop,List.length_singleton];omega
 ·simp[tx.uJ,tx.kC]
theorem Nj(t:tx.T7)(n:S5):tx.uJ (tx.dw t n)<=tx.uJ t+1:=by
 unfold tx.dw;split
 ·split
  ·simp only[tx.uJ,tx.A8];omega
  ·split
   ·simp[tx.uJ,tx.kC]
   ·simp only[tx.uJ,tx.rP,List.length_append,List.length_take,List.length_drop,List.length_singleton];omega
 ·simp[tx.uJ,tx.kC]
theorem VW(k:C6)(t:tx.T7)(r:Int):tx.uJ (sP k t r)<=tx.uJ t+2:=by
 have h1:=Nj (tx.dL t (pM k t r)) (xW k t r);have h2:=Sg t (pM k t r);unfold sP;omega
theorem RL(k:C6)(hz:zm k<=1048576):zm (kg k)<=1048576:=by
 unfold kg;split
 ·exact hz
 ·simp[zm,zC,lens,wo.nM,wu.nM]
theorem Ku(k:C6)(y r:Int)(hz:zm k<=1048576):zm (iX k y r)<=1048576:=by
 unfold iX;split
 ·rename_i h0;obtain⟨hk,hi,-,-⟩:=uF h0;split
  ·have h:=QU.of hk;have h1:=sI List.length 3 (l:=k.f) (fun z hz=>(h.ps z hz).2);have h2:=sI (fun m=>JX m) 3000 (l:=k.aa) (fun m hm=>JY (h.ms m hm))
   have h3:=sI (fun t=>tx.uJ t) 26 (l:=k.c.set (iO k.c y) (sP k (eD k y) r)) (fun t ht=>by
    have e:∀t∈k.c,tx.uJ t<=24:=fun t ht=>by have:=h.ts t ht;unfold tx.uJ;omega
    rcases List.mem_or_eq_of_mem_set ht with h5|h5
    ·have:=e t h5;omega
    ·rw[h5];have h6:=VW k (eD k y) r;have h7:=e (eD k y) (List.mem_of_getElem? (ib hi))
     omega)
   have:=h.p;have:=h.m;have:=h.t;unfold zm lens wo.nM wu.nM lI;rw[List.length_set]at h3;simp only[List.length_set];omega
  ·exact hz
 ·exact RL k hz
end
namespace fnExactAlloc
open Go.Proofs.Tryz
open Go.ChangeShapes Go.WideShapes Go.ChangeAt Go.RowKit
theorem own:ownKnob prog.godebug=none:=by kernel_rfl
theorem laidOut:laidOutB prog=true:=by kernel_rfl
def gA(X:World)(N:C6)(o0:Int)(o1:Int)(e:Ending)(w':World):Prop:=∃(ra:OA) (rb:Nat) (rc:OA) (rd:Nat) (re:OA) (rf:Nat) (P:Nat->Prop),e=.returned (.tuple #[.agg #[vI N.v,vI N.q,.slice ra N.f.length rb,.slice rc N.aa.length rd,.slice re N.c.length rf,.bool N.w],vI o0,vI o1])/\cO.Ow w' X.1.size ra rb rc rd re rf N P/\Below X.1.size X w'
theorem J7(w:World)(zn:OA)(zq:Nat)(zu:OA)(zw:Nat)(zx:OA)(zy:Nat)(k:C6)(y:Int)(r:Int)(lk:cO.L k)(hk:cO.Rd w zn zq zu zw zx zy k)(Xz:HG w)(hg:zm k<=1048576):
  Calls prog 3 #[.agg #[vI k.v,vI k.q,.slice zn k.f.length zq,.slice zu k.aa.length zw,.slice zx k.c.length zy,.bool k.w],vI y,vI r] w fun e w'=>e=.returned (.bool true)/\Below w.1.size w w':=by
 have tk:Hid (cO.S k):=cO.S.of (by omega);obtain⟨N,hN⟩:∃N,N=iX k y r:=⟨_,rfl⟩
 obtain⟨o0,Ru⟩:∃z,z=jw k y r:=⟨_,rfl⟩
 obtain⟨o1,UX⟩:∃z,z=jv k y r:=⟨_,rfl⟩
 have A1:Hid (∀(X:World) (E8:OA) (E9:Nat) (Fa:OA) (Fb:Nat) (Fe:OA) (Ff:Nat),sN.Rd X E8 E9 Fa Fb Fe Ff k->HG X->Calls prog 5 #[.agg #[vI k.v,vI k.q,.slice E8 k.f.length E9,.slice Fa k.aa.length Fb,.slice Fe k.c.length Ff,.bool k.w],vI y,vI r] X (gA X N o0 o1)):=by
  rw[hN,Ru,UX];intro X E8 E9 Fa Fb Fe Ff h1 _;exact CL X E8 E9 Fa Fb Fe Ff k y r lk h1.1 h1.2
 have A2:Hid (∀(X:World) (E8:OA) (E9:Nat) (Fa:OA) (Fb:Nat) (Fe:OA) (Ff:Nat),sN.Rd X E8 E9 Fa Fb Fe Ff k->HG X->Calls prog 7 #[.agg #[vI k.v,vI k.q,.slice E8 k.f.length E9,.slice Fa k.aa.length Fb,.slice Fe k.c.length Ff,.bool k.w],vI y,vI r] X (gA X N o0 o1)):=by
  rw[hN,Ru,UX];intro X E8 E9 Fa Fb Fe Ff h1 hX;exact Co X E8 E9 Fa Fb Fe Ff k y r lk h1.1 hX
 have tN:Hid (cO.S N):=by
  rw[hN];exact cO.S.of (Ku k y r (by omega))
 have zN:Hid (zm N<=1048576):=by
  rw[hN];exact Ku k y r (by omega)
 clear hN Ru UX;have u9:(o0 != o0)=false:=by simp
 have vb:(o1 != o1)=false:=by simp
 obtain⟨U0,wz,DZ,Ii,gj⟩:=jU w (dR zn zq zu zw zx zy k) 26;have Fk:Hid (Bx U0 w.1.size (dR zn zq zu zw zx zy k)):=Ii;have Rk:Hid (cO.Rd U0 zn zq zu zw zx zy k):=(hk).later DZ;have Bw:Hid (Below w.1.size w U0):=DZ;have Z7:Hid (HG w):=Xz;clear Xz;have ZU:Hid (U0.1.size=w.1.size+1):=by unfold Hid;omega
 clear DZ Ii gj hk;have uK:Hid (Below U0.1.size U0 U0):=aN;go_enter func3,ntmps3;have dK:=(Fk.out.later uK.out)
 have p0:=dK.c6;clear dK;rw[wz]at p0;go_wp2_with fail;rw[<-wz];clear wz;refine(cO.sz U0 zn zq zu zw zx zy k lk (Rk.out.later uK.out)).mono ?_;rw[cz (by omega)];rintro e s1 ⟨rfl,Ui⟩;clear p0;have CY:Hid (Below U0.1.size U0 s1):=au uK.out Ui;have Ue:Hid (U0.1.size<=s1.1.size):=Ui.size;clear uK Ui;have g0:decide ((((1048576-zm k):Nat):Int)<0)=false:=by simp
 have dK:=(Fk.out.later CY.out)
 have p0:=dK.c6;clear dK;go_wp2_with fail;refine(sN.to s1 zn zq zu zw zx zy k tk.out (Rk.out.later CY.out)).mono ?_;rintro e t2 ⟨V9,Wh,Wi,Wj,Wl,Wm,_,rfl,oT,br⟩;have YV:=ay oT.sl;clear oT p0;have NF:Hid (Below U0.1.size U0 t2):=au CY.out br;have Ww:Hid (s1.1.size<=t2.1.size):=br.size;clear CY br;go_wp2_with fail;refine(A1.out t2 V9 Wh Wi Wj Wl Wm YV.out ((Z7.out.later Bw.out).later NF.out)).mono ?_;rintro e t3 ⟨VC,VD,VE,VF,VG,VH,Pw,rfl,ow,bs⟩;clear YV;obtain⟨vw,Yt⟩:∃X,X=t3.alloc (.cells #[vI N.v,vI N.q,.slice VC N.f.length VD,.slice VE N.aa.length VF,.slice VG N.c.length VH,.bool N.w] 32):=⟨_,rfl⟩
 have cm:Below t3.1.size t3 vw:=by rw[Yt];exact aN.alloc aU _
 have Fw:Hid (Bx vw t3.1.size (dR VC VD VE VF VG VH N)):=by rw[Yt];exact Bx.made t3 (dR VC VD VE VF VG VH N) _
 have Ow:Hid (cO.Ow vw t2.1.size VC VD VE VF VG VH N Pw):=ow.later cm;have ur:Hid (∀x,Pw x->x≠t3.1.size):=fun x hx=>by have:=(ow.of hx).2;omega
 obtain⟨qw,s8⟩:∃q,q=t3.1.size:=⟨_,rfl⟩
 have bb:Below t2.1.size t2 vw:=au bs cm;have Lw:Hid (t2.1.size<=t3.1.size):=bs.size;clear ow bs cm s8 qw;have Ke:Hid (Below U0.1.size U0 vw):=au NF.out bb;have WB:Hid (t2.1.size<=vw.1.size):=bb.size;clear NF bb;have Sy:Hid (Below vw.1.size vw vw):=aN;have dK:=(Fk.out.later Ke.out)
 have p0:=dK.c6;clear dK;rw[Yt]at p0;go_wp2_with fail;rw[<-Yt];clear Yt;refine(sN.to vw zn zq zu zw zx zy k tk.out (Rk.out.later Ke.out)).mono ?_;rintro e t4 ⟨vW,vX,vY,vZ,wh,wm,Xk,rfl,ox,bt⟩;clear p0;obtain⟨xk,Di⟩:∃X,X=t4.alloc (.cells #[vI k.v,vI k.q,.slice vW k.f.length vX,.slice vY k.aa.length vZ,.slice wh k.c.length wm,.bool k.w] 32):=⟨_,rfl⟩
 have cn:Below t4.1.size t4 xk:=by rw[Di];exact aN.alloc aU _
 have oY:Hid (Bx xk t4.1.size (dR vW vX vY vZ wh wm k)):=by rw[Di];exact Bx.made t4 (dR vW vX vY vZ wh wm k) _
 have Zl:Hid (sN.Ow xk vw.1.size vW vX vY vZ wh wm k Xk):=ox.later cn;have Zm:Hid (∀q,Xk q->vw.1.size<=q/\q<t4.1.size):=fun q hq=>ox.of hq
 have bb:Below vw.1.size vw xk:=au bt cn;have Wt:Hid (vw.1.size<=t4.1.size):=bt.size;have Wv:Hid (xk.1.size=t4.1.size+1):=by rw[Hid,Di];simp
 clear ox bt cn;have NG:Hid (Below U0.1.size U0 xk):=au Ke.out bb;have Sz:Hid (Below vw.1.size vw xk):=au Sy.out bb;have WC:Hid (vw.1.size<=xk.1.size):=bb.size;clear Ke Sy bb;have DR:Hid (Below xk.1.size xk xk):=aN;have Km:Hid (Below xk.1.size xk xk):=aN;have js:Hid (sN.Rd xk vW vX vY vZ wh wm k):=(Zl.out.later DR.out).sl;have Wo:Hid (Bx xk t4.1.size (dR vW vX vY vZ wh wm k)):=oY.out.later DR.out;have dK:=(Wo.out.later Km.out)
 have nw:=dK.c6;clear dK;rw[Di]at nw;go_wp2_with fail;rw[<-Di];clear Di;refine(A2.out xk vW vX vY vZ wh wm (js.out.later Km.out) ((Z7.out.later Bw.out).later NG.out)).mono ?_;rintro e t5 ⟨Jn,Jo,Jp,Jq,Jr,Js,Pg,rfl,og,cf⟩;clear nw;obtain⟨vg,Yq⟩:∃X,X=t5.alloc (.cells #[vI N.v,vI N.q,.slice Jn N.f.length Jo,.slice Jp N.aa.length Jq,.slice Jr N.c.length Js,.bool N.w] 32):=⟨_,rfl⟩
 have cg:Below t5.1.size t5 vg:=by rw[Yq];exact aN.alloc aU _
 have Fg:Hid (Bx vg t5.1.size (dR Jn Jo Jp Jq Jr Js N)):=by rw[Yq];exact Bx.made t5 (dR Jn Jo Jp Jq Jr Js N) _
 have Og:Hid (cO.Ow vg xk.1.size Jn Jo Jp Jq Jr Js N Pg):=og.later cg;have pk:Hid (∀x,Pg x->x≠t5.1.size):=fun x hx=>by have:=(og.of hx).2;omega
 obtain⟨qg,s6⟩:∃q,q=t5.1.size:=⟨_,rfl⟩
 have bb:Below xk.1.size xk vg:=au cf cg;have Lg:Hid (xk.1.size<=t5.1.size):=cf.size;clear og cf cg s6 qg;have Su:Hid (Below U0.1.size U0 vg):=au NG.out bb;have Kk:Hid (Below vw.1.size vw vg):=au Sz.out bb;have NN:Hid (Below xk.1.size xk vg):=au DR.out bb;have SA:Hid (Below xk.1.size xk vg):=au Km.out bb;have Wz:Hid (xk.1.size<=vg.1.size):=bb.size;clear NG Sz DR Km bb;have Kn:Hid (Below vg.1.size vg vg):=aN;have dK:=(Fg.out.later Kn.out)
 have g0:=dK.c6;clear dK;have dK:=(Fw.out.later Kk.out)
 have y0:=dK.c6;clear dK;rw[Yq]at g0 y0;go_wp2_with fail;rw[<-Yq];clear Yq;refine(cO.eq vg Jn Jo Jp Jq Jr Js VC VD VE VF VG VH N tN.out (Og.out.sl.later Kn.out) (Ow.out.sl.later Kk.out)).mono ?_;rintro e t6 ⟨rfl,Uk⟩;clear g0 y0;have Kc:Hid (Below U0.1.size U0 t6):=au Su.out Uk;have Sw:Hid (Below vw.1.size vw t6):=au Kk.out Uk;have NM:Hid (Below xk.1.size xk t6):=au NN.out Uk;have Fx:Hid (Below xk.1.size xk t6):=au SA.out Uk;have SB:Hid (Below vg.1.size vg t6):=au Kn.out Uk;have Wx:Hid (vg.1.size<=t6.1.size):=Uk.size;clear Su Kk NN SA Kn Uk;go_upto_region 10 with fail
 go_cut[63]from 59 to 63 (fun s0 wx=>s0=.bool false/\Below t6.1.size t6 wx)
 case first=>
  have bd:Below t6.1.size t6 t6.drew:=aN.drew;have dK:=(Fk.out.later (au Kc.out bd))
  have p0:=dK.c6;clear dK;have dK:=(Wo.out.later (au Fx.out bd))
  have e0:=dK.1 0 _ rfl;have e1:=dK.1 1 _ rfl;have e2:=dK.1 2 _ rfl;have e3:=dK.1 3 _ rfl;have e4:=dK.1 4 _ rfl;have e5:=dK.1 5 _ rfl;clear dK;have WI:t4.1.size<t6.drew.1.size:=(Wo.out.later (au Fx.out bd)).2.2;have sx:Hid (sN.Rd t6.drew vW vX vY vZ wh wm k):=js.out.later (au Fx.out bd);have KB:=ay bd;have ra:=Rk.out.later (au Kc.out bd);clear bd
  go_region_with (first
   | (go_at_call 6
      refine(sN.to t6.drew zn zq zu zw zx zy k tk.out ra).mono ?_;rintro e w8 ⟨Zb,Zc,Zd,Ze,Zf,Zg,_,rfl,o8,b8⟩;have vi:w8.cell? ⟨t4.1.size,0,none⟩=some (vI k.v):=(b8.cell (p:=⟨t4.1.size,0,none⟩) WI).trans e0;have vj:w8.cell? ⟨t4.1.size,1,none⟩=some (vI k.q):=(b8.cell (p:=⟨t4.1.size,1,none⟩) WI).trans e1;have e2':w8.cell? ⟨t4.1.size,2,none⟩=some (.slice vW k.f.length vX):=(b8.cell (p:=⟨t4.1.size,2,none⟩) WI).trans e2;have e3':w8.cell? ⟨t4.1.size,3,none⟩=some (.slice vY k.aa.length vZ):=(b8.cell (p:=⟨t4.1.size,3,none⟩) WI).trans e3;have e4':w8.cell? ⟨t4.1.size,4,none⟩=some (.slice wh k.c.length wm):=(b8.cell (p:=⟨t4.1.size,4,none⟩) WI).trans e4;have e5':w8.cell? ⟨t4.1.size,5,none⟩=some (.bool k.w):=(b8.cell (p:=⟨t4.1.size,5,none⟩) WI).trans e5;have S8:Hid (sN.Rd w8 vW vX vY vZ wh wm k/\sN.Rd w8 Zb Zc Zd Ze Zf Zg k/\Below t6.1.size t6 w8):=⟨sx.out.later b8,o8.sl,au KB.out b8⟩
      clear o8 b8)
   | (go_at_call 8
      refine(sN.eq w8 vW vX vY vZ wh wm Zb Zc Zd Ze Zf Zg k tk.out S8.out.1 S8.out.2.1).mono ?_
      rintro e w9 ⟨rfl,b9⟩))
  all_goals (
   go_wp2_with fail;go_meet
   exact⟨rfl,au S8.out.2.2 b9⟩)
 case rest=>
 obtain⟨rfl,bx⟩:=hcut;generalize wc=t7 at *;have Xa:Hid (Below U0.1.size U0 t7):=au Kc.out bx;have Xc:Hid (Below vw.1.size vw t7):=au Sw.out bx;have TQ:Hid (Below xk.1.size xk t7):=au NM.out bx;have Xe:Hid (Below xk.1.size xk t7):=au Fx.out bx;have SC:Hid (Below vg.1.size vg t7):=au SB.out bx;have Wy:Hid (t6.1.size<=t7.1.size):=bx.size;clear Kc Sw NM Fx SB bx;have Zl:Hid (sN.Ow t7 _ vW vX vY vZ wh wm k Xk):=Zl.out.later TQ.out;have Wo:Hid (Bx t7 t4.1.size (dR vW vX vY vZ wh wm k)):=Wo.out.later Xe.out;have Og:Hid (cO.Ow t7 xk.1.size Jn Jo Jp Jq Jr Js N Pg):=Og.out.later SC.out;have Fg:Hid (Bx t7 t5.1.size (dR Jn Jo Jp Jq Jr Js N)):=Fg.out.later SC.out;have k0:Hid ((0:Int)<=1/\(1:Int)<=1):=by unfold Hid;omega
 have dK:=Wo.out;have e0:=dK.1 0 _ rfl;have e1:=dK.1 1 _ rfl;have e2:=dK.1 2 _ rfl;have e3:=dK.1 3 _ rfl;have e4:=dK.1 4 _ rfl;have e5:=dK.1 5 _ rfl;clear dK;have qc:=sN.mark t7 _ vW vX vY vZ wh wm k Xk 1 (by have:=k0.out;omega) (by have:=k0.out;omega) (by omega) tk.out Zl.out;obtain⟨E0,cW⟩:∃z,z=(qN k 1):=⟨_,rfl⟩
 rw[<-cW]at qc
 have k1:Hid ((0:Int)<=E0/\E0<=300000000):=by
  rw[cW];have:=k0.out;have e1:=KI k;unfold qN;refine⟨by omega,by omega⟩
 clear cW;have dE:decide (E0<0)=false:=by have:=k1.out;simp;omega
 go_wp2_with fail;refine qc.mono ?_;clear qc e0 e1 e2 e3 e4 e5;rintro e t8 ⟨rfl,kp⟩;have Sr:Hid (Below U0.1.size U0 t8):=KG Xa.out kp (fun q hq=>by have:=ZU.out;have:=Ue.out;have:=Ww.out;have:=Lw.out;have:=WB.out;have:=Wt.out;have:=Wv.out;have:=WC.out;have:=Lg.out;have:=Wz.out;have:=Wx.out;have:=Wy.out;have:=(Zm.out q hq).1;omega);have Kj:Hid (Below vw.1.size vw t8):=KG Xc.out kp (fun q hq=>by have:=ZU.out;have:=Ue.out;have:=Ww.out;have:=Lw.out;have:=WB.out;have:=Wt.out;have:=Wv.out;have:=WC.out;have:=Lg.out;have:=Wz.out;have:=Wx.out;have:=Wy.out;have:=(Zm.out q hq).1;omega);have Og:Hid (cO.Ow t8 xk.1.size Jn Jo Jp Jq Jr Js N Pg):=Og.out.aL kp.size (fun q hq=>kp.block q (Og.out.of hq).2 (fun e=>by have:=ZU.out;have:=Ue.out;have:=Ww.out;have:=Lw.out;have:=WB.out;have:=Wt.out;have:=Wv.out;have:=WC.out;have:=Lg.out;have:=Wz.out;have:=Wx.out;have:=Wy.out;have:=(Zm.out q e).2;have:=(Og.out.of hq).1;omega));have Fg:Hid (Bx t8 t5.1.size (dR Jn Jo Jp Jq Jr Js N)):=Fg.out.aj (kp.block _ Fg.out.2.2 (fun e=>by have:=ZU.out;have:=Ue.out;have:=Ww.out;have:=Lw.out;have:=WB.out;have:=Wt.out;have:=Wv.out;have:=WC.out;have:=Lg.out;have:=Wz.out;have:=Wx.out;have:=Wy.out;have:=(Zm.out _ e).2;omega)) kp.size;have jt:Hid (t7.1.size<=t8.1.size):=kp.size;clear kp;have Ko:Hid (Below t8.1.size t8 t8):=aN;have dK:=(Fg.out.later Ko.out)
 have g0:=dK.c6;clear dK;have dK:=(Fw.out.later Kj.out)
 have y0:=dK.c6;clear dK;go_wp2_with fail;refine(cO.eq t8 Jn Jo Jp Jq Jr Js VC VD VE VF VG VH N tN.out (Og.out.sl.later Ko.out) (Ow.out.sl.later Kj.out)).mono ?_;rintro e t9 ⟨rfl,Xw⟩;clear g0 y0;have Xb:Hid (Below U0.1.size U0 t9):=au Sr.out Xw;have Xd:Hid (Below vw.1.size vw t9):=au Kj.out Xw;have Fy:Hid (Below t8.1.size t8 t9):=au Ko.out Xw;have ju:Hid (t8.1.size<=t9.1.size):=Xw.size;clear Sr Kj Ko Xw;have qc:=cO.YF t9 xk.1.size Jn Jo Jp Jq Jr Js N Pg 1 (by omega) (by omega) zN.out tN.out (Og.out.later Fy.out);have HH:Hid (∀X,cO.Rd X Jn Jo Jp Jq Jr Js (Tz N 1)->Calls prog 10 #[.agg #[vI N.v,vI N.q,.slice Jn N.f.length Jo,.slice Jp N.aa.length Jq,.slice Jr N.c.length Js,.bool N.w],vI 1] X fun e w'=>e=.returned (vI (qN N 1))/\Below X.1.size X w'):=fun X hX=>cO.held X Jn Jo Jp Jq Jr Js N 1 (by omega) (by omega) zN.out tN.out hX
 obtain⟨G,hG⟩:∃z,z=(qN N 1):=⟨_,rfl⟩
 rw[<-hG]at qc HH
 have dG:decide (G<0)=false:=by
  rw[hG];unfold qN;simp;omega
 have dH:(G != G)=false:=by simp
 clear hG;have dK:=(Fg.out.later Fy.out)
 have g0:=dK.c6;clear dK;go_wp2_with fail;refine qc.mono ?_;clear qc g0;rintro e t10 ⟨rfl,kp,om⟩;have NC:Hid (Below U0.1.size U0 t10):=KG Xb.out kp (fun q hq=>by have:=ZU.out;have:=Ue.out;have:=Ww.out;have:=Lw.out;have:=WB.out;have:=Wt.out;have:=Wv.out;have:=WC.out;have:=Lg.out;have:=Wz.out;have:=Wx.out;have:=Wy.out;have:=jt.out;have:=ju.out;have:=(Og.out.of hq).1;omega);have NI:Hid (Below vw.1.size vw t10):=KG Xd.out kp (fun q hq=>by have:=ZU.out;have:=Ue.out;have:=Ww.out;have:=Lw.out;have:=WB.out;have:=Wt.out;have:=Wv.out;have:=WC.out;have:=Lg.out;have:=Wz.out;have:=Wx.out;have:=Wy.out;have:=jt.out;have:=ju.out;have:=(Og.out.of hq).1;omega);have Fg:Hid (Bx t10 t5.1.size (dR Jn Jo Jp Jq Jr Js N)):=(Fg.out.later Fy.out).aj (kp.block _ (Fg.out.later Fy.out).2.2 (fun e=>pk.out _ e rfl)) kp.size;have Om:=ay om;have pw:Hid (t9.1.size<=t10.1.size):=kp.size;clear kp om Fy;have yY:Hid (Below t10.1.size t10 t10):=aN;have dK:=(Fg.out.later yY.out)
 have g0:=dK.c6;clear dK;go_wp2_with fail;refine(HH.out t10 (Om.out.later yY.out)).mono ?_;rintro e t11 ⟨rfl,NY⟩;clear g0;have DL:Hid (Below U0.1.size U0 t11):=au NC.out NY;have NJ:Hid (Below vw.1.size vw t11):=au NI.out NY;have Kg:Hid (Below t10.1.size t10 t11):=au yY.out NY;have px:Hid (t10.1.size<=t11.1.size):=NY.size;clear NC NI yY NY;have dK:=(Fk.out.later DL.out)
 have p0:=dK.c6;clear dK;go_wp2_with fail;refine(sN.to t11 zn zq zu zw zx zy k tk.out (Rk.out.later DL.out)).mono ?_;rintro e t12 ⟨V9,Wh,Wi,Wj,Wl,Wm,_,rfl,oT,NZ⟩;have YV:=ay oT.sl;clear oT p0;have Ir:Hid (Below U0.1.size U0 t12):=au DL.out NZ;have NK:Hid (Below vw.1.size vw t12):=au NJ.out NZ;have Kh:Hid (Below t10.1.size t10 t12):=au Kg.out NZ;have py:Hid (t11.1.size<=t12.1.size):=NZ.size;clear DL NJ Kg NZ;go_wp2_with fail;refine(A2.out t12 V9 Wh Wi Wj Wl Wm YV.out ((Z7.out.later Bw.out).later Ir.out)).mono ?_;rintro e t13 ⟨YI,YJ,YK,YL,YM,YN,Ph,rfl,oh,Uj⟩;clear YV;obtain⟨vh,Yr⟩:∃X,X=t13.alloc (.cells #[vI N.v,vI N.q,.slice YI N.f.length YJ,.slice YK N.aa.length YL,.slice YM N.c.length YN,.bool N.w] 32):=⟨_,rfl⟩
 have cj:Below t13.1.size t13 vh:=by rw[Yr];exact aN.alloc aU _
 have Fh:Hid (Bx vh t13.1.size (dR YI YJ YK YL YM YN N)):=by rw[Yr];exact Bx.made t13 (dR YI YJ YK YL YM YN N) _
 have Oh:Hid (cO.Ow vh t12.1.size YI YJ YK YL YM YN N Ph):=oh.later cj;have ue:Hid (∀x,Ph x->x≠t13.1.size):=fun x hx=>by have:=(oh.of hx).2;omega
 obtain⟨qh,s7⟩:∃q,q=t13.1.size:=⟨_,rfl⟩
 have bb:Below t12.1.size t12 vh:=au Uj cj;have Lh:Hid (t12.1.size<=t13.1.size):=Uj.size;clear oh Uj cj s7 qh;have Sv:Hid (Below U0.1.size U0 vh):=au Ir.out bb;have Kl:Hid (Below vw.1.size vw vh):=au NK.out bb;have NH:Hid (Below t10.1.size t10 vh):=au Kh.out bb;have uv:Hid (t12.1.size<=vh.1.size):=bb.size;clear Ir NK Kh bb;have DN:Hid (Below vh.1.size vh vh):=aN;have dK:=(Fh.out.later DN.out)
 have g0:=dK.c6;clear dK;have dK:=(Fw.out.later Kl.out)
 have y0:=dK.c6;clear dK;rw[Yr]at g0 y0;go_wp2_with fail;rw[<-Yr];clear Yr;refine(cO.eq vh YI YJ YK YL YM YN VC VD VE VF VG VH N tN.out (Oh.out.sl.later DN.out) (Ow.out.sl.later Kl.out)).mono ?_;rintro e t14 ⟨rfl,LW⟩;clear g0 y0;have ND:Hid (Below U0.1.size U0 t14):=au Sv.out LW;have NL:Hid (Below vw.1.size vw t14):=au Kl.out LW;have yZ:Hid (Below t10.1.size t10 t14):=au NH.out LW;have Ki:Hid (Below vh.1.size vh t14):=au DN.out LW;have pA:Hid (vh.1.size<=t14.1.size):=LW.size;clear Sv Kl NH DN LW;have dK:=(Fg.out.later yZ.out)
 have g0:=dK.c6;clear dK;go_wp2_with fail;refine(HH.out t14 (Om.out.later yZ.out)).mono ?_;rintro e t15 ⟨rfl,LX⟩;clear g0;have TN:Hid (Below U0.1.size U0 t15):=au ND.out LX;have ZX:Hid (Below vw.1.size vw t15):=au NL.out LX;have Zh:Hid (Below t10.1.size t10 t15):=au yZ.out LX;have Zi:Hid (Below vh.1.size vh t15):=au Ki.out LX;have pB:Hid (t14.1.size<=t15.1.size):=LX.size;clear ND NL yZ Ki LX;go_wp2;go_ret;exact⟨rfl,au Bw.out TN.out⟩
theorem Ih(w:World)(zn:OA)(zq:Nat)(zu:OA)(zw:Nat)(zx:OA)(zy:Nat)(k:C6)(y:Int)(r:Int)(lk:cO.L k)(hk:cO.Rd w zn zq zu zw zx zy k)(_:HG w)(hg:¬zm k<=1048576):
  Calls prog 3 #[.agg #[vI k.v,vI k.q,.slice zn k.f.length zq,.slice zu k.aa.length zw,.slice zx k.c.length zy,.bool k.w],vI y,vI r] w fun e w'=>e=.returned (.bool true)/\Below w.1.size w w':=by
 obtain⟨U0,wz,DZ,Ii,gj⟩:=jU w (dR zn zq zu zw zx zy k) 26;have Fk:Hid (Bx U0 w.1.size (dR zn zq zu zw zx zy k)):=Ii;have Rk:Hid (cO.Rd U0 zn zq zu zw zx zy k):=(hk).later DZ;have Bw:Hid (Below w.1.size w U0):=DZ;have ZU:Hid (U0.1.size=w.1.size+1):=by unfold Hid;omega
 clear DZ Ii gj hk;have uK:Hid (Below U0.1.size U0 U0):=aN;go_enter func3,ntmps3;have dK:=(Fk.out.later uK.out)
 have p0:=dK.c6;clear dK;rw[wz]at p0;go_wp2_with fail;rw[<-wz];clear wz;refine(cO.sz U0 zn zq zu zw zx zy k lk (Rk.out.later uK.out)).mono ?_;rw[bL (by omega)];rintro e s1 ⟨rfl,Ui⟩;clear p0;have CY:Hid (Below U0.1.size U0 s1):=au uK.out Ui;have Ue:Hid (U0.1.size<=s1.1.size):=Ui.size;clear uK Ui;go_wp2;go_ret;exact⟨rfl,au Bw.out CY.out⟩
theorem walk(w:World)(zn:OA)(zq:Nat)(zu:OA)(zw:Nat)(zx:OA)(zy:Nat)(k:C6)(y:Int)(r:Int)(lk:cO.L k)(hk:cO.Rd w zn zq zu zw zx zy k)(Xz:HG w):
  Calls prog 3 #[.agg #[vI k.v,vI k.q,.slice zn k.f.length zq,.slice zu k.aa.length zw,.slice zx k.c.length zy,.bool k.w],vI y,vI r] w fun e w'=>e=.returned (.bool true)/\Below w.1.size w w':=by
 by_cases g0:zm k<=1048576
 case neg=>exact Ih w zn zq zu zw zx zy k y r lk hk Xz g0
 exact J7 w zn zq zu zw zx zy k y r lk hk Xz g0
end fnExactAlloc
namespace fnExactAlloc
open Go.Proofs.Tryz
open Go.ChangeShapes Go.WideShapes Go.ChangeAt Go.RowKit
theorem pP:prog.globalNamed "errors.errorType"=some 0:=by kernel_rfl
theorem tv:(prog.cutTypes.find? (·.1 == "internal/reflectlite.rtype")).map (·.2)=some 241:=by kernel_rfl
theorem VJ:((List.range 352).filter fun t=>prog.rowNamed t [101,114,114,111,114])=[152]:=by kernel_rfl
theorem Y9:prog.types.size=352:=by kernel_rfl
theorem zP{W:World}(h:laidMetH prog Rows.fnExactAllocRow.laid W):HG W:=by
 have h':laidMet prog [] W/\handlesMet prog Rows.fnExactAllocRow.laid W:=h;obtain⟨name,u,ty,e1,e2,e3,e4,e5⟩:=h'.2 _ (List.mem_singleton.2 rfl);have en:name=[101,114,114,111,114]:=(Option.some.inj e1).symm;subst en;obtain rfl:=Option.some.inj (tv.symm.trans e2);have hm:ty∈(List.range 352).filter fun t=>prog.rowNamed t [101,114,114,111,114]:=List.mem_filter.2 ⟨List.mem_range.2 (by rw[<-Y9];exact e3),e4⟩
 rw[VJ]at hm;obtain rfl:=List.mem_singleton.1 hm;have hh:typeHandle prog 152=.pointer (some ⟨1,152,none⟩):=by kernel_rfl
 rw[hh]at e5;simpa[HG]using World.var?_cell pP e5 0
noncomputable def Dq(os:Os):World:=
 let w0:=World.holding prog os ⟨#[],#[],[]⟩
 { w0 with heap:=w0.1.modify 0 fun
   | .cells _ t frozen=>.cells #[.iface 241 (.agg #[.pointer (some ⟨1,152,none⟩)])] t frozen
   | o=>o }
theorem Cv(os:Os)(args:Array Value):laidMetH prog Rows.fnExactAllocRow.laid ((Dq os).forCall (fun _ _=>0) ⟨#[],args,[]⟩).memory:=
 laidMetH_of_parts (laidMet_nil _ _) (by kernel_rfl)
theorem lifted(os:Os)(started:os.Started)(H:Type)(enc:TypeId×Value->H):
  ReturnsInHanded {} Tryz.checked os 3 .any (fun w args=>(Rows.fnExactAllocSpec.pre enc prog Tryz.f3 [] false w args/\laidMetH prog Rows.fnExactAllocRow.laid w)/\sizedMet enc prog Tryz.f3 (OpenSpec.ofChange Rows.fnExactAllocSpec) false w args)
   (Rows.fnExactAllocSpec.post enc prog Tryz.f3 false true false false):=by
 refine returnsInHanded_of_change_and (C:=Tryz.checked) (X:=fun w _=>laidMetH prog Rows.fnExactAllocRow.laid w) (fun _ _ _ hh h=>h.of_heap hh) own started (by kernel_rfl) func3
  (ChangeSpec.witness_at (enc:=enc) (C:=Tryz.checked) (os:=os) (X:=fun w _=>laidMetH prog Rows.fnExactAllocRow.laid w) false (Dq os) #[.agg #[vI 0,vI 0,.slice none 0 0,.slice none 0 0,.slice none 0 0,.bool false],vI 0,vI 0] 8 rfl (by kernel_rfl) (by kernel_rfl) (by kernel_rfl) (by kernel_rfl) (by kernel_rfl) (Cv os _)) ?_
 intro W base args ds gs before Tj hW _ _ hL _;have Ry:∀(j:Nat) t v,Tryz.f3.params[j]?=some t->args[j]?=some v->Value.okWide prog W .any base t v:=Tj;have WJ:=hW;obtain⟨p,q,kh,hV,rfl,vx,WR⟩:=hW;have hA:DataW.TrodAll enc prog W 0 (fun _=>true) true Tryz.f3.params.toList args.toList ds p:=kh;rw[params3]at hA Ry;obtain⟨v0,wi,d0,ds0,p0,q0,kO,rfl,rfl,h0,r0⟩:=trodAll_cons hA;obtain⟨v1,vs1,d1,ds1,p1,q1,rfl,rfl,rfl,h1,r1⟩:=trodAll_cons r0;obtain⟨v2,vs2,d2,vf,p2,q2,rfl,rfl,rfl,h2,r2⟩:=trodAll_cons r1;obtain⟨rfl,rfl,rfl⟩:=trodAll_nil r2;obtain rfl:args=#[v0,v1,v2]:=by cases args;simp_all
 obtain⟨rfl,rfl⟩:=trodVars_none hV;obtain⟨cs0,rfl,rK⟩:=okWide_struct underlying26 (Ry 0 26 v0 rfl rfl);have k0:=h0;have ti:∀x∈p0,x.block<W.1.size:=by obtain⟨n,hn⟩:=k0;exact DataW.trod_lt n _ _ _ hn
 obtain⟨zn,zq,zu,zw,zx,zy,k,rfl,hk,lk⟩:∃(a1:OA) (c1:Nat) (a2:OA) (c2:Nat) (a3:OA) (c3:Nat) (m:C6),cs0=#[vI m.v,vI m.q,.slice a1 m.f.length c1,.slice a2 m.aa.length c2,.slice a3 m.c.length c3,.bool m.w]/\cO.Rd W a1 c1 a2 c2 a3 c3 m/\cO.L m:=by
  obtain⟨fuel,hf⟩:=h0;obtain⟨a1,c1,a2,c2,a3,c3,m,e,hs,hl⟩:=oc.EE hf;exact⟨a1,c1,a2,c2,a3,c3,m,by cases cs0;simpa[Value.cells]using e,hs,hl⟩
 obtain⟨y,rfl,rfl,rfl,w1⟩:=open_int underlying2 (Ry 1 2 v1 rfl rfl) h1;obtain⟨r,rfl,rfl,rfl,w2⟩:=open_int underlying2 (Ry 2 2 v2 rfl rfl) h2;clear kh Tj;refine(walk W zn zq zu zw zx zy k y r lk hk (zP hL)).mono fun e W' ⟨he,yu⟩=>?_
 subst he;exact⟨_,rfl,_,_,_,[],_,[],WJ,trodAll_mk1 (shut_bool underlying4 _),(trodAll_cons_mk (Below.trod laidOut (by kernel_rfl) (of_decide_eq_true (by kernel_rfl)) k0 yu ti) (trodAll_cons_mk (shut_int underlying2 w1) (trodAll_cons_mk (shut_int underlying2 w2) trodAll_mk0))),rfl,yu.frame _,fun h=>by cases h⟩
end fnExactAlloc
end Go.Proofs.YtajmlpgodcfghaaGreatDoor
