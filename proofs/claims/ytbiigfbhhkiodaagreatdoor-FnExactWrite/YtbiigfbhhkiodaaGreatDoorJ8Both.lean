import Derived.Test.YtbiigfbhhkiodaaGreatDoorJ7Both
set_option maxHeartbeats 16000000
set_option maxRecDepth 100000
namespace Go.Proofs.YtbiigfbhhkiodaaGreatDoor
open Go.RowKit
open Go.Sort (grow)
section
open Go.Proofs.Tryz
variable {k:C6}{r s:Int}{t:tx.T7}
noncomputable def qH(k:C6)(t:tx.T7)(r s:Int):Int:=if DU k r s=0 then(if yU k t r s=0 then(if GG k t r s=true then 0 else 8)else yU k t r s)else 5
noncomputable def u7(k:C6)(t:tx.T7)(r s:Int):tx.T7:=if DU k r s=0 then(if yU k t r s=0 then wM k t r s else t)else t
noncomputable def yt(k:C6)(t:tx.T7)(r s:Int):Int:=if qH k t r s=0 then Nq k t r s else 0
def Sq(w:World)(v:tx.TV)(t N:tx.T7)(x n:Int)(e:Ending)(w':World):Prop:=∃u:tx.TV,e=.returned (.tuple #[u.val N,vI x,vI n])/\Below w.1.size w w'/\((u=v/\N=t)\/∃PR PS,tx.OT w' w.1.size u N PR PS)/\N.ai.length<=u.ch
structure SY(w X:World)(a1:OA)(c1:Nat)(a2:OA)(c2:Nat)(a3:OA)(c3:Nat)(k:C6)(v:tx.TV)(t:tx.T7):Prop where
 uU:Below w.1.size w X
 bc:Bx X w.1.size (dU a1 c1 a2 c2 a3 c3 k)
 bt:Bx X (w.1.size+1) (tx.jJ v.ar v.cr v.ah v.ch t)
 bz:Bx X (w.1.size+2) DV
 rd:df.Rd X a1 c1 a2 c2 a3 c3 k
 sl:tx.uA X v t
 sz:w.1.size+3<=X.1.size
theorem SY.later{w X Y:World}{a1:OA}{c1:Nat}{a2:OA}{c2:Nat}{a3:OA}{c3:Nat}{v:tx.TV}(h:SY w X a1 c1 a2 c2 a3 c3 k v t)(b:Below X.1.size X Y):SY w Y a1 c1 a2 c2 a3 c3 k v t:=⟨au h.uU b,h.bc.later b,h.bt.later b,h.bz.later b,h.rd.later b,h.sl.later b,Nat.le_trans h.sz b.size⟩
def cE(w X:World)(a1:OA)(c1:Nat)(a2:OA)(c2:Nat)(a3:OA)(c3:Nat)(k:C6)(v:tx.TV)(t:tx.T7)(r s:Int)(u:tx.TV)(N:tx.T7)(j:Nat):Prop:=SY w X a1 c1 a2 c2 a3 c3 k u N/\u7 k t r s=N/\qH k t r s=(if (tx.aH N.a j).j=true then 0 else 8)/\yt k t r s=(if (tx.aH N.a j).j=true then(tx.aH N.a j).g else 0)/\((u=v/\N=t)\/∃PR PS,tx.OT X w.1.size u N PR PS/\∀q,tx.lZ PR PS q->w.1.size+3<=q)/\j<N.a.length/\N.a.length<=1000/\N.ai.length<=u.ch/\∃b off,u.ar=some ⟨b,off,none⟩/\b≠w.1.size+2/\tx.dK X b off N.a
theorem Lf{m:M4}(h:fF m=true):∀c∈m.ag,gM c.cells=true:=by
 simp only[fF,Bool.and_eq_true,decide_eq_true_eq]at h;obtain⟨⟨⟨⟨⟨h1,h2⟩,h3⟩,_⟩,h4⟩,h5⟩:=h;intro c hc;obtain⟨i,hi,rfl⟩:=List.getElem_of_mem hc;have:=List.all_eq_true.1 h4 i (List.mem_range.2 hi);simp only[ou,dX,List.getElem?_eq_getElem hi,Option.getD_some,Bool.and_eq_true]at this;exact this.1.2
theorem tx.Ho(t:tx.T7)(n:tx.N5):(tx.dR t n).a.length<=t.a.length+1:=by
 unfold tx.dR;split
 ·split
  ·omega
  ·split
   ·simp[tx.kg]
   ·simp only[tx.oF,List.length_append,List.length_take,List.length_drop,List.length_singleton];omega
 ·simp[tx.kg]
theorem Na(h:DU k r s=0):qH k t r s=(if yU k t r s=0 then(if GG k t r s=true then 0 else 8)else yU k t r s)/\u7 k t r s=(if yU k t r s=0 then wM k t r s else t):=⟨if_pos h,if_pos h⟩
theorem Rx{n:Int}(h:DU k r s=0)(h2:yU k t r s=n)(hn:n≠0):u7 k t r s=t/\yt k t r s=0/\qH k t r s=n:=by
 have h3:qH k t r s=n:=by rw[(Na h).1,h2,if_neg hn]
 exact⟨by rw[(Na h).2,h2,if_neg hn],by rw[yt,h3,if_neg hn],h3⟩
theorem LA{N:tx.T7}{x:Int}{u:Bool}(h:DU k r s=0)(h2:yU k t r s=0)(h3:wM k t r s=N)(h4:GG k t r s=u)(h5:Nq k t r s=x):u7 k t r s=N/\yt k t r s=(if u=true then x else 0)/\qH k t r s=(if u=true then 0 else 8):=by
 have h6:qH k t r s=(if u=true then 0 else 8):=by rw[(Na h).1,if_pos h2,h4]
 refine⟨by rw[(Na h).2,if_pos h2,h3],?_,h6⟩;rw[yt,h6,h5]
 cases u<;>simp
theorem Co(w:World)(a1:OA)(c1:Nat)(a2:OA)(c2:Nat)(a3:OA)(c3:Nat)(k:C6)(v:tx.TV)(t:tx.T7)(r s:Int)(hk:aD k=true)(hl:df.L k)(h:df.Rd w a1 c1 a2 c2 a3 c3 k)(TM:tx.TL t)(hT:tx.kv t=true)(hs:tx.uA w v t)(hc:t.a.length<=v.cr)(sJ:t.ai.length<=v.ch):
  Calls prog 48 #[.agg #[vI k.v,vI k.u,.slice a1 k.f.length c1,.slice a2 k.aa.length c2,.slice a3 k.c.length c3,.bool k.w],.agg #[vI t.id,vI t.l,vI t.o,vI t.q,.slice v.ar t.a.length v.cr,.slice v.ah t.ai.length v.ch,vI t.az],vI r,vI s] w (Sq w v t (u7 k t r s) (yt k t r s) (qH k t r s)):=by
 obtain⟨U0,kN,lD,nO,sM⟩:=iI w (dU a1 c1 a2 c2 a3 c3 k) 32;obtain⟨U1,uN,vH,zI,Gx⟩:=iI U0 (tx.jJ v.ar v.cr v.ah v.ch t) 91;obtain⟨U2,Iq,FQ,Px,UE⟩:=iI U1 DV 91;have hU:U2=((w.alloc (.cells #[vI k.v,vI k.u,.slice a1 k.f.length c1,.slice a2 k.aa.length c2,.slice a3 k.c.length c3,.bool k.w] 32)).alloc (.cells #[vI t.id,vI t.l,vI t.o,vI t.q,.slice v.ar t.a.length v.cr,.slice v.ah t.ai.length v.ch,vI t.az] 91)).alloc (.cells #[vI 0,vI 0,vI 0,vI 0,.slice none 0 0,.slice none 0 0,vI 0] 91):=by rw[Iq,uN,kN]
 have bU:=au (au lD vH) FQ;have z1:U1.1.size=w.1.size+2:=by rw[Gx,sM]
 have x0:=(nO.later vH).later FQ;have x1:=zI.later FQ;rw[sM]at x1;rw[z1]at Px;have HS:Hid (SY w U2 a1 c1 a2 c2 a3 c3 k v t):=⟨bU,x0,x1,Px,h.later bU,hs.later bU,by rw[UE,z1];omega⟩
 have HK:=xZ hk hl TM hT hc ((tx.gG hT).1) ((tx.gG hT).2) (And.intro hs h);have Hm:=af sJ;have Zv:=hl.p;unfold maxLen at Zv;have p2:=x0.1 2 _ rfl;rw[hU]at p2;have Ob:=fw U2 r 0 ((k.f.length:Int)-1);clear kN uN Iq lD vH FQ nO zI Px sM Gx UE bU z1 x0 x1 h hs hk hl TM hT hc sJ;clear U0 U1;go_enter func48,ntmps48;go_wp2_with fail;rw[<-hU];clear hU p2;refine Ob.mono ?_;clear Ob;rintro e w9 ⟨rfl,oD⟩;replace oD:=oD.symm;subst oD;by_cases hI:aW 0 ((k.f.length:Int)-1) r=true;rotate_left
 ·have uv:aW 0 ((k.f.length:Int)-1) r=false:=by simpa using hI
  have xR:DU k r s=5:=by rw[DU,uv];rfl
  have HC:Hid (u7 k t r s=t/\yt k t r s=0/\qH k t r s=5):=by
   have h5:qH k t r s=5:=by rw[qH,xR];rfl
   exact⟨by rw[u7,xR];rfl,by rw[yt,h5];rfl,h5⟩
  clear hI xR;have p0:=HS.out.bt.1 0 _ rfl;have c0:=HS.out.bz.1 0 _ rfl;have f0:=HS.out.bz.2.1 0;have p1:=HS.out.bt.1 1 _ rfl;have c1:=HS.out.bz.1 1 _ rfl;have f1:=HS.out.bz.2.1 1;have p2:=HS.out.bt.1 2 _ rfl;have c2:=HS.out.bz.1 2 _ rfl;have f2:=HS.out.bz.2.1 2;have p3:=HS.out.bt.1 3 _ rfl;have c3:=HS.out.bz.1 3 _ rfl;have f3:=HS.out.bz.2.1 3;have p4:=HS.out.bt.1 4 _ rfl;have c4:=HS.out.bz.1 4 _ rfl;have f4:=HS.out.bz.2.1 4;have p5:=HS.out.bt.1 5 _ rfl;have c5:=HS.out.bz.1 5 _ rfl;have f5:=HS.out.bz.2.1 5;have p6:=HS.out.bt.1 6 _ rfl;have c6:=HS.out.bz.1 6 _ rfl;have f6:=HS.out.bz.2.1 6;have xz:=HS.out.bz;have zb:=xz.put (tx.jJ v.ar v.cr v.ah v.ch t) rfl;obtain⟨Z,hZ⟩:=bO (cO U2 (w.1.size+2) 0 (tx.jJ v.ar v.cr v.ah v.ch t));rw[<-hZ]at zb;have HZ:Hid (Z=(((((((U2.setCell ⟨w.1.size+2,0,none⟩ (vI t.id)).setCell ⟨w.1.size+2,1,none⟩ (vI t.l)).setCell ⟨w.1.size+2,2,none⟩ (vI t.o)).setCell ⟨w.1.size+2,3,none⟩ (vI t.q)).setCell ⟨w.1.size+2,4,none⟩ (.slice v.ar t.a.length v.cr)).setCell ⟨w.1.size+2,5,none⟩ (.slice v.ah t.ai.length v.ch)).setCell ⟨w.1.size+2,6,none⟩ (vI t.az))):=hZ;have bZ:Below w.1.size w Z:=by rw[hZ];exact aI (by omega) _ _ _ HS.out.uU
  have KE:Hid (Sq w v t (u7 k t r s) (yt k t r s) (qH k t r s) (.returned (.tuple #[.agg #[vI t.id,vI t.l,vI t.o,vI t.q,.slice v.ar t.a.length v.cr,.slice v.ah t.ai.length v.ch,vI t.az],vI 0,vI 5])) Z):=by
   unfold Hid;rw[HC.out.1,HC.out.2.1,HC.out.2.2];exact⟨v,rfl,bZ,.inl ⟨rfl,rfl⟩,Hm.out⟩
  have z0:=zb.1 0 _ rfl;have z1:=zb.1 1 _ rfl;have z2:=zb.1 2 _ rfl;have z3:=zb.1 3 _ rfl;have z4:=zb.1 4 _ rfl;have z5:=zb.1 5 _ rfl;have z6:=zb.1 6 _ rfl;clear hZ zb bZ xz;go_wp2;rw[<-HZ.out];exact bodyPost_ret (v:=.tuple #[.agg #[vI t.id,vI t.l,vI t.o,vI t.q,.slice v.ar t.a.length v.cr,.slice v.ah t.ai.length v.ch,vI t.az],vI 0,vI 5]) (by simp[results,results48,go_sem,z0,z1,z2,z3,z4,z5,z6]) rfl KE.out
 have fI:=DC U2 s;go_wp2_with fail;refine fI.mono ?_;clear fI;rintro e w9 ⟨rfl,oD⟩;replace oD:=oD.symm;subst oD;by_cases hJ:aW 0 5 s=true;rotate_left
 ·have ux:aW 0 5 s=false:=by simpa using hJ
  have xR:DU k r s=5:=by rw[DU,ux,Bool.and_false];rfl
  have HC:Hid (u7 k t r s=t/\yt k t r s=0/\qH k t r s=5):=by
   have h5:qH k t r s=5:=by rw[qH,xR];rfl
   exact⟨by rw[u7,xR];rfl,by rw[yt,h5];rfl,h5⟩
  clear hJ xR;have p0:=HS.out.bt.1 0 _ rfl;have c0:=HS.out.bz.1 0 _ rfl;have f0:=HS.out.bz.2.1 0;have p1:=HS.out.bt.1 1 _ rfl;have c1:=HS.out.bz.1 1 _ rfl;have f1:=HS.out.bz.2.1 1;have p2:=HS.out.bt.1 2 _ rfl;have c2:=HS.out.bz.1 2 _ rfl;have f2:=HS.out.bz.2.1 2;have p3:=HS.out.bt.1 3 _ rfl;have c3:=HS.out.bz.1 3 _ rfl;have f3:=HS.out.bz.2.1 3;have p4:=HS.out.bt.1 4 _ rfl;have c4:=HS.out.bz.1 4 _ rfl;have f4:=HS.out.bz.2.1 4;have p5:=HS.out.bt.1 5 _ rfl;have c5:=HS.out.bz.1 5 _ rfl;have f5:=HS.out.bz.2.1 5;have p6:=HS.out.bt.1 6 _ rfl;have c6:=HS.out.bz.1 6 _ rfl;have f6:=HS.out.bz.2.1 6;have xz:=HS.out.bz;have zb:=xz.put (tx.jJ v.ar v.cr v.ah v.ch t) rfl;obtain⟨Z,hZ⟩:=bO (cO U2 (w.1.size+2) 0 (tx.jJ v.ar v.cr v.ah v.ch t));rw[<-hZ]at zb;have HZ:Hid (Z=(((((((U2.setCell ⟨w.1.size+2,0,none⟩ (vI t.id)).setCell ⟨w.1.size+2,1,none⟩ (vI t.l)).setCell ⟨w.1.size+2,2,none⟩ (vI t.o)).setCell ⟨w.1.size+2,3,none⟩ (vI t.q)).setCell ⟨w.1.size+2,4,none⟩ (.slice v.ar t.a.length v.cr)).setCell ⟨w.1.size+2,5,none⟩ (.slice v.ah t.ai.length v.ch)).setCell ⟨w.1.size+2,6,none⟩ (vI t.az))):=hZ;have bZ:Below w.1.size w Z:=by rw[hZ];exact aI (by omega) _ _ _ HS.out.uU
  have KE:Hid (Sq w v t (u7 k t r s) (yt k t r s) (qH k t r s) (.returned (.tuple #[.agg #[vI t.id,vI t.l,vI t.o,vI t.q,.slice v.ar t.a.length v.cr,.slice v.ah t.ai.length v.ch,vI t.az],vI 0,vI 5])) Z):=by
   unfold Hid;rw[HC.out.1,HC.out.2.1,HC.out.2.2];exact⟨v,rfl,bZ,.inl ⟨rfl,rfl⟩,Hm.out⟩
  have z0:=zb.1 0 _ rfl;have z1:=zb.1 1 _ rfl;have z2:=zb.1 2 _ rfl;have z3:=zb.1 3 _ rfl;have z4:=zb.1 4 _ rfl;have z5:=zb.1 5 _ rfl;have z6:=zb.1 6 _ rfl;clear hZ zb bZ xz;go_wp2;rw[<-HZ.out];exact bodyPost_ret (v:=.tuple #[.agg #[vI t.id,vI t.l,vI t.o,vI t.q,.slice v.ar t.a.length v.cr,.slice v.ah t.ai.length v.ch,vI t.az],vI 0,vI 5]) (by simp[results,results48,go_sem,z0,z1,z2,z3,z4,z5,z6]) rfl KE.out
 have xR:DU k r s=0:=by rw[DU,hI,hJ];rfl
 have AP:=af xR;have hy:=dD.1 hI;have hs:=dD.1 hJ;obtain⟨i,AV⟩:∃i:Nat,r=(i:Int):=⟨r.toNat,by omega⟩
 obtain⟨n,Ec⟩:∃n:Nat,s=(n:Int):=⟨s.toNat,by omega⟩
 have hi:i<k.f.length:=by omega
 have hn:n<6:=by omega
 have HI:=dw AV Ec;have JU:=HK.out.2.2.2.2.2.1;have Va:=HK.out.2.2.2.2.2.2.1;have cS:=tx.Fe U2 v t r s (by omega) HS.out.sl;simp only[tx.TV.val]at cS;have p0:=HS.out.bt.1 0 _ rfl;have p1:=HS.out.bt.1 1 _ rfl;have p2:=HS.out.bt.1 2 _ rfl;have p3:=HS.out.bt.1 3 _ rfl;have p4:=HS.out.bt.1 4 _ rfl;have p5:=HS.out.bt.1 5 _ rfl;have p6:=HS.out.bt.1 6 _ rfl;clear xR hy hs AV Ec;rcases mZ:tx.l8 t.ai r s with _|j
 rotate_left
 ·have EY:=(List.findIdx?_eq_some_iff_getElem.1 mZ).1;have QU:tx.setAt t.ai r s=(j:Int):=by rw[tx.setAt,mZ]
  have HC:Hid (u7 k t r s=t/\yt k t r s=(if (tx.aF t.ai j).j=true then(tx.aF t.ai j).g else 0)/\qH k t r s=(if (tx.aF t.ai j).j=true then 0 else 8)):=LA AP.out (by rw[yU,mZ];rfl) (by rw[wM,mZ];rfl) (by rw[GG,mZ,tx.PH,mZ];rfl) (by rw[Nq,mZ,tx.PH,mZ];rfl);rw[QU]at cS
  obtain⟨b,off,ha,rT,iV⟩:∃b off,v.ah=some ⟨b,off,none⟩/\b<w.1.size/\tx.aY w b off t.ai:=by
   rcases HK.out.2.2.2.2.2.2.2.1.s.2 with h|h
   ·omega
   ·exact h
  have HB:=dw rT iV;have fc:Hid (b≠w.1.size+2):=by unfold Hid;omega
  have Ye:=af ha;clear mZ QU rT iV ha;go_wp2_with fail;refine cS.mono ?_;clear cS p0 p1 p2 p3 p4 p5 p6;rintro e W1 ⟨rfl,b1⟩;have uy:=af (HS.out.later b1);clear b1 HS;have x1:=uy.out.bt;rw[Ye.out]at x1;have bg:=(HB.out.2 j _ (tx.eX EY)).below uy.out.uU HB.out.1;have e2:=bg.c2;have e3:=bg.c3;have p5:=x1.1 5 _ rfl;have jn:(j:Int)<(t.ai.length:Int):=by omega
  obtain⟨val,pO⟩:=uD ((tx.aF t.ai j).g);rw[pO]at e2;have HV:=af pO;have HE2:=af e2;clear bg pO e2;by_cases hu:(tx.aF t.ai j).j=true;rotate_left
  ·have TN:(tx.aF t.ai j).j=false:=by simpa using hu
   rw[TN]at e3;have FK:=fP HC.out.1 (show yt k t r s=0 by rw[HC.out.2.1,TN];rfl) (show qH k t r s=8 by rw[HC.out.2.2,TN];rfl);clear hu TN;have p0:=x1.1 0 _ rfl;have c0:=uy.out.bz.1 0 _ rfl;have f0:=uy.out.bz.2.1 0;have p1:=x1.1 1 _ rfl;have c1:=uy.out.bz.1 1 _ rfl;have f1:=uy.out.bz.2.1 1;have p2:=x1.1 2 _ rfl;have c2:=uy.out.bz.1 2 _ rfl;have f2:=uy.out.bz.2.1 2;have p3:=x1.1 3 _ rfl;have c3:=uy.out.bz.1 3 _ rfl;have f3:=uy.out.bz.2.1 3;have p4:=x1.1 4 _ rfl;have c4:=uy.out.bz.1 4 _ rfl;have f4:=uy.out.bz.2.1 4;have p5:=x1.1 5 _ rfl;have c5:=uy.out.bz.1 5 _ rfl;have f5:=uy.out.bz.2.1 5;have p6:=x1.1 6 _ rfl;have c6:=uy.out.bz.1 6 _ rfl;have f6:=uy.out.bz.2.1 6;have xz:=uy.out.bz;have zb:=xz.put (tx.jJ v.ar v.cr (some ⟨b,off,none⟩) v.ch t) rfl;obtain⟨Z,hZ⟩:=bO (cO W1 (w.1.size+2) 0 (tx.jJ v.ar v.cr (some ⟨b,off,none⟩) v.ch t));rw[<-hZ]at zb;have HZ:Hid (Z=(((((((W1.setCell ⟨w.1.size+2,0,none⟩ (vI t.id)).setCell ⟨w.1.size+2,1,none⟩ (vI t.l)).setCell ⟨w.1.size+2,2,none⟩ (vI t.o)).setCell ⟨w.1.size+2,3,none⟩ (vI t.q)).setCell ⟨w.1.size+2,4,none⟩ (.slice v.ar t.a.length v.cr)).setCell ⟨w.1.size+2,5,none⟩ (.slice (some ⟨b,off,none⟩) t.ai.length v.ch)).setCell ⟨w.1.size+2,6,none⟩ (vI t.az))):=hZ;have bZ:Below w.1.size w Z:=by rw[hZ];exact aI (by omega) _ _ _ uy.out.uU
   have KE:Hid (Sq w v t (u7 k t r s) (yt k t r s) (qH k t r s) (.returned (.tuple #[.agg #[vI t.id,vI t.l,vI t.o,vI t.q,.slice v.ar t.a.length v.cr,.slice (some ⟨b,off,none⟩) t.ai.length v.ch,vI t.az],vI 0,vI 8])) Z):=by
    unfold Hid;rw[FK.out.1,FK.out.2.1,FK.out.2.2];exact⟨v,by simp only[tx.TV.val,Ye.out],bZ,.inl ⟨rfl,rfl⟩,Hm.out⟩
   have z0:=zb.1 0 _ rfl;have z1:=zb.1 1 _ rfl;have z2:=zb.1 2 _ rfl;have z3:=zb.1 3 _ rfl;have z4:=zb.1 4 _ rfl;have z5:=zb.1 5 _ rfl;have z6:=zb.1 6 _ rfl;clear hZ zb bZ xz;go_wp2;rw[<-HZ.out];exact bodyPost_ret (v:=.tuple #[.agg #[vI t.id,vI t.l,vI t.o,vI t.q,.slice v.ar t.a.length v.cr,.slice (some ⟨b,off,none⟩) t.ai.length v.ch,vI t.az],vI 0,vI 8]) (by simp[results,results48,go_sem,z0,z1,z2,z3,z4,z5,z6]) rfl KE.out
  ·rw[hu]at e3;have FK:Hid (u7 k t r s=t/\yt k t r s=val/\qH k t r s=0):=⟨HC.out.1,by rw[HC.out.2.1,hu,HV.out];rfl,by rw[HC.out.2.2,hu];rfl⟩
   clear hu;have bD:Below W1.1.size W1 W1.drew:=aK.drew;have BD:=af bD;have hS:(fun Y:World=>Bx Y (w.1.size+1) (tx.jJ v.ar v.cr (some ⟨b,off,none⟩) v.ch t)/\Y.cell? ⟨b,off+j*5+2,none⟩=some (vI val)) W1.drew:=⟨x1.later bD,HE2.out⟩
   have ta:Hid (Bx W1 (w.1.size+1) (tx.jJ v.ar v.cr (some ⟨b,off,none⟩) v.ch t)):=x1;clear bD x1;go_wp2_with fail;refine aT (fun _=>false) (fun Y:World=>Bx Y (w.1.size+1) (tx.jJ v.ar v.cr (some ⟨b,off,none⟩) v.ch t)/\Y.cell? ⟨b,off+j*5+2,none⟩=some (vI val)) (by kernel_rfl) ?_;generalize W1.drew=D at *;refine fU 0 (.agg #[vI t.id,vI t.l,vI t.o,vI t.q,.slice v.ar t.a.length v.cr,.slice (some ⟨b,off,none⟩) t.ai.length v.ch,vI t.az]) rfl ?_ hS ?_
   ·(intro w aA;have q0:=aA.1.1 0 _ rfl;have q1:=aA.1.1 1 _ rfl;have q2:=aA.1.1 2 _ rfl;have q3:=aA.1.1 3 _ rfl;have q4:=aA.1.1 4 _ rfl;have q5:=aA.1.1 5 _ rfl;have q6:=aA.1.1 6 _ rfl;clear hS aA;go_simp)
   simp only[Act.put];refine bf 1 rfl hS ?_;simp only[Act.put];refine fU 2 (.slice (some ⟨b,off,none⟩) t.ai.length v.ch) rfl ?_ hS ?_
   ·(intro w aA;have q5:=aA.1.1 5 _ rfl;clear hS aA;go_simp)
   simp only[Act.put];refine bf 3 rfl hS ?_;simp only[Act.put];refine Nr 4 (.pointer (some ⟨b,off+j*5,none⟩)) rfl ?_ hS ?_
   ·(intro w _;go_simp;first|done|(rw[if_pos (by omega)]))
   simp only[Act.put];refine Nr 5 (.pointer (some ⟨b,off+j*5+2,none⟩)) rfl ?_ hS ?_
   ·(intro w _;go_simp)
   simp only[Act.put];refine fU 6 (vI val) rfl ?_ hS ?_
   ·(intro w aA;have q:=aA.2;clear hS aA;go_simp)
   simp only[Act.put];have xr:=uy.out.bz.later BD.out;have c0:=xr.1 0 _ rfl;have f0:=xr.2.1 0;have c1:=xr.1 1 _ rfl;have f1:=xr.2.1 1;have c2:=xr.1 2 _ rfl;have f2:=xr.2.1 2;have c3:=xr.1 3 _ rfl;have f3:=xr.2.1 3;have c4:=xr.1 4 _ rfl;have f4:=xr.2.1 4;have c5:=xr.1 5 _ rfl;have f5:=xr.2.1 5;have c6:=xr.1 6 _ rfl;have f6:=xr.2.1 6;obtain⟨Z,hZ⟩:=bO (cO D (w.1.size+2) 0 (tx.jJ v.ar v.cr (some ⟨b,off,none⟩) v.ch t));have zb:=xr.put (tx.jJ v.ar v.cr (some ⟨b,off,none⟩) v.ch t) rfl;rw[<-hZ]at zb;have SV:Hid (Z=(((((((D.setCell ⟨w.1.size+2,0,none⟩ (vI t.id)).setCell ⟨w.1.size+2,1,none⟩ (vI t.l)).setCell ⟨w.1.size+2,2,none⟩ (vI t.o)).setCell ⟨w.1.size+2,3,none⟩ (vI t.q)).setCell ⟨w.1.size+2,4,none⟩ (.slice v.ar t.a.length v.cr)).setCell ⟨w.1.size+2,5,none⟩ (.slice (some ⟨b,off,none⟩) t.ai.length v.ch)).setCell ⟨w.1.size+2,6,none⟩ (vI t.az))):=hZ;have hf:∀q,q≠w.1.size+2->Z.1[q]?=D.1[q]?:=fun q hq=>by rw[hZ];exact aO hq _ _ _
   have jN:(fun Y:World=>Bx Y (w.1.size+1) (tx.jJ v.ar v.cr (some ⟨b,off,none⟩) v.ch t)/\Y.cell? ⟨b,off+j*5+2,none⟩=some (vI val)) Z:=⟨hS.1.aj (hf _ (by omega)) (by rw[hZ,aS];exact Nat.le_refl _),(World.cell?_of_block (a:=⟨b,off+j*5+2,none⟩) (hf b fc.out)).trans hS.2⟩
   have sj:=af jN;have bZ:Below w.1.size w Z:=by rw[hZ];exact aI (by omega) _ _ _ (au uy.out.uU BD.out)
   have KE:Hid (Sq w v t (u7 k t r s) (yt k t r s) (qH k t r s) (.returned (.tuple #[.agg #[vI t.id,vI t.l,vI t.o,vI t.q,.slice v.ar t.a.length v.cr,.slice (some ⟨b,off,none⟩) t.ai.length v.ch,vI t.az],vI val,vI 0])) Z):=by
    unfold Hid;rw[FK.out.1,FK.out.2.1,FK.out.2.2];exact⟨v,by simp only[tx.TV.val,Ye.out],bZ,.inl ⟨rfl,rfl⟩,Hm.out⟩
   have z0:=zb.1 0 _ rfl;have z1:=zb.1 1 _ rfl;have z2:=zb.1 2 _ rfl;have z3:=zb.1 3 _ rfl;have z4:=zb.1 4 _ rfl;have z5:=zb.1 5 _ rfl;have z6:=zb.1 6 _ rfl;clear hZ jN hf zb xr bZ;refine bG 7 rfl (fun K hK=>?_);go_simp;rw[<-SV.out];refine hK.out _ _ (fun _=>sj.out) ?_;clear hK K hS c0 f0 c1 f1 c2 f2 c3 f3 c4 f4 c5 f5 c6 f6;refine bG 8 rfl (fun K hK=>?_);go_simp;refine hK.out _ _ (fun _=>sj.out) ?_;clear hK K;refine bG 9 rfl (fun K hK=>?_);go_simp;refine hK.out _ _ (fun _=>sj.out) ?_;clear hK K;refine bH (by kernel_rfl) ?_ _;go_wp2;exact bodyPost_ret (v:=.tuple #[.agg #[vI t.id,vI t.l,vI t.o,vI t.q,.slice v.ar t.a.length v.cr,.slice (some ⟨b,off,none⟩) t.ai.length v.ch,vI t.az],vI val,vI 0]) (by simp[results,results48,go_sem,z0,z1,z2,z3,z4,z5,z6]) rfl KE.out
 have QU:tx.setAt t.ai r s=-1:=by rw[tx.setAt,mZ]
 rw[QU]at cS;have Sm:Hid (yU k t r s=Gs k t r s/\wM k t r s=Gt k t r s/\Nq k t r s=(nG k t r s).g/\GG k t r s=(nG k t r s).j):=⟨by rw[yU,mZ];rfl,by rw[wM,mZ];rfl,by rw[Nq,mZ];rfl,by rw[GG,mZ];rfl⟩
 clear mZ QU;go_wp2_with fail;refine cS.mono ?_;clear cS p0 p1 p2 p3 p4 p5 p6;rintro e W1 ⟨rfl,b1⟩;have uy:=af (HS.out.later b1);clear b1 HS;have cR:=tx.qV W1 v t r s (by omega) uy.out.sl;simp only[tx.TV.val]at cR;have p0:=uy.out.bt.1 0 _ rfl;have p1:=uy.out.bt.1 1 _ rfl;have p2:=uy.out.bt.1 2 _ rfl;have p3:=uy.out.bt.1 3 _ rfl;have p4:=uy.out.bt.1 4 _ rfl;have p5:=uy.out.bt.1 5 _ rfl;have p6:=uy.out.bt.1 6 _ rfl;have E5:(∃j,tx.kS t.a r s=some j)\/tx.kS t.a r s=none:=by cases tx.kS t.a r s<;>simp
 rcases E5 with ⟨j,E5⟩|E5
 case' inl=>
  have EY:=(List.findIdx?_eq_some_iff_getElem.1 E5).1;have MN:tx.jk t.a r s=(j:Int):=by rw[tx.jk,E5]
  rw[MN]at cR;have iz:nG k t r s=tx.aH t.a j:=by rw[nG,E5,tx.G5,E5];rfl
  have HC:=af (LA (u:=(tx.aH t.a j).j) (x:=(tx.aH t.a j).g) (N:=t) AP.out (Sm.out.1.trans (by simp[Gs,E5])) (Sm.out.2.1.trans (by simp[Gt,E5])) (by rw[Sm.out.2.2.2,iz]) (by rw[Sm.out.2.2.1,iz]));clear E5 MN iz;go_wp2_with fail;refine cR.mono ?_;clear cR p0 p1 p2 p3 p4 p5 p6;rintro e X ⟨rfl,b1⟩
  have Yx:Hid (cE w X a1 c1 a2 c2 a3 c3 k v t r s v t j):=by
   refine⟨uy.out.later b1,HC.out.1,HC.out.2.2,HC.out.2.1,.inl ⟨rfl,rfl⟩,EY,by omega,Hm.out,?_⟩;rcases HK.out.2.2.2.2.2.2.2.1.r.2 with h|⟨b,off,h1,h2,h3⟩
   ·omega
   ·exact⟨b,off,h1,by omega,h3.below (au uy.out.uU b1) h2⟩
  obtain⟨u,N,HF⟩:∃u N,Hid (cE w X a1 c1 a2 c2 a3 c3 k v t r s u N j):=⟨_,_,Yx⟩
  clear Yx HC b1 uy EY;have dj:decide ((j:Int)<0)=false:=by simp
  have mn:=HI.out.1;have PG:=HI.out.2;subst mn;subst PG
 case' inr=>
  have MN:tx.jk t.a r s=-1:=by rw[tx.jk,E5]
  rw[MN]at cR;have VO:=pI (show Gs k t r s=(if sG k r=true then JX (jT k r) t r s else 6) by rw[Gs,E5];rfl) (show Gt k t r s=tx.dR t (qc (jT k r) r s) by rw[Gt,E5];rfl) (show nG k t r s=qc (jT k r) r s by rw[nG,E5];rfl) E5;clear E5 MN;go_wp2_with fail;refine cR.mono ?_;clear cR p0 p1 p2 p3 p4 p5 p6;rintro e W2 ⟨rfl,b1⟩;have HS2:=af (uy.out.later b1);clear b1 uy;obtain⟨z,hz,vT,IP,jQ,Vd,IB⟩:=FW HK.out.1 hi;have cP:=Ej W2 a1 c1 a2 c2 a3 c3 k i z HK.out.2.1 HS2.out.rd hi hz vT IP;rw[<-HI.out.1]at cP;have p0:=HS2.out.bc.1 0 _ rfl;have p1:=HS2.out.bc.1 1 _ rfl;have p2:=HS2.out.bc.1 2 _ rfl;have p3:=HS2.out.bc.1 3 _ rfl;have p4:=HS2.out.bc.1 4 _ rfl;have p5:=HS2.out.bc.1 5 _ rfl;by_cases ha:(bC k.aa z).x=true;rotate_left
  ·have hH:(bC k.aa z).x=false:=by simpa using ha
   rw[hH]at cP;simp only[Bool.false_eq_true,if_false]at cP
   have TD:sG k r=false:=(BC (k:=k) (y:=r) (fun h=>by
    have:=h.2.2.2
    rw[HI.out.1,Int.toNat_natCast,jQ,hH]at this;cases this)).2
   have HC:Hid (u7 k t r s=t/\yt k t r s=0/\qH k t r s=6):=Rx AP.out (by rw[Sm.out.1,VO.out.1,TD];rfl) (by decide);clear IB TD ha hH Vd jQ;go_wp2_with fail;refine cP.mono ?_;clear cP p0 p1 p2 p3 p4 p5;rintro e W3 ⟨rfl,b1⟩;have sj:=af (HS2.out.later b1);clear b1 HS2;have p0:=sj.out.bt.1 0 _ rfl;have c0:=sj.out.bz.1 0 _ rfl;have f0:=sj.out.bz.2.1 0;have p1:=sj.out.bt.1 1 _ rfl;have c1:=sj.out.bz.1 1 _ rfl;have f1:=sj.out.bz.2.1 1;have p2:=sj.out.bt.1 2 _ rfl;have c2:=sj.out.bz.1 2 _ rfl;have f2:=sj.out.bz.2.1 2;have p3:=sj.out.bt.1 3 _ rfl;have c3:=sj.out.bz.1 3 _ rfl;have f3:=sj.out.bz.2.1 3;have p4:=sj.out.bt.1 4 _ rfl;have c4:=sj.out.bz.1 4 _ rfl;have f4:=sj.out.bz.2.1 4;have p5:=sj.out.bt.1 5 _ rfl;have c5:=sj.out.bz.1 5 _ rfl;have f5:=sj.out.bz.2.1 5;have p6:=sj.out.bt.1 6 _ rfl;have c6:=sj.out.bz.1 6 _ rfl;have f6:=sj.out.bz.2.1 6;have xz:=sj.out.bz;have zb:=xz.put (tx.jJ v.ar v.cr v.ah v.ch t) rfl;obtain⟨Z,hZ⟩:∃Z,Z=cO W3 (w.1.size+2) 0 (tx.jJ v.ar v.cr v.ah v.ch t):=⟨_,rfl⟩
   rw[<-hZ]at zb;have HZ:Hid (Z=(((((((W3.setCell ⟨w.1.size+2,0,none⟩ (vI t.id)).setCell ⟨w.1.size+2,1,none⟩ (vI t.l)).setCell ⟨w.1.size+2,2,none⟩ (vI t.o)).setCell ⟨w.1.size+2,3,none⟩ (vI t.q)).setCell ⟨w.1.size+2,4,none⟩ (.slice v.ar t.a.length v.cr)).setCell ⟨w.1.size+2,5,none⟩ (.slice v.ah t.ai.length v.ch)).setCell ⟨w.1.size+2,6,none⟩ (vI t.az))):=hZ;have bZ:Below w.1.size w Z:=by rw[hZ];exact aI (by omega) _ _ _ sj.out.uU
   have KE:Hid (Sq w v t (u7 k t r s) (yt k t r s) (qH k t r s) (.returned (.tuple #[.agg #[vI t.id,vI t.l,vI t.o,vI t.q,.slice v.ar t.a.length v.cr,.slice v.ah t.ai.length v.ch,vI t.az],vI 0,vI 6])) Z):=by
    unfold Hid;rw[HC.out.1,HC.out.2.1,HC.out.2.2];exact⟨v,rfl,bZ,.inl ⟨rfl,rfl⟩,Hm.out⟩
   have z0:=zb.1 0 _ rfl;have z1:=zb.1 1 _ rfl;have z2:=zb.1 2 _ rfl;have z3:=zb.1 3 _ rfl;have z4:=zb.1 4 _ rfl;have z5:=zb.1 5 _ rfl;have z6:=zb.1 6 _ rfl;clear hZ zb bZ xz;go_wp2;rw[<-HZ.out];exact bodyPost_ret (v:=.tuple #[.agg #[vI t.id,vI t.l,vI t.o,vI t.q,.slice v.ar t.a.length v.cr,.slice v.ah t.ai.length v.ch,vI t.az],vI 0,vI 6]) (by simp[results,results48,go_sem,z0,z1,z2,z3,z4,z5,z6]) rfl KE.out
  rw[ha]at cP;simp only[if_true]at cP;have qq:=IB ha;have aN:=AY (bC k.aa z) (i:Int);rw[qq]at aN
  obtain⟨j0,Yl,EY⟩:∃j:Nat,zh (bC k.aa z) (i:Int)=(j:Int)/\j<(bC k.aa z).ag.length:=by
   rcases nk (bC k.aa z) (i:Int)with ⟨e,_⟩|⟨j,e,hj,_,_⟩
   ·rw[e]at aN;simp at aN
   ·exact⟨j,e,hj⟩
  rw[HI.out.1,Yl,<-HI.out.1]at cP;have WB:=FU (j:=j0) HK.out.1 hi (by rw[jQ];exact ha) (by rw[jQ];exact Yl);rw[jQ,<-HI.out.1]at WB;have sJ:=Lf Vd _ (List.mem_of_getElem? (eZ EY));have HN:=af WB;clear aN IB WB qq ha Yl Vd jQ;go_wp2_with fail;refine cP.mono ?_;clear cP p0 p1 p2 p3 p4 p5;rintro e W3 ⟨rfl,b1⟩;have sj:Hid (SY w W3 a1 c1 a2 c2 a3 c3 k v t):=HS2.out.later b1;clear b1 HS2;have p3:=sj.out.bc.1 3 _ rfl;have rU:=sj.out.rd.m;rcases rU with Sz|⟨b2,lI,Ze,kU,h1⟩
  ·rw[Sz]at vT;simp at vT
  rw[Ze]at p3;obtain⟨⟨m0,m1,m2,m3,m4,m5⟩,bg,iw⟩:=h1 z _ (iT vT);have e1:W3.cell? ⟨b2,lI+z*4+1,none⟩=some (.slice m0 (bC k.aa z).ag.length m1):=bg 1 _ rfl;obtain⟨_,WR⟩:=iw.k;dsimp only at WR;rcases WR with WR|⟨b3,ye,rfl,jB,pS⟩
  ·omega
  have xR:=pS j0 _ (eZ EY);obtain⟨a',aZ,cx,fI,kz⟩:=xR.c1;have h6:=y8 sJ;rcases fI.2 with PG|⟨b4,yi,rfl,vi,jo⟩
  ·omega
  have xW:=jo.get (i:=n) (by omega);have kP:gM (dX (bC k.aa z).ag j0).cells=true/\aW 0 4000003 (at2 (dX (bC k.aa z).ag j0).cells n).head=true:=⟨sJ,BI sJ hn⟩
  obtain⟨xs,rW⟩:∃xs,(dX (bC k.aa z).ag j0).cells=xs:=⟨_,rfl⟩
  rw[rW]at HN xW kP cx h6;obtain⟨x,hx⟩:∃x,at2 xs n=x:=⟨_,rfl⟩
  rw[hx]at xW kP;have g0:=xW.c0;have g1:=xW.c1
  have SQ:Hid (lH xs s=!jW x.head/\(lH xs s=true->qc xs r s=⟨r,s,eQ x.head,x.g,aW 0 4000003 x.head&&dI x.head⟩)/\jT k r=xs/\sG k r=true):=by
   have h7:lH xs s=!jW x.head:=by rw[lH,kP.1,hJ,HI.out.2,Int.toNat_natCast,hx];rfl
   refine⟨h7,fun h=>?_,HN.out.1,HN.out.2⟩;have h8:fE xs s=x:=by rw[fE,if_pos h,HI.out.2,Int.toNat_natCast,hx]
   rw[qc,h8]
  have s6:=af kP.2;have i2:(z:Int)<(k.aa.length:Int):=by omega
  have i3:(j0:Int)<((bC k.aa z).ag.length:Int):=by omega
  have i4:(n:Int)<(xs.length:Int):=by omega
  have dz:decide ((z:Int)<0)=false:=by simp
  have HM:=HK.out.2.1.m;have HKK:=(HK.out.2.1.ms _ (List.mem_of_getElem? (iT vT))).k;unfold maxLen at HM HKK;have x8:=HI.out.2;obtain⟨V,hV,bV,Sg,-⟩:=iI W3 [vI x.head,vI x.g] 140;have wH:Hid (SY w V a1 c1 a2 c2 a3 c3 k v t):=sj.out.later bV;have pa:Hid (Bx V W3.1.size [vI x.head,vI x.g]/\w.1.size+3<=W3.1.size):=⟨Sg,sj.out.sz⟩
  have y0:=Sg.1 0 _ rfl;rw[hV]at y0;have cL:=Dy x.head V;clear h1 bg iw pS xR fI jo xW sJ kP hx rW HN sj bV Sg Ze kz hz IP kU jB vi;subst x8;go_wp2_with fail;rw[<-hV];clear hV y0 p3 e1 cx g0 g1 i2 i3 i4 dz HM HKK;refine cL.mono ?_;clear cL;rintro e w9 ⟨rfl,oD⟩;replace oD:=oD.symm;subst oD;rw[s6.out];by_cases EZ:jW x.head=true
  ·have HC:Hid (u7 k t r (n:Int)=t/\yt k t r (n:Int)=0/\qH k t r (n:Int)=7):=Rx AP.out (by rw[Sm.out.1,VO.out.1,SQ.out.2.2.2,if_pos rfl,SQ.out.2.2.1,JX,SQ.out.1,EZ];rfl) (by decide);have p0:=wH.out.bt.1 0 _ rfl;have c0:=wH.out.bz.1 0 _ rfl;have f0:=wH.out.bz.2.1 0;have p1:=wH.out.bt.1 1 _ rfl;have c1:=wH.out.bz.1 1 _ rfl;have f1:=wH.out.bz.2.1 1;have p2:=wH.out.bt.1 2 _ rfl;have c2:=wH.out.bz.1 2 _ rfl;have f2:=wH.out.bz.2.1 2;have p3:=wH.out.bt.1 3 _ rfl;have c3:=wH.out.bz.1 3 _ rfl;have f3:=wH.out.bz.2.1 3;have p4:=wH.out.bt.1 4 _ rfl;have c4:=wH.out.bz.1 4 _ rfl;have f4:=wH.out.bz.2.1 4;have p5:=wH.out.bt.1 5 _ rfl;have c5:=wH.out.bz.1 5 _ rfl;have f5:=wH.out.bz.2.1 5;have p6:=wH.out.bt.1 6 _ rfl;have c6:=wH.out.bz.1 6 _ rfl;have f6:=wH.out.bz.2.1 6;have xz:=wH.out.bz;have zb:=xz.put (tx.jJ v.ar v.cr v.ah v.ch t) rfl;obtain⟨Z,hZ⟩:=bO (cO V (w.1.size+2) 0 (tx.jJ v.ar v.cr v.ah v.ch t));rw[<-hZ]at zb;have HZ:Hid (Z=(((((((V.setCell ⟨w.1.size+2,0,none⟩ (vI t.id)).setCell ⟨w.1.size+2,1,none⟩ (vI t.l)).setCell ⟨w.1.size+2,2,none⟩ (vI t.o)).setCell ⟨w.1.size+2,3,none⟩ (vI t.q)).setCell ⟨w.1.size+2,4,none⟩ (.slice v.ar t.a.length v.cr)).setCell ⟨w.1.size+2,5,none⟩ (.slice v.ah t.ai.length v.ch)).setCell ⟨w.1.size+2,6,none⟩ (vI t.az))):=hZ;have bZ:Below w.1.size w Z:=by rw[hZ];exact aI (by omega) _ _ _ wH.out.uU
   have KE:Hid (Sq w v t (u7 k t r (n:Int)) (yt k t r (n:Int)) (qH k t r (n:Int)) (.returned (.tuple #[.agg #[vI t.id,vI t.l,vI t.o,vI t.q,.slice v.ar t.a.length v.cr,.slice v.ah t.ai.length v.ch,vI t.az],vI 0,vI 7])) Z):=by
    unfold Hid;rw[HC.out.1,HC.out.2.1,HC.out.2.2];exact⟨v,rfl,bZ,.inl ⟨rfl,rfl⟩,Hm.out⟩
   have z0:=zb.1 0 _ rfl;have z1:=zb.1 1 _ rfl;have z2:=zb.1 2 _ rfl;have z3:=zb.1 3 _ rfl;have z4:=zb.1 4 _ rfl;have z5:=zb.1 5 _ rfl;have z6:=zb.1 6 _ rfl;clear hZ zb bZ xz;go_wp2;rw[<-HZ.out];exact bodyPost_ret (v:=.tuple #[.agg #[vI t.id,vI t.l,vI t.o,vI t.q,.slice v.ar t.a.length v.cr,.slice v.ah t.ai.length v.ch,vI t.az],vI 0,vI 7]) (by simp[results,results48,go_sem,z0,z1,z2,z3,z4,z5,z6]) rfl KE.out
  have kf:jW x.head=false:=by simpa using EZ
  have GX:lH xs (n:Int)=true:=by rw[SQ.out.1,kf];rfl
  have VN:Hid (qc (jT k r) r (n:Int)=⟨r,(n:Int),eQ x.head,x.g,aW 0 4000003 x.head&&dI x.head⟩/\yU k t r (n:Int)=MB t ⟨r,(n:Int),eQ x.head,x.g,aW 0 4000003 x.head&&dI x.head⟩):=by
   have e1:qc (jT k r) r (n:Int)=⟨r,(n:Int),eQ x.head,x.g,aW 0 4000003 x.head&&dI x.head⟩:=by rw[SQ.out.2.2.1];exact SQ.out.2.1 GX
   exact⟨e1,by rw[Sm.out.1,VO.out.1,SQ.out.2.2.2,if_pos rfl,JX,SQ.out.2.2.1,if_pos GX,<-SQ.out.2.2.1,e1]⟩
  obtain⟨xb,ZM⟩:=bO W3.1.size;rw[<-ZM]at pa;rw[<-ZM];have hS:(fun Y:World=>Below V.1.size V Y/\Bx Y (w.1.size+1) (tx.jJ v.ar v.cr v.ah v.ch t)/\Bx Y xb [vI x.head,vI x.g]) V.drew:=⟨aK.drew,wH.out.bt.later (aK.drew),pa.out.1.later (aK.drew)⟩
  have mn:=HI.out.1;clear EZ GX ZM;clear W3;subst mn;go_wp2_with fail;refine aT (fun z=>z==17) (fun Y:World=>Below V.1.size V Y/\Bx Y (w.1.size+1) (tx.jJ v.ar v.cr v.ah v.ch t)/\Bx Y xb [vI x.head,vI x.g]) (by kernel_rfl) ?_;generalize V.drew=Wd at *;refine fU 0 (.agg #[vI t.id,vI t.l,vI t.o,vI t.q,.slice v.ar t.a.length v.cr,.slice v.ah t.ai.length v.ch,vI t.az]) rfl ?_ hS ?_
  ·(intro w aA;have q0:=aA.2.1.1 0 _ rfl;have q1:=aA.2.1.1 1 _ rfl;have q2:=aA.2.1.1 2 _ rfl;have q3:=aA.2.1.1 3 _ rfl;have q4:=aA.2.1.1 4 _ rfl;have q5:=aA.2.1.1 5 _ rfl;have q6:=aA.2.1.1 6 _ rfl;clear hS aA;go_simp)
  simp only[Act.put];refine bf 1 rfl hS ?_;simp only[Act.put];refine bf 2 rfl hS ?_;simp only[Act.put];refine bf 3 rfl hS ?_;simp only[Act.put];refine fU 4 (vI x.head) rfl ?_ hS ?_
  ·(intro w aA;have q0:=aA.2.2.1 0 _ rfl;clear hS aA;go_simp)
  simp only[Act.put];refine bf 6 rfl hS ?_;simp only[Act.put];refine fU 7 (vI x.g) rfl ?_ hS ?_
  ·(intro w aA;have q1:=aA.2.2.1 1 _ rfl;clear hS aA;go_simp)
  simp only[Act.put];refine bf 8 rfl hS ?_;simp only[Act.put];refine fU 9 (vI x.head) rfl ?_ hS ?_
  ·(intro w aA;have q0:=aA.2.2.1 0 _ rfl;clear hS aA;go_simp)
  simp only[Act.put];refine fZ (rs:=[5,16]) (by kernel_rfl) (by simp) ?_;refine gQ.cons rfl (fun K hK=>?yy) (gQ.cons rfl (fun K hK=>?zd) gQ.nil)
  case' yy=>
   go_simp;refine(si _ _).mono ?_;rintro e w9 ⟨rfl,oD⟩;replace oD:=oD.symm;subst oD;refine hK.out _ _ (fun _=>hS) ?_;clear hK K;refine fZ (rs:=[10,16]) (by kernel_rfl) (by simp) ?_;refine gQ.cons rfl (fun K hK=>?yW) (gQ.cons rfl (fun K hK=>?zj) gQ.nil)
   case' yW=>
    go_simp;refine(mq _ _).mono ?_;rintro e w9 ⟨rfl,oD⟩;replace oD:=oD.symm;subst oD;refine hK.out _ _ (fun _=>hS) ?_;clear hK K;refine bf 11 rfl hS ?_;simp only[Act.put];refine fZ (rs:=[12,16]) (by kernel_rfl) (by simp) ?_;refine gQ.cons rfl (fun K hK=>?zc) (gQ.cons rfl (fun K hK=>?zp) gQ.nil)
    case' zc=>
     go_simp;have cN:=tx.jL Wd v t ⟨(i:Int),(n:Int),eQ x.head,x.g,aW 0 4000003 x.head&&dI x.head⟩ HK.out.2.2.1 (wH.out.sl.later hS.1) HK.out.2.2.2.2.1;simp only[tx.TV.val]at cN;obtain⟨N,hN⟩:=uD (tx.dR t ⟨(i:Int),(n:Int),eQ x.head,x.g,aW 0 4000003 x.head&&dI x.head⟩);obtain⟨ok,il⟩:=uD (tx.eT t ⟨(i:Int),(n:Int),eQ x.head,x.g,aW 0 4000003 x.head&&dI x.head⟩);rw[hN,il]at cN;refine cN.mono ?_;clear cN;rintro e X ⟨va,vc,vh,vd,PR,PS,rfl,mX,bX,xW⟩;have SL:=af (xW);clear xW;have HO:=fP hN il hS.1.size;clear hN il;replace mX:=mX.low (B':=V.1.size) (fun q hq=>by have:=(mX.of hq).1;have:=HO.out.2.2;omega);replace HO:=dw HO.out.1 HO.out.2.1;replace hS:=nH (au hS.1 bX) (hS.2.1.later bX) (hS.2.2.later bX);clear bX;refine hK.out _ _ (fun _=>hS) ?_;clear hK K;clear Wd;generalize X=Wd at *;refine bf 13 rfl hS ?_;simp only[Act.put];refine bf 14 rfl hS ?_;simp only[Act.put];refine bf 15 rfl hS ?_;simp only[Act.put];refine bG 16 rfl (fun K hK=>?_);go_simp;obtain⟨X,hX⟩:=bO (Wd.alloc (.cells #[vI 0,vI 0,vI 0,vI 0,.slice none 0 0,.slice none 0 0,vI 0] 91));obtain⟨bb,gu⟩:=bO Wd.1.size;have bX:Below Wd.1.size Wd X:=by rw[hX];exact aK.alloc aU _
     have xV:Bx X bb DV:=by rw[hX,gu];exact Bx.made Wd DV _
     rw[<-hX,<-gu];have HB:Hid (V.1.size<=bb):=by unfold Hid;have:=hS.1.size;omega
     have ZA:∀q,tx.lZ PR PS q->q≠bb:=fun q hq=>by have:=(mX.of hq).2;omega
     replace mX:=mX.later bX;replace hS:=nH (au hS.1 bX) (hS.2.1.later bX) (hS.2.2.later bX);clear hX gu bX;refine hK.out _ _ (fun _=>hS) ?_;clear hK K;clear Wd;generalize X=Wd at *
    case' zp=>
     go_simp;obtain⟨X,hX⟩:=bO (Wd.alloc (.cells #[vI 0,vI 0,vI 0,vI 0,.slice none 0 0,.slice none 0 0,vI 0] 91));obtain⟨bb,gu⟩:=bO Wd.1.size;have bX:Below Wd.1.size Wd X:=by rw[hX];exact aK.alloc aU _
     have xV:Bx X bb DV:=by rw[hX,gu];exact Bx.made Wd DV _
     rw[<-hX,<-gu];have HB:Hid (V.1.size<=bb):=by unfold Hid;have:=hS.1.size;omega
     replace hS:=nH (au hS.1 bX) (hS.2.1.later bX) (hS.2.2.later bX);clear hX gu bX;refine hK.out _ _ (fun _=>hS) ?_;clear hK K;clear Wd;generalize X=Wd at *;refine bG 12 rfl (fun K hK=>?_);go_simp;have cN:=tx.jL Wd v t ⟨(i:Int),(n:Int),eQ x.head,x.g,aW 0 4000003 x.head&&dI x.head⟩ HK.out.2.2.1 (wH.out.sl.later hS.1) HK.out.2.2.2.2.1;simp only[tx.TV.val]at cN;obtain⟨N,hN⟩:=uD (tx.dR t ⟨(i:Int),(n:Int),eQ x.head,x.g,aW 0 4000003 x.head&&dI x.head⟩);obtain⟨ok,il⟩:=uD (tx.eT t ⟨(i:Int),(n:Int),eQ x.head,x.g,aW 0 4000003 x.head&&dI x.head⟩);rw[hN,il]at cN;refine cN.mono ?_;clear cN;rintro e X ⟨va,vc,vh,vd,PR,PS,rfl,mX,bX,xW⟩;have SL:=af (xW);clear xW;have HO:Hid (tx.dR t ⟨(i:Int),(n:Int),eQ x.head,x.g,aW 0 4000003 x.head&&dI x.head⟩=N/\tx.eT t ⟨(i:Int),(n:Int),eQ x.head,x.g,aW 0 4000003 x.head&&dI x.head⟩=ok/\V.1.size<=Wd.1.size):=⟨hN,il,hS.1.size⟩
     clear hN il;have ZA:∀q,tx.lZ PR PS q->q≠bb:=fun q hq=>by have:=(mX.of hq).1;have:=xV.2.2;omega
     replace xV:=xV.later bX;replace mX:=mX.low (B':=V.1.size) (fun q hq=>by have:=(mX.of hq).1;have:=HO.out.2.2;omega);replace HO:Hid (tx.dR t ⟨(i:Int),(n:Int),eQ x.head,x.g,aW 0 4000003 x.head&&dI x.head⟩=N/\tx.eT t ⟨(i:Int),(n:Int),eQ x.head,x.g,aW 0 4000003 x.head&&dI x.head⟩=ok):=⟨HO.out.1,HO.out.2.1⟩
     replace hS:(fun Y:World=>Below V.1.size V Y/\Bx Y (w.1.size+1) (tx.jJ v.ar v.cr v.ah v.ch t)/\Bx Y xb [vI x.head,vI x.g]) X:=⟨au hS.1 bX,hS.2.1.later bX,hS.2.2.later bX⟩
     clear bX;refine hK.out _ _ (fun _=>hS) ?_;clear hK K;clear Wd;generalize X=Wd at *;refine bf 13 rfl hS ?_;simp only[Act.put];refine bf 14 rfl hS ?_;simp only[Act.put];refine bf 15 rfl hS ?_;simp only[Act.put]
   case' zj=>
    go_simp;obtain⟨X,hX⟩:∃X,X=Wd.alloc (.cells #[vI 0,vI 0,vI 0,vI 0,.slice none 0 0,.slice none 0 0,vI 0] 91):=⟨_,rfl⟩
    obtain⟨bb,gu⟩:∃bb,bb=Wd.1.size:=⟨_,rfl⟩
    have bX:Below Wd.1.size Wd X:=by rw[hX];exact aK.alloc aU _
    have xV:Bx X bb DV:=by rw[hX,gu];exact Bx.made Wd DV _
    rw[<-hX,<-gu];have HB:Hid (V.1.size<=bb):=by unfold Hid;have:=hS.1.size;omega
    replace hS:(fun Y:World=>Below V.1.size V Y/\Bx Y (w.1.size+1) (tx.jJ v.ar v.cr v.ah v.ch t)/\Bx Y xb [vI x.head,vI x.g]) X:=⟨au hS.1 bX,hS.2.1.later bX,hS.2.2.later bX⟩
    clear hX gu bX;refine hK.out _ _ (fun _=>hS) ?_;clear hK K;clear Wd;generalize X=Wd at *;refine bG 10 rfl (fun K hK=>?_);go_simp;refine(mq _ _).mono ?_;rintro e w9 ⟨rfl,oD⟩;replace oD:=oD.symm;subst oD;refine hK.out _ _ (fun _=>hS) ?_;clear hK K;refine bf 11 rfl hS ?_;simp only[Act.put];refine bG 12 rfl (fun K hK=>?_);go_simp;have cN:=tx.jL Wd v t ⟨(i:Int),(n:Int),eQ x.head,x.g,aW 0 4000003 x.head&&dI x.head⟩ HK.out.2.2.1 (wH.out.sl.later hS.1) HK.out.2.2.2.2.1;simp only[tx.TV.val]at cN;obtain⟨N,hN⟩:∃N,tx.dR t ⟨(i:Int),(n:Int),eQ x.head,x.g,aW 0 4000003 x.head&&dI x.head⟩=N:=⟨_,rfl⟩
    obtain⟨ok,il⟩:∃ok,tx.eT t ⟨(i:Int),(n:Int),eQ x.head,x.g,aW 0 4000003 x.head&&dI x.head⟩=ok:=⟨_,rfl⟩
    rw[hN,il]at cN;refine cN.mono ?_;clear cN;rintro e X ⟨va,vc,vh,vd,PR,PS,rfl,mX,bX,xW⟩;have SL:Hid (N.ai.length<=vd):=xW;clear xW;have HO:Hid (tx.dR t ⟨(i:Int),(n:Int),eQ x.head,x.g,aW 0 4000003 x.head&&dI x.head⟩=N/\tx.eT t ⟨(i:Int),(n:Int),eQ x.head,x.g,aW 0 4000003 x.head&&dI x.head⟩=ok/\V.1.size<=Wd.1.size):=⟨hN,il,hS.1.size⟩
    clear hN il;have ZA:∀q,tx.lZ PR PS q->q≠bb:=fun q hq=>by have:=(mX.of hq).1;have:=xV.2.2;omega
    replace xV:=xV.later bX;replace mX:=mX.low (B':=V.1.size) (fun q hq=>by have:=(mX.of hq).1;have:=HO.out.2.2;omega);replace HO:Hid (tx.dR t ⟨(i:Int),(n:Int),eQ x.head,x.g,aW 0 4000003 x.head&&dI x.head⟩=N/\tx.eT t ⟨(i:Int),(n:Int),eQ x.head,x.g,aW 0 4000003 x.head&&dI x.head⟩=ok):=⟨HO.out.1,HO.out.2.1⟩
    replace hS:(fun Y:World=>Below V.1.size V Y/\Bx Y (w.1.size+1) (tx.jJ v.ar v.cr v.ah v.ch t)/\Bx Y xb [vI x.head,vI x.g]) X:=⟨au hS.1 bX,hS.2.1.later bX,hS.2.2.later bX⟩
    clear bX;refine hK.out _ _ (fun _=>hS) ?_;clear hK K;clear Wd;generalize X=Wd at *;refine bf 13 rfl hS ?_;simp only[Act.put];refine bf 14 rfl hS ?_;simp only[Act.put];refine bf 15 rfl hS ?_;simp only[Act.put]
  case' zd=>
   go_simp;obtain⟨X,hX⟩:∃X,X=Wd.alloc (.cells #[vI 0,vI 0,vI 0,vI 0,.slice none 0 0,.slice none 0 0,vI 0] 91):=⟨_,rfl⟩
   obtain⟨bb,gu⟩:∃bb,bb=Wd.1.size:=⟨_,rfl⟩
   have bX:Below Wd.1.size Wd X:=by rw[hX];exact aK.alloc aU _
   have xV:Bx X bb DV:=by rw[hX,gu];exact Bx.made Wd DV _
   rw[<-hX,<-gu];have HB:Hid (V.1.size<=bb):=by unfold Hid;have:=hS.1.size;omega
   replace hS:(fun Y:World=>Below V.1.size V Y/\Bx Y (w.1.size+1) (tx.jJ v.ar v.cr v.ah v.ch t)/\Bx Y xb [vI x.head,vI x.g]) X:=⟨au hS.1 bX,hS.2.1.later bX,hS.2.2.later bX⟩
   clear hX gu bX;refine hK.out _ _ (fun _=>hS) ?_;clear hK K;clear Wd;generalize X=Wd at *;refine bG 5 rfl (fun K hK=>?_);go_simp;refine(si _ _).mono ?_;rintro e w9 ⟨rfl,oD⟩;replace oD:=oD.symm;subst oD;refine hK.out _ _ (fun _=>hS) ?_;clear hK K;refine bG 10 rfl (fun K hK=>?_);go_simp;refine(mq _ _).mono ?_;rintro e w9 ⟨rfl,oD⟩;replace oD:=oD.symm;subst oD;refine hK.out _ _ (fun _=>hS) ?_;clear hK K;refine bf 11 rfl hS ?_;simp only[Act.put];refine bG 12 rfl (fun K hK=>?_);go_simp;have cN:=tx.jL Wd v t ⟨(i:Int),(n:Int),eQ x.head,x.g,aW 0 4000003 x.head&&dI x.head⟩ HK.out.2.2.1 (wH.out.sl.later hS.1) HK.out.2.2.2.2.1;simp only[tx.TV.val]at cN;obtain⟨N,hN⟩:∃N,tx.dR t ⟨(i:Int),(n:Int),eQ x.head,x.g,aW 0 4000003 x.head&&dI x.head⟩=N:=⟨_,rfl⟩
   obtain⟨ok,il⟩:∃ok,tx.eT t ⟨(i:Int),(n:Int),eQ x.head,x.g,aW 0 4000003 x.head&&dI x.head⟩=ok:=⟨_,rfl⟩
   rw[hN,il]at cN;refine cN.mono ?_;clear cN;rintro e X ⟨va,vc,vh,vd,PR,PS,rfl,mX,bX,xW⟩;have SL:Hid (N.ai.length<=vd):=xW;clear xW;have HO:Hid (tx.dR t ⟨(i:Int),(n:Int),eQ x.head,x.g,aW 0 4000003 x.head&&dI x.head⟩=N/\tx.eT t ⟨(i:Int),(n:Int),eQ x.head,x.g,aW 0 4000003 x.head&&dI x.head⟩=ok/\V.1.size<=Wd.1.size):=⟨hN,il,hS.1.size⟩
   clear hN il;have ZA:∀q,tx.lZ PR PS q->q≠bb:=fun q hq=>by have:=(mX.of hq).1;have:=xV.2.2;omega
   replace xV:=xV.later bX;replace mX:=mX.low (B':=V.1.size) (fun q hq=>by have:=(mX.of hq).1;have:=HO.out.2.2;omega);replace HO:Hid (tx.dR t ⟨(i:Int),(n:Int),eQ x.head,x.g,aW 0 4000003 x.head&&dI x.head⟩=N/\tx.eT t ⟨(i:Int),(n:Int),eQ x.head,x.g,aW 0 4000003 x.head&&dI x.head⟩=ok):=⟨HO.out.1,HO.out.2.1⟩
   replace hS:(fun Y:World=>Below V.1.size V Y/\Bx Y (w.1.size+1) (tx.jJ v.ar v.cr v.ah v.ch t)/\Bx Y xb [vI x.head,vI x.g]) X:=⟨au hS.1 bX,hS.2.1.later bX,hS.2.2.later bX⟩
   clear bX;refine hK.out _ _ (fun _=>hS) ?_;clear hK K;clear Wd;generalize X=Wd at *;refine bf 13 rfl hS ?_;simp only[Act.put];refine bf 14 rfl hS ?_;simp only[Act.put];refine bf 15 rfl hS ?_;simp only[Act.put]
  all_goals
   have c0:=xV.1 0 _ rfl;have f0:=xV.2.1 0;have c1:=xV.1 1 _ rfl;have f1:=xV.2.1 1;have c2:=xV.1 2 _ rfl;have f2:=xV.2.1 2;have c3:=xV.1 3 _ rfl;have f3:=xV.2.1 3;have c4:=xV.1 4 _ rfl;have f4:=xV.2.1 4;have c5:=xV.1 5 _ rfl;have f5:=xV.2.1 5;have c6:=xV.1 6 _ rfl;have f6:=xV.2.1 6;refine bG 17 rfl (fun K hK=>?_);go_simp;refine hK.out _ _ (fun h=>absurd (show false=true from h.symm.trans (by kernel_rfl)) (by decide)) ?_;clear hK K;refine bG 18 rfl (fun K hK=>?_);go_simp;refine hK.out _ _ (fun h=>absurd (show false=true from h.symm.trans (by kernel_rfl)) (by decide)) ?_;clear hK K;refine bH (by kernel_rfl) ?_ _;clear c0 c1 c2 c3 c4 c5 c6 f0 f1 f2 f3 f4 f5 f6;obtain⟨Y,hY⟩:∃Y,Y=cO Wd bb 0 (tx.jJ va vc vh vd N):=⟨_,rfl⟩
   have yb:=xV.put (tx.jJ va vc vh vd N) rfl;rw[<-hY]at yb;have rR:Y=(((((((Wd.setCell ⟨bb,0,none⟩ (vI N.id)).setCell ⟨bb,1,none⟩ (vI N.l)).setCell ⟨bb,2,none⟩ (vI N.o)).setCell ⟨bb,3,none⟩ (vI N.q)).setCell ⟨bb,4,none⟩ (.slice va N.a.length vc)).setCell ⟨bb,5,none⟩ (.slice vh N.ai.length vd)).setCell ⟨bb,6,none⟩ (vI N.az)):=hY;rw[<-rR];have dQ:Y.1.size=Wd.1.size:=by rw[hY];exact aS _ _ _ _
   have dS:∀q,q≠bb->Y.1[q]?=Wd.1[q]?:=fun q hq=>by rw[hY];exact aO hq _ _ _
   have bY:Below V.1.size V Y:=by rw[hY];exact aI HB.out _ _ _ hS.1
   have nZ:Hid (SY w Y a1 c1 a2 c2 a3 c3 k v t):=wH.out.later bY;have Sk:Hid (tx.OT Y V.1.size ⟨va,vc,vh,vd⟩ N PR PS/\Bx Y bb (tx.jJ va vc vh vd N)/\V.1.size<=bb):=⟨mX.aM (Nat.le_of_eq dQ.symm) (fun q _ hq=>dS q (ZA q hq)),yb,HB.out⟩
   clear rR hY yb dQ dS bY mX ZA hS xV HB;by_cases il:ok=true;rotate_left
   ·have QN:ok=false:=by simpa using il
    have HC:Hid (u7 k t (i:Int) (n:Int)=t/\yt k t (i:Int) (n:Int)=0/\qH k t (i:Int) (n:Int)=9):=Rx AP.out (by rw[VN.out.2,MB,HO.out.2,QN];rfl) (by decide);subst QN;clear il;have p0:=nZ.out.bt.1 0 _ rfl;have c0:=nZ.out.bz.1 0 _ rfl;have f0:=nZ.out.bz.2.1 0;have p1:=nZ.out.bt.1 1 _ rfl;have c1:=nZ.out.bz.1 1 _ rfl;have f1:=nZ.out.bz.2.1 1;have p2:=nZ.out.bt.1 2 _ rfl;have c2:=nZ.out.bz.1 2 _ rfl;have f2:=nZ.out.bz.2.1 2;have p3:=nZ.out.bt.1 3 _ rfl;have c3:=nZ.out.bz.1 3 _ rfl;have f3:=nZ.out.bz.2.1 3;have p4:=nZ.out.bt.1 4 _ rfl;have c4:=nZ.out.bz.1 4 _ rfl;have f4:=nZ.out.bz.2.1 4;have p5:=nZ.out.bt.1 5 _ rfl;have c5:=nZ.out.bz.1 5 _ rfl;have f5:=nZ.out.bz.2.1 5;have p6:=nZ.out.bt.1 6 _ rfl;have c6:=nZ.out.bz.1 6 _ rfl;have f6:=nZ.out.bz.2.1 6;have xz:=nZ.out.bz;have zb:=xz.put (tx.jJ v.ar v.cr v.ah v.ch t) rfl;obtain⟨Z,hZ⟩:∃Z,Z=cO Y (w.1.size+2) 0 (tx.jJ v.ar v.cr v.ah v.ch t):=⟨_,rfl⟩
    rw[<-hZ]at zb;have HZ:Hid (Z=(((((((Y.setCell ⟨w.1.size+2,0,none⟩ (vI t.id)).setCell ⟨w.1.size+2,1,none⟩ (vI t.l)).setCell ⟨w.1.size+2,2,none⟩ (vI t.o)).setCell ⟨w.1.size+2,3,none⟩ (vI t.q)).setCell ⟨w.1.size+2,4,none⟩ (.slice v.ar t.a.length v.cr)).setCell ⟨w.1.size+2,5,none⟩ (.slice v.ah t.ai.length v.ch)).setCell ⟨w.1.size+2,6,none⟩ (vI t.az))):=hZ;have bZ:Below w.1.size w Z:=by rw[hZ];exact aI (by omega) _ _ _ nZ.out.uU
    have KE:Hid (Sq w v t (u7 k t (i:Int) (n:Int)) (yt k t (i:Int) (n:Int)) (qH k t (i:Int) (n:Int)) (.returned (.tuple #[.agg #[vI t.id,vI t.l,vI t.o,vI t.q,.slice v.ar t.a.length v.cr,.slice v.ah t.ai.length v.ch,vI t.az],vI 0,vI 9])) Z):=by
     unfold Hid;rw[HC.out.1,HC.out.2.1,HC.out.2.2];exact⟨v,rfl,bZ,.inl ⟨rfl,rfl⟩,Hm.out⟩
    have z0:=zb.1 0 _ rfl;have z1:=zb.1 1 _ rfl;have z2:=zb.1 2 _ rfl;have z3:=zb.1 3 _ rfl;have z4:=zb.1 4 _ rfl;have z5:=zb.1 5 _ rfl;have z6:=zb.1 6 _ rfl;clear hZ zb bZ xz;go_wp2;rw[<-HZ.out];exact bodyPost_ret (v:=.tuple #[.agg #[vI t.id,vI t.l,vI t.o,vI t.q,.slice v.ar t.a.length v.cr,.slice v.ah t.ai.length v.ch,vI t.az],vI 0,vI 9]) (by simp[results,results48,go_sem,z0,z1,z2,z3,z4,z5,z6]) rfl KE.out
   subst il;have y0:=Sk.out.2.1.1 0 _ rfl;have g0:=nZ.out.bt.1 0 _ rfl;have f0:=nZ.out.bt.2.1 0;have y1:=Sk.out.2.1.1 1 _ rfl;have g1:=nZ.out.bt.1 1 _ rfl;have f1:=nZ.out.bt.2.1 1;have y2:=Sk.out.2.1.1 2 _ rfl;have g2:=nZ.out.bt.1 2 _ rfl;have f2:=nZ.out.bt.2.1 2;have y3:=Sk.out.2.1.1 3 _ rfl;have g3:=nZ.out.bt.1 3 _ rfl;have f3:=nZ.out.bt.2.1 3;have y4:=Sk.out.2.1.1 4 _ rfl;have g4:=nZ.out.bt.1 4 _ rfl;have f4:=nZ.out.bt.2.1 4;have y5:=Sk.out.2.1.1 5 _ rfl;have g5:=nZ.out.bt.1 5 _ rfl;have f5:=nZ.out.bt.2.1 5;have y6:=Sk.out.2.1.1 6 _ rfl;have g6:=nZ.out.bt.1 6 _ rfl;have f6:=nZ.out.bt.2.1 6;obtain⟨Z,hZ⟩:∃Z,Z=cO Y (w.1.size+1) 0 (tx.jJ va vc vh vd N):=⟨_,rfl⟩
   have zb:=nZ.out.bt.put (tx.jJ va vc vh vd N) rfl;rw[<-hZ]at zb;have HZ:Hid (Z=(((((((Y.setCell ⟨w.1.size+1,0,none⟩ (vI N.id)).setCell ⟨w.1.size+1,1,none⟩ (vI N.l)).setCell ⟨w.1.size+1,2,none⟩ (vI N.o)).setCell ⟨w.1.size+1,3,none⟩ (vI N.q)).setCell ⟨w.1.size+1,4,none⟩ (.slice va N.a.length vc)).setCell ⟨w.1.size+1,5,none⟩ (.slice vh N.ai.length vd)).setCell ⟨w.1.size+1,6,none⟩ (vI N.az))):=hZ;have zs:Z.1.size=Y.1.size:=by rw[hZ];exact aS _ _ _ _
   have zf:∀q,q≠w.1.size+1->Z.1[q]?=Y.1[q]?:=fun q hq=>by rw[hZ];exact aO hq _ _ _
   have bZ:Below w.1.size w Z:=by rw[hZ];exact aI (by omega) _ _ _ nZ.out.uU
   have sq:=wH.out.sz;have WT:tx.OT Z V.1.size ⟨va,vc,vh,vd⟩ N PR PS:=Sk.out.1.aM (Nat.le_of_eq zs.symm) (fun q _ hq=>zf q (by have:=(Sk.out.1.of hq).1;omega));have fi:Hid (SY w Z a1 c1 a2 c2 a3 c3 k ⟨va,vc,vh,vd⟩ N):=⟨bZ,nZ.out.bc.aj (zf _ (by omega)) (Nat.le_of_eq zs.symm),zb,nZ.out.bz.aj (zf _ (by omega)) (Nat.le_of_eq zs.symm),HK.out.2.2.2.2.2.2.2.2.later bZ,WT.sl,by rw[zs];exact nZ.out.sz⟩
   have gA:N.a.length<=13:=by have:=tx.Ho t ⟨(i:Int),(n:Int),eQ x.head,x.g,aW 0 4000003 x.head&&dI x.head⟩;rw[HO.out.1]at this;omega
   have TE:=tx.J7 (n:=⟨(i:Int),(n:Int),eQ x.head,x.g,aW 0 4000003 x.head&&dI x.head⟩) VO.out.2.2.2 HO.out.2;rw[HO.out.1]at TE;obtain⟨j,hj⟩:=Option.isSome_iff_exists.1 TE.1;have Od:tx.kS N.a (i:Int) (n:Int)=some j:=hj
   have bg:tx.aH N.a j=⟨(i:Int),(n:Int),eQ x.head,x.g,aW 0 4000003 x.head&&dI x.head⟩:=by
    have:=TE.2.1;rw[tx.G5,hj]at this;exact this
   have HC:=af (LA (u:=(tx.aH N.a j).j) (x:=(tx.aH N.a j).g) (N:=N) AP.out (by rw[VN.out.2,MB,HO.out.2];rfl) (by rw[Sm.out.2.1,VO.out.2.1,VN.out.1,HO.out.1]) (by rw[Sm.out.2.2.2,VO.out.2.2.1,VN.out.1,bg]) (by rw[Sm.out.2.2.1,VO.out.2.2.1,VN.out.1,bg]));have EY:j<N.a.length:=(List.findIdx?_eq_some_iff_getElem.1 Od).1;have cY:=tx.qV Z ⟨va,vc,vh,vd⟩ N (i:Int) (n:Int) (by omega) fi.out.sl;simp only[tx.TV.val]at cY;have MN:tx.jk N.a (i:Int) (n:Int)=(j:Int):=by rw[tx.jk,Od]
   rw[MN]at cY;have Yz:Hid (tx.OT Z V.1.size ⟨va,vc,vh,vd⟩ N PR PS/\w.1.size+3<=V.1.size/\N.a.length<=13/\j<N.a.length):=⟨WT,sq,gA,EY⟩
   have z0:=zb.1 0 _ rfl;have z1:=zb.1 1 _ rfl;have z2:=zb.1 2 _ rfl;have z3:=zb.1 3 _ rfl;have z4:=zb.1 4 _ rfl;have z5:=zb.1 5 _ rfl;have z6:=zb.1 6 _ rfl;rw[HZ.out]at z0 z1 z2 z3 z4 z5 z6;clear hZ zb zs zf bZ sq WT gA TE hj Od bg MN EY;go_wp2_with fail;rw[<-HZ.out];clear y0 y1 y2 y3 y4 y5 y6 g0 g1 g2 g3 g4 g5 g6 f0 f1 f2 f3 f4 f5 f6 z0 z1 z2 z3 z4 z5 z6;refine cY.mono ?_;clear cY;rintro e X ⟨rfl,bX⟩
   have Yx:Hid (cE w X a1 c1 a2 c2 a3 c3 k v t (i:Int) (n:Int) ⟨va,vc,vh,vd⟩ N j):=by
    have ho:=Yz.out.1.later bX;have h3:=Yz.out.2.1;have h4:=Yz.out.2.2.2;refine⟨fi.out.later bX,HC.out.1,HC.out.2.2,HC.out.2.1,.inr ⟨PR,PS,ho.low (fun q hq=>by have:=(ho.of hq).1;omega),fun q hq=>by have:=(ho.of hq).1;omega⟩,h4,by have:=Yz.out.2.2.1;omega,SL.out,?_⟩;rcases ho.r with h|⟨b,h1,hp,_,h2,_⟩
    ·rw[h]at h4;simp at h4
    ·exact⟨b,0,h1,by have:=(ho.rB b hp).1;omega,h2⟩
   obtain⟨u,N,HF⟩:∃u N',Hid (cE w X a1 c1 a2 c2 a3 c3 k v t (i:Int) (n:Int) u N' j):=⟨_,_,Yx⟩
   clear Yx HC Yz fi HO Sk nZ bX SL;have dj:decide ((j:Int)<0)=false:=by simp
 all_goals
  have gA:=HF.out.2.2.2.2.2.2.1;have EY:=HF.out.2.2.2.2.2.1;obtain⟨b,off,ha,Aa,iV⟩:=HF.out.2.2.2.2.2.2.2.2;have fc:Hid (b≠w.1.size+2):=Aa;have Ye:=af ha;have bg:=iV j _ (tx.fD EY);have x1:=HF.out.1.bt;rw[ha]at x1;have e3:=bg.c3;have e4:=bg.c4;have p4:=x1.1 4 _ rfl;have jn:(j:Int)<(N.a.length:Int):=by omega
  obtain⟨val,pO⟩:∃x,(tx.aH N.a j).g=x:=⟨_,rfl⟩
  rw[pO]at e3;have HV:=af pO;have sY:=af e3;clear ha Aa iV bg pO e3;by_cases hu:(tx.aH N.a j).j=true;rotate_left
  ·have TN:(tx.aH N.a j).j=false:=by simpa using hu
   rw[TN]at e4;have FK:Hid (yt k t (i:Int) (n:Int)=0/\qH k t (i:Int) (n:Int)=8):=⟨by rw[HF.out.2.2.2.1,TN];rfl,by rw[HF.out.2.2.1,TN];rfl⟩
   clear hu TN;have p0:=x1.1 0 _ rfl;have c0:=HF.out.1.bz.1 0 _ rfl;have f0:=HF.out.1.bz.2.1 0;have p1:=x1.1 1 _ rfl;have c1:=HF.out.1.bz.1 1 _ rfl;have f1:=HF.out.1.bz.2.1 1;have p2:=x1.1 2 _ rfl;have c2:=HF.out.1.bz.1 2 _ rfl;have f2:=HF.out.1.bz.2.1 2;have p3:=x1.1 3 _ rfl;have c3:=HF.out.1.bz.1 3 _ rfl;have f3:=HF.out.1.bz.2.1 3;have p4:=x1.1 4 _ rfl;have c4:=HF.out.1.bz.1 4 _ rfl;have f4:=HF.out.1.bz.2.1 4;have p5:=x1.1 5 _ rfl;have c5:=HF.out.1.bz.1 5 _ rfl;have f5:=HF.out.1.bz.2.1 5;have p6:=x1.1 6 _ rfl;have c6:=HF.out.1.bz.1 6 _ rfl;have f6:=HF.out.1.bz.2.1 6;have xz:=HF.out.1.bz;have zb:=xz.put (tx.jJ (some ⟨b,off,none⟩) u.cr u.ah u.ch N) rfl;obtain⟨Z,hZ⟩:∃Z,Z=cO X (w.1.size+2) 0 (tx.jJ (some ⟨b,off,none⟩) u.cr u.ah u.ch N):=⟨_,rfl⟩
   rw[<-hZ]at zb;have HZ:Hid (Z=(((((((X.setCell ⟨w.1.size+2,0,none⟩ (vI N.id)).setCell ⟨w.1.size+2,1,none⟩ (vI N.l)).setCell ⟨w.1.size+2,2,none⟩ (vI N.o)).setCell ⟨w.1.size+2,3,none⟩ (vI N.q)).setCell ⟨w.1.size+2,4,none⟩ (.slice (some ⟨b,off,none⟩) N.a.length u.cr)).setCell ⟨w.1.size+2,5,none⟩ (.slice u.ah N.ai.length u.ch)).setCell ⟨w.1.size+2,6,none⟩ (vI N.az))):=hZ;have bZ:Below w.1.size w Z:=by rw[hZ];exact aI (by omega) _ _ _ HF.out.1.uU
   have KE:Hid (Sq w v t (u7 k t (i:Int) (n:Int)) (yt k t (i:Int) (n:Int)) (qH k t (i:Int) (n:Int)) (.returned (.tuple #[.agg #[vI N.id,vI N.l,vI N.o,vI N.q,.slice (some ⟨b,off,none⟩) N.a.length u.cr,.slice u.ah N.ai.length u.ch,vI N.az],vI 0,vI 8])) Z):=by
    unfold Hid;rw[HF.out.2.1,FK.out.1,FK.out.2];refine⟨u,by simp only[tx.TV.val,Ye.out],bZ,?_,HF.out.2.2.2.2.2.2.2.1⟩;rcases HF.out.2.2.2.2.1 with h|⟨PR,PS,h1,h2⟩
    ·exact .inl h
    ·exact .inr ⟨PR,PS,h1.aM (by rw[hZ,aS];exact Nat.le_refl _) (fun q _ hq=>by rw[hZ];exact aO (by have:=h2 q hq;omega) _ _ _)⟩
   have z0:=zb.1 0 _ rfl;have z1:=zb.1 1 _ rfl;have z2:=zb.1 2 _ rfl;have z3:=zb.1 3 _ rfl;have z4:=zb.1 4 _ rfl;have z5:=zb.1 5 _ rfl;have z6:=zb.1 6 _ rfl;clear hZ zb bZ xz;go_wp2;rw[<-HZ.out];exact bodyPost_ret (v:=.tuple #[.agg #[vI N.id,vI N.l,vI N.o,vI N.q,.slice (some ⟨b,off,none⟩) N.a.length u.cr,.slice u.ah N.ai.length u.ch,vI N.az],vI 0,vI 8]) (by simp[results,results48,go_sem,z0,z1,z2,z3,z4,z5,z6]) rfl KE.out
  ·rw[hu]at e4;have FK:Hid (yt k t (i:Int) (n:Int)=val/\qH k t (i:Int) (n:Int)=0):=⟨by rw[HF.out.2.2.2.1,hu,HV.out];rfl,by rw[HF.out.2.2.1,hu];rfl⟩
   clear hu;have bD:Below X.1.size X X.drew:=aK.drew;have BD:=af bD;have hS:(fun Y:World=>Bx Y (w.1.size+1) (tx.jJ (some ⟨b,off,none⟩) u.cr u.ah u.ch N)/\Y.cell? ⟨b,off+j*5+3,none⟩=some (vI val)) X.drew:=⟨x1.later bD,sY.out⟩
   have ta:Hid (Bx X (w.1.size+1) (tx.jJ (some ⟨b,off,none⟩) u.cr u.ah u.ch N)):=x1;clear bD x1;go_wp2_with fail;refine aT (fun _=>false) (fun Y:World=>Bx Y (w.1.size+1) (tx.jJ (some ⟨b,off,none⟩) u.cr u.ah u.ch N)/\Y.cell? ⟨b,off+j*5+3,none⟩=some (vI val)) (by kernel_rfl) ?_;generalize X.drew=D at *;refine fU 0 (.agg #[vI N.id,vI N.l,vI N.o,vI N.q,.slice (some ⟨b,off,none⟩) N.a.length u.cr,.slice u.ah N.ai.length u.ch,vI N.az]) rfl ?_ hS ?_
   ·(intro w aA;have q0:=aA.1.1 0 _ rfl;have q1:=aA.1.1 1 _ rfl;have q2:=aA.1.1 2 _ rfl;have q3:=aA.1.1 3 _ rfl;have q4:=aA.1.1 4 _ rfl;have q5:=aA.1.1 5 _ rfl;have q6:=aA.1.1 6 _ rfl;clear hS aA;go_simp)
   simp only[Act.put];refine bf 1 rfl hS ?_;simp only[Act.put];refine fU 2 (.slice (some ⟨b,off,none⟩) N.a.length u.cr) rfl ?_ hS ?_
   ·(intro w aA;have q4:=aA.1.1 4 _ rfl;clear hS aA;go_simp)
   simp only[Act.put];refine bf 3 rfl hS ?_;simp only[Act.put];refine Nr 4 (.pointer (some ⟨b,off+j*5,none⟩)) rfl ?_ hS ?_
   ·(intro w _;go_simp;first|done|(rw[if_pos (by omega)]))
   simp only[Act.put];refine Nr 5 (.pointer (some ⟨b,off+j*5+3,none⟩)) rfl ?_ hS ?_
   ·(intro w _;go_simp)
   simp only[Act.put];refine fU 6 (vI val) rfl ?_ hS ?_
   ·(intro w aA;have q:=aA.2;clear hS aA;go_simp)
   simp only[Act.put];have xr:=HF.out.1.bz.later BD.out;have c0:=xr.1 0 _ rfl;have f0:=xr.2.1 0;have c1:=xr.1 1 _ rfl;have f1:=xr.2.1 1;have c2:=xr.1 2 _ rfl;have f2:=xr.2.1 2;have c3:=xr.1 3 _ rfl;have f3:=xr.2.1 3;have c4:=xr.1 4 _ rfl;have f4:=xr.2.1 4;have c5:=xr.1 5 _ rfl;have f5:=xr.2.1 5;have c6:=xr.1 6 _ rfl;have f6:=xr.2.1 6;obtain⟨Z,hZ⟩:∃Z,Z=cO D (w.1.size+2) 0 (tx.jJ (some ⟨b,off,none⟩) u.cr u.ah u.ch N):=⟨_,rfl⟩
   have zb:=xr.put (tx.jJ (some ⟨b,off,none⟩) u.cr u.ah u.ch N) rfl;rw[<-hZ]at zb;have SV:Hid (Z=(((((((D.setCell ⟨w.1.size+2,0,none⟩ (vI N.id)).setCell ⟨w.1.size+2,1,none⟩ (vI N.l)).setCell ⟨w.1.size+2,2,none⟩ (vI N.o)).setCell ⟨w.1.size+2,3,none⟩ (vI N.q)).setCell ⟨w.1.size+2,4,none⟩ (.slice (some ⟨b,off,none⟩) N.a.length u.cr)).setCell ⟨w.1.size+2,5,none⟩ (.slice u.ah N.ai.length u.ch)).setCell ⟨w.1.size+2,6,none⟩ (vI N.az))):=hZ;have hf:∀q,q≠w.1.size+2->Z.1[q]?=D.1[q]?:=fun q hq=>by rw[hZ];exact aO hq _ _ _
   have jN:(fun Y:World=>Bx Y (w.1.size+1) (tx.jJ (some ⟨b,off,none⟩) u.cr u.ah u.ch N)/\Y.cell? ⟨b,off+j*5+3,none⟩=some (vI val)) Z:=⟨hS.1.aj (hf _ (by omega)) (by rw[hZ,aS];exact Nat.le_refl _),(World.cell?_of_block (a:=⟨b,off+j*5+3,none⟩) (hf b fc.out)).trans hS.2⟩
   have sj:=af jN;have bZ:Below w.1.size w Z:=by rw[hZ];exact aI (by omega) _ _ _ (au HF.out.1.uU BD.out)
   have KE:Hid (Sq w v t (u7 k t (i:Int) (n:Int)) (yt k t (i:Int) (n:Int)) (qH k t (i:Int) (n:Int)) (.returned (.tuple #[.agg #[vI N.id,vI N.l,vI N.o,vI N.q,.slice (some ⟨b,off,none⟩) N.a.length u.cr,.slice u.ah N.ai.length u.ch,vI N.az],vI val,vI 0])) Z):=by
    unfold Hid;rw[HF.out.2.1,FK.out.1,FK.out.2];refine⟨u,by simp only[tx.TV.val,Ye.out],bZ,?_,HF.out.2.2.2.2.2.2.2.1⟩;rcases HF.out.2.2.2.2.1 with h|⟨PR,PS,h1,h2⟩
    ·exact .inl h
    ·exact .inr ⟨PR,PS,(h1.later BD.out).aM (by rw[hZ,aS];exact Nat.le_refl _) (fun q _ hq=>by rw[hZ];exact aO (by have:=h2 q hq;omega) _ _ _)⟩
   have z0:=zb.1 0 _ rfl;have z1:=zb.1 1 _ rfl;have z2:=zb.1 2 _ rfl;have z3:=zb.1 3 _ rfl;have z4:=zb.1 4 _ rfl;have z5:=zb.1 5 _ rfl;have z6:=zb.1 6 _ rfl;clear hZ jN hf zb xr bZ;refine bG 7 rfl (fun K hK=>?_);go_simp;rw[<-SV.out];refine hK.out _ _ (fun _=>sj.out) ?_;clear hK K hS c0 f0 c1 f1 c2 f2 c3 f3 c4 f4 c5 f5 c6 f6;refine bG 8 rfl (fun K hK=>?_);go_simp;refine hK.out _ _ (fun _=>sj.out) ?_;clear hK K;refine bG 9 rfl (fun K hK=>?_);go_simp;refine hK.out _ _ (fun _=>sj.out) ?_;clear hK K;refine bH (by kernel_rfl) ?_ _;go_wp2;exact bodyPost_ret (v:=.tuple #[.agg #[vI N.id,vI N.l,vI N.o,vI N.q,.slice (some ⟨b,off,none⟩) N.a.length u.cr,.slice u.ah N.ai.length u.ch,vI N.az],vI val,vI 0]) (by simp[results,results48,go_sem,z0,z1,z2,z3,z4,z5,z6]) rfl KE.out
end
section
open Go.Proofs.Tryz
end
section
open Go.Proofs.Tryz
end
namespace tx
open Go.Proofs.Tryz
variable {i:Nat}{n s:S5}{xs:List S5}
def lF(xs:List S5)(n:S5):Nat:=xs.findIdx fun x=>!jv x.b x.e n.b n.e
def uY(xs:List S5)(n:S5):List S5:=xs.take (lF xs n)++[n]++xs.drop (lF xs n)
def oI(xs:List S5)(n:S5)(j:Nat):Bool:=jv (aF xs j).b (aF xs j).e n.b n.e
theorem pz(h:i<xs.length):aF xs i=xs[i]:=by have:=eX h;rw[List.getElem?_eq_getElem h]at this;exact(Option.some.inj this).symm
theorem Qs{k:Nat}(hk:k<xs.length)(h:oI xs n k=false)(aQ:∀j,j<k->oI xs n j=true):lF xs n=k:=by
 unfold lF;rw[List.findIdx_eq hk];refine⟨by rw[<-pz hk];simpa[oI]using h,fun j hj=>?_⟩;rw[<-pz (by omega)];simpa[oI]using aQ j hj
theorem NR(aQ:∀j,j<xs.length->oI xs n j=true):lF xs n=xs.length:=by
 unfold lF;rw[List.findIdx_eq_length];intro x hx;obtain⟨i,hi,rfl⟩:=List.getElem_of_mem hx;have:=aQ i hi;rw[oI,pz hi]at this;simp[this]
def yM(s:S5)(v:Int):S5:=⟨s.b,s.e,s.g,s.j,v⟩
def rq(xs:List S5)(i:Nat)(s:S5):List S5:=xs.set i (yM s (aF xs i).i)
def dL(t:T7)(s:S5):T7:=if kv t=true/\bK s=true then(match l8 t.ai s.b s.e with|some i=>⟨t.id,t.l,t.o,t.q,t.a,rq t.ai i s,t.az⟩|none=>if t.ai.length=12 then kg else⟨t.id,t.l,t.o,t.q,t.a,uY t.ai s,t.az⟩)else kg
def iP(t:T7)(s:S5):Bool:=kv t&&bK s&&((l8 t.ai s.b s.e).isSome||!decide (t.ai.length=12))
theorem zB{r s:Int}(h:l8 xs r s=some i):i<xs.length/\(aF xs i).b=r/\(aF xs i).e=s:=by
 unfold l8 at h;rw[List.findIdx?_eq_some_iff_getElem]at h;obtain⟨hi,hp,_⟩:=h;refine⟨hi,?_⟩;rw[pz hi];simpa using hp
theorem Dh(xs:List S5)(i:Nat)(s:S5):(rq xs i s).length=xs.length:=by simp[rq]
theorem Uw(j:Nat)(h:i<xs.length):(rq xs i s)[j]?=if i=j then some (yM s (aF xs i).i)else xs[j]?:=by
 unfold rq;rw[List.getElem?_set];by_cases e:i=j
 ·subst e;simp[h]
 ·simp[e]
theorem XJ(h:l8 xs s.b s.e=some i):(rq xs i s).map lM=xs.map lM:=by
 obtain⟨hi,h1,h2⟩:=zB h;apply List.ext_getElem?;intro j;rw[List.getElem?_map,List.getElem?_map,Uw j hi];by_cases e:i=j
 ·subst e
  have h3:lM (yM s (aF xs i).i)=lM xs[i]:=by
   rw[<-pz hi];unfold lM yM;rw[h1,h2]
  rw[if_pos rfl,List.getElem?_eq_getElem hi,Option.map_some,Option.map_some,h3]
 ·rw[if_neg e]
theorem Uy(hu:yD xs)(h:l8 xs s.b s.e=some i):(rq xs i s).Pairwise (fun a b=>lM a<lM b):=by
 have h1:((rq xs i s).map lM).Pairwise (·<·):=by rw[XJ h,List.pairwise_map];exact hu
 rwa[List.pairwise_map]at h1
theorem Ux(il:∀s∈xs,bK s=true)(hs:bK s=true)(h:l8 xs s.b s.e=some i):bK (yM s (aF xs i).i)=true:=by
 obtain⟨hi,-,-⟩:=zB h;have h1:=il _ (List.getElem_mem hi);rw[<-pz hi]at h1;simp only[bK,yM,Bool.and_eq_true]at h1 hs ⊢;exact⟨hs.1,h1.2⟩
theorem JE(h:yD xs):dF.Hp (jS xs) xs.length:=fun i h0 hn=>by
 have e1:xs[(i-1)/2]?=some xs[(i-1)/2]:=List.getElem?_eq_getElem (by omega);have e2:xs[i]?=some xs[i]:=List.getElem?_eq_getElem hn;rw[FE e1,FE e2];exact Int.le_of_lt (Dt h e1 e2 (by omega))
theorem mO.Jo{W:World}{P:Nat->Prop}{b:Nat}(hb:P b)(hl:b<W.1.size)(ha:aY W b 0 xs)(hr:Room W b (xs.length*5))(hi:i<xs.length)(y:S5):mO ((((((W).setCell ⟨b,i*5,none⟩ (vI y.b)).setCell ⟨b,i*5+1,none⟩ (vI y.e)).setCell ⟨b,i*5+2,none⟩ (vI y.g)).setCell ⟨b,i*5+3,none⟩ (.bool y.j)).setCell ⟨b,i*5+4,none⟩ (vI y.i)) P (some ⟨b,0,none⟩) (xs.set i y):=by
 obtain⟨v0,d0,_⟩:=hr (i*5) (by omega);obtain⟨v1,d1,_⟩:=hr (i*5+1) (by omega);obtain⟨v2,d2,_⟩:=hr (i*5+2) (by omega);obtain⟨v3,d3,_⟩:=hr (i*5+3) (by omega);obtain⟨v4,d4,_⟩:=hr (i*5+4) (by omega);refine .inr ⟨b,rfl,hb,by simpa[World.setCell]using hl,fun k s hk=>?_,by rw[List.length_set];exact((((hr.set _).set _).set _).set _).set _⟩;rw[Nat.zero_add];by_cases e:i=k
 ·subst e;rw[List.getElem?_set_self hi]at hk;obtain rfl:=Option.some.inj hk;exact aV.put y d0 d1 d2 d3 d4
 ·rw[List.getElem?_set_ne e]at hk;have:=ha k s hk;rw[Nat.zero_add]at this;exact((((this.set (by omega) _).set (by omega) _).set (by omega) _).set (by omega) _).set (by omega) _
theorem LV(w:World)(base p mb m:Nat)(v:Value)(xs:List S5)(h:oo w base p mb m v xs):
  Calls prog 158 #[.pointer (some ⟨p,0,none⟩)] w fun e w'=>e=.returned (.bool (decide (12<=xs.length)))/\w'=w:=by
 obtain⟨a,c,rfl,-⟩:=h.row.form;have c0:=h.c0;clear h;by_cases hl:12<=xs.length
 ·have d1:decide ((12:Int)<=(xs.length:Int))=true:=by simp;omega
  have d2:decide (12<=xs.length)=true:=by simpa using hl
  rw[d2];clear hl d2;go_enter func158,ntmps158;go_wp2;go_ret;exact⟨rfl,rfl⟩
 ·have d1:decide ((12:Int)<=(xs.length:Int))=false:=by simp;omega
  have d2:decide (12<=xs.length)=false:=by simpa using hl
  rw[d2];clear hl d2;go_enter func158,ntmps158;go_wp2;go_ret;exact⟨rfl,rfl⟩
end tx
namespace tx
open Go.Proofs.Tryz
def BS(X:World)(s:Nat)(n:S5):Prop:=aV X s 0 n/\∀j,X.frozen? ⟨s,j,none⟩=false
theorem BS.below{w w':World}{B s:Nat}{n:S5}(h:BS w s n)(hb:Below B w w')(hB:s<B):BS w' s n:=⟨h.1.below hb hB,fun j=>(hb.frozen (p:=⟨s,j,none⟩) hB).trans (h.2 j)⟩
theorem BS.box(X:World)(n:S5)(T:TypeId):BS (X.alloc (.cells #[vI n.b,vI n.e,vI n.g,.bool n.j,vI n.i] T)) X.1.size n:=⟨aV.box X n T,fun j=>by go_simp⟩
theorem uo(w:World)(v:TV)(t:T7)(n:S5)(hl:TL t)(hs:uA w v t)(hc:t.ai.length<=v.ch):
  Calls prog 50 #[v.val t,.agg #[vI n.b,vI n.e,vI n.g,.bool n.j,vI n.i]] w (xu w (dL t n) (iP t n)):=by
 obtain⟨ar,cr,ah,ch⟩:=v;simp only[TV.val];dsimp only at hc;obtain⟨W0,dO⟩:=bO (w.alloc (.cells #[vI t.id,vI t.l,vI t.o,vI t.q,.slice ar t.a.length cr,.slice ah t.ai.length ch,vI t.az] 91));have z0:W0.1.size=w.1.size+1:=by rw[dO];simp
 have x0:BT W0 w.1.size ⟨ar,cr,ah,ch⟩ t:=by rw[dO];exact BT.box w ⟨ar,cr,ah,ch⟩ t _
 have b0:Below w.1.size w W0:=by rw[dO];exact aK.alloc aU _
 obtain⟨W1,fA⟩:=bO (W0.alloc (.cells #[vI n.b,vI n.e,vI n.g,.bool n.j,vI n.i] 96));have z1:W1.1.size=w.1.size+2:=by rw[fA];simp[z0]
 have x1:BS W1 (w.1.size+1) n:=by rw[fA,<-z0];exact BS.box W0 _ _
 have b1:Below W0.1.size W0 W1:=by rw[fA];exact aK.alloc aU _
 obtain⟨W,hW⟩:=bO (W1.alloc (.cells #[vI 0,vI 0,vI 0,vI 0,.slice none 0 0,.slice none 0 0,vI 0] 91));have zW:W.1.size=w.1.size+3:=by rw[hW];simp[z1]
 have x2:BT W (w.1.size+2) ⟨none,0,none,0⟩ ⟨0,0,0,0,[],[],0⟩:=by rw[hW,<-z1];exact BT.zero W1 _
 have b2:Below W1.1.size W1 W:=by rw[hW];exact aK.alloc aU _
 have bW:=(b0.trans (b1.mono b0.size)).trans (b2.mono (by omega));have c1:=rE W ⟨ar,cr,ah,ch⟩ t hl (hs.later bW);simp only[TV.val]at c1;have H:=wL ((x0.later b1).later b2) (x1.below b2 (by omega)) x2 bW (hs.later bW) zW;rw[fA,dO]at hW;clear dO fA z0 x0 b0 z1 x1 b1 zW x2 b2 bW hs hl
 cases hB:kv t with
 | false=>
  rw[hB]at c1;have HN:=dw (show dL t n=kg by simp[dL,hB]) (show iP t n=false by simp[iP,hB]);go_enter func50,ntmps50;go_wp2_with fail;rw[<-hW];clear hW;refine c1.mono ?_;clear c1;rintro e w1 ⟨rfl,b1⟩;have KZ:=dw (H.out.2.2.1.later b1) (H.out.2.2.2.1.trans (b1.mono H.out.2.2.2.1.size));clear b1 H;obtain⟨r0,r1,r2,r3,r4,r5,r6,fr,-⟩:=KZ.out.1;have jA:=KZ.out.1.put ⟨none,0,none,0⟩ kg;simp only[iq,kg,List.length_nil]at jA;obtain⟨u0,u1,u2,u3,u4,u5,u6,-,-⟩:=jA;have KU:=af (And.intro u0 (And.intro u1 (And.intro u2 (And.intro u3 (And.intro u4 (And.intro u5 u6))))));clear u0 u1 u2 u3 u4 u5 u6;have f0:=fr 0;have f1:=fr 1;have f2:=fr 2;have f3:=fr 3;have f4:=fr 4;have f5:=fr 5;have f6:=fr 6;clear fr;simp only[List.length_nil]at r4 r5;go_wp2;obtain⟨u0,u1,u2,u3,u4,u5,u6⟩:=KU.out;refine bodyPost_ret (v:=.tuple #[.agg #[vI 0,vI 0,vI 0,vI 0,.slice none 0 0,.slice none 0 0,vI 0],.bool false]) (by simp[results,results50,go_sem,u0,u1,u2,u3,u4,u5,u6]) rfl ?_;rw[HN.out.1,HN.out.2];exact xu.zero (cz (s:=w.1.size+2) (v:=⟨none,0,none,0⟩) (t:=kg) KZ.out.2 (by omega))
 | true=>
  rw[hB]at c1;go_enter func50,ntmps50;go_wp2_with fail;rw[<-hW];clear hW;refine c1.mono ?_;clear c1;rintro e w1 ⟨rfl,b1⟩;obtain⟨⟨n0,n1,n2,n3,n4⟩,-⟩:=H.out.2.1.below b1 (by have:=H.out.2.2.2.2.2;omega);simp only[Nat.zero_add]at n1 n2 n3 n4;have c2:=qf w1 n;have H1:=wL (H.out.1.later b1) (show BS w1 (w.1.size+1) n from H.out.2.1.below b1 (by have:=H.out.2.2.2.2.2;omega)) (H.out.2.2.1.later b1) (H.out.2.2.2.1.trans (b1.mono H.out.2.2.2.1.size)) (H.out.2.2.2.2.1.later b1) (show w.1.size+3<=w1.1.size by have:=H.out.2.2.2.2.2;have:=b1.size;omega);clear b1 H;go_wp2_with fail;refine c2.mono ?_;clear c2 n0 n1 n2 n3 n4;rintro e w2 ⟨rfl,b2⟩;have H2:=wL (H1.out.1.later b2) (show BS w2 (w.1.size+1) n from H1.out.2.1.below b2 (by have:=H1.out.2.2.2.2.2;omega)) (H1.out.2.2.1.later b2) (H1.out.2.2.2.1.trans (b2.mono H1.out.2.2.2.1.size)) (H1.out.2.2.2.2.1.later b2) (show w.1.size+3<=w2.1.size by have:=H1.out.2.2.2.2.2;have:=b2.size;omega);clear b2 H1
  cases hO:bK n with
  | false=>
   have HN:=dw (show dL t n=kg by simp[dL,hO]) (show iP t n=false by simp[iP,hO]);have KZ:=dw H2.out.2.2.1 H2.out.2.2.2.1;clear H2;obtain⟨r0,r1,r2,r3,r4,r5,r6,fr,-⟩:=KZ.out.1;have jA:=KZ.out.1.put ⟨none,0,none,0⟩ kg;simp only[iq,kg,List.length_nil]at jA;obtain⟨u0,u1,u2,u3,u4,u5,u6,-,-⟩:=jA;have KU:=af (And.intro u0 (And.intro u1 (And.intro u2 (And.intro u3 (And.intro u4 (And.intro u5 u6))))));clear u0 u1 u2 u3 u4 u5 u6;have f0:=fr 0;have f1:=fr 1;have f2:=fr 2;have f3:=fr 3;have f4:=fr 4;have f5:=fr 5;have f6:=fr 6;clear fr;simp only[List.length_nil]at r4 r5;go_wp2;obtain⟨u0,u1,u2,u3,u4,u5,u6⟩:=KU.out;refine bodyPost_ret (v:=.tuple #[.agg #[vI 0,vI 0,vI 0,vI 0,.slice none 0 0,.slice none 0 0,vI 0],.bool false]) (by simp[results,results50,go_sem,u0,u1,u2,u3,u4,u5,u6]) rfl ?_;rw[HN.out.1,HN.out.2];exact xu.zero (cz (s:=w.1.size+2) (v:=⟨none,0,none,0⟩) (t:=kg) KZ.out.2 (by omega))
  | true=>
   have m8:=(gG hB).1;have Xt:=(gG hB).2;have c3:=Lb w2 ⟨ar,cr,ah,ch⟩ t (by omega) (by omega) H2.out.2.2.2.2.1;simp only[TV.val]at c3;obtain⟨p0,p1,p2,p3,p4,p5,p6,-,-⟩:=H2.out.1;dsimp only at p4 p5;go_wp2_with fail;refine c3.mono ?_;clear c3 p0 p1 p2 p3 p4 p5 p6;rintro e w3 ⟨a4,c4,h4,d4,PR,PS,rfl,o3,b3⟩;simp only[TV.val];obtain⟨X3,nL⟩:=bO (w3.alloc (.cells #[vI t.id,vI t.l,vI t.o,vI t.q,.slice a4 t.a.length c4,.slice h4 t.ai.length d4,vI t.az] 91));have b3':Below w3.1.size w3 X3:=by rw[nL];exact aK.alloc aU _
   have Br:=b3.trans (b3'.mono b3.size);have x3:BT X3 w3.1.size ⟨a4,c4,h4,d4⟩ t:=by rw[nL];exact BT.box w3 ⟨a4,c4,h4,d4⟩ t _
   have H3:=xZ (H2.out.1.later Br) (show BS X3 (w.1.size+1) n from H2.out.2.1.below Br (by have:=H2.out.2.2.2.2.2;omega)) (H2.out.2.2.1.later Br) (H2.out.2.2.2.1.trans (Br.mono H2.out.2.2.2.1.size)) (H2.out.2.2.2.2.1.later Br) (show w.1.size+3<=w3.1.size by have:=H2.out.2.2.2.2.2;have:=b3.size;omega) x3 (And.intro (o3.later b3') (show(∀q,lZ PR PS q->w.1.size+3<=q/\q<w3.1.size)from fun q hq=>⟨by have:=(o3.of hq).1;have:=H2.out.2.2.2.2.2;omega,(o3.of hq).2⟩));clear b3 b3' Br x3 o3 H2;obtain⟨p0,p1,p2,p3,p4,p5,p6,-,-⟩:=H3.out.1;dsimp only at p4 p5;obtain⟨⟨n0,n1,-,-,-⟩,-⟩:=H3.out.2.1;simp only[Nat.zero_add]at n1;have DT:=Fe X3 ⟨ar,cr,ah,ch⟩ t n.b n.e (by omega) H3.out.2.2.2.2.1;simp only[TV.val]at DT;obtain⟨A,hA⟩:=bO (setAt t.ai n.b n.e);rw[<-hA]at DT;rw[nL]at p0 p1 p2 p3 p4 p5 p6 n0 n1;go_wp2_with fail;rw[<-nL];clear nL p0 p1 p2 p3 p4 p5 p6 n0 n1;refine DT.mono ?_;clear DT;rintro e w4 ⟨rfl,b4⟩;have H4:=xZ (H3.out.1.later b4) (show BS w4 (w.1.size+1) n from H3.out.2.1.below b4 (by have:=H3.out.2.2.2.2.2.1;have:=H3.out.2.2.2.2.2.2.1.lt;omega)) (H3.out.2.2.1.later b4) (H3.out.2.2.2.1.trans (b4.mono H3.out.2.2.2.1.size)) (H3.out.2.2.2.2.1.later b4) H3.out.2.2.2.2.2.1 (H3.out.2.2.2.2.2.2.1.later b4) (nH (H3.out.2.2.2.2.2.2.2.1.later b4) H3.out.2.2.2.2.2.2.2.2 ((H3.out.2.2.2.2.2.2.1.later b4).lt));clear b4 H3
   cases hW:l8 t.ai n.b n.e with
   | some i=>
    obtain⟨hi,-,-⟩:=zB hW;obtain rfl:A=(i:Int):=by rw[hA];simp[setAt,hW]
    clear hA;have HN:=dw (show dL t n=(⟨t.id,t.l,t.o,t.q,t.a,rq t.ai i n,t.az⟩:T7) by simp[dL,hB,hO,hW]) (show iP t n=true by simp[iP,hB,hO,hW]);have dA:decide ((0:Int)<=(i:Int))=true:=by simp
    obtain⟨_,fQ⟩:=H4.out.2.2.2.2.1.s;dsimp only at fQ;rcases fQ with fQ|⟨b,off,rfl,hb,hx⟩
    ·omega
    rcases H4.out.2.2.2.2.2.2.2.1.s with x8|⟨b',px,EW,aB,QU,rU⟩
    ·rw[x8]at hi;simp at hi
    dsimp only at px;subst px;obtain⟨-,-,-,-,k4⟩:=hx i _ (eX hi);have p5:=H4.out.1.c5;dsimp only at p5;obtain⟨⟨n0,n1,n2,n3,n4⟩,nf⟩:=H4.out.2.1;simp only[Nat.zero_add]at n1 n2 n3 n4;have eE:=nf 4;have QM:b'≠w.1.size+1:=by have:=(H4.out.2.2.2.2.2.2.2.2.1 b' (.inr EW)).1;omega
    have kA:b'≠w.1.size+2:=by have:=(H4.out.2.2.2.2.2.2.2.2.1 b' (.inr EW)).1;omega
    have kO:b'≠w3.1.size:=by have:=(H4.out.2.2.2.2.2.2.2.2.1 b' (.inr EW)).2;omega
    have ii:(i:Int)<(t.ai.length:Int):=by omega
    have ob:aX (w.1.size+1) w4 (w4.setCell ⟨w.1.size+1,4,none⟩ (vI (aF t.ai i).i)):=(aX.refl _ _).setCell 4 _;have a3:BT (w4.setCell ⟨w.1.size+1,4,none⟩ (vI (aF t.ai i).i)) w3.1.size ⟨a4,c4,some ⟨b',0,none⟩,d4⟩ t:=H4.out.2.2.2.2.2.2.1.dS (by dsimp only;have:=H4.out.2.2.2.2.2.1;omega) _
    have KA:Hid (BT (w4.setCell ⟨w.1.size+1,4,none⟩ (vI (aF t.ai i).i)) w3.1.size ⟨a4,c4,some ⟨b',0,none⟩,d4⟩ t/\BT (w4.setCell ⟨w.1.size+1,4,none⟩ (vI (aF t.ai i).i)) (w.1.size+2) ⟨none,0,none,0⟩ ⟨0,0,0,0,[],[],0⟩/\aV (w4.setCell ⟨w.1.size+1,4,none⟩ (vI (aF t.ai i).i)) (w.1.size+1) 0 (yM n (aF t.ai i).i)/\aY (w4.setCell ⟨w.1.size+1,4,none⟩ (vI (aF t.ai i).i)) b' 0 t.ai/\Room (w4.setCell ⟨w.1.size+1,4,none⟩ (vI (aF t.ai i).i)) b' (t.ai.length*5)/\b'<(w4.setCell ⟨w.1.size+1,4,none⟩ (vI (aF t.ai i).i)).1.size/\OT (w4.setCell ⟨w.1.size+1,4,none⟩ (vI (aF t.ai i).i)) w2.1.size ⟨a4,c4,some ⟨b',0,none⟩,d4⟩ t PR PS/\Below w.1.size w (w4.setCell ⟨w.1.size+1,4,none⟩ (vI (aF t.ai i).i))):=
     ⟨a3,H4.out.2.2.1.dS (by dsimp only;omega) _,⟨(ae (by omega)).trans n0,(ae (by omega)).trans n1,(ae (by omega)).trans n2,(ae (by omega)).trans n3,ay n4⟩,QU.aj (ob.block b' QM),rU.aj (ob.block b' QM),by simpa[World.setCell]using aB,H4.out.2.2.2.2.2.2.2.1.aM (by simp[World.setCell]) (fun q _ hq=>ob.block q (by have:=(H4.out.2.2.2.2.2.2.2.2.1 q hq).1;omega)),H4.out.2.2.2.1.setCell (p:=⟨w.1.size+1,4,none⟩) (by dsimp only;omega) _⟩
    have HQ:=dw H4.out.2.2.2.2.2.2.2.2.1 H4.out.2.2.2.2.2.1;clear nf hx a3 ob QU rU aB H4 hb;go_upto_region 7 with fail
    clear k4 p5 n0 n1 n2 n3 n4 eE dA;generalize (w4.setCell ⟨w.1.size+1,4,none⟩ (vI (aF t.ai i).i))=Wa at *;obtain⟨k1,k2,⟨m0,m1,m2,m3,m4⟩,k4,k5,k6,k7,k8⟩:=KA.out;simp only[Nat.zero_add,yM]at m0 m1 m2 m3 m4;have q5:=k1.c5;dsimp only at q5;obtain⟨v0,d0,g0⟩:=k5 (i*5) (by omega);obtain⟨v1,d1,g1⟩:=k5 (i*5+1) (by omega);obtain⟨v2,d2,g2⟩:=k5 (i*5+2) (by omega);obtain⟨v3,d3,g3⟩:=k5 (i*5+3) (by omega);obtain⟨v4,da,g4⟩:=k5 (i*5+4) (by omega);have ob:aX b' Wa ((((((Wa).setCell ⟨b',i*5,none⟩ (vI n.b)).setCell ⟨b',i*5+1,none⟩ (vI n.e)).setCell ⟨b',i*5+2,none⟩ (vI n.g)).setCell ⟨b',i*5+3,none⟩ (.bool n.j)).setCell ⟨b',i*5+4,none⟩ (vI (aF t.ai i).i)):=(((((aX.refl _ _).setCell _ _).setCell _ _).setCell _ _).setCell _ _).setCell _ _;have o5:=mO.Jo (P:=PS) EW k6 k4 k5 hi (yM n (aF t.ai i).i);simp only[yM]at o5;have dQ:((((((Wa).setCell ⟨b',i*5,none⟩ (vI n.b)).setCell ⟨b',i*5+1,none⟩ (vI n.e)).setCell ⟨b',i*5+2,none⟩ (vI n.g)).setCell ⟨b',i*5+3,none⟩ (.bool n.j)).setCell ⟨b',i*5+4,none⟩ (vI (aF t.ai i).i)).1.size=Wa.1.size:=by simp[World.setCell]
    have KB:Hid (BT ((((((Wa).setCell ⟨b',i*5,none⟩ (vI n.b)).setCell ⟨b',i*5+1,none⟩ (vI n.e)).setCell ⟨b',i*5+2,none⟩ (vI n.g)).setCell ⟨b',i*5+3,none⟩ (.bool n.j)).setCell ⟨b',i*5+4,none⟩ (vI (aF t.ai i).i)) w3.1.size ⟨a4,c4,some ⟨b',0,none⟩,d4⟩ (⟨t.id,t.l,t.o,t.q,t.a,rq t.ai i n,t.az⟩:T7)/\BT ((((((Wa).setCell ⟨b',i*5,none⟩ (vI n.b)).setCell ⟨b',i*5+1,none⟩ (vI n.e)).setCell ⟨b',i*5+2,none⟩ (vI n.g)).setCell ⟨b',i*5+3,none⟩ (.bool n.j)).setCell ⟨b',i*5+4,none⟩ (vI (aF t.ai i).i)) (w.1.size+2) ⟨none,0,none,0⟩ ⟨0,0,0,0,[],[],0⟩/\OT ((((((Wa).setCell ⟨b',i*5,none⟩ (vI n.b)).setCell ⟨b',i*5+1,none⟩ (vI n.e)).setCell ⟨b',i*5+2,none⟩ (vI n.g)).setCell ⟨b',i*5+3,none⟩ (.bool n.j)).setCell ⟨b',i*5+4,none⟩ (vI (aF t.ai i).i)) w2.1.size ⟨a4,c4,some ⟨b',0,none⟩,d4⟩ (⟨t.id,t.l,t.o,t.q,t.a,rq t.ai i n,t.az⟩:T7) PR PS/\Below w.1.size w ((((((Wa).setCell ⟨b',i*5,none⟩ (vI n.b)).setCell ⟨b',i*5+1,none⟩ (vI n.e)).setCell ⟨b',i*5+2,none⟩ (vI n.g)).setCell ⟨b',i*5+3,none⟩ (.bool n.j)).setCell ⟨b',i*5+4,none⟩ (vI (aF t.ai i).i))):=by
     have x1:=k1.aj (ob.block _ kO.symm) (Nat.le_of_eq dQ.symm);refine⟨⟨x1.c0,x1.c1,x1.c2,x1.c3,x1.c4,by rw[Dh];exact x1.c5,x1.c6,x1.fz,x1.lt⟩,k2.aj (ob.block _ kA.symm) (Nat.le_of_eq dQ.symm),⟨k7.r.aM (Nat.le_of_eq dQ.symm) (fun q _ hq=>ob.block q (fun e=>k7.rs q hq (e▸EW))),o5,k7.rs,fun q hq=>⟨(k7.rB q hq).1,by rw[dQ];exact(k7.rB q hq).2⟩,fun q hq=>⟨(k7.sB q hq).1,by rw[dQ];exact(k7.sB q hq).2⟩⟩,?_⟩;have hB:w.1.size<=b':=by have:=(HQ.out.1 b' (.inr EW)).1;omega
     exact((((k8.setCell (p:=⟨b',_,none⟩) hB _).setCell (p:=⟨b',_,none⟩) hB _).setCell (p:=⟨b',_,none⟩) hB _).setCell (p:=⟨b',_,none⟩) hB _).setCell (p:=⟨b',_,none⟩) hB _
    clear k1 k2 k4 k5 k6 k7 k8 ob o5 dQ KA;go_upto_region 8 with fail
    clear m0 m1 m2 m3 m4 q5 d0 d1 d2 d3 da g0 g1 g2 g3 g4;generalize ((((((Wa).setCell ⟨b',i*5,none⟩ (vI n.b)).setCell ⟨b',i*5+1,none⟩ (vI n.e)).setCell ⟨b',i*5+2,none⟩ (vI n.g)).setCell ⟨b',i*5+3,none⟩ (.bool n.j)).setCell ⟨b',i*5+4,none⟩ (vI (aF t.ai i).i))=Wb at *;obtain⟨o0,o1,o2,o3,o4,o5,o6,-,-⟩:=KB.out.1;obtain⟨r0,r1,r2,r3,r4,r5,r6,fr,-⟩:=KB.out.2.1;have jA:=KB.out.2.1.put ⟨a4,c4,some ⟨b',0,none⟩,d4⟩ (⟨t.id,t.l,t.o,t.q,t.a,rq t.ai i n,t.az⟩:T7);simp only[iq]at jA;obtain⟨u0,u1,u2,u3,u4,u5,u6,-,-⟩:=jA;have KU:=af (And.intro u0 (And.intro u1 (And.intro u2 (And.intro u3 (And.intro u4 (And.intro u5 u6))))));clear u0 u1 u2 u3 u4 u5 u6;have f0:=fr 0;have f1:=fr 1;have f2:=fr 2;have f3:=fr 3;have f4:=fr 4;have f5:=fr 5;have f6:=fr 6;clear fr;dsimp only at o0 o1 o2 o3 o4 o5 o6 r4 r5;go_wp2;obtain⟨u0,u1,u2,u3,u4,u5,u6⟩:=KU.out;refine bodyPost_ret (v:=.tuple #[.agg #[vI t.id,vI t.l,vI t.o,vI t.q,.slice a4 t.a.length c4,.slice (some ⟨b',0,none⟩) (rq t.ai i n).length d4,vI t.az],.bool true]) (by simp[results,results50,go_sem,u0,u1,u2,u3,u4,u5,u6]) rfl ?_;rw[HN.out.1,HN.out.2];obtain⟨-,-,g8,g4⟩:=KB.out;have hQ:=HQ.out;refine⟨a4,c4,some ⟨b',0,none⟩,d4,PR,PS,rfl,?_,cz (s:=w.1.size+2) (v:=⟨a4,c4,some ⟨b',0,none⟩,d4⟩) (t:=(⟨t.id,t.l,t.o,t.q,t.a,rq t.ai i n,t.az⟩:T7)) g4 (by omega)⟩
    exact(g8.aM (w':=iq Wb (w.1.size+2) ⟨a4,c4,some ⟨b',0,none⟩,d4⟩ (⟨t.id,t.l,t.o,t.q,t.a,rq t.ai i n,t.az⟩:T7)) (by rw[jg];exact Nat.le_refl _) (fun q _ hq=>fu (by have:=(hQ.1 q hq).1;omega))).low (fun q hq=>by have:=(hQ.1 q hq).1;omega)
   | none=>
    have dA:decide ((0:Int)<=A)=false:=by rw[hA];simp[setAt,hW]
    clear hA;have p4:=H4.out.1.c5;dsimp only at p4;by_cases wJ:t.ai.length=12
    ·have d12:((t.ai.length:Int)==12)=true:=by simp;omega
     have HN:=dw (show dL t n=kg by simp[dL,hB,hO,hW,wJ]) (show iP t n=false by simp[iP,hB,hO,hW,wJ]);have KZ:=dw H4.out.2.2.1 H4.out.2.2.2.1;clear H4;obtain⟨r0,r1,r2,r3,r4,r5,r6,fr,-⟩:=KZ.out.1;have jA:=KZ.out.1.put ⟨none,0,none,0⟩ kg;simp only[iq,kg,List.length_nil]at jA;obtain⟨u0,u1,u2,u3,u4,u5,u6,-,-⟩:=jA;have KU:=af (And.intro u0 (And.intro u1 (And.intro u2 (And.intro u3 (And.intro u4 (And.intro u5 u6))))));clear u0 u1 u2 u3 u4 u5 u6;have f0:=fr 0;have f1:=fr 1;have f2:=fr 2;have f3:=fr 3;have f4:=fr 4;have f5:=fr 5;have f6:=fr 6;clear fr;simp only[List.length_nil]at r4 r5;go_wp2;obtain⟨u0,u1,u2,u3,u4,u5,u6⟩:=KU.out;refine bodyPost_ret (v:=.tuple #[.agg #[vI 0,vI 0,vI 0,vI 0,.slice none 0 0,.slice none 0 0,vI 0],.bool false]) (by simp[results,results50,go_sem,u0,u1,u2,u3,u4,u5,u6]) rfl ?_;rw[HN.out.1,HN.out.2];exact xu.zero (cz (s:=w.1.size+2) (v:=⟨none,0,none,0⟩) (t:=kg) KZ.out.2 (by omega))
    ·have d12:((t.ai.length:Int)==12)=false:=by simp;omega
     have HN:=dw (show dL t n=⟨t.id,t.l,t.o,t.q,t.a,uY t.ai n,t.az⟩ by simp[dL,hB,hO,hW,wJ]) (show iP t n=true by simp[iP,hB,hO,hW,wJ]);obtain⟨V,hV⟩:=bO (w4.alloc (.cells #[] 96));have bV:Below w4.1.size w4 V:=by rw[hV];exact aK.alloc aU _
     have rV:iJ V w4.1.size (.slice (some ⟨w4.1.size,0,none⟩) 0 0) []:=by rw[hV];exact iJ.made w4
     have K4:=dw rV bV;clear rV bV;go_wp2;rw[<-hV];clear hV p4 d12 dA;go_loopw[8,9] (fun v7 v8 wr=>∃k:Nat,k<=t.ai.length/\v8=vI k/\iJ wr w4.1.size v7 (t.ai.take k)/\Below w4.1.size w4 wr/\(∀j,j<k->oI t.ai n j=true)) (fun _ v8 _=>t.ai.length-(intOf v8).toNat)
     case atStart=>exact⟨0,Nat.zero_le _,rfl,by simpa using K4.out.1,K4.out.2,fun j h=>by omega⟩
     case round=>
      obtain⟨k,hk,rfl,iV,aB,aQ⟩:=hrel;obtain⟨a7,c7,e7,-⟩:=iV.form;rw[show(t.ai.take k).length=k by rw[List.length_take];omega]at e7;subst e7;have KA:=fP iV aB aQ;have Wy:=H4.out.1.later aB;have QK:=Wy.lt;have p4:=Wy.c5;dsimp only at p4;have fI:=(H4.out.2.2.2.2.1.later aB).s;have jD:=H4.out.2.1.below aB (by have:=H4.out.2.2.2.2.2.1;have:=H4.out.2.2.2.2.2.2.2.2.2;omega);have SA:w.1.size+1<wr.1.size:=by have:=H4.out.2.2.2.2.2.1;have:=H4.out.2.2.2.2.2.2.2.2.2;have:=aB.size;omega
      clear iV aB aQ Wy;by_cases aN:k<t.ai.length
      ·obtain⟨_,fQ⟩:=fI;dsimp only at fQ;rcases fQ with fQ|⟨b,off,rfl,hb,hx⟩
       ·omega
       obtain⟨c0,c1,c2,c3,DT⟩:=hx k _ (eX aN);obtain⟨⟨n0,n1,-,-,-⟩,-⟩:=jD;simp only[Nat.zero_add]at n1;have j1:(k:Int)<(t.ai.length:Int):=by omega
       have ka:decide ((k:Int)<(t.ai.length:Int))=true:=by simpa using j1
       have q4:=fun d os=>((below_regrown wr d os).cell (p:=⟨w.1.size,5,none⟩) QK).trans p4
       have m0:=fun d os=>((below_regrown wr d os).cell (p:=⟨b,off+k*5,none⟩) hb).trans c0
       have m1:=fun d os=>((below_regrown wr d os).cell (p:=⟨b,off+k*5+1,none⟩) hb).trans c1
       have m2:=fun d os=>((below_regrown wr d os).cell (p:=⟨b,off+k*5+2,none⟩) hb).trans c2
       have m3:=fun d os=>((below_regrown wr d os).cell (p:=⟨b,off+k*5+3,none⟩) hb).trans c3
       have m4:=fun d os=>((below_regrown wr d os).cell (p:=⟨b,off+k*5+4,none⟩) hb).trans DT
       have g0:=fun d os=>((below_regrown wr d os).cell (p:=⟨w.1.size+1,0,none⟩) SA).trans n0
       have g1:=fun d os=>((below_regrown wr d os).cell (p:=⟨w.1.size+1,1,none⟩) SA).trans n1
       have cL:∀d os,Calls prog 99 #[vI (aF t.ai k).b,vI (aF t.ai k).e,vI n.b,vI n.e] (grow (redrawn wr d) os) fun e gH=>e=.returned (.bool (oI t.ai n k))/\∃p:Regrown,gH=grow (redrawn wr p.d) p.os:=fun d os=>Calls.regrown_of (yF _ _ _ _ _)
       clear c0 c1 c2 c3 DT hx n0 n1 p4
       cases gl:oI t.ai n k with
       | true=>
        rw[gl]at cL;go_wp2_with fail;refine gy ?_;repeat (go_big_quiet_step (exact cL _ _))
        refine jb fun dq bu=>?_
        have bq:=below_regrown wr dq bu;have e4:=q4 dq bu;have e0:=m0 dq bu;have e1:=m1 dq bu;have e2:=m2 dq bu;have e3:=m3 dq bu;have e5:=m4 dq bu;clear q4 m0 m1 m2 m3 m4 g0 g1 cL;generalize grow (redrawn wr dq) bu=U at *;obtain⟨V',hV⟩:=bO (U.alloc (.cells #[vI (aF t.ai k).b,vI (aF t.ai k).e,vI (aF t.ai k).g,.bool (aF t.ai k).j,vI (aF t.ai k).i] 96));have bU:Below U.1.size U V':=by rw[hV];exact aK.alloc aU _
        have bV:=bq.trans (bU.mono bq.size);have jE:aY V' U.1.size 0 [aF t.ai k]:=by rw[hV];exact(aV.box U _ _).one
        obtain⟨v',Y,yT,pM,gP,-⟩:=wh (KA.out.1.later bV) [aF t.ai k] (by rw[List.length_take];simp;omega) 89 U.1.size 0 1 jE (Nat.le_trans KA.out.2.1.size bV.size)
        have KE:Hid (iJ Y w4.1.size v' (t.ai.take (k+1))/\Below w4.1.size w4 Y/\(∀j,j<k+1->oI t.ai n j=true)):=by
         refine⟨by rw[List.take_add_one,eX aN];exact pM,?_,fun j hj=>?_⟩
         ·exact(KA.out.2.1.trans (bV.mono KA.out.2.1.size)).grown gP (Nat.le_trans KA.out.2.1.size bV.size) (fun q e=>(KA.out.1.lt e).1)
         ·by_cases ej:j=k
          ·rw[ej];exact gl
          ·exact KA.out.2.2 j (by omega)
        rw[hV]at yT;clear hV bV bU bq jE pM gP;simp only[List.length_cons,List.length_nil,Nat.zero_add]at yT;go_wp2_with (at_builtin;refine eD _ rfl (.tmp 74) (.tmp 80) 89 rfl _ _ _ _ rfl rfl yT ?_);exact⟨⟨k+1,by omega,by simp,KE.out.1,KE.out.2.1,KE.out.2.2⟩,by simp[intOf];omega⟩
       | false=>
        rw[gl]at cL;go_wp2_with fail;refine gy ?_;repeat (go_big_quiet_step (exact cL _ _))
        refine jb fun dq bu=>?_
        have bq:=below_regrown wr dq bu;have KT:=dw (KA.out.1.later bq) (KA.out.2.1.trans (bq.mono KA.out.2.1.size));have HC:=af (Qs aN gl KA.out.2.2);clear bq q4 m0 m1 m2 m3 m4 g0 g1 cL KA;generalize grow (redrawn wr dq) bu=U at *;have KD:Hid (Below U.1.size U U.drew):=aK.drew;have bD:=KT.out.2.trans (KD.out.mono KT.out.2.size);have SF:Hid (∀X,Below w4.1.size w4 X->(fun X:World=>aV X (w.1.size+1) 0 n/\X.cell? ⟨w.1.size,5,none⟩=some (.slice (some ⟨b,off,none⟩) t.ai.length ch)) X):=fun X hX=>⟨(H4.out.2.1.below hX (by have:=H4.out.2.2.2.2.2.1;have:=H4.out.2.2.2.2.2.2.2.2.2;omega)).1,(H4.out.1.later hX).c5⟩
        have hS:=SF.out _ bD;have rD:=KT.out.1.later KD.out;clear KD;go_wp2_with fail;refine aT (fun z=>z==11) (fun X:World=>aV X (w.1.size+1) 0 n/\X.cell? ⟨w.1.size,5,none⟩=some (.slice (some ⟨b,off,none⟩) t.ai.length ch)) (by kernel_rfl) ?_;generalize U.drew=Ud at *;obtain⟨V1,lL⟩:=bO (Ud.alloc (.cells #[vI n.b,vI n.e,vI n.g,.bool n.j,vI n.i] 96));have aaa:Below Ud.1.size Ud V1:=by rw[lL];exact aK.alloc aU _
        have jE:aY V1 Ud.1.size 0 [n]:=by rw[lL];exact(aV.box Ud _ _).one
        have kP:(t.ai.take k).length=k:=by rw[List.length_take];omega
        obtain⟨v1,Y1,lY,jG,Im,-⟩:=wh (rD.later aaa) [n] (by rw[kP];simp;omega) 89 Ud.1.size 0 1 jE (Nat.le_trans bD.size aaa.size);have qL:=bD.trans (aaa.mono bD.size);have qN:=qL.grown Im qL.size (fun q e=>(rD.lt e).1);obtain⟨a1,c1,rfl,-⟩:=jG.form;have uQ:(t.ai.take k++[n]).length=k+1:=by simp[kP]
        obtain⟨a8,Ko⟩:∃a8:OA,a8=(if ch=k then(some (⟨b,off,none⟩:Addr))else Option.map (fun x=>x.add (k*5)) (some (⟨b,off,none⟩:Addr))):=⟨_,rfl⟩
        have src:Sl Y1 Y1.1.size a8 (t.ai.drop k).length (t.ai.drop k):=by
         refine⟨rfl,?_⟩;by_cases hz:(t.ai.drop k).length=0
         ·exact .inl hz
         ·rw[List.length_drop]at hz;obtain⟨-,hq⟩:=(H4.out.2.2.2.2.1.later qN).s;dsimp only at hq;rcases hq with hq|⟨b',di,e',fB,E8⟩
          ·omega
          ·refine .inr ⟨b',di+k*5,?_,fB,fun i s hi=>?_⟩
           ·rw[Ko,if_neg (by omega),e',Option.map_some];congr 1;unfold Addr.add;split<;>simp_all
           ·rw[List.getElem?_drop]at hi;have:=E8 (k+i) s hi;rwa[show di+k*5+i*5=di+(k+i)*5 by omega]
        have Dp:=zz jG (t.ai.drop k) (by rw[uQ,List.length_drop];omega) 89 a8 (ch-k) src qN.size;obtain⟨a2,c2,Y2,oM,uk,Io,-⟩:=Dp;have sQ:=qN.grown Io qN.size (fun q e=>(jG.lt e).1);rw[uQ,List.length_drop]at oM;generalize nM:t.ai.take k++[n]++t.ai.drop k=zs at *;have HZ:=af nM;clear nM;rw[uQ]at lY;simp only[List.length_cons,List.length_nil,Nat.zero_add]at lY;have xB:=H4.out.2.2.2.2.2.2.1.later sQ;have k4:=xB.c5;have GZ:=xB.fz 5;dsimp only at k4;have yB:=xB.Dv a2 c2 zs;have yR:BT (Y2.setCell ⟨w3.1.size,5,none⟩ (.slice a2 zs.length c2)) (w.1.size+2) ⟨none,0,none,0⟩ ⟨0,0,0,0,[],[],0⟩:=(H4.out.2.2.1.later sQ).dS (by dsimp only;have:=H4.out.2.2.2.2.2.1;omega) _;have KF:=pI yB yR uk sQ;have S1:=af (SF.out _ qL);have S2:=af (SF.out _ qN);have S3:=af (SF.out _ sQ);have ik:(k:Int)<=(t.ai.length:Int):=by omega
        clear aaa jE Im qL qN jG src Io sQ uk rD bD xB yB yR SF uQ kP;refine bf 0 rfl hS ?_;simp only[Act.put];refine fU 1 ?_ rfl ?_ hS ?_;rotate_left
        ·(intro X aA;obtain⟨⟨s0,s1,s2,s3,s4⟩,s5⟩:=aA;simp only[Nat.zero_add]at s1 s2 s3 s4;go_simp;first|done|with_reducible rfl)
        simp only[Act.put];refine bf 4 rfl hS ?_;simp only[Act.put];refine fU 5 ?_ rfl ?_ hS ?_;rotate_left
        ·(intro X aA;obtain⟨⟨s0,s1,s2,s3,s4⟩,s5⟩:=aA;simp only[Nat.zero_add]at s1 s2 s3 s4;go_simp;first|done|with_reducible rfl)
        simp only[Act.put];refine bf 6 rfl hS ?_;simp only[Act.put];refine bf 7 rfl hS ?_;simp only[Act.put];refine Nr 8 (.slice a8 (t.ai.length-k) (ch-k)) rfl ?_ hS ?_
        ·(intro X _;rw[Ko];go_simp;first|done|with_reducible rfl|rfl)
        clear Ko;simp only[Act.put];refine bG 2 rfl (fun K hK=>?_);go_simp;refine hK.out _ _ (fun _=>by rw[<-lL];exact S1.out) ?_;clear hK K;rw[<-lL];clear lL S1;refine bG 3 rfl (fun K hK=>?_);refine bJ _ rfl (.tmp 82) (.tmp 84) 89 rfl _ _ _ _ (by first|rfl|simp[Act.eval,Act.put]) (by first|rfl|simp[Act.eval,Act.put]) lY ?_;refine hK.out _ _ (fun _=>S2.out) ?_;clear hK K;clear S2 lY;simp only[Act.put];refine bG 9 rfl (fun K hK=>?_);refine bJ _ rfl (.tmp 85) (.tmp 90) 89 rfl _ _ _ _ (by first|rfl|simp[Act.eval,Act.put]) (by first|rfl|simp[Act.eval,Act.put]) oM ?_;refine hK.out _ _ (fun _=>S3.out) ?_;clear hK K;clear oM;simp only[Act.put];have hS:=S3.out;refine bf 10 rfl hS ?_;simp only[Act.put];refine bG 11 rfl (fun K hK=>?_);go_simp;refine hK.out _ _ (fun h=>absurd (show false=true from h.symm.trans (by kernel_rfl)) (by decide)) ?_;clear hK K;refine bH (by kernel_rfl) ?_ _;clear S3 hS k4 GZ;have jA:=KF.out.2.1.put ⟨a4,c4,a2,c2⟩ (⟨t.id,t.l,t.o,t.q,t.a,zs,t.az⟩:T7);simp only[iq]at jA;obtain⟨u0,u1,u2,u3,u4,u5,u6,-,-⟩:=jA;have KU:=af (And.intro u0 (And.intro u1 (And.intro u2 (And.intro u3 (And.intro u4 (And.intro u5 u6))))));clear u0 u1 u2 u3 u4 u5 u6;obtain⟨o0,o1,o2,o3,o4,o5,o6,-,-⟩:=KF.out.1;obtain⟨r0,r1,r2,r3,r4,r5,r6,fr,-⟩:=KF.out.2.1;have f0:=fr 0;have f1:=fr 1;have f2:=fr 2;have f3:=fr 3;have f4:=fr 4;have f5:=fr 5;have f6:=fr 6;clear fr;dsimp only at o0 o1 o2 o3 o4 o5 o6 r4 r5;go_wp2;obtain⟨u0,u1,u2,u3,u4,u5,u6⟩:=KU.out
        refine bodyPost_ret (v:=.tuple #[.agg #[vI t.id,vI t.l,vI t.o,vI t.q,.slice a4 t.a.length c4,.slice a2 zs.length c2,vI t.az],.bool true]) (by simp[results,results50,go_sem,u0,u1,u2,u3,u4,u5,u6]) rfl ?_;rw[HN.out.1,HN.out.2,uY,HC.out,HZ.out];obtain⟨g1,g2,g3,g4⟩:=KF.out;obtain⟨-,-,-,j4,-,j6,-,j8,j9,j10⟩:=H4.out;have bX:Below w.1.size w (Y2.setCell ⟨w3.1.size,5,none⟩ (.slice a2 zs.length c2)):=(j4.trans (g4.mono j4.size)).setCell (p:=⟨w3.1.size,5,none⟩) (by dsimp only;omega) _;refine⟨a4,c4,a2,c2,PR,fun q=>(Value.slice a2 zs.length c2).ownBlock=some q,rfl,?_,cz (s:=w.1.size+2) (v:=⟨a4,c4,a2,c2⟩) (t:=(⟨t.id,t.l,t.o,t.q,t.a,zs,t.az⟩:T7)) bX (by omega)⟩;obtain⟨_,_,e2,O5⟩:=g3.form
        cases e2;have ot:OT Y2 w.1.size ⟨a4,c4,a2,c2⟩ (⟨t.id,t.l,t.o,t.q,t.a,zs,t.az⟩:T7) PR (fun q=>(Value.slice a2 zs.length c2).ownBlock=some q):=⟨(j8.later g4).r,O5,fun q h1 h2=>by have:=(g3.lt h2).1;have:=(j9 q (.inl h1)).2;omega,fun q h1=>⟨by have:=(j9 q (.inl h1)).1;omega,((j8.later g4).rB q h1).2⟩,fun q h1=>⟨by have:=(g3.lt h1).1;omega,(g3.lt h1).2⟩⟩
        have eO:∀q,lZ PR (fun q=>(Value.slice a2 zs.length c2).ownBlock=some q) q->q≠w3.1.size/\q≠w.1.size+2:=fun q hq=>by
         rcases hq with hq|hq
         ·have:=j9 q (.inl hq);omega
         ·have:=(g3.lt hq).1;omega
        have LH:OT (Y2.setCell ⟨w3.1.size,5,none⟩ (.slice a2 zs.length c2)) w.1.size ⟨a4,c4,a2,c2⟩ (⟨t.id,t.l,t.o,t.q,t.a,zs,t.az⟩:T7) PR (fun q=>(Value.slice a2 zs.length c2).ownBlock=some q):=ot.aM (by simp[World.setCell]) (fun q _ hq=>Below.heap_setCell _ _ _ _ (eO q hq).1);exact LH.aM (w':=iq (Y2.setCell ⟨w3.1.size,5,none⟩ (.slice a2 zs.length c2)) (w.1.size+2) ⟨a4,c4,a2,c2⟩ (⟨t.id,t.l,t.o,t.q,t.a,zs,t.az⟩:T7)) (by rw[jg];exact Nat.le_refl _) (fun q _ hq=>fu (eO q hq).2)
      ·have ka:decide ((k:Int)<(t.ai.length:Int))=false:=by simp;omega
       have q4:=fun d os=>((below_regrown wr d os).cell (p:=⟨w.1.size,5,none⟩) QK).trans p4
       clear p4 jD fI;go_wp2_with fail;refine gy ?_;repeat (go_big_quiet_step (fail))
       refine jb fun dq bu=>?_
       have bq:=below_regrown wr dq bu;have KT:=dw (KA.out.1.later bq) (KA.out.2.1.trans (bq.mono KA.out.2.1.size));have HC:Hid (lF t.ai n=k):=(NR (fun j hj=>KA.out.2.2 j (by omega))).trans (by omega);clear bq q4 KA;generalize grow (redrawn wr dq) bu=U at *;have KD:Hid (Below U.1.size U U.drew):=aK.drew;have bD:=KT.out.2.trans (KD.out.mono KT.out.2.size);have SF:Hid (∀X,Below w4.1.size w4 X->(fun X:World=>aV X (w.1.size+1) 0 n/\X.cell? ⟨w.1.size,5,none⟩=some (.slice ah t.ai.length ch)) X):=fun X hX=>⟨(H4.out.2.1.below hX (by have:=H4.out.2.2.2.2.2.1;have:=H4.out.2.2.2.2.2.2.2.2.2;omega)).1,(H4.out.1.later hX).c5⟩
       have hS:=SF.out _ bD;have rD:=KT.out.1.later KD.out;clear KD;go_wp2_with fail;refine aT (fun z=>z==11) (fun X:World=>aV X (w.1.size+1) 0 n/\X.cell? ⟨w.1.size,5,none⟩=some (.slice ah t.ai.length ch)) (by kernel_rfl) ?_;generalize U.drew=Ud at *;obtain⟨V1,lL⟩:=bO (Ud.alloc (.cells #[vI n.b,vI n.e,vI n.g,.bool n.j,vI n.i] 96));have aaa:Below Ud.1.size Ud V1:=by rw[lL];exact aK.alloc aU _
       have jE:aY V1 Ud.1.size 0 [n]:=by rw[lL];exact(aV.box Ud _ _).one
       have kP:(t.ai.take k).length=k:=by rw[List.length_take];omega
       obtain⟨v1,Y1,lY,jG,Im,-⟩:=wh (rD.later aaa) [n] (by rw[kP];simp;omega) 89 Ud.1.size 0 1 jE (Nat.le_trans bD.size aaa.size);have qL:=bD.trans (aaa.mono bD.size);have qN:=qL.grown Im qL.size (fun q e=>(rD.lt e).1);obtain⟨a1,c1,rfl,-⟩:=jG.form;have uQ:(t.ai.take k++[n]).length=k+1:=by simp[kP]
       obtain⟨a8,Ko⟩:∃a8:OA,a8=(if ch=k then ah else Option.map (fun x=>x.add (k*5)) ah):=⟨_,rfl⟩
       have src:Sl Y1 Y1.1.size a8 (t.ai.drop k).length (t.ai.drop k):=by
        refine⟨rfl,?_⟩;by_cases hz:(t.ai.drop k).length=0
        ·exact .inl hz
        ·rw[List.length_drop]at hz;obtain⟨-,hq⟩:=(H4.out.2.2.2.2.1.later qN).s;dsimp only at hq;rcases hq with hq|⟨b',di,e',fB,E8⟩
         ·omega
         ·refine .inr ⟨b',di+k*5,?_,fB,fun i s hi=>?_⟩
          ·rw[Ko,if_neg (by omega),e',Option.map_some];congr 1;unfold Addr.add;split<;>simp_all
          ·rw[List.getElem?_drop]at hi;have:=E8 (k+i) s hi;rwa[show di+k*5+i*5=di+(k+i)*5 by omega]
       have Dp:=zz jG (t.ai.drop k) (by rw[uQ,List.length_drop];omega) 89 a8 (ch-k) src qN.size;obtain⟨a2,c2,Y2,oM,uk,Io,-⟩:=Dp;have sQ:=qN.grown Io qN.size (fun q e=>(jG.lt e).1);rw[uQ,List.length_drop]at oM;generalize nM:t.ai.take k++[n]++t.ai.drop k=zs at *;have HZ:=af nM;clear nM;rw[uQ]at lY;simp only[List.length_cons,List.length_nil,Nat.zero_add]at lY;have xB:=H4.out.2.2.2.2.2.2.1.later sQ;have k4:=xB.c5;have GZ:=xB.fz 5;dsimp only at k4;have yB:=xB.Dv a2 c2 zs;have yR:BT (Y2.setCell ⟨w3.1.size,5,none⟩ (.slice a2 zs.length c2)) (w.1.size+2) ⟨none,0,none,0⟩ ⟨0,0,0,0,[],[],0⟩:=(H4.out.2.2.1.later sQ).dS (by dsimp only;have:=H4.out.2.2.2.2.2.1;omega) _;have KF:=pI yB yR uk sQ;have S1:=af (SF.out _ qL);have S2:=af (SF.out _ qN);have S3:=af (SF.out _ sQ);have ik:(k:Int)<=(t.ai.length:Int):=by omega
       clear aaa jE Im qL qN jG src Io sQ uk rD bD xB yB yR SF uQ kP;refine bf 0 rfl hS ?_;simp only[Act.put];refine fU 1 ?_ rfl ?_ hS ?_;rotate_left
       ·(intro X aA;obtain⟨⟨s0,s1,s2,s3,s4⟩,s5⟩:=aA;simp only[Nat.zero_add]at s1 s2 s3 s4;go_simp;first|done|with_reducible rfl)
       simp only[Act.put];refine bf 4 rfl hS ?_;simp only[Act.put];refine fU 5 ?_ rfl ?_ hS ?_;rotate_left
       ·(intro X aA;obtain⟨⟨s0,s1,s2,s3,s4⟩,s5⟩:=aA;simp only[Nat.zero_add]at s1 s2 s3 s4;go_simp;first|done|with_reducible rfl)
       simp only[Act.put];refine bf 6 rfl hS ?_;simp only[Act.put];refine bf 7 rfl hS ?_;simp only[Act.put];refine Nr 8 (.slice a8 (t.ai.length-k) (ch-k)) rfl ?_ hS ?_
       ·(intro X _;rw[Ko];go_simp;first|done|with_reducible rfl|rfl)
       clear Ko;simp only[Act.put];refine bG 2 rfl (fun K hK=>?_);go_simp;refine hK.out _ _ (fun _=>by rw[<-lL];exact S1.out) ?_;clear hK K;rw[<-lL];clear lL S1;refine bG 3 rfl (fun K hK=>?_);refine bJ _ rfl (.tmp 82) (.tmp 84) 89 rfl _ _ _ _ (by first|rfl|simp[Act.eval,Act.put]) (by first|rfl|simp[Act.eval,Act.put]) lY ?_;refine hK.out _ _ (fun _=>S2.out) ?_;clear hK K;clear S2 lY;simp only[Act.put];refine bG 9 rfl (fun K hK=>?_);refine bJ _ rfl (.tmp 85) (.tmp 90) 89 rfl _ _ _ _ (by first|rfl|simp[Act.eval,Act.put]) (by first|rfl|simp[Act.eval,Act.put]) oM ?_;refine hK.out _ _ (fun _=>S3.out) ?_;clear hK K;clear oM;simp only[Act.put];have hS:=S3.out;refine bf 10 rfl hS ?_;simp only[Act.put];refine bG 11 rfl (fun K hK=>?_);go_simp;refine hK.out _ _ (fun h=>absurd (show false=true from h.symm.trans (by kernel_rfl)) (by decide)) ?_;clear hK K;refine bH (by kernel_rfl) ?_ _;clear S3 hS k4 GZ;have jA:=KF.out.2.1.put ⟨a4,c4,a2,c2⟩ (⟨t.id,t.l,t.o,t.q,t.a,zs,t.az⟩:T7);simp only[iq]at jA;obtain⟨u0,u1,u2,u3,u4,u5,u6,-,-⟩:=jA;have KU:=af (And.intro u0 (And.intro u1 (And.intro u2 (And.intro u3 (And.intro u4 (And.intro u5 u6))))));clear u0 u1 u2 u3 u4 u5 u6;obtain⟨o0,o1,o2,o3,o4,o5,o6,-,-⟩:=KF.out.1;obtain⟨r0,r1,r2,r3,r4,r5,r6,fr,-⟩:=KF.out.2.1;have f0:=fr 0;have f1:=fr 1;have f2:=fr 2;have f3:=fr 3;have f4:=fr 4;have f5:=fr 5;have f6:=fr 6;clear fr;dsimp only at o0 o1 o2 o3 o4 o5 o6 r4 r5;go_wp2;obtain⟨u0,u1,u2,u3,u4,u5,u6⟩:=KU.out
       refine bodyPost_ret (v:=.tuple #[.agg #[vI t.id,vI t.l,vI t.o,vI t.q,.slice a4 t.a.length c4,.slice a2 zs.length c2,vI t.az],.bool true]) (by simp[results,results50,go_sem,u0,u1,u2,u3,u4,u5,u6]) rfl ?_;rw[HN.out.1,HN.out.2,uY,HC.out,HZ.out];obtain⟨g1,g2,g3,g4⟩:=KF.out;obtain⟨-,-,-,j4,-,j6,-,j8,j9,j10⟩:=H4.out;have bX:Below w.1.size w (Y2.setCell ⟨w3.1.size,5,none⟩ (.slice a2 zs.length c2)):=(j4.trans (g4.mono j4.size)).setCell (p:=⟨w3.1.size,5,none⟩) (by dsimp only;omega) _;refine⟨a4,c4,a2,c2,PR,fun q=>(Value.slice a2 zs.length c2).ownBlock=some q,rfl,?_,cz (s:=w.1.size+2) (v:=⟨a4,c4,a2,c2⟩) (t:=(⟨t.id,t.l,t.o,t.q,t.a,zs,t.az⟩:T7)) bX (by omega)⟩;obtain⟨_,_,e2,O5⟩:=g3.form
       cases e2;have ot:OT Y2 w.1.size ⟨a4,c4,a2,c2⟩ (⟨t.id,t.l,t.o,t.q,t.a,zs,t.az⟩:T7) PR (fun q=>(Value.slice a2 zs.length c2).ownBlock=some q):=⟨(j8.later g4).r,O5,fun q h1 h2=>by have:=(g3.lt h2).1;have:=(j9 q (.inl h1)).2;omega,fun q h1=>⟨by have:=(j9 q (.inl h1)).1;omega,((j8.later g4).rB q h1).2⟩,fun q h1=>⟨by have:=(g3.lt h1).1;omega,(g3.lt h1).2⟩⟩
       have eO:∀q,lZ PR (fun q=>(Value.slice a2 zs.length c2).ownBlock=some q) q->q≠w3.1.size/\q≠w.1.size+2:=fun q hq=>by
        rcases hq with hq|hq
        ·have:=j9 q (.inl hq);omega
        ·have:=(g3.lt hq).1;omega
       have LH:OT (Y2.setCell ⟨w3.1.size,5,none⟩ (.slice a2 zs.length c2)) w.1.size ⟨a4,c4,a2,c2⟩ (⟨t.id,t.l,t.o,t.q,t.a,zs,t.az⟩:T7) PR (fun q=>(Value.slice a2 zs.length c2).ownBlock=some q):=ot.aM (by simp[World.setCell]) (fun q _ hq=>Below.heap_setCell _ _ _ _ (eO q hq).1);exact LH.aM (w':=iq (Y2.setCell ⟨w3.1.size,5,none⟩ (.slice a2 zs.length c2)) (w.1.size+2) ⟨a4,c4,a2,c2⟩ (⟨t.id,t.l,t.o,t.q,t.a,zs,t.az⟩:T7)) (by rw[jg];exact Nat.le_refl _) (fun q _ hq=>fu (eO q hq).2)
end tx
namespace tx
open Go.Proofs.Tryz
def iU(xs:List S5)(r s:Int):S5:=match l8 xs r s with|some i=>aF xs i|none=>⟨0,0,0,false,0⟩
theorem BS.Dv{X:World}{q:Nat}{y0:S5}(h:BS X q y0)(y:S5):BS ((((((X).setCell ⟨q,0,none⟩ (vI y.b)).setCell ⟨q,0+1,none⟩ (vI y.e)).setCell ⟨q,0+2,none⟩ (vI y.g)).setCell ⟨q,0+3,none⟩ (.bool y.j)).setCell ⟨q,0+4,none⟩ (vI y.i)) q y:=by
 obtain⟨⟨c0,c1,c2,c3,c4⟩,f⟩:=h;simp only[Nat.zero_add]at *;refine⟨?_,fun j=>by simp only[World.frozen?_setCell];exact f j⟩;have:=aV.put (o:=0) y c0 (by simpa using c1) (by simpa using c2) (by simpa using c3) (by simpa using c4);simpa using this
theorem JC(w:World)(base p mb n:Nat)(v:Value)(xs:List S5)(r s:Int)(h:oo w base p mb n v xs)(_:xs.length<=1000)(h1:aW 0 5 r=true)(h2:aW 0 5 s=true):
  Calls prog 111 #[.pointer (some ⟨p,0,none⟩),.agg #[vI r,vI s]] w fun e w'=>e=.returned (.tuple #[.agg #[vI (iU xs r s).b,vI (iU xs r s).e,vI (iU xs r s).g,.bool (iU xs r s).j,vI (iU xs r s).i],.bool (l8 xs r s).isSome])/\Below w.1.size w w':=by
 obtain⟨W1,fA⟩:=bO (w.alloc (.cells #[vI r,vI s] 56));have b1:Below w.1.size w W1:=by rw[fA];exact aK.alloc aU _
 have z1:W1.1.size=w.1.size+1:=by rw[fA];simp
 obtain⟨W0,dO⟩:=bO (W1.alloc (.cells #[vI 0,vI 0,vI 0,.bool false,vI 0] 96));have b2:Below W1.1.size W1 W0:=by rw[dO];exact aK.alloc aU _
 have b0:=b1.trans (b2.mono b1.size);have z0:W0.1.size=w.1.size+2:=by rw[dO];simp[z1]
 have y0:BS W0 (w.1.size+1) ⟨0,0,0,false,0⟩:=by rw[dO,<-z1];exact BS.box W1 ⟨0,0,0,false,0⟩ _
 have h0:=h.later b0;have lk:=fun d os=>((h0.mp).later (below_regrown W0 d os)).look h1 h2
 have m1:=fun d os=>((below_regrown W0 d os).cell (p:=⟨p,1,none⟩) h0.lp).trans h0.c1
 have t0:=@cell_regrown W0 ⟨w.1.size,0,none⟩ (vI r) ((b2.cell (p:=⟨w.1.size,0,none⟩) (by rw[z1];simp)).trans (by rw[fA];go_simp));have t1:=@cell_regrown W0 ⟨w.1.size,1,none⟩ (vI s) ((b2.cell (p:=⟨w.1.size,1,none⟩) (by rw[z1];simp)).trans (by rw[fA];go_simp));have H:=pI b0 h0 y0 z0;rw[fA]at dO;clear h h0 b0 z0 h1 h2 b1 b2 y0 z1 fA W1;simp only[jI]at lk
 cases hW:l8 xs r s with
 | none=>
  have e1:iU xs r s=⟨0,0,0,false,0⟩:=by simp[iU,hW]
  rw[e1];rw[hW]at lk;simp only[Option.getD_none,Option.isSome_none]at lk ⊢;go_enter func111,ntmps111;go_wp2_with fail;rw[<-dO];clear dO;refine gy ?_;repeat (go_big_quiet_step (fail))
  refine wpQuiet_nil ?_;intro _ tL;obtain⟨⟨jH,bu⟩,jF⟩:=tL;subst jF;have bq:=below_regrown W0 jH bu;have K1:=fP (H.out.1.trans (bq.mono H.out.1.size)) (show BS (grow (redrawn W0 jH) bu) (w.1.size+1) ⟨0,0,0,false,0⟩from H.out.2.2.1.below bq (by have:=H.out.2.2.2;omega)) (show w.1.size+2<=(grow (redrawn W0 jH) bu).1.size by have:=bq.size;have:=H.out.2.2.2;omega);clear bq lk m1 t0 t1;generalize grow (redrawn W0 jH) bu=U at *;obtain⟨V,hV⟩:=bO (U.alloc (.cells #[vI 0,vI 0,vI 0,.bool false,vI 0] 96));have bV:Below U.1.size U V:=by rw[hV];exact aK.alloc aU _
  obtain⟨⟨n0,n1,n2,n3,n4⟩,nf⟩:=K1.out.2.1.below bV (by have:=K1.out.2.2;omega);simp only[Nat.zero_add]at n0 n1 n2 n3 n4;have f0:=nf 0;have f1:=nf 1;have f2:=nf 2;have f3:=nf 3;have f4:=nf 4;have u:=(K1.out.2.1.below bV (by have:=K1.out.2.2;omega)).Dv ⟨0,0,0,false,0⟩;obtain⟨⟨u0,u1,u2,u3,u4⟩,-⟩:=u;simp only[Nat.zero_add]at u0 u1 u2 u3 u4;have KU:=af (And.intro u0 (And.intro u1 (And.intro u2 (And.intro u3 u4))));have KV:=af (K1.out.1.trans (bV.mono K1.out.1.size));clear nf bV u0 u1 u2 u3 u4;rw[hV]at n0 n1 n2 n3 n4 f0 f1 f2 f3 f4;go_wp2;rw[<-hV];obtain⟨u0,u1,u2,u3,u4⟩:=KU.out;refine bodyPost_ret (v:=.tuple #[.agg #[vI 0,vI 0,vI 0,.bool false,vI 0],.bool false]) (by simp[results,results111,go_sem,u0,u1,u2,u3,u4]) rfl ⟨rfl,?_⟩;exact((((KV.out.setCell (p:=⟨w.1.size+1,0,none⟩) (by simp) _).setCell (p:=⟨w.1.size+1,1,none⟩) (by simp) _).setCell (p:=⟨w.1.size+1,2,none⟩) (by simp) _).setCell (p:=⟨w.1.size+1,3,none⟩) (by simp) _).setCell (p:=⟨w.1.size+1,4,none⟩) (by simp) _
 | some i=>
  have e1:iU xs r s=aF xs i:=by simp[iU,hW]
  obtain⟨hi,-,-⟩:=zB hW;rw[e1];rw[hW]at lk;simp only[Option.getD_some,Option.isSome_some]at lk ⊢;go_enter func111,ntmps111;go_wp2_with fail;rw[<-dO];clear dO;refine gy ?_;repeat (go_big_quiet_step (fail))
  refine wpQuiet_nil ?_;intro _ tL;obtain⟨⟨jH,bu⟩,jF⟩:=tL;subst jF;have bq:=below_regrown W0 jH bu;have K1:=pI (H.out.1.trans (bq.mono H.out.1.size)) (show BS (grow (redrawn W0 jH) bu) (w.1.size+1) ⟨0,0,0,false,0⟩from H.out.2.2.1.below bq (by have:=H.out.2.2.2;omega)) (show w.1.size+2<=(grow (redrawn W0 jH) bu).1.size by have:=bq.size;have:=H.out.2.2.2;omega) (H.out.2.1.later bq);clear bq lk m1 t0 t1;generalize grow (redrawn W0 jH) bu=U at *;obtain⟨⟨n0,n1,n2,n3,n4⟩,nf⟩:=K1.out.2.1;simp only[Nat.zero_add]at n0 n1 n2 n3 n4;have f0:=nf 0;have f1:=nf 1;have f2:=nf 2;have f3:=nf 3;have f4:=nf 4;obtain⟨⟨u0,u1,u2,u3,u4⟩,-⟩:=K1.out.2.1.Dv (aF xs i);simp only[Nat.zero_add]at u0 u1 u2 u3 u4;have KU:=af (And.intro u0 (And.intro u1 (And.intro u2 (And.intro u3 u4))));obtain⟨a,c,rfl,ho⟩:=K1.out.2.2.2.row.form;rcases ho with ho|⟨q,rfl,hq,wj,QU,-⟩
  ·rw[ho]at hi;simp at hi
  have m0:=K1.out.2.2.2.c0;obtain⟨c0,c1,c2,c3,c4⟩:=QU i _ (eX hi);simp only[Nat.zero_add]at c0 c1 c2 c3 c4;have ii:(i:Int)<(xs.length:Int):=by omega
  clear nf u0 u1 u2 u3 u4 QU hq wj;go_wp2;obtain⟨u0,u1,u2,u3,u4⟩:=KU.out;refine bodyPost_ret (v:=.tuple #[.agg #[vI (aF xs i).b,vI (aF xs i).e,vI (aF xs i).g,.bool (aF xs i).j,vI (aF xs i).i],.bool true]) (by simp[results,results111,go_sem,u0,u1,u2,u3,u4]) rfl ⟨rfl,?_⟩;exact((((K1.out.1.setCell (p:=⟨w.1.size+1,0,none⟩) (by simp) _).setCell (p:=⟨w.1.size+1,1,none⟩) (by simp) _).setCell (p:=⟨w.1.size+1,2,none⟩) (by simp) _).setCell (p:=⟨w.1.size+1,3,none⟩) (by simp) _).setCell (p:=⟨w.1.size+1,4,none⟩) (by simp) _
theorem Pd(w:World)(base p mb n:Nat)(v:Value)(xs:List S5)(x:S5)(i:Nat)(h:oo w base p mb n v xs)(_:n<=1000)(_:xs.length<=100)(il:bK x=true)(Ol:l8 xs x.b x.e=some i)(Iu:base<=w.1.size):
  Calls prog 151 #[.pointer (some ⟨p,0,none⟩),.agg #[vI x.b,vI x.e,vI x.g,.bool x.j,vI x.i]] w fun e w'=>e=.returned (.tuple #[])/\∃q cap,o7 w' base p q mb n cap (xs.set i x)/\Below base w w':=by
 obtain⟨W0,dO⟩:=bO (w.alloc (.cells #[vI x.b,vI x.e,vI x.g,.bool x.j,vI x.i] 96));have b0:Below w.1.size w W0:=by rw[dO];exact aK.alloc aU _
 have z0:W0.1.size=w.1.size+1:=by rw[dO];simp
 have x0:aV W0 w.1.size 0 x:=by rw[dO];exact aV.box w x _
 have h0:=h.later b0;have hk:=fM il;have yS:=h.lp;have et:=h.mp.lt
 have lk:∀d os,(Instr.lookup 170 (.map (some mb)) (jI x.b x.e) true).run prog (grow (redrawn W0 d) os)=.ok (.tuple #[vI (i:Int),.bool true]) (grow (redrawn W0 d) os):=fun d os=>by
  have hu:=((h0.mp).later (below_regrown W0 d os)).look hk.1 hk.2;rw[Ol]at hu;exact hu
 have lift:∀{b o:Nat}{u:Value},b<W0.1.size->W0.cell? ⟨b,o,none⟩=some u->∀d os,(grow (redrawn W0 d) os).cell? ⟨b,o,none⟩=some u:=fun {b o u} hb hh d os=>((below_regrown W0 d os).cell (p:=⟨b,o,none⟩) hb).trans hh
 have m1:=lift (by omega) h0.c1;have t0:=lift (by omega) x0.c0;have t1:=lift (by omega) x0.c1;have t2:=lift (by omega) x0.c2;have t3:=lift (by omega) x0.c3;have t4:=lift (by omega) x0.c4;have cC:∀d os,Calls prog 157 #[.agg #[vI x.b,vI x.e,vI x.g,.bool x.j,vI x.i]] (grow (redrawn W0 d) os) fun e gH=>e=.returned (.agg #[vI x.b,vI x.e])/\∃p:Regrown,gH=grow (redrawn W0 p.d) p.os:=fun d os=>Calls.regrown_of (gF _ _)
 have hm:∀w:World,(method 458 96 (.agg #[vI x.b,vI x.e,vI x.g,.bool x.j,vI x.i]) "loop.example/g00153/impl.cell").run prog w=.ok (157,.agg #[vI x.b,vI x.e,vI x.g,.bool x.j,vI x.i]) w:=fun _=>by kernel_rfl
 have hi:=(zB Ol).1;have H:=QG h0 x0 b0 z0 Iu il (show v.ownBlock≠some w.1.size from fun e=>by have:=(h.row.lt e).2;omega);clear h h0 x0 b0 z0 Iu il lift Ol hk;simp only[jI,Nat.zero_add]at lk t0 t1 t2 t3 t4;go_enter func151,ntmps151;go_wp2_with fail;rw[<-dO];clear dO;refine gy ?_;repeat (go_big_quiet_step (exact cC _ _))
 refine wpQuiet_nil ?_;intro _ tL;obtain⟨⟨jH,bu⟩,jF⟩:=tL;subst jF;have bq:=below_regrown W0 jH bu
 have K1:Hid (oo (grow (redrawn W0 jH) bu) base p mb n v xs/\aV (grow (redrawn W0 jH) bu) w.1.size 0 x/\Below w.1.size w (grow (redrawn W0 jH) bu)/\w.1.size<(grow (redrawn W0 jH) bu).1.size):=by
  obtain⟨g1,g2,g3,g4,_⟩:=H.out;have:=bq.size;exact⟨g1.later bq,g2.below bq (by omega),g3.trans (bq.mono g3.size),by omega⟩
 clear bq m1 t0 t1 t2 t3 t4 cC lk;obtain⟨q,cap,hv,P1⟩:=K1.out.1.Yq (fun e=>by rw[e]at hi;simp at hi);go_upto_region 3 with fail
 generalize grow (redrawn W0 jH) bu=W1 at *;have bd:Below W1.1.size W1 W1.drew:=aK.drew;have P2:=P1.later bd;have hS:=And.intro P2.c0 (K1.out.2.1.below bd K1.out.2.2.2);have rd:=P2.rm;have KP:=dw P2 bd;clear P1 P2 bd hm;refine aT (fun z=>z==7) (fun X:World=>X.cell? ⟨p,0,none⟩=some (.slice (some ⟨q,0,none⟩) xs.length cap)/\aV X w.1.size 0 x) (by kernel_rfl) ?_;generalize W1.drew=Wd at *;obtain⟨v0,c0,f0⟩:=rd (i*5) (by omega);obtain⟨v1,c1,f1⟩:=rd (i*5+1) (by omega);obtain⟨v2,c2,f2⟩:=rd (i*5+2) (by omega);obtain⟨v3,c3,f3⟩:=rd (i*5+3) (by omega);obtain⟨v4,c4,f4⟩:=rd (i*5+4) (by omega);have ii:(i:Int)<(xs.length:Int):=by omega
 clear rd;refine bf 0 rfl hS ?_;simp only[Act.put];refine bf 1 rfl hS ?_;simp only[Act.put];refine bf 2 rfl hS ?_;simp only[Act.put];refine fU 3 ?_ rfl ?_ hS ?_;rotate_left
 ·(intro w aA;obtain⟨s0,⟨a0,a1,a2,a3,a4⟩⟩:=aA;simp only[Nat.zero_add]at a0 a1 a2 a3 a4;go_simp;first|done|with_reducible rfl)
 simp only[Act.put];refine bf 4 rfl hS ?_;simp only[Act.put];refine fU 5 ?_ rfl ?_ hS ?_;rotate_left
 ·(intro w aA;obtain⟨s0,⟨a0,a1,a2,a3,a4⟩⟩:=aA;simp only[Nat.zero_add]at a0 a1 a2 a3 a4;go_simp;first|done|with_reducible rfl)
 simp only[Act.put];refine bf 6 rfl hS ?_;simp only[Act.put];refine bG 7 rfl (fun K hK=>?_);go_simp;refine hK.out _ _ (fun h=>absurd (show false=true from h.symm.trans (by kernel_rfl)) (by decide)) ?_;clear hK K;refine bH (by kernel_rfl) ?_ _;have hx:=eX hi;have P3:=KP.out.1.Jo hx x H.out.2.2.2.2.2.1
 have b3:Below base w ((((((Wd).setCell ⟨q,i*5,none⟩ (vI x.b)).setCell ⟨q,i*5+1,none⟩ (vI x.e)).setCell ⟨q,i*5+2,none⟩ (vI x.g)).setCell ⟨q,i*5+3,none⟩ (.bool x.j)).setCell ⟨q,i*5+4,none⟩ (vI x.i)):=by
  have bW:=(K1.out.2.2.1.trans (KP.out.2.mono K1.out.2.2.1.size)).mono H.out.2.2.2.2.1;have hB:=KP.out.1.bq;exact((((bW.setCell (p:=⟨q,_,none⟩) hB _).setCell (p:=⟨q,_,none⟩) hB _).setCell (p:=⟨q,_,none⟩) hB _).setCell (p:=⟨q,_,none⟩) hB _).setCell (p:=⟨q,_,none⟩) hB _
 have KE:=af (And.intro P3 b3);clear P3 b3 hx hS c0 c1 c2 c3 c4 f0 f1 f2 f3 f4;go_wp2;refine bodyPost_ret (v:=.tuple #[]) (by simp[results,results151,go_sem]) rfl ⟨rfl,q,cap,KE.out⟩
end tx
namespace tx
open Go.Proofs.Tryz
theorem UD{r s q t:Int}(h1:aW 0 5 s=true)(h2:aW 0 5 t=true)(h:rk r s=rk q t):r=q/\s=t:=by
 rw[dD]at h1 h2;unfold rk at h;omega
theorem Ck(xs:List S5)(n:S5):(uY xs n).Perm (xs++[n]):=by
 unfold uY;rw[List.append_assoc];refine((List.Perm.refl _).append (List.perm_append_comm (l₁:=[n]) (l₂:=xs.drop (lF xs n)))).trans ?_;rw[<-List.append_assoc,List.take_append_drop]
theorem Rb{xs:List S5}{n:S5}(h:yD xs)(il:∀s∈xs,bK s=true)(hn:bK n=true)(jD:l8 xs n.b n.e=none):(uY xs n).Pairwise (fun a b=>lM a<lM b):=by
 have Ec:=fM hn
 have EZ:∀x∈xs.take (lF xs n),lM x<lM n:=fun x hx=>by
  obtain⟨i,hi,rfl⟩:=List.getElem_of_mem hx;have AV:i<lF xs n:=by rw[List.length_take]at hi;omega
  have Oc:i<xs.length:=by rw[List.length_take]at hi;omega
  have:=List.not_of_lt_findIdx (p:=fun x:S5=>!jv x.b x.e n.b n.e) (xs:=xs) AV;rw[List.getElem_take];have hk:=(fM (il _ (List.getElem_mem Oc))).2;simp only[Bool.not_eq_false']at this;rw[nS hk Ec.2]at this;simpa[lM]using this
 have Sy:∀x∈xs.drop (lF xs n),lM n<lM x:=fun x hx=>by
  obtain⟨i,hi,rfl⟩:=List.getElem_of_mem hx;rw[List.length_drop]at hi;have hc:lF xs n<xs.length:=by omega
  have h1:=List.findIdx_getElem (p:=fun x:S5=>!jv x.b x.e n.b n.e) (xs:=xs) (w:=hc);have hm:=List.getElem_mem hc;have hk:=(fM (il _ hm)).2;change (!jv xs[lF xs n].b xs[lF xs n].e n.b n.e)=true at h1;rw[nS hk Ec.2]at h1;simp only[Bool.not_eq_true',decide_eq_false_iff_not]at h1
  have h2:lM n≠lM xs[lF xs n]:=fun e=>by
   have:=UD hk Ec.2 e.symm;exact Du.1 jD _ hm this
  have h3:lM n<lM xs[lF xs n]:=by
   have:¬lM xs[lF xs n]<lM n:=h1;omega
  rw[List.getElem_drop];rcases i with _|i
  ·simpa using h3
  ·exact Int.lt_trans h3 (List.pairwise_iff_getElem.1 h _ _ hc (by omega) (by omega))
 unfold uY;rw[List.pairwise_append,List.pairwise_append];refine⟨⟨h.sublist (List.take_sublist _ _),by simp,fun a ha b hb=>by simp at hb;subst hb;exact EZ a ha⟩,h.sublist (List.drop_sublist _ _),fun a ha b hb=>?_⟩;rcases List.mem_append.1 ha with ha|ha
 ·exact Int.lt_trans (EZ a ha) (Sy b hb)
 ·simp at ha;subst ha;exact Sy b hb
end tx
namespace tx
open Go.Proofs.Tryz
variable {B:Nat}{X Y:World}{t:T7}{v:TV}
theorem BT.under{s:Nat}(h:BT X s v t)(hb:Below B X Y)(hs:s<B):BT Y s v t:=h.aj (hb.block _ hs) hb.size
theorem OT.under{B0:Nat}{PR PS:Nat->Prop}(h:OT X B0 v t PR PS)(hb:Below B X Y)(hq:∀q,lZ PR PS q->q<B):OT Y B0 v t PR PS:=h.aM hb.size (fun q _ ho=>hb.block q (hq q ho))
theorem tQ(w:World)(v:TV)(t:T7)(n:S5)(hl:TL t)(hs:uA w v t):
  Calls prog 114 #[v.val t,.agg #[vI n.b,vI n.e,vI n.g,.bool n.j,vI n.i]] w (xu w (dL t n) (iP t n)):=by
 obtain⟨ar,cr,ah,ch⟩:=v;simp only[TV.val];obtain⟨W0,dO⟩:=bO (w.alloc (.cells #[vI t.id,vI t.l,vI t.o,vI t.q,.slice ar t.a.length cr,.slice ah t.ai.length ch,vI t.az] 91));have z0:W0.1.size=w.1.size+1:=by rw[dO];simp
 have x0:BT W0 w.1.size ⟨ar,cr,ah,ch⟩ t:=by rw[dO];exact BT.box w ⟨ar,cr,ah,ch⟩ t _
 have b0:Below w.1.size w W0:=by rw[dO];exact aK.alloc aU _
 obtain⟨W1,fA⟩:=bO (W0.alloc (.cells #[vI n.b,vI n.e,vI n.g,.bool n.j,vI n.i] 96));have z1:W1.1.size=w.1.size+2:=by rw[fA];simp[z0]
 have x1:BS W1 (w.1.size+1) n:=by rw[fA,<-z0];exact BS.box W0 _ _
 have b1:Below W0.1.size W0 W1:=by rw[fA];exact aK.alloc aU _
 obtain⟨W,hW⟩:=bO (W1.alloc (.cells #[vI 0,vI 0,vI 0,vI 0,.slice none 0 0,.slice none 0 0,vI 0] 91));have zW:W.1.size=w.1.size+3:=by rw[hW];simp[z1]
 have x2:BT W (w.1.size+2) ⟨none,0,none,0⟩ ⟨0,0,0,0,[],[],0⟩:=by rw[hW,<-z1];exact BT.zero W1 _
 have b2:Below W1.1.size W1 W:=by rw[hW];exact aK.alloc aU _
 have bW:=(b0.trans (b1.mono b0.size)).trans (b2.mono (by omega));have c1:=qU W ⟨ar,cr,ah,ch⟩ t hl (hs.later bW);simp only[TV.val]at c1;have H:=wL ((x0.later b1).later b2) (x1.below b2 (by omega)) x2 bW (hs.later bW) zW;rw[fA,dO]at hW;clear dO fA z0 x0 b0 z1 x1 b1 zW x2 b2 bW hs hl
 cases hB:kv t with
 | false=>
  rw[hB]at c1;have HN:=dw (show dL t n=kg by simp[dL,hB]) (show iP t n=false by simp[iP,hB]);go_enter func114,ntmps114;go_wp2_with fail;rw[<-hW];clear hW;refine c1.mono ?_;clear c1;rintro e w1 ⟨rfl,b1⟩;have KZ:=dw (H.out.2.2.1.later b1) (H.out.2.2.2.1.trans (b1.mono H.out.2.2.2.1.size));clear b1 H;obtain⟨r0,r1,r2,r3,r4,r5,r6,fr,-⟩:=KZ.out.1;have jA:=KZ.out.1.put ⟨none,0,none,0⟩ kg;simp only[iq,kg,List.length_nil]at jA;obtain⟨u0,u1,u2,u3,u4,u5,u6,-,-⟩:=jA;have KU:=af (And.intro u0 (And.intro u1 (And.intro u2 (And.intro u3 (And.intro u4 (And.intro u5 u6))))));clear u0 u1 u2 u3 u4 u5 u6;have f0:=fr 0;have f1:=fr 1;have f2:=fr 2;have f3:=fr 3;have f4:=fr 4;have f5:=fr 5;have f6:=fr 6;clear fr;simp only[List.length_nil]at r4 r5;go_wp2;obtain⟨u0,u1,u2,u3,u4,u5,u6⟩:=KU.out;refine bodyPost_ret (v:=.tuple #[.agg #[vI 0,vI 0,vI 0,vI 0,.slice none 0 0,.slice none 0 0,vI 0],.bool false]) (by simp[results,results114,go_sem,u0,u1,u2,u3,u4,u5,u6]) rfl ?_;rw[HN.out.1,HN.out.2];exact xu.zero (cz (s:=w.1.size+2) (v:=⟨none,0,none,0⟩) (t:=kg) KZ.out.2 (by omega))
 | true=>
  rw[hB]at c1;go_enter func114,ntmps114;go_wp2_with fail;rw[<-hW];clear hW;refine c1.mono ?_;clear c1;rintro e w1 ⟨rfl,b1⟩;obtain⟨⟨n0,n1,n2,n3,n4⟩,-⟩:=H.out.2.1.below b1 (by have:=H.out.2.2.2.2.2;omega);simp only[Nat.zero_add]at n1 n2 n3 n4;have c2:=uE w1 n;have H1:=wL (H.out.1.later b1) (show BS w1 (w.1.size+1) n from H.out.2.1.below b1 (by have:=H.out.2.2.2.2.2;omega)) (H.out.2.2.1.later b1) (H.out.2.2.2.1.trans (b1.mono H.out.2.2.2.1.size)) (H.out.2.2.2.2.1.later b1) (show w.1.size+3<=w1.1.size by have:=H.out.2.2.2.2.2;have:=b1.size;omega);clear b1 H;go_wp2_with fail;refine c2.mono ?_;clear c2 n0 n1 n2 n3 n4;rintro e w2 ⟨rfl,b2⟩;have H2:=wL (H1.out.1.later b2) (show BS w2 (w.1.size+1) n from H1.out.2.1.below b2 (by have:=H1.out.2.2.2.2.2;omega)) (H1.out.2.2.1.later b2) (H1.out.2.2.2.1.trans (b2.mono H1.out.2.2.2.1.size)) (H1.out.2.2.2.2.1.later b2) (show w.1.size+3<=w2.1.size by have:=H1.out.2.2.2.2.2;have:=b2.size;omega);clear b2 H1
  cases hO:bK n with
  | false=>
   have HN:=dw (show dL t n=kg by simp[dL,hO]) (show iP t n=false by simp[iP,hO]);have KZ:=dw H2.out.2.2.1 H2.out.2.2.2.1;clear H2;obtain⟨r0,r1,r2,r3,r4,r5,r6,fr,-⟩:=KZ.out.1;have jA:=KZ.out.1.put ⟨none,0,none,0⟩ kg;simp only[iq,kg,List.length_nil]at jA;obtain⟨u0,u1,u2,u3,u4,u5,u6,-,-⟩:=jA;have KU:=af (And.intro u0 (And.intro u1 (And.intro u2 (And.intro u3 (And.intro u4 (And.intro u5 u6))))));clear u0 u1 u2 u3 u4 u5 u6;have f0:=fr 0;have f1:=fr 1;have f2:=fr 2;have f3:=fr 3;have f4:=fr 4;have f5:=fr 5;have f6:=fr 6;clear fr;simp only[List.length_nil]at r4 r5;go_wp2;obtain⟨u0,u1,u2,u3,u4,u5,u6⟩:=KU.out;refine bodyPost_ret (v:=.tuple #[.agg #[vI 0,vI 0,vI 0,vI 0,.slice none 0 0,.slice none 0 0,vI 0],.bool false]) (by simp[results,results114,go_sem,u0,u1,u2,u3,u4,u5,u6]) rfl ?_;rw[HN.out.1,HN.out.2];exact xu.zero (cz (s:=w.1.size+2) (v:=⟨none,0,none,0⟩) (t:=kg) KZ.out.2 (by omega))
  | true=>
   have m8:=(gG hB).1;have Xt:=(gG hB).2;have HT:=fP ((Mg hB).1) ((Mg hB).2) hO;have c3:=uH w2 ⟨ar,cr,ah,ch⟩ t (by omega) (by omega) H2.out.2.2.2.2.1;simp only[TV.val]at c3;obtain⟨p0,p1,p2,p3,p4,p5,p6,-,-⟩:=H2.out.1;dsimp only at p4 p5;go_wp2_with fail;refine c3.mono ?_;clear c3 p0 p1 p2 p3 p4 p5 p6;rintro e w3 ⟨a4,c4,h4,d4,PR,PS,rfl,o3,b3⟩;simp only[TV.val];obtain⟨X3,nL⟩:=bO (w3.alloc (.cells #[vI t.id,vI t.l,vI t.o,vI t.q,.slice a4 t.a.length c4,.slice h4 t.ai.length d4,vI t.az] 91));have b3':Below w3.1.size w3 X3:=by rw[nL];exact aK.alloc aU _
   have Br:=b3.trans (b3'.mono b3.size);have x3:BT X3 w3.1.size ⟨a4,c4,h4,d4⟩ t:=by rw[nL];exact BT.box w3 ⟨a4,c4,h4,d4⟩ t _
   have H3:=xZ (show BS X3 (w.1.size+1) n from H2.out.2.1.below Br (by have:=H2.out.2.2.2.2.2;omega)) (H2.out.2.2.1.later Br) (H2.out.2.2.2.1.trans (Br.mono H2.out.2.2.2.1.size)) (show w.1.size+3<=w3.1.size by have:=H2.out.2.2.2.2.2;have:=b3.size;omega) x3 (o3.later b3') (show(∀q,lZ PR PS q->w.1.size+3<=q/\q<w3.1.size)from fun q hq=>⟨by have:=(o3.of hq).1;have:=H2.out.2.2.2.2.2;omega,(o3.of hq).2⟩) x3.lt;clear b3 b3' Br x3 o3 H2;have DT:=rA X3 h4 d4 t.ai (by omega) H3.out.2.2.2.2.2.1.sl.s HT.out.1 HT.out.2.1;have k4:=H3.out.2.2.2.2.1.c5;dsimp only at k4;rw[nL]at k4;go_wp2_with fail;rw[<-nL];clear nL k4;refine DT.mono ?_;clear DT;rintro e w4 ⟨p,mb,m,pv,rfl,hp,hm,b4⟩;obtain⟨⟨n0,n1,n2,n3,n4⟩,-⟩:=H3.out.1.below b4 (by have:=H3.out.2.2.2.1;have:=H3.out.2.2.2.2.2.2.2;omega);simp only[Nat.zero_add]at n1 n2 n3 n4;have cC:=gF w4 n;have H4:=dw hp b4;clear hp b4;go_wp2_with fail;refine cC.mono ?_;clear cC n0 n1 n2 n3 n4;rintro e w5 ⟨rfl,b5⟩;have cH:=JC w5 X3.1.size p mb m pv t.ai n.b n.e (H4.out.1.later b5) (by omega) (fM HT.out.2.2).1 (fM HT.out.2.2).2;have H5:=dw (H4.out.1.later b5) (H4.out.2.trans (b5.mono H4.out.2.size));clear b5 H4;go_wp2_with fail;refine cH.mono ?_;clear cH;rintro e Yt ⟨rfl,cX⟩;obtain⟨w6,TQ⟩:=bO (Yt.alloc (.cells #[vI (iU t.ai n.b n.e).b,vI (iU t.ai n.b n.e).e,vI (iU t.ai n.b n.e).g,.bool (iU t.ai n.b n.e).j,vI (iU t.ai n.b n.e).i] 96));have bA:Below Yt.1.size Yt w6:=by rw[TQ];exact aK.alloc aU _
   have b6:=cX.trans (bA.mono cX.size);have e6:BS w6 Yt.1.size (iU t.ai n.b n.e):=by rw[TQ];exact BS.box Yt _ _
   have l6:=Nat.le_trans H5.out.2.size cX.size;have z6:Yt.1.size<w6.1.size:=by rw[TQ];simp
   have H6:=nE (H5.out.1.later b6) (H5.out.2.trans (b6.mono H5.out.2.size)) e6 l6 z6;clear b6 cX bA e6 l6 z6 H5
   cases hW:l8 t.ai n.b n.e with
   | some i=>
    have HN:=dw (show dL t n=(⟨t.id,t.l,t.o,t.q,t.a,rq t.ai i n,t.az⟩:T7) by simp[dL,hB,hO,hW]) (show iP t n=true by simp[iP,hB,hO,hW]);have hi:=(zB hW).1;have e1:iU t.ai n.b n.e=aF t.ai i:=by simp[iU,hW]
    simp only[e1]at TQ H6 ⊢;obtain⟨⟨-,-,-,-,k4⟩,-⟩:=H6.out.2.2.1;obtain⟨⟨n0,n1,n2,n3,n4⟩,nf⟩:=H3.out.1.below H6.out.2.1 (by have:=H3.out.2.2.2.1;have:=H3.out.2.2.2.2.2.2.2;omega);simp only[Nat.zero_add]at n1 n2 n3 n4 k4;have eE:=nf 4;obtain⟨Wa,Sv⟩:=bO (w6.setCell ⟨w.1.size+1,4,none⟩ (vI (aF t.ai i).i));have ob:aX (w.1.size+1) w6 Wa:=by rw[Sv];exact(aX.refl _ _).setCell 4 _
    have nL:w.1.size+3<X3.1.size:=by have:=H3.out.2.2.2.1;have:=H3.out.2.2.2.2.2.2.2;omega
    have tv:Below (w.1.size+2) X3 Wa->True:=fun _=>trivial
    have Ol:l8 t.ai (yM n (aF t.ai i).i).b (yM n (aF t.ai i).i).e=some i:=hW;have QN:=Ux HT.out.1 HT.out.2.2 hW
    have pf:oo Wa X3.1.size p mb m pv t.ai:=by
     have P:=H6.out.1;have nb:∀x,X3.1.size<=x->Wa.1[x]?=w6.1[x]?:=fun x hx=>ob.block x (by omega)
     exact⟨(World.cell?_of_block (a:=⟨p,0,none⟩) (nb p P.bp)).trans P.c0,(World.cell?_of_block (a:=⟨p,1,none⟩) (nb p P.bp)).trans P.c1,fun j=>(World.frozen?_of_block (a:=⟨p,j,none⟩) (nb p P.bp)).trans (P.fz j),P.row.aM (fun x hx _ _=>nb x hx),P.mp.aj (nb mb P.bm),P.ok,P.vp,P.vm,P.pm,P.bp,P.bm,by rw[ob.size];exact P.lp⟩
    have cP:=Pd Wa X3.1.size p mb m pv t.ai (yM n (aF t.ai i).i) i pf (by omega) (by omega) QN Ol (by rw[ob.size];exact H6.out.2.1.size);simp only[yM]at cP;have v0:Wa.cell? ⟨w.1.size+1,0,none⟩=some (vI n.b):=by rw[Sv];exact(ae (by omega)).trans n0
    have v1:Wa.cell? ⟨w.1.size+1,1,none⟩=some (vI n.e):=by rw[Sv];exact(ae (by omega)).trans n1
    have v2:Wa.cell? ⟨w.1.size+1,2,none⟩=some (vI n.g):=by rw[Sv];exact(ae (by omega)).trans n2
    have v3:Wa.cell? ⟨w.1.size+1,3,none⟩=some (.bool n.j):=by rw[Sv];exact(ae (by omega)).trans n3
    have v4:Wa.cell? ⟨w.1.size+1,4,none⟩=some (vI (aF t.ai i).i):=by rw[Sv];exact ay n4
    have KX:Hid (BT Wa (w.1.size+2) ⟨none,0,none,0⟩ ⟨0,0,0,0,[],[],0⟩/\Below w.1.size w Wa/\BT Wa w3.1.size ⟨a4,c4,h4,d4⟩ t/\OT Wa w2.1.size ⟨a4,c4,h4,d4⟩ t PR PS/\X3.1.size<=Wa.1.size/\Wa.1.size=w6.1.size):=by
     obtain⟨-,j2,j3,j4,j5,j6,j7,j8⟩:=H3.out;have g:=H6.out.2.1;refine⟨(j2.later g).aj (ob.block _ (by omega)) (Nat.le_of_eq ob.size.symm),?_,(j5.later g).aj (ob.block _ (by omega)) (Nat.le_of_eq ob.size.symm),(j6.later g).aM (Nat.le_of_eq ob.size.symm) (fun q _ hq=>ob.block q (by have:=(j7 q hq).1;omega)),by rw[ob.size];exact g.size,ob.size⟩;rw[Sv];exact(j3.trans (g.mono j3.size)).setCell (p:=⟨w.1.size+1,4,none⟩) (by dsimp only;omega) _
    have HY:=af (hW);clear nf ob tv pf QN Ol hW;rw[TQ]at k4 n4 eE Sv;go_upto_region 10 with fail
    rw[<-Sv];clear Sv k4 n0 n1 n2 n3 n4 eE TQ;go_wp2_with fail;refine cP.mono ?_;clear cP v0 v1 v2 v3 v4;rintro e w7 ⟨rfl,q,cap,GY,b7⟩;have qv:t.ai.set i ⟨n.b,n.e,n.g,n.j,(aF t.ai i).i⟩=rq t.ai i n:=rfl;rw[qv]at GY;have Gh:=Uy HT.out.2.1 HY.out;have lO:(rq t.ai i n).length=t.ai.length:=Dh _ _ _;have cI:=vo w7 X3.1.size p q mb m cap (rq t.ai i n) GY (by omega) (by omega) (JE Gh) (Gh.imp (fun h=>Int.ne_of_lt h));have Sn:=af Gh;have H7:=pI b7 GY.bp GY.bq GY.bm;clear b7 GY Gh qv H6;go_wp2_with fail;refine cI.mono ?_;clear cI lO;rintro e w8 ⟨v8,zs,rfl,Dn,Ng,VD,k8⟩;have ME:Below X3.1.size Wa w8:=H7.out.1.trans (k8.below (fun x hx=>by obtain⟨-,h1,h2,h3⟩:=H7.out;rcases hx with rfl|rfl|rfl<;>assumption) (Nat.le_trans KX.out.2.2.2.2.1 H7.out.1.size));have nM:=dF.A7 lM VD Sn.out Ng;have HZ:=af nM;obtain⟨a2,c2,rfl,-⟩:=Dn.form;have xB:=KX.out.2.2.1.under ME H3.out.2.2.2.2.2.2.2;have k4:=xB.c5;have GZ:=xB.fz 5;dsimp only at k4;have UX:=Nat.le_trans KX.out.2.2.2.2.1 H7.out.1.size;have KF:=nE (xB.Dv a2 c2 zs) (show BT (w8.setCell ⟨w3.1.size,5,none⟩ (.slice a2 zs.length c2)) (w.1.size+2) ⟨none,0,none,0⟩ ⟨0,0,0,0,[],[],0⟩from(KX.out.1.under ME (by omega)).dS (by dsimp only;have:=H3.out.2.2.2.1;omega) _) Dn ME UX;clear nM Dn Ng VD k8 ME xB UX H7 Sn;have jA:=KF.out.2.1.put ⟨a4,c4,a2,c2⟩ (⟨t.id,t.l,t.o,t.q,t.a,zs,t.az⟩:T7);simp only[iq]at jA;obtain⟨u0,u1,u2,u3,u4,u5,u6,-,-⟩:=jA;have KU:=af (And.intro u0 (And.intro u1 (And.intro u2 (And.intro u3 (And.intro u4 (And.intro u5 u6))))))
    clear u0 u1 u2 u3 u4 u5 u6;obtain⟨o0,o1,o2,o3,o4,o5,o6,-,-⟩:=KF.out.1;obtain⟨r0,r1,r2,r3,r4,r5,r6,fr,-⟩:=KF.out.2.1;have f0:=fr 0;have f1:=fr 1;have f2:=fr 2;have f3:=fr 3;have f4:=fr 4;have f5:=fr 5;have f6:=fr 6;clear fr;dsimp only at o0 o1 o2 o3 o4 o5 o6 r4 r5;go_wp2;obtain⟨u0,u1,u2,u3,u4,u5,u6⟩:=KU.out;refine bodyPost_ret (v:=.tuple #[.agg #[vI t.id,vI t.l,vI t.o,vI t.q,.slice a4 t.a.length c4,.slice a2 zs.length c2,vI t.az],.bool true]) (by simp[results,results114,go_sem,u0,u1,u2,u3,u4,u5,u6]) rfl ?_;rw[HN.out.1,HN.out.2,<-HZ.out];obtain⟨g1,g2,g3,g4,g5⟩:=KF.out;obtain⟨-,-,-,j6,-,-,j9,j10⟩:=H3.out;obtain⟨-,j4,-,x7,j5,-⟩:=KX.out;have j8:=x7.under g4 (fun q hq=>by have:=(j9 q hq).2;omega);have bX:Below w.1.size w (w8.setCell ⟨w3.1.size,5,none⟩ (.slice a2 zs.length c2)):=(j4.trans (g4.mono (by omega))).setCell (p:=⟨w3.1.size,5,none⟩) (by dsimp only;omega) _;refine⟨a4,c4,a2,c2,PR,fun q=>(Value.slice a2 zs.length c2).ownBlock=some q,rfl,?_,cz (s:=w.1.size+2) (v:=⟨a4,c4,a2,c2⟩) (t:=(⟨t.id,t.l,t.o,t.q,t.a,zs,t.az⟩:T7)) bX (by omega)⟩;obtain⟨_,_,e2,O5⟩:=g3.form
    cases e2;have ot:OT w8 w.1.size ⟨a4,c4,a2,c2⟩ (⟨t.id,t.l,t.o,t.q,t.a,zs,t.az⟩:T7) PR (fun q=>(Value.slice a2 zs.length c2).ownBlock=some q):=⟨j8.r,O5,fun q h1 h2=>by have:=(g3.lt h2).1;have:=(j9 q (.inl h1)).2;omega,fun q h1=>⟨by have:=(j9 q (.inl h1)).1;omega,(j8.rB q h1).2⟩,fun q h1=>⟨by have:=(g3.lt h1).1;omega,(g3.lt h1).2⟩⟩
    have eO:∀q,lZ PR (fun q=>(Value.slice a2 zs.length c2).ownBlock=some q) q->q≠w3.1.size/\q≠w.1.size+2:=fun q hq=>by
     rcases hq with hq|hq
     ·have:=j9 q (.inl hq);omega
     ·have:=(g3.lt hq).1;omega
    have LH:OT (w8.setCell ⟨w3.1.size,5,none⟩ (.slice a2 zs.length c2)) w.1.size ⟨a4,c4,a2,c2⟩ (⟨t.id,t.l,t.o,t.q,t.a,zs,t.az⟩:T7) PR (fun q=>(Value.slice a2 zs.length c2).ownBlock=some q):=ot.aM (by simp[World.setCell]) (fun q _ hq=>Below.heap_setCell _ _ _ _ (eO q hq).1);exact LH.aM (w':=iq (w8.setCell ⟨w3.1.size,5,none⟩ (.slice a2 zs.length c2)) (w.1.size+2) ⟨a4,c4,a2,c2⟩ (⟨t.id,t.l,t.o,t.q,t.a,zs,t.az⟩:T7)) (by rw[jg];exact Nat.le_refl _) (fun q _ hq=>fu (eO q hq).2)
   | none=>
    have cF:=LV w6 X3.1.size p mb m pv t.ai H6.out.1;have e1:iU t.ai n.b n.e=⟨0,0,0,false,0⟩:=by simp[iU,hW]
    simp only[e1]at TQ H6 ⊢;go_wp2_with fail;rw[<-TQ];clear TQ;refine cF.mono ?_;clear cF;rintro e nw ⟨rfl,rfl⟩;by_cases wJ:t.ai.length=12
    ·have d12:decide (12<=t.ai.length)=true:=by simp;omega
     rw[d12];have HN:=dw (show dL t n=kg by simp[dL,hB,hO,hW,wJ]) (show iP t n=false by simp[iP,hB,hO,hW,wJ]);have KZ:=dw (H3.out.2.1.later H6.out.2.1) (H3.out.2.2.1.trans (H6.out.2.1.mono H3.out.2.2.1.size));clear H3 H6 d12;obtain⟨r0,r1,r2,r3,r4,r5,r6,fr,-⟩:=KZ.out.1;have jA:=KZ.out.1.put ⟨none,0,none,0⟩ kg;simp only[iq,kg,List.length_nil]at jA;obtain⟨u0,u1,u2,u3,u4,u5,u6,-,-⟩:=jA;have KU:=af (And.intro u0 (And.intro u1 (And.intro u2 (And.intro u3 (And.intro u4 (And.intro u5 u6))))));clear u0 u1 u2 u3 u4 u5 u6;have f0:=fr 0;have f1:=fr 1;have f2:=fr 2;have f3:=fr 3;have f4:=fr 4;have f5:=fr 5;have f6:=fr 6;clear fr;simp only[List.length_nil]at r4 r5;go_wp2;obtain⟨u0,u1,u2,u3,u4,u5,u6⟩:=KU.out;refine bodyPost_ret (v:=.tuple #[.agg #[vI 0,vI 0,vI 0,vI 0,.slice none 0 0,.slice none 0 0,vI 0],.bool false]) (by simp[results,results114,go_sem,u0,u1,u2,u3,u4,u5,u6]) rfl ?_;rw[HN.out.1,HN.out.2];exact xu.zero (cz (s:=w.1.size+2) (v:=⟨none,0,none,0⟩) (t:=kg) KZ.out.2 (by omega))
    ·have d12:decide (12<=t.ai.length)=false:=by simp;omega
     rw[d12];have HN:=dw (show dL t n=⟨t.id,t.l,t.o,t.q,t.a,uY t.ai n,t.az⟩ by simp[dL,hB,hO,hW,wJ]) (show iP t n=true by simp[iP,hB,hO,hW,wJ]);have jD:l8 t.ai n.b n.e=none:=hW;have Gh:=Rb HT.out.2.1 HT.out.1 HT.out.2.2 jD;obtain⟨⟨n0,n1,n2,n3,n4⟩,-⟩:=H3.out.1.below H6.out.2.1 (by have:=H3.out.2.2.2.1;have:=H3.out.2.2.2.2.2.2.2;omega);simp only[Nat.zero_add]at n1 n2 n3 n4;have cP:=RO nw X3.1.size p mb m pv t.ai n H6.out.1 (by omega) (by omega) HT.out.2.2 jD H6.out.2.1.size (JE HT.out.2.1);have Sn:=af Gh;clear Gh d12 jD;go_wp2_with fail;refine cP.mono ?_;clear cP n0 n1 n2 n3 n4;rintro e w7 ⟨rfl,q,cap,m',ys,kh,GY,jQ,Zm,b7⟩;have YQ:=H6.out.2.1.trans b7;have QY:ys.length=t.ai.length+1:=by have:=jQ.length_eq;simpa using this
     have QF:=((jQ.trans (Ck t.ai n).symm).symm.pairwise_iff (fun {a b} (h:lM a≠lM b)=>h.symm)).1 (Sn.out.imp (fun h=>Int.ne_of_lt h));have cI:=vo w7 X3.1.size p q mb m' cap ys GY (by omega) (by omega) Zm QF;have H7:=nE YQ GY.bp GY.bq GY.bm jQ;clear YQ b7 GY jQ Zm QF kh QY H6;go_wp2_with fail;refine cI.mono ?_;clear cI;rintro e w8 ⟨v8,zs,rfl,Dn,Ng,VD,k8⟩;have ME:Below X3.1.size X3 w8:=H7.out.1.trans (k8.below (fun x hx=>by obtain⟨-,h1,h2,h3,-⟩:=H7.out;rcases hx with rfl|rfl|rfl<;>assumption) H7.out.1.size);have nM:=dF.A7 lM VD Sn.out (Ng.trans (H7.out.2.2.2.2.trans (Ck t.ai n).symm));have HZ:=af nM;obtain⟨a2,c2,rfl,-⟩:=Dn.form;have xB:=H3.out.2.2.2.2.1.later ME;have k4:=xB.c5;have GZ:=xB.fz 5;dsimp only at k4;have UX:=H7.out.1.size;have KF:=nE (xB.Dv a2 c2 zs) (show BT (w8.setCell ⟨w3.1.size,5,none⟩ (.slice a2 zs.length c2)) (w.1.size+2) ⟨none,0,none,0⟩ ⟨0,0,0,0,[],[],0⟩from(H3.out.2.1.later ME).dS (by dsimp only;have:=H3.out.2.2.2.1;omega) _) Dn ME UX;clear nM Dn Ng VD k8 ME xB UX H7 Sn;have jA:=KF.out.2.1.put ⟨a4,c4,a2,c2⟩ (⟨t.id,t.l,t.o,t.q,t.a,zs,t.az⟩:T7);simp only[iq]at jA;obtain⟨u0,u1,u2,u3,u4,u5,u6,-,-⟩:=jA;have KU:=af (And.intro u0 (And.intro u1 (And.intro u2 (And.intro u3 (And.intro u4 (And.intro u5 u6))))));clear u0 u1 u2 u3 u4 u5 u6;obtain⟨o0,o1,o2,o3,o4,o5,o6,-,-⟩:=KF.out.1;obtain⟨r0,r1,r2,r3,r4,r5,r6,fr,-⟩:=KF.out.2.1;have f0:=fr 0;have f1:=fr 1;have f2:=fr 2;have f3:=fr 3;have f4:=fr 4;have f5:=fr 5;have f6:=fr 6;clear fr
     dsimp only at o0 o1 o2 o3 o4 o5 o6 r4 r5;go_wp2;obtain⟨u0,u1,u2,u3,u4,u5,u6⟩:=KU.out;refine bodyPost_ret (v:=.tuple #[.agg #[vI t.id,vI t.l,vI t.o,vI t.q,.slice a4 t.a.length c4,.slice a2 zs.length c2,vI t.az],.bool true]) (by simp[results,results114,go_sem,u0,u1,u2,u3,u4,u5,u6]) rfl ?_;rw[HN.out.1,HN.out.2,<-HZ.out];obtain⟨g1,g2,g3,g4,g5⟩:=KF.out;obtain⟨-,-,j4,j6,-,j8,j9,j10⟩:=H3.out;have bX:Below w.1.size w (w8.setCell ⟨w3.1.size,5,none⟩ (.slice a2 zs.length c2)):=(j4.trans (g4.mono j4.size)).setCell (p:=⟨w3.1.size,5,none⟩) (by dsimp only;omega) _;refine⟨a4,c4,a2,c2,PR,fun q=>(Value.slice a2 zs.length c2).ownBlock=some q,rfl,?_,cz (s:=w.1.size+2) (v:=⟨a4,c4,a2,c2⟩) (t:=(⟨t.id,t.l,t.o,t.q,t.a,zs,t.az⟩:T7)) bX (by omega)⟩;obtain⟨_,_,e2,O5⟩:=g3.form
     cases e2;have ot:OT w8 w.1.size ⟨a4,c4,a2,c2⟩ (⟨t.id,t.l,t.o,t.q,t.a,zs,t.az⟩:T7) PR (fun q=>(Value.slice a2 zs.length c2).ownBlock=some q):=⟨(j8.later g4).r,O5,fun q h1 h2=>by have:=(g3.lt h2).1;have:=(j9 q (.inl h1)).2;omega,fun q h1=>⟨by have:=(j9 q (.inl h1)).1;omega,((j8.later g4).rB q h1).2⟩,fun q h1=>⟨by have:=(g3.lt h1).1;omega,(g3.lt h1).2⟩⟩
     have eO:∀q,lZ PR (fun q=>(Value.slice a2 zs.length c2).ownBlock=some q) q->q≠w3.1.size/\q≠w.1.size+2:=fun q hq=>by
      rcases hq with hq|hq
      ·have:=j9 q (.inl hq);omega
      ·have:=(g3.lt hq).1;omega
     have LH:OT (w8.setCell ⟨w3.1.size,5,none⟩ (.slice a2 zs.length c2)) w.1.size ⟨a4,c4,a2,c2⟩ (⟨t.id,t.l,t.o,t.q,t.a,zs,t.az⟩:T7) PR (fun q=>(Value.slice a2 zs.length c2).ownBlock=some q):=ot.aM (by simp[World.setCell]) (fun q _ hq=>Below.heap_setCell _ _ _ _ (eO q hq).1);exact LH.aM (w':=iq (w8.setCell ⟨w3.1.size,5,none⟩ (.slice a2 zs.length c2)) (w.1.size+2) ⟨a4,c4,a2,c2⟩ (⟨t.id,t.l,t.o,t.q,t.a,zs,t.az⟩:T7)) (by rw[jg];exact Nat.le_refl _) (fun q _ hq=>fu (eO q hq).2)
end tx
section
open Go.Proofs.Tryz
def PZ(t:tx.T7)(n:S5):Int:=if tx.iP t n=true then 0 else 9
theorem J8(w:World)(B d:Nat)(a1:OA)(c1:Nat)(a2:OA)(c2:Nat)(a3:OA)(c3:Nat)(k:C6)(i:Nat)(u:tx.TV)(t:tx.T7)(P:Nat->Prop)(n:S5)(hk:aD k=true)(h:df.Rd w a1 c1 a2 c2 a3 c3 k)(hd:DB w B d a1 c1 a2 c2 a3 c3 k i u t P)(hl:tx.TL t)(Ip:B<=w.1.size):
  Calls prog 60 #[.pointer (some ⟨d,0,none⟩),.agg #[vI n.b,vI n.e,vI n.g,.bool n.j,vI n.i]] w (FJ w B d a1 c1 a2 c2 a3 c3 k i P (tx.dL t n) (PZ t n) (.tuple #[])):=by
 obtain⟨U,hU,bU,xU,sU⟩:=iI w [vI n.b,vI n.e,vI n.g,.bool n.j,vI n.i] 96;have HR:=xZ (h.later bU) hk (hd.later bU) hl bU hd.bx.2.2 hd.lo Ip;have hS:(fun Z:World=>Below U.1.size U Z/\Bx Z d [vI k.v,vI k.u,.slice a1 k.f.length c1,.slice a2 k.aa.length c2,.slice a3 k.c.length c3,.bool k.w,vI (i:Int),vI t.id,vI t.l,vI t.o,vI t.q,.slice u.ar t.a.length u.cr,.slice u.ah t.ai.length u.ch,vI t.az]/\Bx Z w.1.size [vI n.b,vI n.e,vI n.g,.bool n.j,vI n.i]) U.drew:=⟨aK.drew,HR.out.2.2.1.bx.later (aK.drew),xU.later (aK.drew)⟩
 clear h hk hd hl bU xU sU Ip;go_enter func60,ntmps60;go_wp2_with fail;rw[<-hU];clear hU;refine aT (fun z=>z==10) (fun Z:World=>Below U.1.size U Z/\Bx Z d [vI k.v,vI k.u,.slice a1 k.f.length c1,.slice a2 k.aa.length c2,.slice a3 k.c.length c3,.bool k.w,vI (i:Int),vI t.id,vI t.l,vI t.o,vI t.q,.slice u.ar t.a.length u.cr,.slice u.ah t.ai.length u.ch,vI t.az]/\Bx Z w.1.size [vI n.b,vI n.e,vI n.g,.bool n.j,vI n.i]) (by kernel_rfl) ?_;generalize U.drew=Wd at *;refine bf 0 rfl hS ?_;simp only[Act.put];refine Nr 1 (.pointer (some ⟨d,0,none⟩)) rfl ?_ hS ?_
 ·(intro w _;go_simp)
 simp only[Act.put];refine bf 2 rfl hS ?_;simp only[Act.put];refine fU 3 (.agg #[vI t.id,vI t.l,vI t.o,vI t.q,.slice u.ar t.a.length u.cr,.slice u.ah t.ai.length u.ch,vI t.az]) rfl ?_ hS ?_
 ·(intro w aA;have q7:=aA.2.1.1 7 _ rfl;have q8:=aA.2.1.1 8 _ rfl;have q9:=aA.2.1.1 9 _ rfl;have r8:=aA.2.1.1 10 _ rfl;have eJ:=aA.2.1.1 11 _ rfl;have na:=aA.2.1.1 12 _ rfl;have sa:=aA.2.1.1 13 _ rfl;clear hS aA;go_simp)
 simp only[Act.put];refine fU 4 (.agg #[vI n.b,vI n.e,vI n.g,.bool n.j,vI n.i]) rfl ?_ hS ?_
 ·(intro w aA;have q0:=aA.2.2.1 0 _ rfl;have q1:=aA.2.2.1 1 _ rfl;have q2:=aA.2.2.1 2 _ rfl;have q3:=aA.2.2.1 3 _ rfl;have q4:=aA.2.2.1 4 _ rfl;clear hS aA;go_simp)
 simp only[Act.put];refine fZ (rs:=[5,9]) (by kernel_rfl) (by simp) ?_;refine gQ.cons rfl (fun K hK=>?_) (gQ.cons rfl (fun K hK=>?_) gQ.nil)
 case' refine_1=>
  go_simp;have cA:=tx.tQ Wd u t n HR.out.2.2.2.1 (HR.out.2.2.1.ow.sl.later hS.1);simp only[tx.TV.val]at cA;refine cA.mono ?_;clear cA;rintro e X ⟨va,vc,vh,vd,PR,PS,rfl,mX,bX⟩;have HO:=dw mX hS.1;replace hS:=nH (au hS.1 bX) (hS.2.1.later bX) (hS.2.2.later bX);refine hK.out _ _ (fun _=>hS) ?_;clear hK K mX bX;refine bf 6 rfl hS ?_;simp only[Act.put];refine bf 7 rfl hS ?_;simp only[Act.put];refine bf 8 rfl hS ?_;simp only[Act.put];refine bG 9 rfl (fun K hK=>?_);go_simp;have bV:Below X.1.size X (X.alloc (.cells #[vI 0,vI 0,vI 0,vI 0,.slice none 0 0,.slice none 0 0,vI 0] 91)):=aK.alloc aU _;have xV:Bx (X.alloc (.cells #[vI 0,vI 0,vI 0,vI 0,.slice none 0 0,.slice none 0 0,vI 0] 91)) X.1.size DV:=Bx.made X DV _;have HX:Hid (X.1.size=X.1.size):=rfl;obtain⟨V,hV⟩:=bO (X.alloc (.cells #[vI 0,vI 0,vI 0,vI 0,.slice none 0 0,.slice none 0 0,vI 0] 91));obtain⟨bb,gu⟩:=bO X.1.size;rw[<-hV,<-gu]at xV;rw[<-hV]at bV;rw[<-hV,<-gu];have FL:=pI (HO.out.1.later bV) HO.out.2 (show(∀q,tx.lZ PR PS q->q≠bb)from fun q hq=>by have:=(HO.out.1.of hq).2;omega) (show U.1.size<=bb by have:=hS.1.size;omega);replace hS:=nH (au hS.1 bV) (hS.2.1.later bV) (hS.2.2.later bV);clear bV HO HX;clear hV gu;clear X;refine hK.out _ _ (fun _=>hS) ?_;clear hK K
 case' refine_2=>
  go_simp;obtain⟨V0,hV⟩:=bO (Wd.alloc (.cells #[vI 0,vI 0,vI 0,vI 0,.slice none 0 0,.slice none 0 0,vI 0] 91));obtain⟨bb,gu⟩:=bO Wd.1.size;have bV:Below Wd.1.size Wd V0:=by rw[hV];exact aK.alloc aU _
  have Sg:Bx V0 bb DV:=by rw[hV,gu];exact Bx.made Wd DV _
  rw[<-hV,<-gu];have PW:=dw (show U.1.size<=bb by have:=hS.1.size;omega) Sg.2.2;replace hS:=nH (au hS.1 bV) (hS.2.1.later bV) (hS.2.2.later bV);refine hK.out _ _ (fun _=>hS) ?_;clear hK K bV hV gu;clear Wd;refine bG 5 rfl (fun K hK=>?_);go_simp;have cA:=tx.tQ V0 u t n HR.out.2.2.2.1 (HR.out.2.2.1.ow.sl.later hS.1);simp only[tx.TV.val]at cA;refine cA.mono ?_;clear cA;rintro e X ⟨va,vc,vh,vd,PR,PS,rfl,mX,bX⟩;have HO:=dw mX hS.1;have xV:=Sg.later bX;have FL:=pI mX hS.1 (show(∀q,tx.lZ PR PS q->q≠bb)from fun q hq=>by have:=(mX.of hq).1;have:=PW.out.2;omega) PW.out.1;replace hS:=nH (au hS.1 bX) (hS.2.1.later bX) (hS.2.2.later bX);refine hK.out _ _ (fun _=>hS) ?_;clear hK K;clear mX bX HO Sg PW;refine bf 6 rfl hS ?_;simp only[Act.put];refine bf 7 rfl hS ?_;simp only[Act.put];refine bf 8 rfl hS ?_;simp only[Act.put];generalize X=V at *;generalize V0=Wd at *
 all_goals
  have c0:=xV.1 0 _ rfl;have f0:=xV.2.1 0;have c1:=xV.1 1 _ rfl;have f1:=xV.2.1 1;have c2:=xV.1 2 _ rfl;have f2:=xV.2.1 2;have c3:=xV.1 3 _ rfl;have f3:=xV.2.1 3;have c4:=xV.1 4 _ rfl;have f4:=xV.2.1 4;have c5:=xV.1 5 _ rfl;have f5:=xV.2.1 5;have c6:=xV.1 6 _ rfl;have f6:=xV.2.1 6;refine bG 10 rfl (fun K hK=>?_);go_simp;refine hK.out _ _ (fun h=>absurd (show false=true from h.symm.trans (by kernel_rfl)) (by decide)) ?_;clear hK K;refine bG 11 rfl (fun K hK=>?_);go_simp;refine hK.out _ _ (fun h=>absurd (show false=true from h.symm.trans (by kernel_rfl)) (by decide)) ?_;clear hK K;refine bH (by kernel_rfl) ?_ _;clear c0 f0 c1 f1 c2 f2 c3 f3 c4 f4 c5 f5 c6 f6;obtain⟨Y,hY⟩:=bO (cO V bb 0 (tx.jJ va vc vh vd (tx.dL t n)));have yb:=xV.put (tx.jJ va vc vh vd (tx.dL t n)) rfl;rw[<-hY]at yb;have rR:Y=(((((((V.setCell ⟨bb,0,none⟩ (vI (tx.dL t n).id)).setCell ⟨bb,1,none⟩ (vI (tx.dL t n).l)).setCell ⟨bb,2,none⟩ (vI (tx.dL t n).o)).setCell ⟨bb,3,none⟩ (vI (tx.dL t n).q)).setCell ⟨bb,4,none⟩ (.slice va (tx.dL t n).a.length vc)).setCell ⟨bb,5,none⟩ (.slice vh (tx.dL t n).ai.length vd)).setCell ⟨bb,6,none⟩ (vI (tx.dL t n).az)):=hY;rw[<-rR];have dQ:Y.1.size=V.1.size:=by rw[hY];exact aS _ _ _ _
  have dS:∀q,q≠bb->Y.1[q]?=V.1[q]?:=fun q hq=>by rw[hY];exact aO hq _ _ _
  have h1:=FL.out.2.1.size;have h2:=HR.out.2.2.2.2.1.size;have BY:Hid (Below w.1.size w Y):=by unfold Hid;rw[hY];exact aI (by have:=FL.out.2.2.2;omega) _ _ _ (au HR.out.2.2.2.2.1 hS.1)
  have nD:d≠bb:=by have:=FL.out.2.2.2;have:=HR.out.2.2.2.2.2.1;omega
  have KY:=fP (hS.2.1.aj (dS d nD) (Nat.le_of_eq dQ.symm)) yb nD;have Wq:∀q,tx.lZ PR PS q->Wd.1.size<=q/\q<V.1.size:=fun q hq=>FL.out.1.of hq
  have KO:Hid (KT.Ow Y Wd.1.size va vc vh vd (tx.dL t n) (tx.lZ PR PS)/\(∀q,tx.lZ PR PS q->q≠d/\w.1.size<=q)/\B<=Wd.1.size):=by
   refine⟨KT.Ow.aM (w:=V) ⟨PR,PS,FL.out.1,fun q hq=>hq,Wq⟩ (Nat.le_of_eq dQ.symm) (fun q hq=>dS q (FL.out.2.2.1 q hq)),fun q hq=>?_,by have:=HR.out.2.2.2.2.2.2.2;omega⟩;have:=Wq q hq;have:=HR.out.2.2.2.2.2.1;omega
  have fg:Hid (df.Rd Y a1 c1 a2 c2 a3 c3 k):=by
   have hb:Below U.1.size U Y:=by rw[hY];exact aI FL.out.2.2.2 _ _ _ hS.1
   exact HR.out.1.later hb
  clear rR hY yb dQ dS h1 h2 nD Wq hS xV FL
  cases TA:tx.iP t n with
  | false=>
   have HC:Hid (PZ t n=9):=by unfold Hid PZ;rw[TA];rfl
   have hr:=fO Y d a1 c1 a2 c2 a3 c3 k [vI (i:Int),vI t.id,vI t.l,vI t.o,vI t.q,.slice u.ar t.a.length u.cr,.slice u.ah t.ai.length u.ch,vI t.az] 9 HR.out.2.1 fg.out KY.out.1;clear TA;go_wp2_with fail;refine hr.mono ?_;clear hr;intro e w2 hr;have HX:Hid (FJ w B d a1 c1 a2 c2 a3 c3 k i P (tx.dL t n) (PZ t n) (.tuple #[]) e w2):=.inl ⟨by rw[HC.out];decide,by rw[HC.out];exact hr.low BY.out⟩;obtain⟨e1,d1,e2,d2,e3,d3,P2,rfl,-,-⟩:=hr;go_wp2;exact⟨rfl,HX.out⟩
  | true=>
   have HC:Hid (PZ t n=0):=by unfold Hid PZ;rw[TA];rfl
   clear TA;have y0:=KY.out.2.1.1 0 _ rfl;have g0:=KY.out.1.1 7 _ rfl;have f0:=KY.out.1.2.1 7;have y1:=KY.out.2.1.1 1 _ rfl;have g1:=KY.out.1.1 8 _ rfl;have f1:=KY.out.1.2.1 8;have y2:=KY.out.2.1.1 2 _ rfl;have g2:=KY.out.1.1 9 _ rfl;have f2:=KY.out.1.2.1 9;have y3:=KY.out.2.1.1 3 _ rfl;have g3:=KY.out.1.1 10 _ rfl;have f3:=KY.out.1.2.1 10;have y4:=KY.out.2.1.1 4 _ rfl;have g4:=KY.out.1.1 11 _ rfl;have f4:=KY.out.1.2.1 11;have y5:=KY.out.2.1.1 5 _ rfl;have g5:=KY.out.1.1 12 _ rfl;have f5:=KY.out.1.2.1 12;have y6:=KY.out.2.1.1 6 _ rfl;have g6:=KY.out.1.1 13 _ rfl;have f6:=KY.out.1.2.1 13;obtain⟨Z,hZ⟩:=bO ((((((((Y.setCell ⟨d,7,none⟩ (vI (tx.dL t n).id)).setCell ⟨d,8,none⟩ (vI (tx.dL t n).l)).setCell ⟨d,9,none⟩ (vI (tx.dL t n).o)).setCell ⟨d,10,none⟩ (vI (tx.dL t n).q)).setCell ⟨d,11,none⟩ (.slice va (tx.dL t n).a.length vc)).setCell ⟨d,12,none⟩ (.slice vh (tx.dL t n).ai.length vd)).setCell ⟨d,13,none⟩ (vI (tx.dL t n).az)))
   have zb:Bx Z d [vI k.v,vI k.u,.slice a1 k.f.length c1,.slice a2 k.aa.length c2,.slice a3 k.c.length c3,.bool k.w,vI (i:Int),vI (tx.dL t n).id,vI (tx.dL t n).l,vI (tx.dL t n).o,vI (tx.dL t n).q,.slice va (tx.dL t n).a.length vc,.slice vh (tx.dL t n).ai.length vd,vI (tx.dL t n).az]:=by
    rw[hZ];exact((((((KY.out.1.set (i:=7) (by simp) _).set (i:=8) (by simp) _).set (i:=9) (by simp) _).set (i:=10) (by simp) _).set (i:=11) (by simp) _).set (i:=12) (by simp) _).set (i:=13) (by simp) _
   have zt:dV d w Z:=by
    rw[hZ];exact((((((((dV.refl d w).bN BY.out).setCell 7 _).setCell 8 _).setCell 9 _).setCell 10 _).setCell 11 _).setCell 12 _).setCell 13 _
   have zf:∀q,q≠d->Z.1[q]?=Y.1[q]?:=fun q hq=>by
    rw[show Z=cO Y d 7 (tx.jJ va vc vh vd (tx.dL t n))from hZ];exact aO hq _ _ _
   have zs:Z.1.size=Y.1.size:=by rw[hZ];simp[World.setCell]
   have KE:Hid (FJ w B d a1 c1 a2 c2 a3 c3 k i P (tx.dL t n) (PZ t n) (.tuple #[]) (.returned (.tuple #[])) Z):=.inr ⟨HC.out,rfl,⟨⟨va,vc,vh,vd⟩,tx.lZ PR PS,⟨zb,(KO.out.1.aM (Nat.le_of_eq zs.symm) (fun q hq=>zf q (KO.out.2.1 q hq).1)).low KO.out.2.2,fun q hq=>(KO.out.2.1 q hq).1,HR.out.2.2.2.2.2.2.1⟩,fun q hq=>.inr (KO.out.2.1 q hq).2⟩,zt⟩;have HZ:=af hZ;clear hZ zb zt zf zs;go_wp2;rw[<-HZ.out];exact bodyPost_end (v:=.tuple #[]) (by simp[results,results60]) rfl KE.out
end
end Go.Proofs.YtbiigfbhhkiodaaGreatDoor
