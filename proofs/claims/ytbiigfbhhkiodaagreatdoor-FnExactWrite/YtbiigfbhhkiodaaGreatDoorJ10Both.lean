import Derived.Test.YtbiigfbhhkiodaaGreatDoorJ9Both
import Derived.Lib.SmallJoins
set_option maxHeartbeats 16000000
set_option maxRecDepth 100000
namespace Go.Proofs.YtbiigfbhhkiodaaGreatDoor
open Go.RowKit
open Go.Sort (grow)
section
open Go.Proofs.Tryz
variable {k:C6}{r s y z:Int}{us:Bool}
theorem Us(k:C6)(t:tx.T7)(r s:Int):qH k t r s≠1:=by
 unfold qH yU Gs JX MB;repeat' split
 all_goals decide
theorem Ut(k:C6)(t:tx.T7)(r s:Int):(u7 k t r s).a.length<=t.a.length+1/\(u7 k t r s).ai.length<=t.ai.length:=by
 have e:∀n,(tx.dR t n).ai.length<=t.ai.length:=fun n=>by
  unfold tx.dR;split
  ·split
   ·exact Nat.le_refl _
   ·split
    ·simp[tx.kg]
    ·exact Nat.le_refl _
  ·simp[tx.kg]
 unfold u7 wM Gt;repeat' split
 all_goals first|exact⟨by omega,Nat.le_refl _⟩|exact⟨tx.Ho _ _,e _⟩
theorem cg(h:qH k (dm k y) r s≠0):wO k y r s z us=qH k (dm k y) r s/\Af k y r s z us=k:=by
 have e:wO k y r s z us=qH k (dm k y) r s:=by
  unfold wO Nh;unfold qH at h ⊢;by_cases h1:DU k r s=0
  ·rw[if_pos h1]at h ⊢;rw[if_pos h1];by_cases h2:yU k (dm k y) r s=0
   ·rw[if_pos h2]at h ⊢;rw[if_pos h2];by_cases h3:GG k (dm k y) r s=true
    ·rw[if_pos h3]at h;exact absurd rfl h
    ·rw[if_neg h3,if_neg h3]
   ·rw[if_neg h2,if_neg h2]
  ·rw[if_neg h1,if_neg h1]
 exact⟨e,by rw[Af,e,if_neg h]⟩
theorem X6(h:qH k (dm k y) r s=0):wO k y r s z us=PZ (u7 k (dm k y) r s) (Jn (u7 k (dm k y) r s) r s z us)/\Gv k (dm k y) r s z us=tx.dL (u7 k (dm k y) r s) (Jn (u7 k (dm k y) r s) r s z us):=by
 unfold wO Nh Gv;unfold qH at h;by_cases h1:DU k r s=0
 ·rw[if_pos h1]at h;by_cases h2:yU k (dm k y) r s=0
  ·rw[if_pos h2]at h;by_cases h3:GG k (dm k y) r s=true
   ·rw[if_pos h1,if_pos h2,if_pos h3,u7,if_pos h1,if_pos h2];exact⟨rfl,rfl⟩
   ·rw[if_neg h3]at h;cases h
  ·rw[if_neg h2]at h;exact absurd h h2
 ·rw[if_neg h1]at h;cases h
theorem Ff(w:World)(a1:OA)(c1:Nat)(a2:OA)(c2:Nat)(a3:OA)(c3:Nat)(k:C6)(y r s z:Int)(us:Bool)(hk:aD k=true)(hi:ib k.c y<k.c.length)(hl:df.L k)(h:df.Rd w a1 c1 a2 c2 a3 c3 k):
  Calls prog 19 #[.agg #[vI k.v,vI k.u,.slice a1 k.f.length c1,.slice a2 k.aa.length c2,.slice a3 k.c.length c3,.bool k.w],vI (ib k.c y:Int),vI r,vI s,vI z,.bool us] w (jZ w (Af k y r s z us) (wO k y r s z us)):=by
 obtain⟨U0,kN,lD,nO,sM⟩:=iI w (dU a1 c1 a2 c2 a3 c3 k) 32;obtain⟨w1,Al,Te,n9,iH⟩:=iI U0 sH 32;have hU:w1=(w.alloc (.cells #[vI k.v,vI k.u,.slice a1 k.f.length c1,.slice a2 k.aa.length c2,.slice a3 k.c.length c3,.bool k.w] 32)).alloc (.cells #[vI 0,vI 0,.slice none 0 0,.slice none 0 0,.slice none 0 0,.bool false] 32):=by rw[Al,kN]
 rw[sM]at n9;have x0:=nO.later Te;have bU:=au lD Te;have H1:=nE bU (show w.1.size+2<=w1.1.size by omega) x0 n9 (h.later bU);have qt:=Ad w1 a1 c1 a2 c2 a3 c3 k hk (h.later bU);have hT:=(BL hk).2.1 _ hi;have N7:=hl.ts _ (List.mem_of_getElem? (gL hi));have jD:=fun h=>cg (k:=k) (y:=y) (r:=r) (s:=s) (z:=z) (us:=us) h
 have Xc:=fun h=>X6 (k:=k) (y:=y) (r:=r) (s:=s) (z:=z) (us:=us) h
 have ZL:wO k y r s z us=0->Af k y r s z us=l9 k (ib k.c y) (Gv k (dm k y) r s z us):=fun h=>by rw[Af,if_pos h]
 have rN:wO k y r s z us≠0->Af k y r s z us=k:=fun h=>by rw[Af,if_neg h]
 have bg:dm k y=bn k.c (ib k.c y):=rfl;rw[bg]at jD Xc ZL;obtain⟨i,uW⟩:=uD (ib k.c y);rw[uW]at hi hT N7 jD Xc ZL;rw[uW];obtain⟨t,ht⟩:=uD (bn k.c i);rw[ht]at hT N7 jD Xc ZL;have SA:=Ut k t r s;have JW:=Us k t r s;obtain⟨N,hN⟩:=uD (u7 k t r s);obtain⟨n,hn⟩:=uD (qH k t r s);rw[hN]at Xc SA;rw[hn]at jD Xc JW;have HW:=nE jD Xc ZL rN JW;have HN:=dw hN hn;have HK:=wL hk hl N7 hT hi ht;have SS:=dw (show N.a.length<=13 by have:=(tx.gG hT).1;omega) (show N.ai.length<=12 by have:=(tx.gG hT).2;omega);have p0:=x0.c6;rw[hU]at p0;clear kN Al lD Te nO n9 sM iH x0 bU h hl hk hT N7 jD Xc ZL rN bg hi uW ht hN hn SA JW;clear U0;go_enter func19,ntmps19;go_wp2_with fail;rw[<-hU];clear hU p0;refine qt.mono ?_;clear qt;rintro e w2 ⟨b1,d1,b2,d2,b3,d3,ps,gp,ms,gm,ts,gt,rfl,hr,e1,e2,e3,bl,xS⟩;have aN:ts.length=k.c.length:=by rw[<-e3];simp
 have hi:=HK.out.2.2.2.2.1;obtain⟨b,jB,-,bg⟩:=hr.T.part e3 (fun h=>by rw[h]at aN;simp at aN;omega);subst jB
 obtain⟨v,hv⟩:∃v,ts[i]?=some (v,t):=by
  have h1:(ts.map (·.2))[i]?=some t:=by rw[e3,<-HK.out.2.2.2.2.2];exact gL hi
  rw[List.getElem?_map]at h1
  cases h2:ts[i]? with
  | none=>rw[h2]at h1;cases h1
  | some p=>
   rw[h2]at h1;have h3:p.2=t:=by simpa using h1
   exact⟨p.1,by rw[<-h3]⟩
 have lu:=bg i _ hv;have SE:=iO.sl (hr.T.sub i _ hv);have kz:=xS _ (List.mem_of_getElem? hv);have aB:=hr.T.blocks (.inl (by rfl:(Value.slice (some ⟨b,0,none⟩) k.c.length d3).ownBlock=some b));obtain⟨W3,pC,Td,sA,sg⟩:=iI w2 (dU b1 d1 b2 d2 (some ⟨b,0,none⟩) d3 k) 32;have YP:=au bl Td;have HC:=QG hr e1 e2 e3 hv Td aN;have HE:=QG (H1.out.2.2.1.later YP) (H1.out.2.2.2.1.later YP) sA (lu.aj (Td.block b aB.2)) (H1.out.2.2.2.2.later YP) (SE.later Td) (au H1.out.1 YP);have HB:=nE aB.2 aB.1 H1.out.2.1 kz sg;have Sj:Hid (b<W3.1.size):=by unfold Hid;omega
 have jn:(i:Int)<(k.c.length:Int):=by omega
 have hS:(fun Y:World=>Below W3.1.size W3 Y) W3.drew:=aK.drew;clear hr e1 e2 e3 bl xS bg hv lu SE kz aB Td sA sg YP aN H1 hi;go_wp2_with fail;rw[<-pC];clear pC;refine aT (fun z=>z==14) (fun Y:World=>Below W3.1.size W3 Y) (by kernel_rfl) ?_;generalize W3.drew=Wd at *;refine fU 0 (.agg #[vI k.v,vI k.u,.slice a1 k.f.length c1,.slice a2 k.aa.length c2,.slice a3 k.c.length c3,.bool k.w]) rfl ?_ hS ?_
 ·(intro w aA;have q0:=(HE.out.1.later aA).1 0 _ rfl;have q1:=(HE.out.1.later aA).1 1 _ rfl;have q2:=(HE.out.1.later aA).1 2 _ rfl;have q3:=(HE.out.1.later aA).1 3 _ rfl;have q4:=(HE.out.1.later aA).1 4 _ rfl;have q5:=(HE.out.1.later aA).1 5 _ rfl;clear hS aA;go_simp)
 simp only[Act.put];refine bf 1 rfl hS ?_;simp only[Act.put];refine fU 2 (.slice (some ⟨b,0,none⟩) k.c.length d3) rfl ?_ hS ?_
 ·(intro w aA;have q4:=(HE.out.2.2.1.later aA).1 4 _ rfl;clear hS aA;go_simp)
 simp only[Act.put];refine bf 3 rfl hS ?_;simp only[Act.put];refine Nr 4 (.pointer (some ⟨b,i*7,none⟩)) rfl ?_ hS ?_
 ·(intro w _;go_simp;first|done|(rw[if_pos (by omega)]))
 simp only[Act.put];refine fU 5 (.agg #[vI t.id,vI t.l,vI t.o,vI t.q,.slice v.ar t.a.length v.cr,.slice v.ah t.ai.length v.ch,vI t.az]) rfl ?_ hS ?_
 ·(intro w aA;have q0:w.cell? ⟨b,i*7,none⟩=some (vI t.id):=(HE.out.2.2.2.1.aj (aA.block b Sj.out)) 0 _ rfl;have q1:w.cell? ⟨b,i*7+1,none⟩=some (vI t.l):=(HE.out.2.2.2.1.aj (aA.block b Sj.out)) 1 _ rfl;have q2:w.cell? ⟨b,i*7+2,none⟩=some (vI t.o):=(HE.out.2.2.2.1.aj (aA.block b Sj.out)) 2 _ rfl;have q3:w.cell? ⟨b,i*7+3,none⟩=some (vI t.q):=(HE.out.2.2.2.1.aj (aA.block b Sj.out)) 3 _ rfl;have q4:w.cell? ⟨b,i*7+4,none⟩=some (.slice v.ar t.a.length v.cr):=(HE.out.2.2.2.1.aj (aA.block b Sj.out)) 4 _ rfl;have q5:w.cell? ⟨b,i*7+5,none⟩=some (.slice v.ah t.ai.length v.ch):=(HE.out.2.2.2.1.aj (aA.block b Sj.out)) 5 _ rfl;have q6:w.cell? ⟨b,i*7+6,none⟩=some (vI t.az):=(HE.out.2.2.2.1.aj (aA.block b Sj.out)) 6 _ rfl;clear hS aA;go_simp)
 simp only[Act.put];refine bf 6 rfl hS ?_;simp only[Act.put];refine bf 7 rfl hS ?_;simp only[Act.put];refine fZ (rs:=[8,13]) (by kernel_rfl) (by simp) ?_;refine gQ.cons rfl (fun K hK=>?tA) (gQ.cons rfl (fun K hK=>?tB) gQ.nil)
 case' tA=>
  go_simp;have cN:=Co Wd a1 c1 a2 c2 a3 c3 k v t r s HK.out.1 HK.out.2.1 (HE.out.2.2.2.2.1.later hS) HK.out.2.2.1 HK.out.2.2.2.1 (HE.out.2.2.2.2.2.1.later hS) HB.out.2.2.2.1.1 HB.out.2.2.2.1.2;rw[HN.out.1,HN.out.2]at cN;obtain⟨xx,SG⟩:=uD (yt k t r s);rw[SG]at cN;clear SG;refine cN.mono ?_;clear cN;rintro e X ⟨u,rfl,bX,Zx,xW⟩;have SL:=af xW;clear xW;simp only[tx.TV.val];have hO:(u=v/\N=t)\/∃PR PS,tx.OT X W3.1.size u N PR PS:=Zx.imp id (fun⟨PR,PS,h⟩=>⟨PR,PS,h.low (fun q hq=>by have:=(h.of hq).1;have:=hS.size;omega)⟩);replace hS:=au hS bX;clear bX Zx;refine hK.out _ _ (fun _=>hS) ?_;clear hK K;clear Wd;generalize X=Wd at *;refine bf 9 rfl hS ?_;simp only[Act.put];refine bf 10 rfl hS ?_;simp only[Act.put];refine bf 11 rfl hS ?_;simp only[Act.put];refine bf 12 rfl hS ?_;simp only[Act.put];refine bG 13 rfl (fun K hK=>?_);go_simp;obtain⟨X,hX⟩:=bO (Wd.alloc (.cells #[vI 0,vI 0,vI 0,vI 0,.slice none 0 0,.slice none 0 0,vI 0] 91));obtain⟨bb,gu⟩:=bO Wd.1.size;have bX:Below Wd.1.size Wd X:=by rw[hX];exact aK.alloc aU _
  have xV:Bx X bb DV:=by rw[hX,gu];exact Bx.made Wd DV _
  rw[<-hX,<-gu];have PW:Hid (W3.1.size<=bb):=by unfold Hid;have:=hS.size;omega
  have HO:Hid ((u=v/\N=t)\/∃PR PS,tx.OT X W3.1.size u N PR PS/\∀q,tx.lZ PR PS q->q≠bb):=hO.imp id (fun⟨PR,PS,h⟩=>⟨PR,PS,h.later bX,fun q hq=>by have:=(h.of hq).2;omega⟩);clear hO;replace hS:=au hS bX;clear hX gu bX;refine hK.out _ _ (fun _=>hS) ?_;clear hK K;clear Wd;generalize X=Wd at *
 case' tB=>
  go_simp;obtain⟨X,hX⟩:=bO (Wd.alloc (.cells #[vI 0,vI 0,vI 0,vI 0,.slice none 0 0,.slice none 0 0,vI 0] 91));obtain⟨bb,gu⟩:=bO Wd.1.size;have bX:Below Wd.1.size Wd X:=by rw[hX];exact aK.alloc aU _
  have xV:Bx X bb DV:=by rw[hX,gu];exact Bx.made Wd DV _
  rw[<-hX,<-gu];have PW:Hid (W3.1.size<=bb):=by unfold Hid;have:=hS.size;omega
  replace hS:=au hS bX;clear hX gu bX;refine hK.out _ _ (fun _=>hS) ?_;clear hK K;clear Wd;generalize X=Wd at *;refine bG 8 rfl (fun K hK=>?_);go_simp;have cN:=Co Wd a1 c1 a2 c2 a3 c3 k v t r s HK.out.1 HK.out.2.1 (HE.out.2.2.2.2.1.later hS) HK.out.2.2.1 HK.out.2.2.2.1 (HE.out.2.2.2.2.2.1.later hS) HB.out.2.2.2.1.1 HB.out.2.2.2.1.2;rw[HN.out.1,HN.out.2]at cN;obtain⟨xx,SG⟩:=uD (yt k t r s);rw[SG]at cN;clear SG;refine cN.mono ?_;clear cN;rintro e X ⟨u,rfl,bX,Zx,xW⟩;have SL:=af xW;clear xW;simp only[tx.TV.val];have HO:Hid ((u=v/\N=t)\/∃PR PS,tx.OT X W3.1.size u N PR PS/\∀q,tx.lZ PR PS q->q≠bb):=Zx.imp id (fun⟨PR,PS,h⟩=>⟨PR,PS,h.low (fun q hq=>by have:=(h.of hq).1;have:=hS.size;omega),fun q hq=>by have:=(h.of hq).1;have:=xV.2.2;omega⟩);replace xV:=xV.later bX;replace hS:=au hS bX;clear bX Zx;refine hK.out _ _ (fun _=>hS) ?_;clear hK K;clear Wd;generalize X=Wd at *;refine bf 9 rfl hS ?_;simp only[Act.put];refine bf 10 rfl hS ?_;simp only[Act.put];refine bf 11 rfl hS ?_;simp only[Act.put];refine bf 12 rfl hS ?_;simp only[Act.put]
 all_goals
  have c0:=xV.1 0 _ rfl;have c1:=xV.1 1 _ rfl;have c2:=xV.1 2 _ rfl;have c3:=xV.1 3 _ rfl;have c4:=xV.1 4 _ rfl;have c5:=xV.1 5 _ rfl;have c6:=xV.1 6 _ rfl;have f0:=xV.2.1 0;have f1:=xV.2.1 1;have f2:=xV.2.1 2;have f3:=xV.2.1 3;have f4:=xV.2.1 4;have f5:=xV.2.1 5;have f6:=xV.2.1 6;refine bG 14 rfl (fun K hK=>?_);go_simp;refine hK.out _ _ (fun h=>absurd (show false=true from h.symm.trans (by kernel_rfl)) (by decide)) ?_;clear hK K;refine bG 15 rfl (fun K hK=>?_);go_simp;refine hK.out _ _ (fun h=>absurd (show false=true from h.symm.trans (by kernel_rfl)) (by decide)) ?_;clear hK K;refine bG 16 rfl (fun K hK=>?_);go_simp;refine hK.out _ _ (fun h=>absurd (show false=true from h.symm.trans (by kernel_rfl)) (by decide)) ?_;clear hK K;refine bH (by kernel_rfl) ?_ _;clear c0 c1 c2 c3 c4 c5 c6 f0 f1 f2 f3 f4 f5 f6;obtain⟨Y,hY⟩:=bO (cO Wd bb 0 (tx.jJ u.ar u.cr u.ah u.ch N));have yb:=xV.put (tx.jJ u.ar u.cr u.ah u.ch N) rfl;rw[<-hY]at yb;have rR:Y=(((((((Wd.setCell ⟨bb,0,none⟩ (vI N.id)).setCell ⟨bb,1,none⟩ (vI N.l)).setCell ⟨bb,2,none⟩ (vI N.o)).setCell ⟨bb,3,none⟩ (vI N.q)).setCell ⟨bb,4,none⟩ (.slice u.ar N.a.length u.cr)).setCell ⟨bb,5,none⟩ (.slice u.ah N.ai.length u.ch)).setCell ⟨bb,6,none⟩ (vI N.az)):=hY;rw[<-rR];have dQ:Y.1.size=Wd.1.size:=by rw[hY];exact aS _ _ _ _
  have dS:∀q,q≠bb->Y.1[q]?=Wd.1[q]?:=fun q hq=>by rw[hY];exact aO hq _ _ _
  have bY:Below W3.1.size W3 Y:=by rw[hY];exact aI PW.out _ _ _ hS
  have fI:tx.uA Y u N:=by
   rcases HO.out with ⟨eu,eN⟩|⟨PR,PS,h1,h2⟩
   ·rw[eu,eN];exact HE.out.2.2.2.2.2.1.later bY
   ·exact(h1.aM (Nat.le_of_eq dQ.symm) (fun q _ hq=>dS q (h2 q hq))).sl
  have HY:=pI bY yb fI SL.out;clear rR hY yb dQ dS bY fI hS xV HO PW SL Sj;clear Wd;generalize Y=Yo at *;by_cases hn:n=0;rotate_left
  ·have eO:(n != 0)=true:=by simpa using hn
   have jD:=tY Yo a1 c1 a2 c2 a3 c3 k n (HE.out.2.2.2.2.1.later HY.out.1) (.inl HK.out.1) (fun _=>HW.out.2.2.2.2);have kP:iE k=k:=if_pos HK.out.1;rw[kP]at jD;have H4:=fP (au HE.out.2.2.2.2.2.2 HY.out.1) (HE.out.2.1.later HY.out.1) (show w.1.size+2<=Yo.1.size by have:=HB.out;have:=HY.out.1.size;omega);have HX:=af (HW.out.1 hn);have p0:=(HE.out.1.later HY.out.1).c6;clear hn HB HC HY HE HK HW HN SS jn kP;go_wp2_with fail;refine jD.mono ?_;clear jD p0;generalize k=N0 at *;rintro e w4 ⟨e1,g1,e2,g2,e3,g3,PP,rfl,how,b4⟩;have xr:=H4.out.2.1.later b4;have zb:=xr.put (dU e1 g1 e2 g2 e3 g3 N0) rfl;obtain⟨Z,hZ⟩:=bO (cO w4 (w.1.size+1) 0 (dU e1 g1 e2 g2 e3 g3 N0));rw[<-hZ]at zb;have HZ:Hid (Z=((((((w4.setCell ⟨w.1.size+1,0,none⟩ (vI N0.v)).setCell ⟨w.1.size+1,1,none⟩ (vI N0.u)).setCell ⟨w.1.size+1,2,none⟩ (.slice e1 N0.f.length g1)).setCell ⟨w.1.size+1,3,none⟩ (.slice e2 N0.aa.length g2)).setCell ⟨w.1.size+1,4,none⟩ (.slice e3 N0.c.length g3)).setCell ⟨w.1.size+1,5,none⟩ (.bool N0.w))):=hZ;have Al:=H4.out.2.2
   have KE:Hid (jZ w (Af N0 y r s z us) (wO N0 y r s z us) (.returned (.tuple #[.agg #[vI N0.v,vI N0.u,.slice e1 N0.f.length g1,.slice e2 N0.aa.length g2,.slice e3 N0.c.length g3,.bool N0.w],vI n])) Z):=by
    unfold Hid;rw[HX.out.1,HX.out.2];refine⟨e1,g1,e2,g2,e3,g3,PP,rfl,?_,?_⟩
    ·exact(how.low (show w.1.size<=_ by omega)).aM (by rw[hZ,aS];exact Nat.le_refl _) (fun q hq=>by rw[hZ];exact aO (fun e=>by have:=(how.of hq).1;omega) _ _ _)
    ·rw[hZ];exact aI (by omega) _ _ _ (au H4.out.1 b4)
   have c0:=xr.1 0 _ rfl;have c1:=xr.1 1 _ rfl;have c2:=xr.1 2 _ rfl;have c3:=xr.1 3 _ rfl;have c4:=xr.1 4 _ rfl;have c5:=xr.1 5 _ rfl;have f0:=xr.2.1 0;have f1:=xr.2.1 1;have f2:=xr.2.1 2;have f3:=xr.2.1 3;have f4:=xr.2.1 4;have f5:=xr.2.1 5;have z0:=zb.c6;clear xr zb hZ Al how b4 HX;go_wp2;rw[<-HZ.out];exact bodyPost_ret (v:=.tuple #[.agg #[vI N0.v,vI N0.u,.slice e1 N0.f.length g1,.slice e2 N0.aa.length g2,.slice e3 N0.c.length g3,.bool N0.w],vI n]) (by simp[results,results19,go_sem,z0]) rfl KE.out
  subst hn;have hW:=HW.out.2.1 rfl;obtain⟨W4,gS,Yh,n7,yv⟩:=iI Yo [vI r,vI s,vI z,.bool us,vI 0] 96;have cR:=tx.qV W4 u N r s (by have:=SS.out.1;omega) (HY.out.2.2.1.later Yh);simp only[tx.TV.val]at cR;have oe:=HY.out.2.1.later Yh;have y0:=oe.c7;rw[gS]at y0;obtain⟨sb,ZI⟩:=bO Yo.1.size;rw[<-ZI]at n7;have HR4:=wL (au HY.out.1 Yh) oe (show(tx.ky W4 sb u.ar N.a.length N.a/\tx.Sl W4 sb u.ah N.ai.length N.ai)from⟨by rw[ZI];exact HY.out.2.2.1.r.below Yh,by rw[ZI];exact HY.out.2.2.1.s.below Yh⟩) n7 (show bb<sb by have:=HY.out.2.1.2.2;omega) (show W3.1.size<=sb by have:=HY.out.1.size;omega);have fj:=af HY.out.2.2.2;have oY:=af hW;have ZJ:=af ZI;clear hW Yh n7 yv oe ZI HY;go_wp2_with fail;rw[<-gS,<-ZJ.out];clear gS ZJ y0;clear Yo;refine cR.mono ?_;clear cR;rintro e X ⟨rfl,bX⟩;have wI:=wL (au HR4.out.1 bX) (HR4.out.2.1.later bX) (show(tx.ky X sb u.ar N.a.length N.a/\tx.Sl X sb u.ah N.ai.length N.ai)from⟨HR4.out.2.2.1.1.below (bX.mono (Nat.le_of_lt HR4.out.2.2.2.1.2.2)),HR4.out.2.2.1.2.below (bX.mono (Nat.le_of_lt HR4.out.2.2.2.1.2.2))⟩) (HR4.out.2.2.2.1.later bX) HR4.out.2.2.2.2.1 HR4.out.2.2.2.2.2;clear bX HR4;clear W4;rcases hw:tx.kS N.a r s with _|jj
  case' none=>
   have MN:tx.jk N.a r s=-1:=by rw[tx.jk,hw]
   have PE:Jn N r s z us=⟨r,s,z,us,0⟩:=by rw[Jn,tx.G5,hw]
   rw[MN];have cA:=tx.uo X u N ⟨r,s,z,us,0⟩ ⟨by have:=SS.out.1;unfold maxLen;omega,by have:=SS.out.2;unfold maxLen;omega⟩ ⟨wI.out.2.2.1.1.mono (Nat.le_of_lt wI.out.2.2.2.1.2.2),wI.out.2.2.1.2.mono (Nat.le_of_lt wI.out.2.2.2.1.2.2)⟩ fj.out;simp only[tx.TV.val]at cA;rw[<-PE]at cA;have y0:=wI.out.2.1.1 0 _ rfl;have y1:=wI.out.2.1.1 1 _ rfl;have y2:=wI.out.2.1.1 2 _ rfl;have y3:=wI.out.2.1.1 3 _ rfl;have y4:=wI.out.2.1.1 4 _ rfl;have y5:=wI.out.2.1.1 5 _ rfl;have y6:=wI.out.2.1.1 6 _ rfl;have m0:=wI.out.2.2.2.1.1 0 _ rfl;have m1:=wI.out.2.2.2.1.1 1 _ rfl;have m2:=wI.out.2.2.2.1.1 2 _ rfl;have m3:=wI.out.2.2.2.1.1 3 _ rfl;have m4:=wI.out.2.2.2.1.1 4 _ rfl;have cw:=af (wI.out.1);clear hw MN PE wI;go_wp2_with fail;refine cA.mono ?_;clear cA y0 y1 y2 y3 y4 y5 y6 m0 m1 m2 m3 m4
  case' some=>
   have MN:tx.jk N.a r s=(jj:Int):=by rw[tx.jk,hw]
   have EY:=tx.Rt hw;have PE:Jn N r s z us=⟨r,s,z,us,(tx.aH N.a jj).i⟩:=by rw[Jn,tx.G5,hw]
   rw[MN]
   obtain⟨b',off,ha,ie,iV⟩:∃b' off,u.ar=some ⟨b',off,none⟩/\b'<sb/\tx.dK X b' off N.a:=by
    rcases wI.out.2.2.1.1.2 with h|h
    ·omega
    ·exact h
   have rK:=(iV jj _ (tx.fD EY)).c2;obtain⟨q,hq⟩:=uD ((tx.aH N.a jj).i);rw[hq]at PE rK;obtain⟨V,hV⟩:=bO (X.setCell ⟨sb,4,none⟩ (vI q));have bV:Below W3.1.size W3 V:=by rw[hV];exact wI.out.1.setCell (p:=⟨sb,4,none⟩) wI.out.2.2.2.2.2 _
   have fV:∀p,p≠sb->V.1[p]?=X.1[p]?:=fun p hp=>by rw[hV];exact Below.heap_setCell _ _ _ _ hp
   have zV:V.1.size=X.1.size:=by rw[hV];simp[World.setCell]
   have yV:=wI.out.2.1.aj (fV _ (Nat.ne_of_lt wI.out.2.2.2.2.1)) (Nat.le_of_eq zV.symm);have mV:Bx V sb [vI r,vI s,vI z,.bool us,vI q]:=by rw[hV];exact wI.out.2.2.2.1.set (i:=4) (by simp) _
   have bs:Below sb X V:=by rw[hV];exact aK.setCell (p:=⟨sb,4,none⟩) aU _
   have sV:tx.uA V u N:=⟨(wI.out.2.2.1.1.below bs).mono (Nat.le_of_lt mV.2.2),(wI.out.2.2.1.2.below bs).mono (Nat.le_of_lt mV.2.2)⟩
   have cA:=tx.uo V u N ⟨r,s,z,us,q⟩ ⟨by have:=SS.out.1;unfold maxLen;omega,by have:=SS.out.2;unfold maxLen;omega⟩ sV fj.out;simp only[tx.TV.val]at cA;rw[<-PE]at cA;have y4:=wI.out.2.1.1 4 _ rfl;rw[ha]at y4;have m4:=wI.out.2.2.2.1.1 4 _ rfl;have l4:=wI.out.2.2.2.1.2.1 4;have e0:=yV.1 0 _ rfl;have e1:=yV.1 1 _ rfl;have e2:=yV.1 2 _ rfl;have e3:=yV.1 3 _ rfl;have e4:=yV.1 4 _ rfl;have e5:=yV.1 5 _ rfl;have e6:=yV.1 6 _ rfl;have d0':=mV.1 0 _ rfl;have d1':=mV.1 1 _ rfl;have pr:=mV.1 2 _ rfl;have pw:=mV.1 3 _ rfl;have da:=mV.1 4 _ rfl;rw[hV]at e0 e1 e2 e3 e4 e5 e6 d0' d1' pr pw da;have cw:=af (bV);have jl:(jj:Int)<(N.a.length:Int):=by omega
   have SA:=SS.out.1;have dj:decide (0<=(jj:Int))=true:=by simp
   clear hw MN EY PE hq ha ie iV bV fV zV yV mV sV bs wI;go_wp2_with fail;rw[<-hV];refine cA.mono ?_;clear cA hV y4 m4 l4 jl SA dj rK e0 e1 e2 e3 e4 e5 e6 d0' d1' pr pw da;clear X;generalize V=X at *
  all_goals
   rintro e V5 ⟨va,vc,vh,vd,PR,PS,rfl,mX,b5⟩;have Zw:PZ N (Jn N r s z us)=if tx.iP N (Jn N r s z us)=true then 0 else 9:=rfl
   have dt:=oY.out;rw[Zw]at dt;obtain⟨M,hM⟩:=uD (tx.dL N (Jn N r s z us));obtain⟨ok,il⟩:=uD (tx.iP N (Jn N r s z us));rw[hM,il]at dt;rw[hM]at mX ⊢;rw[il];have YB:=af dt;obtain⟨V6,Yj,ga,sy,yr⟩:=iI V5 (tx.jJ va vc vh vd M) 91;have pj:=au (au cw.out b5) ga;have H6:=nE pj sy (mX.later ga) b5.size cw.out.size;clear Zw dt hM il mX b5 ga sy yr pj cw oY fj
   cases ok with
   | false=>
    have h9:=YB.out.1;simp only[Bool.false_eq_true,if_false]at h9;have jD:=tY V6 a1 c1 a2 c2 a3 c3 k 9 (HE.out.2.2.2.2.1.later H6.out.1) (.inl HK.out.1) (fun _=>by decide);have kP:iE k=k:=if_pos HK.out.1;rw[kP]at jD;have H4:=fP (au HE.out.2.2.2.2.2.2 H6.out.1) (HE.out.2.1.later H6.out.1) (show w.1.size+2<=V6.1.size by have:=HB.out;have:=H6.out.1.size;omega);have HX:=dw h9 (show Af k y r s z us=k from HW.out.2.2.2.1 (by rw[h9];decide));have p0:=(HE.out.1.later H6.out.1).c6;rw[Yj]at p0;have fk:=af Yj;clear Yj h9 YB HB HC HE HK HW HN SS jn kP H6;go_wp2_with fail;rw[<-fk.out];refine jD.mono ?_;clear jD p0;generalize k=N0 at *;rintro e w4 ⟨e1,g1,e2,g2,e3,g3,PP,rfl,how,b4⟩;have xr:=H4.out.2.1.later b4;have zb:=xr.put (dU e1 g1 e2 g2 e3 g3 N0) rfl;obtain⟨Z,hZ⟩:=bO (cO w4 (w.1.size+1) 0 (dU e1 g1 e2 g2 e3 g3 N0));rw[<-hZ]at zb;have HZ:Hid (Z=((((((w4.setCell ⟨w.1.size+1,0,none⟩ (vI N0.v)).setCell ⟨w.1.size+1,1,none⟩ (vI N0.u)).setCell ⟨w.1.size+1,2,none⟩ (.slice e1 N0.f.length g1)).setCell ⟨w.1.size+1,3,none⟩ (.slice e2 N0.aa.length g2)).setCell ⟨w.1.size+1,4,none⟩ (.slice e3 N0.c.length g3)).setCell ⟨w.1.size+1,5,none⟩ (.bool N0.w))):=hZ;have Al:=H4.out.2.2
    have KE:Hid (jZ w (Af N0 y r s z us) (wO N0 y r s z us) (.returned (.tuple #[.agg #[vI N0.v,vI N0.u,.slice e1 N0.f.length g1,.slice e2 N0.aa.length g2,.slice e3 N0.c.length g3,.bool N0.w],vI 9])) Z):=by
     unfold Hid;rw[HX.out.1,HX.out.2];refine⟨e1,g1,e2,g2,e3,g3,PP,rfl,?_,?_⟩
     ·exact(how.low (show w.1.size<=_ by omega)).aM (by rw[hZ,aS];exact Nat.le_refl _) (fun q hq=>by rw[hZ];exact aO (fun e=>by have:=(how.of hq).1;omega) _ _ _)
     ·rw[hZ];exact aI (by omega) _ _ _ (au H4.out.1 b4)
    have c0:=xr.c6;have f0:=xr.f6;have z0:=zb.c6;clear xr zb hZ Al how b4 HX;go_wp2;rw[<-HZ.out];exact bodyPost_ret (v:=.tuple #[.agg #[vI N0.v,vI N0.u,.slice e1 N0.f.length g1,.slice e2 N0.aa.length g2,.slice e3 N0.c.length g3,.bool N0.w],vI 9]) (by simp[results,results19,go_sem,z0]) rfl KE.out
   | true=>
    have h0:=YB.out.1;simp only[if_true]at h0;have HR:=dw h0 (show Af k y r s z us=l9 k i M by rw[HW.out.2.2.1 h0,YB.out.2]);obtain⟨hr,e1,e2,e3,hv,Td,aN⟩:=HC.out;obtain⟨k1,k2,k3,-,k5⟩:=HB.out;obtain⟨bY,yb,mX,ya,k7⟩:=H6.out;have hi:=HK.out.2.2.2.2.1;have xv:i<ts.length:=by omega
    have mz:=Td.size;have rj:=hr.later (au Td bY);have hb:∀q,tx.lZ PR PS q->w2.1.size<q:=fun q hq=>by have:=(mX.of hq).1;omega
    have uc:w1.1.size+3<w2.1.size:=by omega
    obtain⟨b',fB,-,-,-,tK,-,PP,YY,YW⟩:=Hz rj e1 e2 e3 hi va vc vh vd M (tx.lZ PR PS) (KT.ow (mX.low (B':=w.1.size) (fun q hq=>by have:=hb q hq;omega))) (show w.1.size<=w1.1.size+3 by omega) (fun q hq=>⟨fun h=>by have:=(hr.P.blocks h).2;have:=hb q hq;omega,fun h=>by have:=(hr.M.blocks h).2;have:=hb q hq;omega,fun h=>by have:=(hr.T.blocks (.inl h)).2;have:=hb q hq;omega⟩) (fun j q hj _ h hq=>by have:=(hr.T.blocks (.inr ⟨j,by omega,h⟩)).2;have:=hb q hq;omega);obtain rfl:b=b':=by cases fB;rfl
    have xo:=HE.out.2.2.1.later bY;have xr:=HE.out.2.1.later bY;obtain⟨V2,Ah⟩:=bO (cO V6 b (i*7) (tx.jJ va vc vh vd M));have oP:V2.1.size=V6.1.size:=by rw[Ah];exact aS _ _ _ _
    have gw:∀q,q≠b->V2.1[q]?=V6.1[q]?:=fun q hq=>by rw[Ah];exact aO hq _ _ _
    have sC:=xo.aj (gw _ (by omega)) (Nat.le_of_eq oP.symm);have eR:=xr.aj (gw _ (by omega)) (Nat.le_of_eq oP.symm);have YX:df.Ow V2 w.1.size b1 d1 b2 d2 (some ⟨b,0,none⟩) d3 (l9 k i M) PP:=by rw[Ah];exact YW
    have oX:Hid (V2=(((((((V6.setCell ⟨b,i*7,none⟩ (vI M.id)).setCell ⟨b,i*7+1,none⟩ (vI M.l)).setCell ⟨b,i*7+2,none⟩ (vI M.o)).setCell ⟨b,i*7+3,none⟩ (vI M.q)).setCell ⟨b,i*7+4,none⟩ (.slice va M.a.length vc)).setCell ⟨b,i*7+5,none⟩ (.slice vh M.ai.length vd)).setCell ⟨b,i*7+6,none⟩ (vI M.az))):=by unfold Hid;rw[Ah];rfl
    have zb:=eR.put (dU b1 d1 b2 d2 (some ⟨b,0,none⟩) d3 k) rfl;obtain⟨Z,hZ⟩:=bO (cO V2 (w.1.size+1) 0 (dU b1 d1 b2 d2 (some ⟨b,0,none⟩) d3 k));rw[<-hZ]at zb;have HZ:Hid (Z=((((((V2.setCell ⟨w.1.size+1,0,none⟩ (vI k.v)).setCell ⟨w.1.size+1,1,none⟩ (vI k.u)).setCell ⟨w.1.size+1,2,none⟩ (.slice b1 k.f.length d1)).setCell ⟨w.1.size+1,3,none⟩ (.slice b2 k.aa.length d2)).setCell ⟨w.1.size+1,4,none⟩ (.slice (some ⟨b,0,none⟩) k.c.length d3)).setCell ⟨w.1.size+1,5,none⟩ (.bool k.w))):=hZ
    have KE:Hid (jZ w (Af k y r s z us) (wO k y r s z us) (.returned (.tuple #[.agg #[vI k.v,vI k.u,.slice b1 k.f.length d1,.slice b2 k.aa.length d2,.slice (some ⟨b,0,none⟩) k.c.length d3,.bool k.w],vI 0])) Z):=by
     unfold Hid;rw[HR.out.1,HR.out.2];refine⟨b1,d1,b2,d2,some ⟨b,0,none⟩,d3,PP,by simp[l9],?_,?_⟩
     ·exact YX.aM (by rw[hZ,aS];exact Nat.le_refl _) (fun q hq=>by rw[hZ];exact aO (fun e=>by rcases YY q hq with h|h;have:=hb q h;omega;omega) _ _ _)
     ·rw[hZ];exact aI (by omega) _ _ _ (by rw[Ah];exact aI (by omega) _ _ _ (au HE.out.2.2.2.2.2.2 bY))
    have y0:=yb.c7;obtain⟨m0,g0,f0⟩:=tK (i*7+0) (by omega);obtain⟨m1,g1,f1⟩:=tK (i*7+1) (by omega);obtain⟨m2,g2,f2⟩:=tK (i*7+2) (by omega);obtain⟨m3,g3,f3⟩:=tK (i*7+3) (by omega);obtain⟨m4,g4,f4⟩:=tK (i*7+4) (by omega);obtain⟨m5,g5,f5⟩:=tK (i*7+5) (by omega);obtain⟨m6,g6,f6⟩:=tK (i*7+6) (by omega);rw[Nat.add_zero]at g0 f0;have o4:=xo.1 4 _ rfl;have p0:=sC.c6;have c0:=eR.c6;have l0:=eR.f6;have z0:=zb.c6;rw[oX.out]at p0 c0 l0;rw[Yj]at y0 g0 g1 g2 g3 g4 g5 g6 f0 f1 f2 f3 f4 f5 f6 o4 p0 c0 l0;have fk:=af Yj;clear Yj bY yb mX ya k7 hr e1 e2 e3 hv Td aN k1 k2 k3 k5 hi xv mz rj hb uc tK YY YW fB xo xr Ah oP gw sC eR YX zb hZ HE HB HC HN HR HK H6 HW YB SS h0;go_wp2;rw[<-fk.out,<-oX.out,<-HZ.out];exact bodyPost_ret (v:=.tuple #[.agg #[vI k.v,vI k.u,.slice b1 k.f.length d1,.slice b2 k.aa.length d2,.slice (some ⟨b,0,none⟩) k.c.length d3,.bool k.w],vI 0]) (by simp[results,results19,go_sem,z0]) rfl KE.out
end
section
open Go.Proofs.Tryz
open Go.ChangeShapes Go.WideShapes Go.ChangeAt Go.RowKit
def S5.cells(s:S5):List Value:=[vI s.b,vI s.e,vI s.g,.bool s.j,vI s.i]
def S5.wf(s:S5):Prop:=(Lit.int .i64 s.b).wf=true/\(Lit.int .i64 s.e).wf=true/\(Lit.int .i64 s.g).wf=true/\(Lit.int .i64 s.i).wf=true
theorem Cr{α:Type}{cs:List α}(h:cs.length=5):∃c0 c1 c2 c3 c4,cs=[c0,c1,c2,c3,c4]:=by
 match cs,h with
 | [c0,c1,c2,c3,c4],_=>exact⟨c0,c1,c2,c3,c4,rfl⟩
theorem pF:prog.cellsOf 208=5:=by kernel_rfl
theorem uC:prog.cellsOf 2=1:=by kernel_rfl
theorem qO:prog.cellsOf 4=1:=by kernel_rfl
theorem Dg{H:Type}{enc:TypeId×Value->H}{w:World}{base:Nat}{spare:Nat->Bool}{held:Bool}{fuel:Nat}{cs:List Value}{x:DataW H×List MemPlace}
  (h:DataW.trod enc prog w base spare held fuel 208 cs=some x):∃s:S5,cs=s.cells/\s.wf:=by
 obtain⟨xs,n,_,rfl,hl,hlen,hf⟩:=DataW.trod_struct underlying208 h;rw[pF]at hl;obtain⟨c0,c1,c2,c3,c4,rfl⟩:=Cr hl;obtain⟨y0,y1,y2,y3,y4,rfl⟩:=Cr hlen;have h0:=hf 0 _ rfl;have h1:=hf 1 _ rfl;have h2:=hf 2 _ rfl;have h3:=hf 3 _ rfl;have h4:=hf 4 _ rfl;simp[uC,qO]at h0 h1 h2 h3 h4;obtain⟨z0,e0,_,f0⟩:=DataW.trod_int underlying2 h0;obtain⟨z1,e1,_,f1⟩:=DataW.trod_int underlying2 h1;obtain⟨z2,e2,_,f2⟩:=DataW.trod_int underlying2 h2;obtain⟨z3,e3,_⟩:=DataW.trod_bool underlying4 h3;obtain⟨z4,e4,_,f4⟩:=DataW.trod_int underlying2 h4;simp at e0 e1 e2 e3 e4;subst e0 e1 e2 e3 e4;exact⟨⟨z0,z1,z2,z3,z4⟩,rfl,f0,f1,f2,f4⟩
end
section
open Go.Proofs.Tryz
open Go.ChangeShapes Go.WideShapes Go.ChangeAt Go.RowKit Go.Deep
theorem M0{α:Type}{cs:List α}(h:cs.length=2):∃c0 c1,cs=[c0,c1]:=by
 match cs,h with
 | [c0,c1],_=>exact⟨c0,c1,rfl⟩
theorem BH:prog.cellsOf 280=2:=by kernel_rfl
theorem NL:prog.cellsOf 2=1:=by kernel_rfl
theorem OX{H:Type}{enc:TypeId×Value->H}{w:World}{base:Nat}{spare:Nat->Bool}{held:Bool}{fuel:Nat}{cs:List Value}{x:DataW H×List MemPlace}
  (h:DataW.trod enc prog w base spare held fuel 280 cs=some x):∃s:C2,cs=s.cells:=by
 obtain⟨xs,n,_,rfl,hl,hlen,hf⟩:=DataW.trod_struct underlying280 h;rw[BH]at hl;obtain⟨c0,c1,rfl⟩:=M0 hl;obtain⟨y0,y1,rfl⟩:=M0 hlen;have h0:=hf 0 _ rfl;have h1:=hf 1 _ rfl;simp[NL]at h0 h1;obtain⟨z0,e0,_,_⟩:=DataW.trod_int underlying2 h0;obtain⟨z1,e1,_,_⟩:=DataW.trod_int underlying2 h1;simp at e0 e1;subst e0 e1;exact⟨⟨z0,z1⟩,rfl⟩
theorem nY{α:Type}{p:Nat->α->Prop}(n:Nat)(h:∀i,i<n->∃x,p i x):∃xs:List α,xs.length=n/\∀i x,xs[i]?=some x->p i x:=by
 induction n with
 | zero=>exact⟨[],rfl,fun i x e=>by simp at e⟩
 | succ n ih=>
  obtain⟨xs,hl,hx⟩:=ih fun i hi=>h i (by omega)
  obtain⟨y,hy⟩:=h n (by omega);refine⟨xs++[y],by simp[hl],fun i x e=>?_⟩;by_cases hi:i<xs.length
  ·rw[List.getElem?_append_left hi]at e;exact hx i x e
  ·rw[List.getElem?_append_right (by omega)]at e
   have:i=xs.length:=by
    by_cases h2:i-xs.length=0
    ·omega
    ·rw[List.getElem?_eq_none (by simp;omega)]at e;cases e
   subst this;simp at e;subst e;rw[hl];exact hy
end
namespace om
open Go.Proofs.Tryz
open Go.ChangeShapes Go.WideShapes Go.ChangeAt Go.RowKit Go.Deep
variable {cs:List Value}{fuel:Nat}{spare:Nat->Bool}{w:World}
theorem xG:prog.cellsOf 2=1:=by kernel_rfl
theorem Ti:prog.cellsOf 4=1:=by kernel_rfl
theorem BK:prog.cellsOf 79=1:=by kernel_rfl
theorem Qf:prog.cellsOf 190=1:=by kernel_rfl
theorem Qn:prog.cellsOf 74=1:=by kernel_rfl
theorem Ql:prog.cellsOf 73=1:=by kernel_rfl
theorem Qj:prog.cellsOf 69=1:=by kernel_rfl
theorem MH:prog.cellsOf 195=4:=by kernel_rfl
theorem MG:prog.cellsOf 192=2:=by kernel_rfl
theorem Tj:prog.cellsOf 76=4:=by kernel_rfl
theorem M5{α:Type}{cs:List α}(h:cs.length=4):∃c0 c1 c2 c3,cs=[c0,c1,c2,c3]:=by
 match cs,h with
 | [c0,c1,c2,c3],_=>exact⟨c0,c1,c2,c3,rfl⟩
theorem zx{H:Type}{enc:TypeId×Value->H}{held:Bool}{x:DataW H×List MemPlace}
  (h:DataW.trod enc prog w 0 spare held fuel 79 cs=some x):∃a n cap xs,cs=[.slice a n cap]/\n<=maxLen/\n<=cap/\Sl w w.1.size a n xs:=by
 rcases open_slice underlying79 h with ⟨rfl,_⟩|⟨a,len,cap,m,n,D,Pl,rfl,_,hl,hm,Cb,_,hx⟩
 ·exact⟨none,0,0,[],rfl,Nat.zero_le _,Nat.le_refl _,⟨rfl,.inl rfl⟩⟩
 ·have JV:len<=m:=by rw[Cb];split<;>omega
  have key:∀i,i<len->∃s:S5,∀k,k<5->w.cell? ((a.add (i*5)).add k)=s.cells[k]?:=fun i hi=>by
   obtain⟨cs',h1,h2⟩:=hx i (by omega);rw[pF]at h1;obtain⟨s,rfl,_⟩:=Dg h2;exact⟨s,(World.cells?_some h1).2.2⟩
  obtain⟨xs,hlen,rW⟩:=nY len key;refine⟨some a,len,cap,xs,rfl,by omega,by omega,⟨hlen,?_⟩⟩
  ·by_cases h0:len=0
   ·exact .inl h0
   ·right;obtain⟨b,off,spot⟩:=a;obtain⟨s,hs⟩:=key 0 (by omega);have c0:w.cell? ⟨b,off,spot⟩=some (vI s.b):=by simpa[Addr.add,S5.cells]using hs 0 (by omega)
    have jU:spot=none:=by simpa using World.cell?_spot c0
    subst jU;refine⟨b,off,rfl,block_lt_of_cell c0,fun i s e=>?_⟩;have hk:=rW i s e;simp only[add_plain]at hk;exact⟨by simpa[S5.cells]using hk 0 (by omega),by simpa[S5.cells]using hk 1 (by omega),by simpa[S5.cells]using hk 2 (by omega),by simpa[S5.cells]using hk 3 (by omega),by simpa[S5.cells]using hk 4 (by omega)⟩
theorem LC{H:Type}{enc:TypeId×Value->H}{held:Bool}{x:DataW H×List MemPlace}
  (h:DataW.trod enc prog w 0 spare held fuel 190 cs=some x):∃a n cap xs,cs=[.slice a n cap]/\n<=maxLen/\n<=cap/\uz w w.1.size a n xs:=by
 rcases open_slice underlying190 h with ⟨rfl,_⟩|⟨a,len,cap,m,n,D,Pl,rfl,_,hl,hm,Cb,_,hx⟩
 ·exact⟨none,0,0,[],rfl,Nat.zero_le _,Nat.le_refl _,⟨rfl,.inl rfl⟩⟩
 ·have JV:len<=m:=by rw[Cb];split<;>omega
  have key:∀i,i<len->∃s:C2,∀k,k<2->w.cell? ((a.add (i*2)).add k)=s.cells[k]?:=fun i hi=>by
   obtain⟨cs',h1,h2⟩:=hx i (by omega);rw[BH]at h1;obtain⟨s,rfl⟩:=OX h2;exact⟨s,(World.cells?_some h1).2.2⟩
  obtain⟨xs,hlen,rW⟩:=nY len key;refine⟨some a,len,cap,xs,rfl,by omega,by omega,⟨hlen,?_⟩⟩
  ·by_cases h0:len=0
   ·exact .inl h0
   ·right;obtain⟨b,off,spot⟩:=a;obtain⟨s,hs⟩:=key 0 (by omega);have c0:w.cell? ⟨b,off,spot⟩=some (vI s.head):=by simpa[Addr.add,C2.cells]using hs 0 (by omega)
    have jU:spot=none:=by simpa using World.cell?_spot c0
    subst jU;refine⟨b,off,rfl,block_lt_of_cell c0,fun i s e=>?_⟩;have hk:=rW i s e;simp only[add_plain]at hk;exact⟨by simpa[C2.cells]using hk 0 (by omega),by simpa[C2.cells]using hk 1 (by omega)⟩
theorem O0{H:Type}{enc:TypeId×Value->H}{held:Bool}{x:DataW H×List MemPlace}
  (h:DataW.trod enc prog w 0 spare held fuel 69 cs=some x):∃a n cap xs,cs=[.slice a n cap]/\n<=maxLen/\n<=cap/\sD w w.1.size a n xs:=by
 rcases open_slice underlying69 h with ⟨rfl,_⟩|⟨a,len,cap,m,n,D,Pl,rfl,_,hl,hm,Cb,_,hx⟩
 ·exact⟨none,0,0,[],rfl,Nat.zero_le _,Nat.le_refl _,⟨rfl,.inl rfl⟩⟩
 ·have JV:len<=m:=by rw[Cb];split<;>omega
  have key:∀i,i<len->∃s:Int,w.cell? (a.add (i*1))=some (vI s):=fun i hi=>by
   obtain⟨cs',h1,h2⟩:=hx i (by omega);rw[xG]at h1;obtain⟨z,e,_⟩:=DataW.trod_int underlying2 h2;subst e;have:=(World.cells?_some h1).2.2 0 (by omega);exact⟨z,by simpa[Addr.add]using this⟩
  obtain⟨xs,hlen,rW⟩:=nY len key;refine⟨some a,len,cap,xs,rfl,by omega,by omega,⟨hlen,?_⟩⟩
  ·by_cases h0:len=0
   ·exact .inl h0
   ·right;obtain⟨b,off,spot⟩:=a;obtain⟨s,hs⟩:=key 0 (by omega);have c0:w.cell? ⟨b,off,spot⟩=some (vI s):=by simpa[Addr.add]using hs
    have jU:spot=none:=by simpa using World.cell?_spot c0
    subst jU;refine⟨b,off,rfl,block_lt_of_cell c0,fun i s e=>?_⟩;have hk:=rW i s e;simp only[add_plain]at hk;simpa using hk
theorem RA{H:Type}{enc:TypeId×Value->H}{held:Bool}{x:DataW H×List MemPlace}
  (h:DataW.trod enc prog w 0 spare held fuel 195 cs=some x):∃(r:R4) (a:OA) (cap:Nat),cs=[vI r.kind,vI r.tx,vI r.b,.slice a r.ai.length cap]/\Sl w w.1.size a r.ai.length r.ai/\r.ai.length<=cap/\r.ai.length<=maxLen:=by
 obtain⟨xs,n,_,rfl,hl,hlen,hf⟩:=DataW.trod_struct underlying195 h;rw[MH]at hl;obtain⟨c0,c1,c2,c3,rfl⟩:=M5 hl;obtain⟨y0,y1,y2,y3,rfl⟩:=M5 hlen;have h0:=hf 0 _ rfl;have h1:=hf 1 _ rfl;have h2:=hf 2 _ rfl;have h3:=hf 3 _ rfl;simp[xG,BK]at h0 h1 h2 h3;obtain⟨z0,e0,_,_⟩:=DataW.trod_int underlying2 h0;obtain⟨z1,e1,_,_⟩:=DataW.trod_int underlying2 h1;obtain⟨z2,e2,_,_⟩:=DataW.trod_int underlying2 h2;obtain⟨a,m,cap,ss,e3,hm,hc,hs⟩:=zx h3;simp at e0 e1 e2 e3;subst e0 e1 e2 e3;obtain⟨rfl,IJ⟩:=hs;exact⟨⟨z0,z1,z2,ss⟩,a,cap,rfl,⟨rfl,IJ⟩,hc,hm⟩
theorem Rz{H:Type}{enc:TypeId×Value->H}{held:Bool}{x:DataW H×List MemPlace}
  (h:DataW.trod enc prog w 0 spare held fuel 192 cs=some x):∃(k:K2) (a:OA) (cap:Nat),cs=[vI k.b,.slice a k.cells.length cap]/\uz w w.1.size a k.cells.length k.cells/\k.cells.length<=cap/\k.cells.length<=maxLen:=by
 obtain⟨xs,n,_,rfl,hl,hlen,hf⟩:=DataW.trod_struct underlying192 h;rw[MG]at hl;obtain⟨c0,c1,rfl⟩:=M0 hl;obtain⟨y0,y1,rfl⟩:=M0 hlen;have h0:=hf 0 _ rfl;have h1:=hf 1 _ rfl;simp[xG,Qf]at h0 h1;obtain⟨z0,e0,_,_⟩:=DataW.trod_int underlying2 h0;obtain⟨a,m,cap,ss,e3,hm,hc,hs⟩:=LC h1;simp at e0 e3;subst e0 e3;obtain⟨rfl,IJ⟩:=hs;exact⟨⟨z0,ss⟩,a,cap,rfl,⟨rfl,IJ⟩,hc,hm⟩
theorem O4{H:Type}{enc:TypeId×Value->H}{held:Bool}{x:DataW H×List MemPlace}
  (h:DataW.trod enc prog w 0 spare held fuel 74 cs=some x):∃a n cap xs,cs=[.slice a n cap]/\n<=maxLen/\n<=cap/\J5 w w.1.size a n xs/\∀s∈xs,s.ai.length<=maxLen:=by
 rcases open_slice underlying74 h with ⟨rfl,_⟩|⟨a,len,cap,m,n,D,Pl,rfl,_,hl,hm,Cb,_,hx⟩
 ·exact⟨none,0,0,[],rfl,Nat.zero_le _,Nat.le_refl _,⟨rfl,.inl rfl⟩,fun s hs=>by cases hs⟩
 ·have JV:len<=m:=by rw[Cb];split<;>omega
  have key:∀i,i<len->∃s:R4,(∃a' aZ,(∀k,k<4->w.cell? ((a.add (i*4)).add k)=([vI s.kind,vI s.tx,vI s.b,.slice a' s.ai.length aZ]:List Value)[k]?)/\Sl w w.1.size a' s.ai.length s.ai/\s.ai.length<=aZ)/\s.ai.length<=maxLen:=fun i hi=>by
   obtain⟨cs',h1,h2⟩:=hx i (by omega);rw[MH]at h1;obtain⟨s,a',aZ,rfl,t1,t2,t3⟩:=RA h2;exact⟨s,⟨a',aZ,(World.cells?_some h1).2.2,t1,t2⟩,t3⟩
  obtain⟨xs,hlen,rW⟩:=nY len key;refine⟨some a,len,cap,xs,rfl,by omega,by omega,⟨hlen,?_⟩,?_⟩
  ·by_cases h0:len=0
   ·exact .inl h0
   ·right;obtain⟨b,off,spot⟩:=a;obtain⟨s,hs⟩:=key 0 (by omega);obtain⟨⟨a',aZ,hs,_⟩,_⟩:=hs;have c0:=hs 0 (by omega);simp[Addr.add]at c0;have jU:spot=none:=by simpa using World.cell?_spot c0
    subst jU;refine⟨b,off,rfl,block_lt_of_cell c0,fun i s e=>?_⟩;have hk:=rW i s e;simp only[add_plain]at hk;obtain⟨⟨a',aZ,hk,t1,t2⟩,_⟩:=hk;exact⟨by simpa using hk 0 (by omega),by simpa using hk 1 (by omega),by simpa using hk 2 (by omega),a',aZ,by simpa using hk 3 (by omega),t1,t2⟩
  ·intro s hs;obtain⟨i,hi,rfl⟩:=List.getElem_of_mem hs;exact(rW i _ (List.getElem?_eq_getElem hi)).2
theorem OY{H:Type}{enc:TypeId×Value->H}{held:Bool}{x:DataW H×List MemPlace}
  (h:DataW.trod enc prog w 0 spare held fuel 73 cs=some x):∃a n cap xs,cs=[.slice a n cap]/\n<=maxLen/\n<=cap/\DR w w.1.size a n xs/\∀s∈xs,s.cells.length<=maxLen:=by
 rcases open_slice underlying73 h with ⟨rfl,_⟩|⟨a,len,cap,m,n,D,Pl,rfl,_,hl,hm,Cb,_,hx⟩
 ·exact⟨none,0,0,[],rfl,Nat.zero_le _,Nat.le_refl _,⟨rfl,.inl rfl⟩,fun s hs=>by cases hs⟩
 ·have JV:len<=m:=by rw[Cb];split<;>omega
  have key:∀i,i<len->∃s:K2,(∃a' aZ,(∀k,k<2->w.cell? ((a.add (i*2)).add k)=([vI s.b,.slice a' s.cells.length aZ]:List Value)[k]?)/\uz w w.1.size a' s.cells.length s.cells/\s.cells.length<=aZ)/\s.cells.length<=maxLen:=fun i hi=>by
   obtain⟨cs',h1,h2⟩:=hx i (by omega);rw[MG]at h1;obtain⟨s,a',aZ,rfl,t1,t2,t3⟩:=Rz h2;exact⟨s,⟨a',aZ,(World.cells?_some h1).2.2,t1,t2⟩,t3⟩
  obtain⟨xs,hlen,rW⟩:=nY len key;refine⟨some a,len,cap,xs,rfl,by omega,by omega,⟨hlen,?_⟩,?_⟩
  ·by_cases h0:len=0
   ·exact .inl h0
   ·right;obtain⟨b,off,spot⟩:=a;obtain⟨s,hs⟩:=key 0 (by omega);obtain⟨⟨a',aZ,hs,_⟩,_⟩:=hs;have c0:=hs 0 (by omega);simp[Addr.add]at c0;have jU:spot=none:=by simpa using World.cell?_spot c0
    subst jU;refine⟨b,off,rfl,block_lt_of_cell c0,fun i s e=>?_⟩;have hk:=rW i s e;simp only[add_plain]at hk;obtain⟨⟨a',aZ,hk,t1,t2⟩,_⟩:=hk;exact⟨by simpa using hk 0 (by omega),a',aZ,by simpa using hk 1 (by omega),t1,t2⟩
  ·intro s hs;obtain⟨i,hi,rfl⟩:=List.getElem_of_mem hs;exact(rW i _ (List.getElem?_eq_getElem hi)).2
theorem Gu{H:Type}{enc:TypeId×Value->H}{held:Bool}{x:DataW H×List MemPlace}
  (h:DataW.trod enc prog w 0 spare held fuel 76 cs=some x):∃(v:MV) (m:M4),cs=[.bool m.x,.slice v.ac m.ag.length v.cc,.slice v.al m.h.length v.cl,.slice v.ad m.ax.length v.cd]/\Ag w v m/\m.ag.length<=maxLen/\m.h.length<=maxLen/\m.ax.length<=maxLen/\(∀r∈m.ag,r.cells.length<=maxLen)/\(∀r∈m.h,r.ai.length<=maxLen)/\m.ag.length<=v.cc/\m.h.length<=v.cl/\m.ax.length<=v.cd:=by
 obtain⟨xs,n,_,rfl,hl,hlen,hf⟩:=DataW.trod_struct underlying76 h;rw[Tj]at hl;obtain⟨c0,c1,c2,c3,rfl⟩:=M5 hl;obtain⟨y0,y1,y2,y3,rfl⟩:=M5 hlen;have h0:=hf 0 _ rfl;have h1:=hf 1 _ rfl;have h2:=hf 2 _ rfl;have h3:=hf 3 _ rfl;simp[Ti,Ql,Qn,Qj]at h0 h1 h2 h3;obtain⟨z0,e0,_⟩:=DataW.trod_bool underlying4 h0;obtain⟨a1,n1,k1,ks,e1,l1,p1,s1,q1⟩:=OY h1;obtain⟨a2,n2,k2,rs,e2,l2,p2,s2,q2⟩:=O4 h2;obtain⟨a3,n3,k3,zs,e3,l3,p3,s3⟩:=O0 h3;simp at e0 e1 e2 e3;subst e0 e1 e2 e3;obtain⟨rfl,s1'⟩:=s1;obtain⟨rfl,s2'⟩:=s2;obtain⟨rfl,s3'⟩:=s3;exact⟨⟨a1,k1,a2,k2,a3,k3⟩,⟨z0,ks,rs,zs⟩,rfl,⟨⟨rfl,s1'⟩,⟨rfl,s2'⟩,⟨rfl,s3'⟩⟩,l1,l2,l3,q1,q2,p1,p2,p3⟩
end om
namespace tx.ot
open Go.Proofs.Tryz
open Go.ChangeShapes Go.WideShapes Go.ChangeAt Go.RowKit Go.Deep
variable {cs:List Value}{fuel:Nat}{spare:Nat->Bool}{w:World}
theorem xG:prog.cellsOf 2=1:=by kernel_rfl
theorem BK:prog.cellsOf 79=1:=by kernel_rfl
theorem Qm:prog.cellsOf 78=1:=by kernel_rfl
theorem Tk:prog.cellsOf 81=7:=by kernel_rfl
theorem Vs{α:Type}{cs:List α}(h:cs.length=7):∃c0 c1 c2 c3 c4 c5 c6,cs=[c0,c1,c2,c3,c4,c5,c6]:=by
 match cs,h with
 | [c0,c1,c2,c3,c4,c5,c6],_=>exact⟨c0,c1,c2,c3,c4,c5,c6,rfl⟩
theorem nY{α:Type}{p:Nat->α->Prop}(n:Nat)(h:∀i,i<n->∃x,p i x):∃xs:List α,xs.length=n/\∀i x,xs[i]?=some x->p i x:=by
 induction n with
 | zero=>exact⟨[],rfl,fun i x e=>by simp at e⟩
 | succ n ih=>
  obtain⟨xs,hl,hx⟩:=ih fun i hi=>h i (by omega)
  obtain⟨y,hy⟩:=h n (by omega);refine⟨xs++[y],by simp[hl],fun i x e=>?_⟩;by_cases hi:i<xs.length
  ·rw[List.getElem?_append_left hi]at e;exact hx i x e
  ·rw[List.getElem?_append_right (by omega)]at e
   have:i=xs.length:=by
    by_cases h2:i-xs.length=0
    ·omega
    ·rw[List.getElem?_eq_none (by simp;omega)]at e;cases e
   subst this;simp at e;subst e;rw[hl];exact hy
theorem Cr{α:Type}{cs:List α}(h:cs.length=5):∃c0 c1 c2 c3 c4,cs=[c0,c1,c2,c3,c4]:=by
 match cs,h with
 | [c0,c1,c2,c3,c4],_=>exact⟨c0,c1,c2,c3,c4,rfl⟩
theorem pF:prog.cellsOf 208=5:=by kernel_rfl
theorem uC:prog.cellsOf 2=1:=by kernel_rfl
theorem qO:prog.cellsOf 4=1:=by kernel_rfl
def setCells(s:S5):List Value:=[vI s.b,vI s.e,vI s.g,.bool s.j,vI s.i]
def br(s:S5):Prop:=(Lit.int .i64 s.b).wf=true/\(Lit.int .i64 s.e).wf=true/\(Lit.int .i64 s.g).wf=true/\(Lit.int .i64 s.i).wf=true
theorem Dg{H:Type}{enc:TypeId×Value->H}{base:Nat}{held:Bool}{x:DataW H×List MemPlace}
  (h:DataW.trod enc prog w base spare held fuel 208 cs=some x):∃s:S5,cs=(setCells s)/\br s:=by
 obtain⟨xs,n,_,rfl,hl,hlen,hf⟩:=DataW.trod_struct underlying208 h;rw[pF]at hl;obtain⟨c0,c1,c2,c3,c4,rfl⟩:=Cr hl;obtain⟨y0,y1,y2,y3,y4,rfl⟩:=Cr hlen;have h0:=hf 0 _ rfl;have h1:=hf 1 _ rfl;have h2:=hf 2 _ rfl;have h3:=hf 3 _ rfl;have h4:=hf 4 _ rfl;simp[uC,qO]at h0 h1 h2 h3 h4;obtain⟨z0,e0,_,f0⟩:=DataW.trod_int underlying2 h0;obtain⟨z1,e1,_,f1⟩:=DataW.trod_int underlying2 h1;obtain⟨z2,e2,_,f2⟩:=DataW.trod_int underlying2 h2;obtain⟨z3,e3,_⟩:=DataW.trod_bool underlying4 h3;obtain⟨z4,e4,_,f4⟩:=DataW.trod_int underlying2 h4;simp at e0 e1 e2 e3 e4;subst e0 e1 e2 e3 e4;exact⟨⟨z0,z1,z2,z3,z4⟩,rfl,f0,f1,f2,f4⟩
theorem zx{H:Type}{enc:TypeId×Value->H}{held:Bool}{x:DataW H×List MemPlace}
  (h:DataW.trod enc prog w 0 spare held fuel 79 cs=some x):∃a n cap xs,cs=[.slice a n cap]/\n<=maxLen/\n<=cap/\Sl w w.1.size a n xs:=by
 rcases open_slice underlying79 h with ⟨rfl,_⟩|⟨a,len,cap,m,n,D,Pl,rfl,_,hl,hm,Cb,_,hx⟩
 ·exact⟨none,0,0,[],rfl,Nat.zero_le _,Nat.le_refl _,⟨rfl,.inl rfl⟩⟩
 ·have JV:len<=m:=by rw[Cb];split<;>omega
  have key:∀i,i<len->∃s:S5,∀k,k<5->w.cell? ((a.add (i*5)).add k)=(setCells s)[k]?:=fun i hi=>by
   obtain⟨cs',h1,h2⟩:=hx i (by omega);rw[pF]at h1;obtain⟨s,rfl,_⟩:=Dg h2;exact⟨s,(World.cells?_some h1).2.2⟩
  obtain⟨xs,hlen,rW⟩:=nY len key;refine⟨some a,len,cap,xs,rfl,by omega,by omega,⟨hlen,?_⟩⟩
  ·by_cases h0:len=0
   ·exact .inl h0
   ·right;obtain⟨b,off,spot⟩:=a;obtain⟨s,hs⟩:=key 0 (by omega);have c0:w.cell? ⟨b,off,spot⟩=some (vI s.b):=by simpa[Addr.add,setCells]using hs 0 (by omega)
    have jU:spot=none:=by simpa using World.cell?_spot c0
    subst jU;refine⟨b,off,rfl,block_lt_of_cell c0,fun i s e=>?_⟩;have hk:=rW i s e;simp only[add_plain]at hk;exact⟨by simpa[setCells]using hk 0 (by omega),by simpa[setCells]using hk 1 (by omega),by simpa[setCells]using hk 2 (by omega),by simpa[setCells]using hk 3 (by omega),by simpa[setCells]using hk 4 (by omega)⟩
theorem BJ:prog.cellsOf 206=5:=by kernel_rfl
def ko(s:N5):List Value:=[vI s.b,vI s.e,vI s.i,vI s.g,.bool s.j]
def XH(s:N5):Prop:=(Lit.int .i64 s.b).wf=true/\(Lit.int .i64 s.e).wf=true/\(Lit.int .i64 s.i).wf=true/\(Lit.int .i64 s.g).wf=true
theorem OZ{H:Type}{enc:TypeId×Value->H}{base:Nat}{held:Bool}{x:DataW H×List MemPlace}
  (h:DataW.trod enc prog w base spare held fuel 206 cs=some x):∃s:N5,cs=(ko s)/\XH s:=by
 obtain⟨xs,n,_,rfl,hl,hlen,hf⟩:=DataW.trod_struct underlying206 h;rw[BJ]at hl;obtain⟨c0,c1,c2,c3,c4,rfl⟩:=Cr hl;obtain⟨y0,y1,y2,y3,y4,rfl⟩:=Cr hlen;have h0:=hf 0 _ rfl;have h1:=hf 1 _ rfl;have h2:=hf 2 _ rfl;have h3:=hf 3 _ rfl;have h4:=hf 4 _ rfl;simp[uC,qO]at h0 h1 h2 h3 h4;obtain⟨z0,e0,_,f0⟩:=DataW.trod_int underlying2 h0;obtain⟨z1,e1,_,f1⟩:=DataW.trod_int underlying2 h1;obtain⟨z2,e2,_,f2⟩:=DataW.trod_int underlying2 h2;obtain⟨z3,e3,_,f4⟩:=DataW.trod_int underlying2 h3;obtain⟨z4,e4,_⟩:=DataW.trod_bool underlying4 h4;simp at e0 e1 e2 e3 e4;subst e0 e1 e2 e3 e4;exact⟨⟨z0,z1,z2,z3,z4⟩,rfl,f0,f1,f2,f4⟩
theorem LF{H:Type}{enc:TypeId×Value->H}{held:Bool}{x:DataW H×List MemPlace}
  (h:DataW.trod enc prog w 0 spare held fuel 78 cs=some x):∃a n cap xs,cs=[.slice a n cap]/\n<=maxLen/\n<=cap/\ky w w.1.size a n xs:=by
 rcases open_slice underlying78 h with ⟨rfl,_⟩|⟨a,len,cap,m,n,D,Pl,rfl,_,hl,hm,Cb,_,hx⟩
 ·exact⟨none,0,0,[],rfl,Nat.zero_le _,Nat.le_refl _,⟨rfl,.inl rfl⟩⟩
 ·have JV:len<=m:=by rw[Cb];split<;>omega
  have key:∀i,i<len->∃s:N5,∀k,k<5->w.cell? ((a.add (i*5)).add k)=(ko s)[k]?:=fun i hi=>by
   obtain⟨cs',h1,h2⟩:=hx i (by omega);rw[BJ]at h1;obtain⟨s,rfl,_⟩:=OZ h2;exact⟨s,(World.cells?_some h1).2.2⟩
  obtain⟨xs,hlen,rW⟩:=nY len key;refine⟨some a,len,cap,xs,rfl,by omega,by omega,⟨hlen,?_⟩⟩
  ·by_cases h0:len=0
   ·exact .inl h0
   ·right;obtain⟨b,off,spot⟩:=a;obtain⟨s,hs⟩:=key 0 (by omega);have c0:w.cell? ⟨b,off,spot⟩=some (vI s.b):=by simpa[Addr.add,ko]using hs 0 (by omega)
    have jU:spot=none:=by simpa using World.cell?_spot c0
    subst jU;refine⟨b,off,rfl,block_lt_of_cell c0,fun i s e=>?_⟩;have hk:=rW i s e;simp only[add_plain]at hk;exact⟨by simpa[ko]using hk 0 (by omega),by simpa[ko]using hk 1 (by omega),by simpa[ko]using hk 2 (by omega),by simpa[ko]using hk 3 (by omega),by simpa[ko]using hk 4 (by omega)⟩
theorem Uv{H:Type}{enc:TypeId×Value->H}{held:Bool}{x:DataW H×List MemPlace}
  (h:DataW.trod enc prog w 0 spare held fuel 81 cs=some x):∃(v:TV) (t:T7),cs=(tx.jJ v.ar v.cr v.ah v.ch t)/\uA w v t/\TL t:=by
 obtain⟨xs,n,_,rfl,hl,hlen,hf⟩:=DataW.trod_struct underlying81 h;rw[Tk]at hl;obtain⟨c0,c1,c2,c3,c4,c5,c6,rfl⟩:=Vs hl;obtain⟨y0,y1,y2,y3,y4,y5,y6,rfl⟩:=Vs hlen;have h0:=hf 0 _ rfl;have h1:=hf 1 _ rfl;have h2:=hf 2 _ rfl;have h3:=hf 3 _ rfl;have h4:=hf 4 _ rfl;have h5:=hf 5 _ rfl;have h6:=hf 6 _ rfl;simp[xG,Qm,BK]at h0 h1 h2 h3 h4 h5 h6;obtain⟨z0,e0,_,_⟩:=DataW.trod_int underlying2 h0;obtain⟨z1,e1,_,_⟩:=DataW.trod_int underlying2 h1;obtain⟨z2,e2,_,_⟩:=DataW.trod_int underlying2 h2;obtain⟨z3,e3,_,_⟩:=DataW.trod_int underlying2 h3;obtain⟨a4,n4,k4,ns,e4,l4,p4,s4⟩:=LF h4;obtain⟨a5,n5,k5,ss,e5,l5,p5,s5⟩:=zx h5;obtain⟨z6,e6,_,_⟩:=DataW.trod_int underlying2 h6;simp at e0 e1 e2 e3 e4 e5 e6;subst e0 e1 e2 e3 e4 e5 e6;obtain⟨rfl,yk⟩:=s4;obtain⟨rfl,yp⟩:=s5;exact⟨⟨a4,k4,a5,k5⟩,⟨z0,z1,z2,z3,ns,ss,z6⟩,rfl,⟨⟨rfl,yk⟩,⟨rfl,yp⟩⟩,⟨l4,l5⟩⟩
end tx.ot
namespace oc
open Go.Proofs.Tryz
open Go.ChangeShapes Go.WideShapes Go.ChangeAt Go.RowKit Go.Deep
variable {cs:List Value}{fuel:Nat}{spare:Nat->Bool}{w:World}
theorem cells_one:prog.cellsOf 2=1:=by kernel_rfl
theorem NM:prog.cellsOf 69=1:=by kernel_rfl
theorem zX:prog.cellsOf 71=1:=by kernel_rfl
theorem Vq{α:Type}{cs:List α}(h:cs.length=1):∃c0,cs=[c0]:=by
 match cs,h with
 | [c0],_=>exact⟨c0,rfl⟩
theorem A8{α:Type}{p:Nat->α->Prop}(n:Nat)(h:∀i,i<n->∃x,p i x):∃xs:List α,xs.length=n/\∀i x,xs[i]?=some x->p i x:=by
 induction n with
 | zero=>exact⟨[],rfl,fun i x e=>by simp at e⟩
 | succ n ih=>
  obtain⟨xs,hl,hx⟩:=ih fun i hi=>h i (by omega)
  obtain⟨y,hy⟩:=h n (by omega);refine⟨xs++[y],by simp[hl],fun i x e=>?_⟩;by_cases hi:i<xs.length
  ·rw[List.getElem?_append_left hi]at e;exact hx i x e
  ·rw[List.getElem?_append_right (by omega)]at e
   have:i=xs.length:=by
    by_cases h2:i-xs.length=0
    ·omega
    ·rw[List.getElem?_eq_none (by simp;omega)]at e;cases e
   subst this;simp at e;subst e;rw[hl];exact hy
theorem Jl{H:Type}{enc:TypeId×Value->H}{held:Bool}{x:DataW H×List MemPlace}
  (h:DataW.trod enc prog w 0 spare held fuel 69 cs=some x):∃a n cap zs,cs=[.slice a n cap]/\n<=maxLen/\n<=cap/\sD w w.1.size a n zs:=by
 rcases open_slice underlying69 h with ⟨rfl,_⟩|⟨a,len,cap,m,n,D,Pl,rfl,_,hl,hm,Cb,_,hx⟩
 ·exact⟨none,0,0,[],rfl,Nat.zero_le _,Nat.le_refl _,⟨rfl,.inl rfl⟩⟩
 ·have JV:len<=m:=by rw[Cb];split<;>omega
  have key:∀i,i<len->∃z:Int,w.cell? (a.add (i*1))=some (vI z):=fun i hi=>by
   obtain⟨cs',h1,h2⟩:=hx i (by omega);rw[cells_one]at h1;obtain⟨z,e,_⟩:=DataW.trod_int underlying2 h2;subst e;have:=(World.cells?_some h1).2.2 0 (by omega);exact⟨z,by simpa[Addr.add]using this⟩
  obtain⟨zs,hlen,nM⟩:=A8 len key;refine⟨some a,len,cap,zs,rfl,by omega,by omega,⟨hlen,?_⟩⟩;by_cases h0:len=0
  ·exact .inl h0
  ·right;obtain⟨b,off,spot⟩:=a;obtain⟨z,hz⟩:=key 0 (by omega);have c0:w.cell? ⟨b,off,spot⟩=some (vI z):=by simpa[Addr.add]using hz
   have jU:spot=none:=by simpa using World.cell?_spot c0
   subst jU;refine⟨b,off,rfl,block_lt_of_cell c0,fun i z e=>?_⟩;have hk:=nM i z e;simpa[add_plain]using hk
def Mx(w:World)(v:Value)(zs:List Int):Prop:=∃a cap,v=.slice a zs.length cap/\sD w w.1.size a zs.length zs/\zs.length<=cap/\zs.length<=maxLen
theorem LG{H:Type}{enc:TypeId×Value->H}{held:Bool}{x:DataW H×List MemPlace}
  (h:DataW.trod enc prog w 0 spare held fuel 71 cs=some x):∃v zs,cs=[v]/\Mx w v zs:=by
 obtain⟨xs,n,_,rfl,hl,hlen,hf⟩:=DataW.trod_struct underlying71 h;rw[zX]at hl;obtain⟨c0,rfl⟩:=Vq hl;obtain⟨y0,rfl⟩:=Vq hlen;have h0:=hf 0 _ rfl;simp[NM]at h0;obtain⟨a,m,cap,zs,e,hm,hc,hs⟩:=Jl h0;simp at e;subst e;obtain rfl:zs.length=m:=hs.1;exact⟨_,zs,rfl,a,cap,rfl,hs,hc,hm⟩
theorem Eu{H:Type}{enc:TypeId×Value->H}{held:Bool}{x:DataW H×List MemPlace}
  (h:DataW.trod enc prog w 0 spare held fuel 22 cs=some x):∃a n cap aR,cs=[.slice a n cap]/\n<=maxLen/\yY w w.1.size a n aR/\∀zs∈aR,zs.length<=maxLen:=by
 rcases open_slice underlying22 h with ⟨rfl,_⟩|⟨a,len,cap,m,n,D,Pl,rfl,_,hl,hm,Cb,_,hx⟩
 ·exact⟨none,0,0,[],rfl,Nat.zero_le _,⟨rfl,.inl rfl⟩,fun zs h=>by simp at h⟩
 ·have JV:len<=m:=by rw[Cb];split<;>omega
  have key:∀i,i<len->∃zs:List Int,∃v,w.cell? (a.add (i*1))=some v/\Mx w v zs:=fun i hi=>by
   obtain⟨cs',h1,h2⟩:=hx i (by omega);rw[zX]at h1;obtain⟨v,zs,rfl,hp⟩:=LG h2;have:=(World.cells?_some h1).2.2 0 (by omega);exact⟨zs,v,by simpa[Addr.add]using this,hp⟩
  obtain⟨aR,hlen,nM⟩:=A8 len key;refine⟨some a,len,cap,aR,rfl,by omega,⟨hlen,?_⟩,fun zs hz=>?_⟩
  ·by_cases h0:len=0
   ·exact .inl h0
   ·right;obtain⟨b,off,spot⟩:=a;obtain⟨zs,v,hz,_⟩:=key 0 (by omega);have c0:w.cell? ⟨b,off,spot⟩=some v:=by simpa[Addr.add]using hz
    have jU:spot=none:=by simpa using World.cell?_spot c0
    subst jU;refine⟨b,off,rfl,block_lt_of_cell c0,fun i zs e=>?_⟩;obtain⟨v,hk,a',aZ,rfl,hs,hc,_⟩:=nM i zs e;exact⟨a',aZ,by simpa[add_plain]using hk,hs,hc⟩
  ·obtain⟨i,hi,rfl⟩:=List.getElem_of_mem hz;obtain⟨v,_,_,_,_,_,_,hm⟩:=nM i _ (List.getElem?_eq_getElem hi);exact hm
theorem Hy:prog.cellsOf 76=4:=by kernel_rfl
theorem LD{H:Type}{enc:TypeId×Value->H}{held:Bool}{x:DataW H×List MemPlace}
  (h:DataW.trod enc prog w 0 spare held fuel 23 cs=some x):∃(a:OA) (cap:Nat) (xs:List M4),cs=[.slice a xs.length cap]/\xs.length<=maxLen/\iN.vG w a xs/\∀d∈xs,ML d:=by
 rcases open_slice underlying23 h with ⟨rfl,_⟩|⟨a,len,cap,m,n,DD,Pl,rfl,_,hl,hm,Cb,_,hx⟩
 ·exact⟨none,0,[],rfl,Nat.zero_le _,.inl rfl,fun s hs=>by cases hs⟩
 ·have JV:len<=m:=by rw[Cb];split<;>omega
  have key:∀i,i<len->∃d:M4,∃v:MV,(∀k,k<4->w.cell? ((a.add (i*4)).add k)=(iN.cells v d)[k]?)/\iN.Rd w v d/\ML d:=fun i hi=>by
   obtain⟨cs',h1,h2⟩:=hx i (by omega);rw[Hy]at h1;obtain⟨v,d,rfl,t1,l1,l2,l3,k1,k2,_⟩:=om.Gu h2;exact⟨d,v,(World.cells?_some h1).2.2,t1,⟨l1,k1,l2,k2,l3⟩⟩
  obtain⟨xs,hlen,rW⟩:=A8 len key;subst hlen;refine⟨some a,cap,xs,rfl,by omega,?_,?_⟩
  ·by_cases h0:xs=[]
   ·exact .inl h0
   ·right;obtain⟨b,off,spot⟩:=a;obtain⟨d,v,hs,_⟩:=key 0 (by have:=List.length_pos_iff.2 h0;omega);have c0:=hs 0 (by omega);simp[Addr.add,iN]at c0;have jU:spot=none:=by simpa using World.cell?_spot c0
    subst jU;refine⟨b,off,rfl,block_lt_of_cell c0,fun i d e=>?_⟩;obtain⟨v,hk,t1,_⟩:=rW i d e;simp only[add_plain]at hk;refine⟨v,fun j u hu=>?_,t1⟩;have hj:j<4:=by have:=(List.getElem?_eq_some_iff.1 hu).1;rwa[iN.len]at this
    have:=hk j hj;rw[hu]at this;exact this
  ·intro d hd;obtain⟨i,hi,rfl⟩:=List.getElem_of_mem hd;obtain⟨_,_,_,h3⟩:=rW i _ (List.getElem?_eq_getElem hi);exact h3
theorem NN:prog.cellsOf 81=7:=by kernel_rfl
theorem RB{H:Type}{enc:TypeId×Value->H}{held:Bool}{x:DataW H×List MemPlace}
  (h:DataW.trod enc prog w 0 spare held fuel 24 cs=some x):∃(a:OA) (cap:Nat) (xs:List tx.T7),cs=[.slice a xs.length cap]/\xs.length<=maxLen/\iO.vG w a xs/\∀d∈xs,tx.TL d:=by
 rcases open_slice underlying24 h with ⟨rfl,_⟩|⟨a,len,cap,m,n,DD,Pl,rfl,_,hl,hm,Cb,_,hx⟩
 ·exact⟨none,0,[],rfl,Nat.zero_le _,.inl rfl,fun s hs=>by cases hs⟩
 ·have JV:len<=m:=by rw[Cb];split<;>omega
  have key:∀i,i<len->∃d:tx.T7,∃v:tx.TV,(∀k,k<7->w.cell? ((a.add (i*7)).add k)=(iO.cells v d)[k]?)/\iO.Rd w v d/\tx.TL d:=fun i hi=>by
   obtain⟨cs',h1,h2⟩:=hx i (by omega);rw[NN]at h1;obtain⟨v,d,rfl,t1,l1⟩:=tx.ot.Uv h2;exact⟨d,v,(World.cells?_some h1).2.2,t1,l1⟩
  obtain⟨xs,hlen,rW⟩:=A8 len key;subst hlen;refine⟨some a,cap,xs,rfl,by omega,?_,?_⟩
  ·by_cases h0:xs=[]
   ·exact .inl h0
   ·right;obtain⟨b,off,spot⟩:=a;obtain⟨d,v,hs,_⟩:=key 0 (by have:=List.length_pos_iff.2 h0;omega);have c0:=hs 0 (by omega);simp[Addr.add,iO]at c0;have jU:spot=none:=by simpa using World.cell?_spot c0
    subst jU;refine⟨b,off,rfl,block_lt_of_cell c0,fun i d e=>?_⟩;obtain⟨v,hk,t1,_⟩:=rW i d e;simp only[add_plain]at hk;refine⟨v,fun j u hu=>?_,t1⟩;have hj:j<7:=by have:=(List.getElem?_eq_some_iff.1 hu).1;rwa[iO.len]at this
    have:=hk j hj;rw[hu]at this;exact this
  ·intro d hd;obtain⟨i,hi,rfl⟩:=List.getElem_of_mem hd;obtain⟨_,_,_,h3⟩:=rW i _ (List.getElem?_eq_getElem hi);exact h3
theorem Qe:prog.cellsOf 26=6:=by kernel_rfl
theorem Qi:prog.cellsOf 22=1:=by kernel_rfl
theorem Qh:prog.cellsOf 23=1:=by kernel_rfl
theorem Qk:prog.cellsOf 24=1:=by kernel_rfl
theorem Qg:prog.cellsOf 4=1:=by kernel_rfl
theorem Vr{α:Type}{cs:List α}(h:cs.length=6):∃c0 c1 c2 c3 c4 c5,cs=[c0,c1,c2,c3,c4,c5]:=by
 match cs,h with
 | [c0,c1,c2,c3,c4,c5],_=>exact⟨c0,c1,c2,c3,c4,c5,rfl⟩
theorem yu{H:Type}{enc:TypeId×Value->H}{held:Bool}{x:DataW H×List MemPlace}
  (h:DataW.trod enc prog w 0 spare held fuel 26 cs=some x):∃(a1:OA) (c1:Nat) (a2:OA) (c2:Nat) (a3:OA) (c3:Nat) (k:C6),cs=(dU a1 c1 a2 c2 a3 c3 k)/\df.Rd w a1 c1 a2 c2 a3 c3 k/\df.L k:=by
 obtain⟨xs,n,_,rfl,hl,hlen,hf⟩:=DataW.trod_struct underlying26 h;rw[Qe]at hl;obtain⟨c0,c1,c2,c3,c4,c5,rfl⟩:=Vr hl;obtain⟨y0,y1,y2,y3,y4,y5,rfl⟩:=Vr hlen;have h0:=hf 0 _ rfl;have h1:=hf 1 _ rfl;have h2:=hf 2 _ rfl;have h3:=hf 3 _ rfl;have h4:=hf 4 _ rfl;have h5:=hf 5 _ rfl;simp[cells_one,Qi,Qh,Qk,Qg]at h0 h1 h2 h3 h4 h5;obtain⟨z0,e0,_,_⟩:=DataW.trod_int underlying2 h0;obtain⟨z1,e1,_,_⟩:=DataW.trod_int underlying2 h1;obtain⟨a1,n1,k1,aR,e2,l1,s1,q1⟩:=Eu h2;obtain⟨a2,k2,ms,e3,l2,s2,q2⟩:=LD h3;obtain⟨a3,k3,ts,e4,l3,s3,q3⟩:=RB h4;obtain⟨z5,e5,_⟩:=DataW.trod_bool underlying4 h5;simp at e0 e1 e2 e3 e4 e5;subst e0 e1 e2 e3 e4 e5;obtain rfl:aR.length=n1:=s1.1;exact⟨a1,k1,a2,k2,a3,k3,⟨z0,z1,aR,ms,ts,z5⟩,rfl,⟨s1,s2,s3⟩,⟨l1,q1,l2,q2,l3,q3⟩⟩
end oc
section
open Go.Proofs.Tryz
variable {i:Nat}
def zq(aR:List (List Int))(k:Int)(i:Nat):List Int:=marks (eU aR i).length (k+lens (aR.take i))
def lU(aR:List (List Int))(k:Int):List (List Int):=(List.range aR.length).map (zq aR k)
theorem nu(aR:List (List Int))(k:Int):(lU aR k).length=aR.length:=by simp[lU]
theorem zu{aR:List (List Int)}{k:Int}{zs:List Int}(h:(lU aR k)[i]?=some zs):i<aR.length/\zs=zq aR k i:=by
 have hi:i<aR.length:=by have:=(List.getElem?_eq_some_iff.1 h).1;rw[nu]at this;exact this
 refine⟨hi,?_⟩;simp[lU,hi]at h;exact h.symm
theorem qW(aR:List (List Int))(k:Int)(i:Nat):(zq aR k i).length=(eU aR i).length:=by rw[zq,mH]
structure Kept(g:Nat->Nat)(n:Nat)(w w':World):Prop where
 os:w'.os=w.os
 tape:w'.tape=w.tape
 output:w'.output=w.output
 size:w'.1.size=w.1.size
 block:∀q,(∀i,i<n->q≠g i)->w'.1[q]?=w.1[q]?
theorem Kept.refl(g:Nat->Nat)(n:Nat)(w:World):Kept g n w w:=⟨rfl,rfl,rfl,rfl,fun _ _=>rfl⟩
theorem Kept.only{g:Nat->Nat}{n:Nat}{a w w':World}(h:Kept g n a w)(hi:i<n)(ho:aX (g i) w w'):Kept g n a w':=
 ⟨ho.os.trans h.os,ho.tape.trans h.tape,ho.output.trans h.output,ho.size.trans h.size,fun q hq=>(ho.block q (hq i hi)).trans (h.block q hq)⟩
theorem Cz(w:World)(base b n cap:Nat)(aR:List (List Int))(g:Nat->Nat)(k:Int)(hn:n<=1048576)(hl:lens aR<=1048576)(hk:0<=k)(pJ:k<=100000000)(h:lN w base b n aR g):
  Calls prog 32 #[.slice (some ⟨b,0,none⟩) n cap,vI k] w fun e w'=>e=.returned (vI (k+lens aR))/\Kept g n w w'/\lN w' base b n (lU aR k) g:=by
 have hlen:=h.len;have HO:Hid (lN w base b n aR g):=h;clear h;go_enter func32,ntmps32;go_wp2;go_loopw[1,5] (fun v1 v5 wr=>∃j:Nat,j<=n/\v5=vI j/\v1=vI (k+lens (aR.take j))/\Kept g n w wr/\(∀i,i<j->eY wr (g i) 0 (zq aR k i))/\(∀i,i<n->Room wr (g i) (eU aR i).length)) (fun _ v5 _=>n-(intOf v5).toNat)
 case atStart=>exact⟨0,Nat.zero_le _,rfl,by simp[lens],Kept.refl _ _ _,fun i hi=>by omega,fun i hi=>HO.out.room i _ (gB (by omega))⟩
 case round=>
  obtain⟨j,hj,rfl,rfl,kW,Gf,eB⟩:=hrel;have hle:=lens_take_le aR j;by_cases aN:j<n
  ·obtain⟨cp,hc,_⟩:=HO.out.cell j _ (gB (by omega));have c:=(World.cell?_of_block (a:=⟨b,j,none⟩) (kW.block b (fun i hi e=>HO.out.ne i hi e.symm))).trans hc;have fq:=lens_take_succ (aR:=aR) (j:=j) (by omega);have ke:=lens_take_le aR (j+1);have jo:=tZ wr (g j) (eU aR j).length cp (k+lens (aR.take j)) (by omega) (by omega) (by omega) (eB j aN);have K:=fP kW Gf eB;clear kW Gf eB hc;go_wp2_with fail;refine jo.mono ?_;clear jo;rintro e w1 ⟨rfl,ho,JW,Ab⟩;have K1:=fP ho JW Ab;clear ho JW Ab;go_wp2;obtain⟨kW,Gf,eB⟩:=K.out;obtain⟨ho,JW,Ab⟩:=K1.out;refine⟨⟨j+1,by omega,by simp,by rw[fq];simp;omega,kW.only aN ho,fun i hi=>?_,fun i hi=>?_⟩,by simp[intOf];omega⟩
   ·by_cases e:i=j
    ·subst e;exact JW
    ·exact(Gf i (by omega)).aj (ho.block _ (fun e'=>e (HO.out.inj i j (by omega) aN e')))
   ·by_cases e:i=j
    ·subst e;exact Ab
    ·exact(eB i hi).aj (ho.block _ (fun e'=>e (HO.out.inj i j hi aN e')))
  ·have:j=n:=by omega
   subst this;have hd:decide ((j:Int)<(j:Int))=false:=by simp
   rw[show aR.take j=aR from List.take_of_length_le (by omega)];have K:=fP kW Gf eB;clear kW Gf eB hle;go_wp2;go_ret;obtain⟨kW,Gf,eB⟩:=K.out;refine⟨rfl,kW,⟨by rw[nu];exact hlen,fun i zs e=>?_,HO.out.low,fun i hi=>by rw[kW.size];exact HO.out.lt i hi,HO.out.ne,fun i zs e=>?_,fun i zs e=>?_,HO.out.inj⟩⟩
   ·obtain⟨hi,rfl⟩:=zu e;obtain⟨cp,hc,kz⟩:=HO.out.cell i _ (gB hi);exact⟨cp,by rw[qW];exact(World.cell?_of_block (a:=⟨b,i,none⟩) (kW.block b (fun i hi e=>HO.out.ne i hi e.symm))).trans hc,by rw[qW];exact kz⟩
   ·obtain⟨hi,rfl⟩:=zu e;exact Gf i (by omega)
   ·obtain⟨hi,rfl⟩:=zu e;rw[qW];exact eB i (by omega)
end
section
open Go.Proofs.Tryz
theorem Cy(w:World)(cap:Nat)(k:Int):Calls prog 32 #[.slice none 0 cap,vI k] w fun e w'=>e=.returned (vI k)/\w'=w:=by
 go_enter func32,ntmps32;go_wp2;go_loop[1,5] (fun v1 v5=>v5=vI 0/\v1=vI k) (fun _ _=>0)
 case atStart=>exact⟨rfl,rfl⟩
 case round=>
  obtain⟨rfl,rfl⟩:=hrel;go_wp2;go_ret;exact⟨rfl,rfl⟩
theorem ym(w:World)(base:Nat)(a:OA)(n cap:Nat)(aR:List (List Int))(g:Nat->Nat)(k:Int)(hn:n<=1048576)(hl:lens aR<=1048576)(hk:0<=k)(pJ:k<=100000000)(h:oZ w base a n aR g):
  Calls prog 32 #[.slice a n cap,vI k] w fun e w'=>e=.returned (vI (k+lens aR))/\Kept g n w w'/\oZ w' base a n (lU aR k) g:=by
 rcases h with ⟨rfl,rfl,rfl⟩|⟨b,rfl,DW,kU,ho⟩
 ·refine(Cy w cap k).mono ?_;rintro e w' ⟨rfl,rfl⟩;exact⟨by simp[lens],Kept.refl _ _ _,.inl ⟨rfl,rfl,rfl⟩⟩
 ·refine(Cz w base b n cap aR g k hn hl hk pJ ho).mono ?_;rintro e w' ⟨rfl,kp,o⟩;exact⟨rfl,kp,.inr ⟨b,rfl,DW,by rw[kp.size];exact kU,o⟩⟩
end
section
open Go.Proofs.Tryz
theorem BR(w:World)(a:OA)(n cap:Nat)(aR:List (List Int))(k:Int)(hn:n<=1048576)(hl:lens aR<=1048576)(hk:0<=k)(pJ:k<=100000000)(hs:yY w w.1.size a n (lU aR k)):
  Calls prog 35 #[.slice a n cap,vI k] w fun e w'=>e=.returned (vI (k+lens aR))/\w'=w:=by
 obtain⟨hx,hs⟩:=hs;rw[nu]at hx;go_enter func35,ntmps35;go_wp2;go_loop[1,5] (fun v1 v5=>∃j:Nat,j<=n/\v5=vI j/\v1=vI (k+lens (aR.take j))) (fun _ v5=>n-(intOf v5).toNat)
 case atStart=>exact⟨0,Nat.zero_le _,rfl,by simp[lens]⟩
 case round=>
  obtain⟨j,hj,rfl,rfl⟩:=hrel;have hle:=lens_take_le aR j;by_cases aN:j<n
  ·rcases hs with hs|⟨b,off,rfl,hb,h1⟩
   ·omega
   ·have hm:(lU aR k)[j]?=some (zq aR k j):=by simp[lU,show j<aR.length by omega]
    obtain⟨a',cp,c,fI,_⟩:=h1 j _ hm;rw[qW]at c fI;have fq:=lens_take_succ (aR:=aR) (j:=j) (by omega);have ke:=lens_take_le aR (j+1);have jo:=tF w a' (eU aR j).length cp (k+lens (aR.take j)) (by omega) (by omega) (by omega) fI;have d0:decide (k+(lens (aR.take j):Int)+((eU aR j).length:Int)<0)=false:=by simp;omega
    clear h1 hm fI;go_wp2_with fail;refine jo.mono ?_;clear jo;rintro e w1 ⟨rfl,rfl⟩;go_wp2;exact⟨⟨j+1,by omega,by simp,by rw[fq];simp;omega⟩,by simp[intOf];omega⟩
  ·have:j=n:=by omega
   subst this;have hd:decide ((j:Int)<(j:Int))=false:=by simp
   rw[show aR.take j=aR from List.take_of_length_le (by omega)];clear hs hle;go_wp2;go_ret;exact⟨rfl,rfl⟩
end
section
open Go.Proofs.Tryz
theorem Cx(w:World)(a:OA)(cap:Nat)(k:Int):Calls prog 33 #[.slice a 0 cap,vI k] w fun e w'=>e=.returned (vI k)/\w'=w:=by
 go_enter func33,ntmps33;go_wp2;go_loop[1,5] (fun v1 v5=>v1=vI k/\v5=vI 0) (fun _ _=>0)
 case atStart=>exact⟨rfl,rfl⟩
 case round=>
  obtain⟨rfl,rfl⟩:=hrel;go_wp2;go_ret;exact⟨rfl,rfl⟩
theorem Li(w:World)(B:Nat)(a:OA)(cap:Nat)(xs:List M4)(P:Nat->Prop)(k:Int)(hk:0<=k)(pJ:k+(aL cM xs xs.length:Int)<=100000000)(hn:xs.length<=1048576)(ht:∀m∈xs,MT m)(h:iN.xm w B a xs P):
  Calls prog 33 #[.slice a xs.length cap,vI k] w fun e w'=>e=.returned (vI (k+(aL cM xs xs.length:Int)))/\aG P w w':=by
 obtain⟨h,hP⟩:=h;rcases h with rfl|⟨b,g,rfl,hp,ze,hg⟩
 ·refine(Cx w a cap k).mono ?_;rintro e w' ⟨rfl,rfl⟩;exact⟨by simp[aL],aG.refl _ _⟩
 ·exact Xv w B b cap xs g P k hk pJ hn ht (hP b hp).2 hp hg ze
theorem CB(w:World)(a:OA)(cap:Nat)(k:Int):Calls prog 34 #[.slice a 0 cap,vI k] w fun e w'=>e=.returned (vI k)/\w'=w:=by
 go_enter func34,ntmps34;go_wp2;go_loop[1,5] (fun v1 v5=>v1=vI k/\v5=vI 0) (fun _ _=>0)
 case atStart=>exact⟨rfl,rfl⟩
 case round=>
  obtain⟨rfl,rfl⟩:=hrel;go_wp2;go_ret;exact⟨rfl,rfl⟩
theorem Lj(w:World)(B:Nat)(a:OA)(cap:Nat)(xs:List tx.T7)(P:Nat->Prop)(k:Int)(hk:0<=k)(pJ:k+(aL cT xs xs.length:Int)<=100000000)(hn:xs.length<=1048576)(ht:∀m∈xs,KT.S m)(h:iO.xm w B a xs P):
  Calls prog 34 #[.slice a xs.length cap,vI k] w fun e w'=>e=.returned (vI (k+(aL cT xs xs.length:Int)))/\aG P w w':=by
 obtain⟨h,hP⟩:=h;rcases h with rfl|⟨b,g,rfl,hp,ze,hg⟩
 ·refine(CB w a cap k).mono ?_;rintro e w' ⟨rfl,rfl⟩;exact⟨by simp[aL],aG.refl _ _⟩
 ·exact Xx w B b cap xs g P k hk pJ hn ht (hP b hp).2 hp hg ze
theorem Jk{α:Type}(c l:α->Nat)(a:Nat)(h:∀r,c r<=a+5*l r)(rs:List α):aL c rs rs.length<=a*rs.length+5*(rs.map l).sum:=by
 unfold aL;rw[List.take_of_length_le (by simp)]
 induction rs with
 | nil=>simp
 | cons r rs ih=>
  have:=h r;simp only[List.map_cons,List.sum_cons,List.length_cons,Nat.mul_add,Nat.mul_one];omega
def cC(k:C6):Nat:=lens k.f+aL cM k.aa k.aa.length+aL cT k.c k.c.length
theorem Hw(k:C6):cC k<=5*vv k:=by
 have h1:=Jk cM (fun d=>Ma d) 1 (fun m=>by
  show cM m<=1+5*Ma m
  have e1:=AZ cK (fun k=>k.cells.length) 1 2 (fun r=>rfl) m.ag;have e2:=AZ cR (fun k=>k.ai.length) 3 5 (fun r=>rfl) m.h;unfold cM Ma kK kL
  omega) k.aa
 have h2:=Jk cT (fun d=>tx.vz d) 5 (fun t=>by show cT t<=5+5*tx.vz t;unfold cT tx.vz;omega) k.c;unfold cC vv yN.nN yP.nN;omega
def nK(k:C6)(x:Int):Int:=x+(cC k:Int)
theorem df.mark(X:World)(B:Nat)(a1:OA)(c1:Nat)(a2:OA)(c2:Nat)(a3:OA)(c3:Nat)(k:C6)(P:Nat->Prop)(x:Int)(hx:0<=x)(E8:x<=1000)(hz:vv k<=1048576)(ht:df.S k)(h:df.Ow X B a1 c1 a2 c2 a3 c3 k P):
  Calls prog 10 #[.agg #[vI k.v,vI k.u,.slice a1 k.f.length c1,.slice a2 k.aa.length c2,.slice a3 k.c.length c3,.bool k.w],vI x] X fun r w'=>r=.returned (vI (nK k x))/\aG P X w':=by
 obtain⟨⟨P1,P2,P3,⟨⟨g,oq,ob,og⟩,oB⟩,om,ot,s1,s2,s3,d12,d13,d23⟩,hP⟩:=h;have Wz:=Hw k;have hC:nK k x=x+(lens k.f:Int)+(aL cM k.aa k.aa.length:Int)+(aL cT k.c k.c.length:Int):=by unfold nK cC;push_cast;omega
 have DZ:lens k.f<=1048576:=by unfold vv at hz;omega
 obtain⟨W,hW⟩:=bO (X.alloc (.cells #[vI k.v,vI k.u,.slice a1 k.f.length c1,.slice a2 k.aa.length c2,.slice a3 k.c.length c3,.bool k.w] 32));have bW:Below X.1.size X W:=by rw[hW];exact aK.alloc aU _
 have FA:Hid (Bx W X.1.size (dU a1 c1 a2 c2 a3 c3 k)):=by unfold Hid;rw[hW];exact Bx.made X (dU a1 c1 a2 c2 a3 c3 k) _
 have hc:=ym W B a1 k.f.length c1 k.f g x ht.p DZ hx (by omega) (oq.later bW);have H:=xZ (om.later bW) (ot.later bW) s1 s2 s3 d12 d13 (YO d23 (show(∀q,P q->q<X.1.size)from fun q hq=>(hP q hq).2) og bW ht);have HE:=af hC;have HL:Hid (x+(lens k.f:Int)+(aL cM k.aa k.aa.length:Int)+(aL cT k.c k.c.length:Int)<=100000000):=by unfold Hid;rw[<-hC];unfold nK;omega
 clear oq ob og oB om ot s1 s2 s3 d12 d13 d23 hP Wz hC hz ht bW DZ;go_enter func10,ntmps10;go_wp2_with fail;rw[<-hW];clear hW;refine hc.mono ?_;clear hc;rintro e w1 ⟨rfl,kp,-⟩;obtain⟨om,ot,s1,s2,s3,d12,d13,d23,hP,og,bW,ht⟩:=H.out;have k1:aG P1 W w1:=⟨kp.os,kp.tape,kp.output,Nat.le_of_eq kp.size.symm,fun q _ hn=>kp.block q (fun i hi e=>hn (e▸og i hi))⟩
 have F1:Hid (Bx w1 X.1.size (dU a1 c1 a2 c2 a3 c3 k)):=FA.out.aj (k1.block _ FA.out.2.2 (fun e=>by have:=hP _ (s1 _ e);omega)) k1.size;have M1:=fP (om.aM k1.size (fun q hq=>k1.block q (om.of hq).2 (fun e=>d12 q e hq))) (ot.aM k1.size (fun q hq=>k1.block q (ot.of hq).2 (fun e=>d13 q e hq))) ((aG.bN bW).trans (k1.mono s1));clear om ot s1 s2 s3 d12 d13 d23 hP og bW k1 kp ht;have p3:=F1.out.1 3 _ rfl;have l1:=HL.out;generalize hy:x+(lens k.f:Int)=y at *;have ZQ:0<=y:=by omega
 go_wp2_with fail;refine(Li w1 B a2 c2 k.aa P2 y ZQ (by omega) H.out.2.2.2.2.2.2.2.2.2.2.2.m H.out.2.2.2.2.2.2.2.2.2.2.2.ms M1.out.1).mono ?_;rintro e w2 ⟨rfl,k2⟩;obtain⟨om,ot,s1,s2,s3,d12,d13,d23,hP,og,bW,ht⟩:=H.out;have F2:Hid (Bx w2 X.1.size (dU a1 c1 a2 c2 a3 c3 k)):=F1.out.aj (k2.block _ F1.out.2.2 (fun e=>by have:=hP _ (s2 _ e);omega)) k2.size;have M2:=dw (M1.out.2.1.aM k2.size (fun q hq=>k2.block q (M1.out.2.1.of hq).2 (fun e=>d23 q e hq))) (M1.out.2.2.trans (k2.mono s2));clear om ot s1 s2 s3 d12 d13 d23 hP og bW k2 ht p3;have p4:=F2.out.1 4 _ rfl;generalize hz:y+(aL cM k.aa k.aa.length:Int)=z at *;have vS:0<=z:=by omega
 go_wp2_with fail;refine(Lj w2 B a3 c3 k.c P3 z vS (by omega) H.out.2.2.2.2.2.2.2.2.2.2.2.t H.out.2.2.2.2.2.2.2.2.2.2.2.ts M2.out.1).mono ?_;rintro e w3 ⟨rfl,k3⟩;have M3:=af (M2.out.2.trans (k3.mono H.out.2.2.2.2.1));clear k3 p4;go_wp2;go_ret;exact⟨by rw[HE.out];rfl,M3.out⟩
end
section
open Go.Proofs.Tryz
theorem I9(w:World)(B:Nat)(a:OA)(cap:Nat)(xs:List M4)(P:Nat->Prop)(k:Int)(hk:0<=k)(pJ:k+(aL cM xs xs.length:Int)<=100000000)(hn:xs.length<=1048576)(ht:∀m∈xs,MT m)(h:iN.xm w B a xs P):
  Calls prog 33 #[.slice a xs.length cap,vI k] w fun e w'=>e=.returned (vI (k+(aL cM xs xs.length:Int)))/\aG P w w'/\iN.xm w' B a (CP xs k) P:=by
 obtain⟨h,hP⟩:=h;rcases h with rfl|⟨b,g,rfl,hp,ze,hg⟩
 ·refine(Cx w a cap k).mono ?_;rintro e w' ⟨rfl,rfl⟩;exact⟨by simp[aL],aG.refl _ _,.inl rfl,hP⟩
 ·refine(Xu w B b cap xs g P k hk pJ hn ht (hP b hp).2 hp hg ze).mono ?_;rintro e w' ⟨rfl,kp,o⟩;exact⟨rfl,kp,.inr ⟨b,g,rfl,hp,by rw[CQ];exact o,by rw[CQ];exact hg⟩,fun q hq=>⟨(hP q hq).1,Nat.lt_of_lt_of_le (hP q hq).2 kp.size⟩⟩
theorem Jb(w:World)(B:Nat)(a:OA)(cap:Nat)(xs:List tx.T7)(P:Nat->Prop)(k:Int)(hk:0<=k)(pJ:k+(aL cT xs xs.length:Int)<=100000000)(hn:xs.length<=1048576)(ht:∀m∈xs,KT.S m)(h:iO.xm w B a xs P):
  Calls prog 34 #[.slice a xs.length cap,vI k] w fun e w'=>e=.returned (vI (k+(aL cT xs xs.length:Int)))/\aG P w w'/\iO.xm w' B a (CW xs k) P:=by
 obtain⟨h,hP⟩:=h;rcases h with rfl|⟨b,g,rfl,hp,ze,hg⟩
 ·refine(CB w a cap k).mono ?_;rintro e w' ⟨rfl,rfl⟩;exact⟨by simp[aL],aG.refl _ _,.inl rfl,hP⟩
 ·refine(Xw w B b cap xs g P k hk pJ hn ht (hP b hp).2 hp hg ze).mono ?_;rintro e w' ⟨rfl,kp,o⟩;exact⟨rfl,kp,.inr ⟨b,g,rfl,hp,by rw[CX];exact o,by rw[CX];exact hg⟩,fun q hq=>⟨(hP q hq).1,Nat.lt_of_lt_of_le (hP q hq).2 kp.size⟩⟩
def Uc(k:C6)(x:Int):C6:=⟨k.v,k.u,lU k.f x,CP k.aa (x+(lens k.f:Int)),CW k.c (x+(lens k.f:Int)+(aL cM k.aa k.aa.length:Int)),k.w⟩
theorem df.Vw(X:World)(B:Nat)(a1:OA)(c1:Nat)(a2:OA)(c2:Nat)(a3:OA)(c3:Nat)(k:C6)(P:Nat->Prop)(x:Int)(hx:0<=x)(E8:x<=1000)(hz:vv k<=1048576)(ht:df.S k)(h:df.Ow X B a1 c1 a2 c2 a3 c3 k P):
  Calls prog 10 #[.agg #[vI k.v,vI k.u,.slice a1 k.f.length c1,.slice a2 k.aa.length c2,.slice a3 k.c.length c3,.bool k.w],vI x] X fun r w'=>r=.returned (vI (nK k x))/\aG P X w'/\df.Rd w' a1 c1 a2 c2 a3 c3 (Uc k x):=by
 obtain⟨⟨P1,P2,P3,⟨⟨g,oq,ob,og⟩,oB⟩,om,ot,s1,s2,s3,d12,d13,d23⟩,hP⟩:=h;have Wz:=Hw k;have hC:nK k x=x+(lens k.f:Int)+(aL cM k.aa k.aa.length:Int)+(aL cT k.c k.c.length:Int):=by unfold nK cC;push_cast;omega
 have DZ:lens k.f<=1048576:=by unfold vv at hz;omega
 obtain⟨W,hW⟩:=bO (X.alloc (.cells #[vI k.v,vI k.u,.slice a1 k.f.length c1,.slice a2 k.aa.length c2,.slice a3 k.c.length c3,.bool k.w] 32));have bW:Below X.1.size X W:=by rw[hW];exact aK.alloc aU _
 have FA:Hid (Bx W X.1.size (dU a1 c1 a2 c2 a3 c3 k)):=by unfold Hid;rw[hW];exact Bx.made X (dU a1 c1 a2 c2 a3 c3 k) _
 have hc:=ym W B a1 k.f.length c1 k.f g x ht.p DZ hx (by omega) (oq.later bW);have H:=xZ (om.later bW) (ot.later bW) s1 s2 s3 d12 d13 (YO d23 (show(∀q,P q->q<X.1.size)from fun q hq=>(hP q hq).2) og bW ht);have HB:=af (ob);have HE:=af hC;have HL:Hid (x+(lens k.f:Int)+(aL cM k.aa k.aa.length:Int)+(aL cT k.c k.c.length:Int)<=100000000):=by unfold Hid;rw[<-hC];unfold nK;omega
 clear oq ob og oB om ot s1 s2 s3 d12 d13 d23 hP Wz hC hz ht bW DZ;go_enter func10,ntmps10;go_wp2_with fail;rw[<-hW];clear hW;refine hc.mono ?_;clear hc;rintro e w1 ⟨rfl,kp,oq⟩;obtain⟨om,ot,s1,s2,s3,d12,d13,d23,hP,og,bW,ht⟩:=H.out;have k1:aG P1 W w1:=⟨kp.os,kp.tape,kp.output,Nat.le_of_eq kp.size.symm,fun q _ hn=>kp.block q (fun i hi e=>hn (e▸og i hi))⟩
 have F1:Hid (Bx w1 X.1.size (dU a1 c1 a2 c2 a3 c3 k)):=FA.out.aj (k1.block _ FA.out.2.2 (fun e=>by have:=hP _ (s1 _ e);omega)) k1.size;have O1:=dw oq (Nat.le_trans bW.size k1.size);have M1:=fP (om.aM k1.size (fun q hq=>k1.block q (om.of hq).2 (fun e=>d12 q e hq))) (ot.aM k1.size (fun q hq=>k1.block q (ot.of hq).2 (fun e=>d13 q e hq))) ((aG.bN bW).trans (k1.mono s1));clear om ot s1 s2 s3 d12 d13 d23 hP og bW k1 kp ht oq;have p3:=F1.out.1 3 _ rfl;have l1:=HL.out;have HM:Hid (Uc k x=⟨k.v,k.u,lU k.f x,CP k.aa (x+(lens k.f:Int)),CW k.c (x+(lens k.f:Int)+(aL cM k.aa k.aa.length:Int)),k.w⟩):=rfl;generalize hy:x+(lens k.f:Int)=y at *;have ZQ:0<=y:=by omega
 go_wp2_with fail;refine(I9 w1 B a2 c2 k.aa P2 y ZQ (by omega) H.out.2.2.2.2.2.2.2.2.2.2.2.m H.out.2.2.2.2.2.2.2.2.2.2.2.ms M1.out.1).mono ?_;rintro e w2 ⟨rfl,k2,rS⟩;obtain⟨om,ot,s1,s2,s3,d12,d13,d23,hP,og,bW,ht⟩:=H.out;have F2:Hid (Bx w2 X.1.size (dU a1 c1 a2 c2 a3 c3 k)):=F1.out.aj (k2.block _ F1.out.2.2 (fun e=>by have:=hP _ (s2 _ e);omega)) k2.size;have O2:=dw (show oZ w2 B a1 k.f.length (lU k.f x) g from O1.out.1.kept k2.size (fun b e=>k2.block b (by have:=hP _ (s1 _ (HB.out b e));have:=O1.out.2;omega) (d12 b (HB.out b e))) (fun i hi=>k2.block _ (by have:=hP _ (s1 _ (og i hi));have:=O1.out.2;omega) (d12 _ (og i hi)))) (Nat.le_trans O1.out.2 k2.size);have M2:=fP (M1.out.2.1.aM k2.size (fun q hq=>k2.block q (M1.out.2.1.of hq).2 (fun e=>d23 q e hq))) (M1.out.2.2.trans (k2.mono s2)) rS;clear om ot s1 s2 s3 d12 d13 d23 hP og bW k2 ht p3 rS O1;have p4:=F2.out.1 4 _ rfl;generalize hz:y+(aL cM k.aa k.aa.length:Int)=z at *;have vS:0<=z:=by omega
 go_wp2_with fail;refine(Jb w2 B a3 c3 k.c P3 z vS (by omega) H.out.2.2.2.2.2.2.2.2.2.2.2.t H.out.2.2.2.2.2.2.2.2.2.2.2.ts M2.out.1).mono ?_;rintro e w3 ⟨rfl,k3,r7⟩
 have M3:Hid (aG P X w3/\df.Rd w3 a1 c1 a2 c2 a3 c3 (Uc k x)):=by
  obtain⟨om,ot,s1,s2,s3,d12,d13,d23,hP,og,bW,ht⟩:=H.out;have o3:=O2.out.1.kept k3.size (fun b e=>k3.block b (by have:=hP _ (s1 _ (HB.out b e));have:=O2.out.2;omega) (d13 b (HB.out b e))) (fun i hi=>k3.block _ (by have:=hP _ (s1 _ (og i hi));have:=O2.out.2;omega) (d13 _ (og i hi)));have m3:=M2.out.2.2.aM k3.size (fun q hq=>k3.block q (M2.out.2.2.of hq).2 (d23 q hq));refine⟨M2.out.2.1.trans (k3.mono s3),?_⟩;rw[HM.out];exact⟨by rw[nu];exact o3.sl,m3.sl,r7.sl⟩
 clear k3 p4 r7;go_wp2;go_ret;exact⟨by rw[HE.out];rfl,M3.out.1,M3.out.2⟩
theorem df.held(X:World)(a1:OA)(c1:Nat)(a2:OA)(c2:Nat)(a3:OA)(c3:Nat)(k:C6)(x:Int)(hx:0<=x)(E8:x<=1000)(hz:vv k<=1048576)(ht:df.S k)(h:df.Rd X a1 c1 a2 c2 a3 c3 (Uc k x)):
  Calls prog 11 #[.agg #[vI k.v,vI k.u,.slice a1 k.f.length c1,.slice a2 k.aa.length c2,.slice a3 k.c.length c3,.bool k.w],vI x] X fun r w'=>r=.returned (vI (nK k x))/\Below X.1.size X w':=by
 have Wz:=Hw k;have hC:nK k x=x+(lens k.f:Int)+(aL cM k.aa k.aa.length:Int)+(aL cT k.c k.c.length:Int):=by unfold nK cC;push_cast;omega
 have DZ:lens k.f<=1048576:=by unfold vv at hz;omega
 obtain⟨W,hW,bW,FA,-⟩:=iI X (dU a1 c1 a2 c2 a3 c3 k) 32;have h0:=h.later bW;have hp:=h0.p;simp only[Uc,nu]at hp;have hc:=BR W a1 k.f.length c1 k.f x ht.p DZ hx (by omega) hp;have HL:Hid (x+(lens k.f:Int)+(aL cM k.aa k.aa.length:Int)+(aL cT k.c k.c.length:Int)<=100000000):=by unfold Hid;rw[<-hC];unfold nK;omega
 have H:Hid (iN.vG W a2 (CP k.aa (x+(lens k.f:Int)))/\iO.vG W a3 (CW k.c (x+(lens k.f:Int)+(aL cM k.aa k.aa.length:Int)))/\Below X.1.size X W/\df.S k/\Bx W X.1.size (dU a1 c1 a2 c2 a3 c3 k)):=⟨h0.m,h0.t,bW,ht,FA⟩
 have HE:=af hC;have p3:=FA.1 3 _ rfl;have p4:=FA.1 4 _ rfl;have d1:decide (x+(lens k.f:Int)<0)=false:=by simp;omega
 have d2:decide (x+(lens k.f:Int)+(aL cM k.aa k.aa.length:Int)<0)=false:=by simp;omega
 have d3:decide (x+(lens k.f:Int)+(aL cM k.aa k.aa.length:Int)+(aL cT k.c k.c.length:Int)<0)=false:=by simp;omega
 clear h h0 hp Wz hC hz ht bW DZ FA;rw[hW]at p3 p4;go_enter func11,ntmps11;go_wp2_with fail;rw[<-hW];refine hc.mono ?_;clear hc;rintro e w1 ⟨rfl,rfl⟩;rw[<-hW]at p3 p4;clear hW;have l1:=HL.out;generalize hy:x+(lens k.f:Int)=y at *;have ZQ:0<=y:=by omega
 go_wp2_with fail;refine(WC w1 a2 c2 k.aa y ZQ (by omega) H.out.2.2.2.1.m H.out.2.2.2.1.ms H.out.1).mono ?_;rintro e w2 ⟨rfl,b2⟩;have H2:=fP (H.out.2.1.later b2) (au H.out.2.2.1 b2) (H.out.2.2.2.2.later b2);clear b2 p3 p4;have p4:=H2.out.2.2.1 4 _ rfl;generalize hz:y+(aL cM k.aa k.aa.length:Int)=z at *;have vS:0<=z:=by omega
 go_wp2_with fail;refine(WE w2 a3 c3 k.c z vS (by omega) H.out.2.2.2.1.t H.out.2.2.2.1.ts H2.out.1).mono ?_;rintro e w3 ⟨rfl,b3⟩;have H3:=af (au H2.out.2.1 b3);clear b3 p4;go_wp2;go_ret;exact⟨by rw[HE.out];rfl,H3.out⟩
end
section
open Go.Proofs.Tryz
theorem uK{α:Type}(f:α->Nat)(c:Nat):∀{l:List α},(∀x∈l,f x<=c)->(l.map f).sum<=l.length*c
 | [],_=>by simp
 | a::l,h=>by
  have h1:=h a (by simp);have h2:=uK f c (l:=l) (fun x hx=>h x (by simp[hx]));simp only[List.map_cons,List.sum_cons,List.length_cons,Nat.succ_mul];omega
theorem Mc{m:M4}(h:VP m):Ma m<=3000:=by
 have h1:=uK (fun c:K2=>c.cells.length) 6 (l:=m.ag) (fun c hc=>by rw[h.ks c hc];exact Nat.le_refl _);have h2:=uK (fun r:R4=>r.ai.length) 12 (l:=m.h) (fun c hc=>(h.rs c hc).2);have:=h.k;have:=h.r;have:=h.n;unfold Ma kK kL;omega
theorem UH(t:tx.T7)(n:tx.N5):tx.vz (tx.dR t n)<=tx.vz t+1:=by
 unfold tx.dR;split
 ·split
  ·omega
  ·split
   ·simp[tx.vz,tx.kg]
   ·simp only[tx.vz,tx.oF,List.length_append,List.length_take,List.length_drop,List.length_singleton];omega
 ·simp[tx.vz,tx.kg]
theorem Po(t:tx.T7)(n:S5):tx.vz (tx.dL t n)<=tx.vz t+1:=by
 unfold tx.dL;split
 ·split
  ·simp only[tx.vz,tx.Dh];omega
  ·split
   ·simp[tx.vz,tx.kg]
   ·simp only[tx.vz,tx.uY,List.length_append,List.length_take,List.length_drop,List.length_singleton];omega
 ·simp[tx.vz,tx.kg]
theorem XX(k:C6)(t:tx.T7)(r s v:Int)(b:Bool):tx.vz (Gv k t r s v b)<=tx.vz t+2:=by
 have h1:=Po (wM k t r s) (Jn (wM k t r s) r s v b)
 have h2:tx.vz (wM k t r s)<=tx.vz t+1:=by
  unfold wM Gt;split
  ·omega
  ·split
   ·omega
   ·exact UH _ _
 unfold Gv;omega
theorem Sd(k:C6)(y r s v:Int)(b:Bool)(hk:aD k=true)(hi:ib k.c y<k.c.length)(hz:vv k<=1048576):vv (Af k y r s v b)<=1048576:=by
 unfold Af;split
 ·have h:=UO.of hk;have h1:=uK List.length 3 (l:=k.f) (fun z hz=>(h.ps z hz).2);have h2:=uK (fun m=>Ma m) 3000 (l:=k.aa) (fun m hm=>Mc (h.ms m hm))
  have h3:=uK (fun t=>tx.vz t) 26 (l:=k.c.set (ib k.c y) (Gv k (dm k y) r s v b)) (fun t ht=>by
   have e:∀t∈k.c,tx.vz t<=24:=fun t ht=>by have:=h.ts t ht;unfold tx.vz;omega
   rcases List.mem_or_eq_of_mem_set ht with h5|h5
   ·have:=e t h5;omega
   ·rw[h5];have h6:=XX k (dm k y) r s v b;have h7:=e (dm k y) (List.mem_of_getElem? (gL hi))
    omega)
  have:=h.p;have:=h.m;have:=h.t;unfold vv lens yN.nN yP.nN l9;rw[List.length_set]at h3;simp only[List.length_set];omega
 ·exact hz
theorem MZ(k:C6)(hz:vv k<=1048576):vv (iE k)<=1048576:=by
 unfold iE;split
 ·exact hz
 ·simp[vv,zC,lens,yN.nN,yP.nN]
theorem Qt(k:C6)(y r s:Int)(hz:vv k<=1048576):vv (zZ k y r s)<=1048576:=by
 unfold zZ;split
 ·rename_i h0;obtain⟨hk,hi,-,-⟩:=lh h0;exact Sd k y r s 0 false hk hi hz
 ·exact MZ k hz
end
end Go.Proofs.YtbiigfbhhkiodaaGreatDoor
