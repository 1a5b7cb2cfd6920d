import Derived.Test.YtbiigfbhhkiodaaGreatDoorJ8Both
set_option maxHeartbeats 16000000
set_option maxRecDepth 100000
namespace Go.Proofs.YtbiigfbhhkiodaaGreatDoor
open Go.RowKit
open Go.Sort (grow)
section
open Go.Proofs.Tryz
def cG(wr w:World)(B d:Nat)(a1:OA)(c1:Nat)(a2:OA)(c2:Nat)(a3:OA)(c3:Nat)(k:C6)(i:Nat)(P:Nat->Prop)(N:tx.T7)(n:Int)(e:Ending)(w':World):Prop:=(n≠0/\o9 wr k n e w')\/(n=0/\e=.returned (.tuple #[])/\(∃u P',DB w' B d a1 c1 a2 c2 a3 c3 k i u N P'/\∀q,P' q->P q\/w.1.size<=q)/\dV d w w')
def Jn(t:tx.T7)(r s v:Int)(b:Bool):S5:=⟨r,s,v,b,(tx.G5 t.a r s).i⟩
noncomputable def Gv(k:C6)(t:tx.T7)(r s v:Int)(b:Bool):tx.T7:=tx.dL (wM k t r s) (Jn (wM k t r s) r s v b)
noncomputable def Nh(k:C6)(t:tx.T7)(r s v:Int)(b:Bool):Int:=if yU k t r s=0 then(if GG k t r s=true then PZ (wM k t r s) (Jn (wM k t r s) r s v b)else 8)else yU k t r s
theorem R5{k:C6}{t:tx.T7}{r s:Int}(hT:tx.kv t=true)(h:yU k t r s=0):(wM k t r s).a.length<=13/\(∀m∈(wM k t r s).a,tx.bS m=true)/\tx.uZ (wM k t r s).a/\(wM k t r s).ai=t.ai:=by
 have ht:=tx.GN hT;have hl:=(tx.gG hT).1;unfold wM;split
 ·exact⟨by omega,ht.1,ht.2,rfl⟩
 ·rename_i hs;unfold Gt;split
  ·exact⟨by omega,ht.1,ht.2,rfl⟩
  ·rename_i hn;obtain⟨n,IG⟩:=uD (qc (jT k r) r s);have nR:n.b=r/\n.e=s:=by rw[<-IG];exact⟨rfl,rfl⟩
   have hb:tx.eT t n=true:=by
    rw[yU,if_neg hs,Gs,if_neg hn]at h;by_cases hc:sG k r=true
    ·rw[if_pos hc,JX,IG]at h;split at h
     ·unfold MB at h;split at h
      ·assumption
      ·cases h
     ·cases h
    ·rw[if_neg hc]at h;cases h
   rw[IG];have jD:tx.kS t.a n.b n.e=none:=by rw[nR.1,nR.2];simpa using hn
   simp only[tx.eT,Bool.and_eq_true,jD,Option.isSome_none,Bool.false_or,Bool.not_eq_true',decide_eq_false_iff_not]at hb
   have e:tx.dR t n=⟨t.id,t.l,t.o,t.q,tx.oF t.a n,t.ai,t.az⟩:=by
    rw[tx.dR,if_pos hb.1,jD];simp[hb.2]
   rw[e];refine⟨by rw[tx.Ra];omega,fun m hm=>?_,tx.MU ht.2 ht.1 hb.1.2 jD,rfl⟩;rcases List.mem_append.1 ((tx.uG t.a n).mem_iff.1 hm)with h1|h1
   ·exact ht.1 m h1
   ·rw[List.mem_singleton.1 h1];exact hb.1.2
theorem Nl(wr w:World)(B d:Nat)(a1:OA)(c1:Nat)(a2:OA)(c2:Nat)(a3:OA)(c3:Nat)(k:C6)(i:Nat)(u:tx.TV)(t:tx.T7)(P:Nat->Prop)(r s v:Int)(b:Bool)(hk:aD k=true)(kP:df.L k)(h:df.Rd wr a1 c1 a2 c2 a3 c3 k)(hw:Below wr.1.size wr w)(Kt:wr.1.size<=d)(hd:DB w B d a1 c1 a2 c2 a3 c3 k i u t P)(hl:tx.TL t)(Ip:B<=w.1.size)(hT:tx.kv t=true)(hr:aW 0 5 r=true)(fI:aW 0 5 s=true):
  Calls prog 26 #[.pointer (some ⟨d,0,none⟩),.agg #[vI r,vI s],vI v,.bool b] w (cG wr w B d a1 c1 a2 c2 a3 c3 k i P (Gv k t r s v b) (Nh k t r s v b)):=by
 obtain⟨U0,kN,lD,nO,sM⟩:=iI w [vI r,vI s] 56;have gb:=au hw lD;have cS:=UG U0 B d a1 c1 a2 c2 a3 c3 k i u t P r s hk kP (h.later gb) (hd.later lD) hl (by have:=lD.size;omega) hT hr fI;have H:=xZ lD sM nO gb Kt hd.bx.2.2 Ip (tm hT hk kP h hr (And.intro fI hl));have p0:=nO.c2;rw[kN]at p0;clear lD nO sM gb h hk hd hl Ip hT hr fI kP hw Kt;go_enter func26,ntmps26;go_wp2_with fail;rw[<-kN];clear kN p0;refine cS.mono ?_;clear cS;intro e W1 hA;rcases hA with ⟨eO,hr⟩|⟨hz,rfl,⟨u2,P2,nD,AX⟩,qG⟩
 ·have HX:Hid (cG wr w B d a1 c1 a2 c2 a3 c3 k i P (Gv k t r s v b) (Nh k t r s v b) e W1):=by
   have hC:Nh k t r s v b=yU k t r s:=by rw[Nh,if_neg eO]
   unfold Hid;rw[hC];exact .inl ⟨eO,hr.low H.out.2.2.2.1⟩
  obtain⟨e1,d1,e2,d2,e3,d3,P2,rfl,-,-⟩:=hr;go_wp2;exact⟨rfl,HX.out⟩
 have Vj:=R5 H.out.2.2.2.2.2.2.2.1 hz;have eA:tx.TL (wM k t r s):=⟨by have:=Vj.1;unfold maxLen;omega,by rw[Vj.2.2.2];exact H.out.2.2.2.2.2.2.2.2.2.2.2.2.2.2⟩
 obtain⟨N,hN⟩:=uD (wM k t r s);obtain⟨x,hx⟩:=uD (Nq k t r s);have gE:Gv k t r s v b=tx.dL N (Jn N r s v b):=by rw[Gv,hN]
 have YU:Nh k t r s v b=if GG k t r s=true then PZ N (Jn N r s v b)else 8:=by rw[Nh,if_pos hz,hN]
 rw[hN]at Vj eA nD;rw[hx];have Te:=H.out.2.2.2.1.trans (qG.below H.out.2.2.2.2.1 H.out.2.2.2.1.size);have p7:=H.out.2.2.2.2.2.1;have xk:=H.out.2.2.1.aj (qG.block _ H.out.2.2.1.2.2 (by omega)) qG.size;have HR:=xZ (H.out.2.2.2.2.2.2.2.2.2.2.1.later Te) H.out.2.2.2.2.2.2.2.2.1 nD (show(N.a.length<=100/\(∀m∈N.a,tx.bS m=true)/\tx.uZ N.a)from⟨by have:=Vj.1;omega,Vj.2.1,Vj.2.2.1⟩) (show True from trivial) H.out.2.2.2.2.2.2.2.2.2.2.2.1 H.out.2.2.2.2.2.2.2.2.2.2.2.2.1 (show True from trivial)
 cases hu:GG k t r s with
 | false=>
  have HX0:Hid (Nh k t r s v b=8):=by unfold Hid;rw[YU,hu];rfl
  have hr:=fO W1 d a1 c1 a2 c2 a3 c3 k [vI (i:Int),vI N.id,vI N.l,vI N.o,vI N.q,.slice u2.ar N.a.length u2.cr,.slice u2.ah N.ai.length u2.ch,vI N.az] 8 HR.out.2.1 HR.out.1 nD.bx;have Sj:=af Te;clear hu gE YU hN hx hz Vj eA AX qG Te xk p7 nD;go_wp2_with fail;refine hr.mono ?_;clear hr;intro e w2 hr;have HX:Hid (cG wr w B d a1 c1 a2 c2 a3 c3 k i P (Gv k t r s v b) (Nh k t r s v b) e w2):=.inl ⟨by rw[HX0.out];decide,by rw[HX0.out];exact hr.low Sj.out⟩;obtain⟨e1,d1,e2,d2,e3,d3,P3,rfl,-,-⟩:=hr;go_wp2;exact⟨rfl,HX.out⟩
 | true=>
  rw[hu,if_pos rfl]at YU;have HQ:=QG AX qG Te xk.2.2 eA gE YU;have hS:(fun Z:World=>Below W1.1.size W1 Z/\Bx Z d [vI k.v,vI k.u,.slice a1 k.f.length c1,.slice a2 k.aa.length c2,.slice a3 k.c.length c3,.bool k.w,vI (i:Int),vI N.id,vI N.l,vI N.o,vI N.q,.slice u2.ar N.a.length u2.cr,.slice u2.ah N.ai.length u2.ch,vI N.az]/\Bx Z w.1.size [vI r,vI s]) W1.drew:=⟨aK.drew,nD.bx.later (aK.drew),xk.later (aK.drew)⟩
  clear hu gE YU hN hx hz Vj eA AX qG Te xk p7 nD;go_wp2_with fail;refine aT (fun z=>z==12) (fun Z:World=>Below W1.1.size W1 Z/\Bx Z d [vI k.v,vI k.u,.slice a1 k.f.length c1,.slice a2 k.aa.length c2,.slice a3 k.c.length c3,.bool k.w,vI (i:Int),vI N.id,vI N.l,vI N.o,vI N.q,.slice u2.ar N.a.length u2.cr,.slice u2.ah N.ai.length u2.ch,vI N.az]/\Bx Z w.1.size [vI r,vI s]) (by kernel_rfl) ?_;generalize W1.drew=Wd at *;refine bf 0 rfl hS ?_;simp only[Act.put];refine Nr 1 (.pointer (some ⟨d,0,none⟩)) rfl ?_ hS ?_
  ·(intro w _;go_simp)
  simp only[Act.put];refine bf 2 rfl hS ?_;simp only[Act.put];refine bf 3 rfl hS ?_;simp only[Act.put];refine fU 4 (.slice u2.ar N.a.length u2.cr) rfl ?_ hS ?_
  ·(intro w aA;have eJ:=aA.2.1.1 11 _ rfl;clear hS aA;go_simp)
  simp only[Act.put];refine fU 6 (.agg #[vI r,vI s]) rfl ?_ hS ?_
  ·(intro w aA;have q0:=aA.2.2.1 0 _ rfl;have q1:=aA.2.2.1 1 _ rfl;clear hS aA;go_simp)
  simp only[Act.put];refine fZ (rs:=[5,11]) (by kernel_rfl) (by simp) ?_;refine gQ.cons rfl (fun K hK=>?lA) (gQ.cons rfl (fun K hK=>?lB) gQ.nil)
  case' lA=>
   go_simp;have cP:=tx.kM Wd u2.ar u2.cr N.a HR.out.2.2.2.1.1 (HR.out.2.2.1.ow.sl.later hS.1).r HR.out.2.2.2.1.2.1 HR.out.2.2.2.1.2.2;refine cP.mono ?_;clear cP;rintro e X ⟨p,mb,nn,pv,rfl,hp,-,bX⟩;replace hS:=nH (au hS.1 bX) (hS.2.1.later bX) (hS.2.2.later bX);generalize Wd.1.size=pB at hp;clear bX;refine hK.out _ _ (fun _=>hS) ?_;clear hK K;clear Wd;generalize X=Wd at *;refine fZ (rs:=[7,11]) (by kernel_rfl) (by simp) ?_;refine gQ.cons rfl (fun K hK=>?Z5) (gQ.cons rfl (fun K hK=>?Z6) gQ.nil)
   case' Z5=>
    go_simp;have cF:=tx.kZ Wd pB p mb nn pv N.a r s (by have:=HR.out.2.2.2.1.1;omega) hp HR.out.2.2.2.2.2.1 HR.out.2.2.2.2.2.2.1;refine cF.mono ?_;clear cF;rintro e X ⟨rfl,bX⟩;replace hS:=nH (au hS.1 bX) (hS.2.1.later bX) (hS.2.2.later bX);clear bX hp;refine hK.out _ _ (fun _=>hS) ?_;clear hK K;clear Wd;generalize X=Wd at *;refine bf 8 rfl hS ?_;simp only[Act.put];refine bf 9 rfl hS ?_;simp only[Act.put];refine bf 10 rfl hS ?_;simp only[Act.put];refine bG 11 rfl (fun K hK=>?_);go_simp;obtain⟨X,hX⟩:=bO (Wd.alloc (.cells #[vI 0,vI 0,vI 0,vI 0,.bool false] 99));obtain⟨bb,gu⟩:=bO Wd.1.size;have bX:Below Wd.1.size Wd X:=by rw[hX];exact aK.alloc aU _
    have xV:Bx X bb [vI 0,vI 0,vI 0,vI 0,.bool false]:=by rw[hX,gu];exact Bx.made Wd [vI 0,vI 0,vI 0,vI 0,.bool false] _
    rw[<-hX,<-gu];have HB:Hid (W1.1.size<=bb):=by unfold Hid;have:=hS.1.size;omega
    replace hS:=nH (au hS.1 bX) (hS.2.1.later bX) (hS.2.2.later bX);clear hX gu bX;refine hK.out _ _ (fun _=>hS) ?_;clear hK K;clear Wd;generalize X=Wd at *
   case' Z6=>
    go_simp;obtain⟨X,hX⟩:=bO (Wd.alloc (.cells #[vI 0,vI 0,vI 0,vI 0,.bool false] 99));obtain⟨bb,gu⟩:=bO Wd.1.size;have bX:Below Wd.1.size Wd X:=by rw[hX];exact aK.alloc aU _
    have xV:Bx X bb [vI 0,vI 0,vI 0,vI 0,.bool false]:=by rw[hX,gu];exact Bx.made Wd [vI 0,vI 0,vI 0,vI 0,.bool false] _
    rw[<-hX,<-gu];have HB:Hid (W1.1.size<=bb):=by unfold Hid;have:=hS.1.size;omega
    replace hp:=hp.later bX;replace hS:=nH (au hS.1 bX) (hS.2.1.later bX) (hS.2.2.later bX);clear hX gu bX;refine hK.out _ _ (fun _=>hS) ?_;clear hK K;clear Wd;generalize X=Wd at *;refine bG 7 rfl (fun K hK=>?_);go_simp;have cF:=tx.kZ Wd pB p mb nn pv N.a r s (by have:=HR.out.2.2.2.1.1;omega) hp HR.out.2.2.2.2.2.1 HR.out.2.2.2.2.2.2.1;refine cF.mono ?_;clear cF;rintro e X ⟨rfl,bX⟩;replace xV:=xV.later bX;replace hS:=nH (au hS.1 bX) (hS.2.1.later bX) (hS.2.2.later bX);clear bX hp;refine hK.out _ _ (fun _=>hS) ?_;clear hK K;clear Wd;generalize X=Wd at *;refine bf 8 rfl hS ?_;simp only[Act.put];refine bf 9 rfl hS ?_;simp only[Act.put];refine bf 10 rfl hS ?_;simp only[Act.put]
  case' lB=>
   go_simp;obtain⟨X,hX⟩:=bO (Wd.alloc (.cells #[vI 0,vI 0,vI 0,vI 0,.bool false] 99));obtain⟨bb,gu⟩:=bO Wd.1.size;have bX:Below Wd.1.size Wd X:=by rw[hX];exact aK.alloc aU _
   have xV:Bx X bb [vI 0,vI 0,vI 0,vI 0,.bool false]:=by rw[hX,gu];exact Bx.made Wd [vI 0,vI 0,vI 0,vI 0,.bool false] _
   rw[<-hX,<-gu];have HB:Hid (W1.1.size<=bb):=by unfold Hid;have:=hS.1.size;omega
   replace hS:=nH (au hS.1 bX) (hS.2.1.later bX) (hS.2.2.later bX);clear hX gu bX;refine hK.out _ _ (fun _=>hS) ?_;clear hK K;clear Wd;generalize X=Wd at *;refine bG 5 rfl (fun K hK=>?_);go_simp;have cP:=tx.kM Wd u2.ar u2.cr N.a HR.out.2.2.2.1.1 (HR.out.2.2.1.ow.sl.later hS.1).r HR.out.2.2.2.1.2.1 HR.out.2.2.2.1.2.2;refine cP.mono ?_;clear cP;rintro e X ⟨p,mb,nn,pv,rfl,hp,-,bX⟩;replace xV:=xV.later bX;replace hS:=nH (au hS.1 bX) (hS.2.1.later bX) (hS.2.2.later bX);generalize Wd.1.size=pB at hp;clear bX;refine hK.out _ _ (fun _=>hS) ?_;clear hK K;clear Wd;generalize X=Wd at *;refine bG 7 rfl (fun K hK=>?_);go_simp;have cF:=tx.kZ Wd pB p mb nn pv N.a r s (by have:=HR.out.2.2.2.1.1;omega) hp HR.out.2.2.2.2.2.1 HR.out.2.2.2.2.2.2.1;refine cF.mono ?_;clear cF;rintro e X ⟨rfl,bX⟩;replace xV:=xV.later bX;replace hS:=nH (au hS.1 bX) (hS.2.1.later bX) (hS.2.2.later bX);clear bX hp;refine hK.out _ _ (fun _=>hS) ?_;clear hK K;clear Wd;generalize X=Wd at *;refine bf 8 rfl hS ?_;simp only[Act.put];refine bf 9 rfl hS ?_;simp only[Act.put];refine bf 10 rfl hS ?_;simp only[Act.put]
  all_goals
   have c0:=xV.1 0 _ rfl;have f0:=xV.2.1 0;have c1:=xV.1 1 _ rfl;have f1:=xV.2.1 1;have c2:=xV.1 2 _ rfl;have f2:=xV.2.1 2;have c3:=xV.1 3 _ rfl;have f3:=xV.2.1 3;have c4:=xV.1 4 _ rfl;have f4:=xV.2.1 4;refine bG 12 rfl (fun K hK=>?_);go_simp;refine hK.out _ _ (fun h=>absurd (show false=true from h.symm.trans (by kernel_rfl)) (by decide)) ?_;clear hK K;refine bG 13 rfl (fun K hK=>?_);go_simp;refine hK.out _ _ (fun h=>absurd (show false=true from h.symm.trans (by kernel_rfl)) (by decide)) ?_;clear hK K;refine bH (by kernel_rfl) ?_ _;clear c0 f0 c1 f1 c2 f2 c3 f3 c4 f4;obtain⟨f,hf⟩:=uD (tx.G5 N.a r s);have HF:=af hf;rw[hf];clear hf;obtain⟨Y,hY⟩:=bO (cO Wd bb 0 [vI f.b,vI f.e,vI f.i,vI f.g,.bool f.j]);have yb:=xV.put [vI f.b,vI f.e,vI f.i,vI f.g,.bool f.j] rfl;rw[<-hY]at yb;have rR:Y=(((((Wd.setCell ⟨bb,0,none⟩ (vI f.b)).setCell ⟨bb,1,none⟩ (vI f.e)).setCell ⟨bb,2,none⟩ (vI f.i)).setCell ⟨bb,3,none⟩ (vI f.g)).setCell ⟨bb,4,none⟩ (.bool f.j)):=hY;rw[<-rR];have dQ:Y.1.size=Wd.1.size:=by rw[hY];exact aS _ _ _ _
   have dS:∀q,q≠bb->Y.1[q]?=Wd.1[q]?:=fun q hq=>by rw[hY];exact aO hq _ _ _
   have DW:=HB.out;have Al:=HQ.out.2.2.2.1;have BY:Hid (Below W1.1.size W1 Y):=by unfold Hid;rw[hY];exact aI DW _ _ _ hS.1
   have xk:=hS.2.2.aj (dS _ (by omega)) (Nat.le_of_eq dQ.symm);have nD:=HR.out.2.2.1.later BY.out;have cA:=J8 Y B d a1 c1 a2 c2 a3 c3 k i u2 N P2 (Jn N r s v b) HR.out.2.1 (HR.out.1.later BY.out) nD HQ.out.2.2.2.2.1 (by have:=BY.out.size;have:=H.out.2.2.2.2.2.2.1;omega);obtain⟨z,Vm⟩:=uD (Jn N r s v b);have tc:=af Vm;have e0:z.b=r:=by rw[<-Vm];rfl
   have e1:z.e=s:=by rw[<-Vm];rfl
   have e2:z.g=v:=by rw[<-Vm];rfl
   have e3:z.j=b:=by rw[<-Vm];rfl
   have e4:z.i=f.i:=by rw[<-Vm,<-HF.out];rfl
   rw[Vm,e0,e1,e2,e3,e4]at cA;have y2:=yb.1 2 _ rfl;have k0:=xk.c2;clear rR hY yb dQ dS hS xV DW Al xk nD Vm e0 e1 e2 e3 e4;go_wp2_with fail;refine cA.mono ?_;clear cA y2 k0;intro e W3 hA
   have HE:Hid (cG wr w B d a1 c1 a2 c2 a3 c3 k i P (Gv k t r s v b) (Nh k t r s v b) e W3):=by
    unfold Hid;rw[HQ.out.2.2.2.2.2.1,HQ.out.2.2.2.2.2.2,tc.out];rcases hA with ⟨eO,hr⟩|⟨hz,he,⟨u3,P3,vn,xf⟩,xt⟩
    ·exact .inl ⟨eO,hr.low (au HQ.out.2.2.1 BY.out)⟩
    ·have g1:=H.out.1.size;have g2:=HQ.out.2.1.size;have g3:=BY.out.size;exact .inr ⟨hz,he,⟨u3,P3,vn,fun q hq=>(xf q hq).elim (fun h=>(HQ.out.1 q h).imp id (fun h=>by omega)) (fun h=>.inr (by omega))⟩,((((dV.refl d w).bN H.out.1).trans HQ.out.2.1).bN BY.out).trans xt⟩
   rcases hA with ⟨eO,hr⟩|⟨hz,rfl,-,-⟩
   ·obtain⟨e1,d1,e2,d2,e3,d3,P3,rfl,-,-⟩:=hr;go_wp2;exact⟨rfl,HE.out⟩
   ·go_wp2;exact bodyPost_end (v:=.tuple #[]) (by simp[results,results26]) rfl HE.out
end
section
open Go.Proofs.Tryz
noncomputable def wO(k:C6)(y r s v:Int)(b:Bool):Int:=if DU k r s=0 then Nh k (dm k y) r s v b else 5
noncomputable def Af(k:C6)(y r s v:Int)(b:Bool):C6:=if wO k y r s v b=0 then l9 k (ib k.c y) (Gv k (dm k y) r s v b)else k
noncomputable def AR(k:C6)(y r s:Int):Int:=if fK k y=0 then wO k y r s 0 false else fK k y
noncomputable def zZ(k:C6)(y r s:Int):C6:=if fK k y=0 then Af k y r s 0 false else iE k
theorem NS(w:World)(q1 q2 q3 q4:Nat)(a1:OA)(c1:Nat)(a2:OA)(c2:Nat)(a3:OA)(c3:Nat)(k:C6)(y r s:Int)(hl:df.L k)(h:df.Rd w a1 c1 a2 c2 a3 c3 k)(x1:Bx w q1 (dU a1 c1 a2 c2 a3 c3 k))(x2:Bx w q2 [vI y])(x3:Bx w q3 [vI r])(x4:Bx w q4 [vI s]):
  Calls prog 24 #[.pointer (some ⟨q1,0,none⟩),.pointer (some ⟨q2,0,none⟩),.pointer (some ⟨q3,0,none⟩),.pointer (some ⟨q4,0,none⟩)] w (xg w (zZ k y r s) (AR k y r s)):=by
 obtain⟨W0,dO,JS,cq,a9⟩:=iI w sH 32;have hc:=r9 W0 a1 c1 a2 c2 a3 c3 k y hl (h.later JS);have y1:=x1.later JS;have p0:=y1.c6;have p6:=(x2.later JS).1 0 _ rfl;have H:=QG JS cq a9 hl h (x3.later JS) (x4.later JS);rw[dO]at p0 p6;clear JS cq a9 y1 h x1 x2 x3 x4 hl;go_enter func24,ntmps24;go_wp2_with fail;rw[<-dO];clear dO;refine hc.mono ?_;clear hc p0 p6;rintro e w1 (⟨hn,hr⟩|⟨hz,d,u0,u1,u2,u3,P,rfl,bL,how,Vf,Kt,b1⟩)
 ·have HX:Hid (xg w (zZ k y r s) (AR k y r s) e w1):=by
   have hC:AR k y r s=fK k y:=by rw[AR,if_neg hn]
   have hK:zZ k y r s=iE k:=by rw[zZ,if_neg hn]
   unfold Hid;rw[hK,hC];exact(hr.low H.out.1).d hn
  obtain⟨b1,d1,b2,d2,b3,d3,P,rfl,-,-⟩:=hr;go_wp2;exact⟨rfl,HX.out⟩
 obtain⟨hk,hi,-,-⟩:=lh hz;have hT:=(BL hk).2.1 _ hi;have N7:=H.out.2.2.2.1.ts _ (List.mem_of_getElem? (gL hi));have D1:=xZ (show DB w1 W0.1.size d a1 c1 a2 c2 a3 c3 k (ib k.c y) ⟨u0,u1,u2,u3⟩ (dm k y) P from⟨bL,how,Vf,Kt⟩) b1 Kt hz hk hi hT N7;have BW:=af (au H.out.1 b1);have m3:=(H.out.2.2.2.2.2.1.later b1).1 0 _ rfl;have m4:=(H.out.2.2.2.2.2.2.later b1).1 0 _ rfl;clear bL how Vf Kt b1 hz hi hT N7;by_cases xR:DU k r s=0
 case neg=>
  have xW:=EO w1 d a1 c1 a2 c2 a3 c3 k [vI (ib k.c y:Int),vI (dm k y).id,vI (dm k y).l,vI (dm k y).o,vI (dm k y).q,.slice (⟨u0,u1,u2,u3⟩:tx.TV).ar (dm k y).a.length (⟨u0,u1,u2,u3⟩:tx.TV).cr,.slice (⟨u0,u1,u2,u3⟩:tx.TV).ah (dm k y).ai.length (⟨u0,u1,u2,u3⟩:tx.TV).ch,vI (dm k y).az] r s hk H.out.2.2.2.1 (H.out.2.2.2.2.1.later BW.out) D1.out.1.bx xR;have AP:=af xR;clear xR hk;go_wp2_with fail;refine xW.mono ?_;clear xW m3 m4;intro e w2 hr
  have HX:Hid (xg w (zZ k y r s) (AR k y r s) e w2):=by
   have hC:AR k y r s=5:=by rw[AR,if_pos D1.out.2.2.2.1,wO,if_neg AP.out]
   have hK:zZ k y r s=k:=by rw[zZ,if_pos D1.out.2.2.2.1,Af,wO,if_neg AP.out];rfl
   unfold Hid;rw[hK,hC];exact(hr.low BW.out).d (by decide)
  obtain⟨b1,d1,b2,d2,b3,d3,P2,rfl,-,-⟩:=hr;go_wp2;exact⟨rfl,HX.out⟩
 have Zi:=BG w1 d a1 c1 a2 c2 a3 c3 k [vI (ib k.c y:Int),vI (dm k y).id,vI (dm k y).l,vI (dm k y).o,vI (dm k y).q,.slice (⟨u0,u1,u2,u3⟩:tx.TV).ar (dm k y).a.length (⟨u0,u1,u2,u3⟩:tx.TV).cr,.slice (⟨u0,u1,u2,u3⟩:tx.TV).ah (dm k y).ai.length (⟨u0,u1,u2,u3⟩:tx.TV).ch,vI (dm k y).az] r s hk H.out.2.2.2.1 (H.out.2.2.2.2.1.later BW.out) D1.out.1.bx xR;have AP:=dw xR (Qc hk xR);clear xR hk;go_wp2_with fail;refine Zi.mono ?_;clear Zi m3 m4;rintro e w2 ⟨rfl,b2⟩;have B2:=af (au BW.out b2);have cS:=Nl w w2 W0.1.size d a1 c1 a2 c2 a3 c3 k (ib k.c y) ⟨u0,u1,u2,u3⟩ (dm k y) P r s 0 false D1.out.2.2.2.2.1 H.out.2.2.2.1 H.out.2.2.2.2.1 B2.out (by have:=H.out.2.2.1;have:=D1.out.2.2.1;omega) (D1.out.1.later b2) D1.out.2.2.2.2.2.2.2 (by have:=D1.out.2.1.size;have:=b2.size;omega) D1.out.2.2.2.2.2.2.1 AP.out.2.1 AP.out.2.2;go_wp2_with fail;refine cS.mono ?_;clear cS;intro e w3 hA;rcases hA with ⟨eO,hr⟩|⟨IP,rfl,⟨u',P',nD,AX⟩,qG⟩
 ·have HX:Hid (xg w (zZ k y r s) (AR k y r s) e w3):=by
   have hC:AR k y r s=Nh k (dm k y) r s 0 false:=by rw[AR,if_pos D1.out.2.2.2.1,wO,if_pos AP.out.1]
   have hK:zZ k y r s=k:=by rw[zZ,if_pos D1.out.2.2.2.1,Af,wO,if_pos AP.out.1,if_neg eO]
   unfold Hid;rw[hK,hC];exact hr.d eO
  obtain⟨b1,d1,b2,d2,b3,d3,P2,rfl,-,-⟩:=hr;go_wp2;exact⟨rfl,HX.out⟩
 have Xa:Below w.1.size w w3:=B2.out.trans (qG.below (by have:=H.out.2.2.1;have:=D1.out.2.2.1;omega) B2.out.size);obtain⟨va,vc,vh,vd⟩:=u';have PG:=H.out.2.2.1;have dv:=D1.out.2.2.1
 have hC:Hid (AR k y r s=0/\zZ k y r s=l9 k (ib k.c y) (Gv k (dm k y) r s 0 false)):=by
  have h0:wO k y r s 0 false=0:=by rw[wO,if_pos AP.out.1];exact IP
  exact⟨by rw[AR,if_pos D1.out.2.2.2.1];exact h0,by rw[zZ,if_pos D1.out.2.2.2.1,Af,if_pos h0]⟩
 have xz:Bx w3 w.1.size sH:=by
  have hx:=(H.out.2.1.later D1.out.2.1).later b2;exact hx.aj (qG.block _ hx.2.2 (by omega)) qG.size
 have DX:=Ia w3 W0.1.size d a1 c1 a2 c2 a3 c3 k (ib k.c y) (Gv k (dm k y) r s 0 false) va vc vh vd P' D1.out.2.2.2.2.1 D1.out.2.2.2.2.2.1 (H.out.2.2.2.2.1.later Xa) nD.bx nD.ow (by have:=D1.out.2.1.size;have:=b2.size;have:=qG.size;omega);have H3:=fP Xa xz PG;clear Xa nD AX qG PG dv b2 IP xz;go_wp2_with fail;refine DX.mono ?_;clear DX;rintro e w5 ⟨e1,g1,e2,g2,e3,g3,PP,rfl,how,b5⟩;have KE:=fP how (au H3.out.1 b5) (H3.out.2.1.later b5);clear how b5;generalize l9 k (ib k.c y) (Gv k (dm k y) r s 0 false)=N at *;obtain⟨Z,hZ⟩:=bO (cO w5 w.1.size 0 (dU e1 g1 e2 g2 e3 g3 N));have zb:=KE.out.2.2.put (dU e1 g1 e2 g2 e3 g3 N) rfl;rw[<-hZ]at zb;have SV:Hid (Z=((((((w5.setCell ⟨w.1.size,0,none⟩ (vI N.v)).setCell ⟨w.1.size,1,none⟩ (vI N.u)).setCell ⟨w.1.size,2,none⟩ (.slice e1 N.f.length g1)).setCell ⟨w.1.size,3,none⟩ (.slice e2 N.aa.length g2)).setCell ⟨w.1.size,4,none⟩ (.slice e3 N.c.length g3)).setCell ⟨w.1.size,5,none⟩ (.bool N.w))):=hZ;have zs:Z.1.size=w5.1.size:=by rw[hZ];exact aS _ _ _ _
 have zf:∀q,q≠w.1.size->Z.1[q]?=w5.1[q]?:=fun q hq=>by rw[hZ];exact aO hq _ _ _
 have zo:Below w.1.size w Z:=by rw[hZ];exact aI aU _ _ _ KE.out.2.1
 have PG:=H3.out.2.2
 have HX:Hid (xg w (zZ k y r s) (AR k y r s) (.returned (.agg #[vI N.v,vI N.u,.slice e1 N.f.length g1,.slice e2 N.aa.length g2,.slice e3 N.c.length g3,.bool N.w])) Z):=by
  unfold Hid;rw[hC.out.1,hC.out.2];exact⟨e1,g1,e2,g2,e3,g3,PP,.inl ⟨rfl,rfl⟩,(KE.out.1.aM (Nat.le_of_eq zs.symm) (fun q hq=>zf q (by have:=(KE.out.1.of hq).1;omega))).low (by omega),zo⟩
 have q0:=KE.out.2.2.1 0 _ rfl;have f0:=KE.out.2.2.2.1 0;have z0:=zb.1 0 _ rfl;have q1:=KE.out.2.2.1 1 _ rfl;have f1:=KE.out.2.2.2.1 1;have z1:=zb.1 1 _ rfl;have q2:=KE.out.2.2.1 2 _ rfl;have f2:=KE.out.2.2.2.1 2;have z2:=zb.1 2 _ rfl;have q3:=KE.out.2.2.1 3 _ rfl;have f3:=KE.out.2.2.2.1 3;have z3:=zb.1 3 _ rfl;have q4:=KE.out.2.2.1 4 _ rfl;have f4:=KE.out.2.2.2.1 4;have z4:=zb.1 4 _ rfl;have q5:=KE.out.2.2.1 5 _ rfl;have f5:=KE.out.2.2.2.1 5;have z5:=zb.1 5 _ rfl;clear hZ zb zs zf zo PG;go_wp2;rw[<-SV.out];exact bodyPost_ret (v:=.agg #[vI N.v,vI N.u,.slice e1 N.f.length g1,.slice e2 N.aa.length g2,.slice e3 N.c.length g3,.bool N.w]) (by simp[results,results24,go_sem,z0,z1,z2,z3,z4,z5]) rfl HX.out
end
section
open Go.Proofs.Tryz
def PV(w W0:World)(m:M4)(s3:Value)(wx:World):Prop:=∃(p:Nat) (a':OA) (c':Nat),s3=.pointer (some ⟨p,0,none⟩)/\C3 w.1.size p m.x wx (.slice none 0 0) (.slice none 0 0) (.slice a' m.ax.length c')/\MR (w.1.size+2) p wx (.slice none 0 0) (.slice none 0 0) (.slice a' m.ax.length c') [] [] m.ax gz gz/\Below (w.1.size+1) W0 wx
theorem La(w:World)(v:MV)(m:M4)(hm:VP m)(hs:Ag w v m):
  Calls prog 89 #[v.val m] w fun e w'=>∃(u:MV) (p:Nat) (gk gr:Nat->Nat),e=.returned (u.val m)/\MR (w.1.size+2) p w' (.slice u.ac m.ag.length u.cc) (.slice u.al m.h.length u.cl) (.slice u.ad m.ax.length u.cd) m.ag m.h m.ax gk gr/\Below w.1.size w w':=by
 obtain⟨ac,cc,al,cl,ad,cd⟩:=v;simp only[MV.val];obtain⟨W0,dO⟩:=bO (w.alloc (.cells #[.bool m.x,.slice ac m.ag.length cc,.slice al m.h.length cl,.slice ad m.ax.length cd] 87));have b0:Below w.1.size w W0:=by subst dO;exact aK.alloc aU _
 have s0:W0.1.size=w.1.size+1:=by subst dO;simp
 have c0:∀X,Below (w.1.size+1) W0 X->X.cell? ⟨w.1.size,0,none⟩=some (.bool m.x)/\X.cell? ⟨w.1.size,1,none⟩=some (.slice ac m.ag.length cc)/\X.cell? ⟨w.1.size,2,none⟩=some (.slice al m.h.length cl)/\X.cell? ⟨w.1.size,3,none⟩=some (.slice ad m.ax.length cd):=fun X hX=>by
  refine⟨(hX.cell (p:=⟨w.1.size,0,none⟩) (by simp)).trans ?_,(hX.cell (p:=⟨w.1.size,1,none⟩) (by simp)).trans ?_,(hX.cell (p:=⟨w.1.size,2,none⟩) (by simp)).trans ?_,(hX.cell (p:=⟨w.1.size,3,none⟩) (by simp)).trans ?_⟩;all_goals (subst dO;go_simp)
 have H:=pI hm hs b0 s0;have HC:=af c0;clear hm hs b0 s0 c0;go_enter func89,ntmps89;go_upto_region 1 with fail
 go_cut[3]from 6 to 12 (fun s3 wx=>PV w W0 m s3 wx)
 case first=>
  obtain⟨W1,fA⟩:=bO ((W0.alloc (.cells #[.bool false,.slice none 0 0,.slice none 0 0,.slice none 0 0] 87)).drew);have b1:Below W0.1.size W0 W1:=by subst fA;exact(aK.alloc aU _).drew
  have s1:W1.1.size=w.1.size+2:=by subst fA;simp[H.out.2.2.2]
  have b1':Below (w.1.size+1) W0 W1:=b1.mono (by rw[H.out.2.2.2];exact Nat.le_refl _);obtain⟨ca,_,_,Yi⟩:=HC.out W1 b1'
  have Ab:W1.1[w.1.size+1]?=some (.cells #[.bool false,.slice none 0 0,.slice none 0 0,.slice none 0 0] 87 (0,0)):=by
   subst fA;rw[<-H.out.2.2.2];exact heap_alloc_new W0 _
  have GU:=And.intro ca Yi;refine bR 8 (fun X:World=>X.cell? ⟨w.1.size,0,none⟩=some (.bool m.x)/\X.cell? ⟨w.1.size,3,none⟩=some (.slice ad m.ax.length cd)) (by kernel_rfl) ?_;have KW:=nE (H.out.2.2.1.trans (b1'.mono (by omega))) b1' s1 Ab (show(∀X,Below W1.1.size W1 X->(fun X:World=>X.cell? ⟨w.1.size,0,none⟩=some (.bool m.x)/\X.cell? ⟨w.1.size,3,none⟩=some (.slice ad m.ax.length cd)) X)from fun X hX=>⟨(hX.cell (p:=⟨w.1.size,0,none⟩) (by show w.1.size<W1.1.size;omega)).trans ca,(hX.cell (p:=⟨w.1.size,3,none⟩) (by show w.1.size<W1.1.size;omega)).trans Yi⟩);clear b1 s1 b1' ca Yi Ab;subst dO;rw[<-fA];clear fA;refine eP 0 ?_ rfl ?_ GU ?_;rotate_left
  ·(intro w aA;go_simp;first|done|with_reducible rfl|exact aA.1|exact aA.2)
  simp only[Act.put];refine eP 1 ?_ rfl ?_ GU ?_;rotate_left
  ·(intro w aA;go_simp;first|done|with_reducible rfl|exact aA.1|exact aA.2)
  simp only[Act.put];refine eP 3 ?_ rfl ?_ GU ?_;rotate_left
  ·(intro w aA;go_simp;first|done|with_reducible rfl|exact aA.1|exact aA.2)
  simp only[Act.put];refine eP 4 ?_ rfl ?_ GU ?_;rotate_left
  ·(intro w aA;go_simp;first|done|with_reducible rfl|exact aA.1|exact aA.2)
  simp only[Act.put];refine lC (rs:=[2,7]) (by kernel_rfl) (by simp) ?_;refine sN.cons rfl (fun K hK=>?_) (sN.cons rfl (fun K hK=>?_) sN.nil)
  ·have bE:Below W1.1.size W1 (W1.alloc (.cells #[] 2)):=aK.alloc aU _;have sE:(W1.alloc (.cells #[] 2)).1.size=W1.1.size+1:=by simp
   have hE:(W1.alloc (.cells #[] 2)).1[W1.1.size]?=some (.cells #[] 2 (0,0)):=heap_alloc_new W1 _;have Ty:=KW.out.2.2.2.2 _ bE;go_simp;refine hK.out _ _ (fun _=>Ty) ?_;clear hK K;refine lC (rs:=[5,7]) (by kernel_rfl) (by simp) ?_;refine sN.cons rfl (fun K hK=>?_) (sN.cons rfl (fun K hK=>?_) sN.nil)
   ·obtain⟨a',c',WA,hr,hd,hg,hl⟩:=xC (W1.alloc (.cells #[] 2)) (w.1.size+2) (some ⟨W1.1.size,0,none⟩) 0 (vY hE (by have:=KW.out.2.2.1;omega)) m.ax (by have:=H.out.1.n;omega) 69 ad cd ((H.out.2.1.later KW.out.1).later bE).n (by have:=KW.out.2.2.1;omega);have bA:Below W1.1.size W1 WA:=bE.grown hg bE.size (fun k h=>by cases h;exact Nat.le_refl _);have GV:=KW.out.2.2.2.2 _ bA;have KA:=dw bA hd;clear hd hg hl bA bE sE hE;refine bJ _ rfl (.tmp 8) (.tmp 10) 69 rfl _ _ _ _ (by first|rfl|simp[Act.eval,Act.put]) (by first|rfl|simp[Act.eval,Act.put]) hr ?_;refine hK.out _ _ (fun _=>GV) ?_;clear hK K hr GU Ty;simp only[Act.put];refine eP 6 ?_ rfl ?_ GV ?_;rotate_left
    ·(intro w aA;go_simp;first|done|with_reducible rfl|exact aA.1|exact aA.2)
    simp only[Act.put];refine ed 7 rfl (fun K hK=>?_);go_simp;have bB:Below WA.1.size WA (WA.alloc (.cells #[.bool false,.slice none 0 0,.slice none 0 0,.slice none 0 0] 87)):=aK.alloc aU _;have Su:=KW.out.2.2.2.2 _ (KA.out.1.trans (bB.mono KA.out.1.size));refine hK.out _ _ (fun _=>Su) ?_;clear hK K bB Su GV;refine ed 8 rfl (fun K hK=>?_);go_simp;refine hK.out _ _ (fun h=>absurd rfl h) ?_;clear hK K;refine cZ (by kernel_rfl) ?_ _;go_wp2_with fail;go_meet;have q1:=KA.out.1.size;have q2:=KW.out.2.2.1;obtain⟨f1,f2⟩:=Qw (s:=w.1.size) (alive:=m.x) (X:=WA) (by omega) ((KA.out.1.block _ (by omega)).trans KW.out.2.2.2.1) KA.out.2;exact⟨WA.1.size,a',c',rfl,f1,f2,KW.out.2.1.trans ((KA.out.1.mono (by omega)).alloc (by omega) _)⟩
   ·have bZ:Below (W1.1.size+1) (W1.alloc (.cells #[] 2)) ((W1.alloc (.cells #[] 2)).alloc (.cells #[.bool false,.slice none 0 0,.slice none 0 0,.slice none 0 0] 87)):=aK.alloc (by rw[sE];exact Nat.le_refl _) _;have bX:=bE.trans (bZ.mono (by omega));have sX:((W1.alloc (.cells #[] 2)).alloc (.cells #[.bool false,.slice none 0 0,.slice none 0 0,.slice none 0 0] 87)).1.size=W1.1.size+2:=by simp
    have hq:=(bZ.block _ (by omega)).trans hE;have hp:((W1.alloc (.cells #[] 2)).alloc (.cells #[.bool false,.slice none 0 0,.slice none 0 0,.slice none 0 0] 87)).1[W1.1.size+1]?=some (.cells #[.bool false,.slice none 0 0,.slice none 0 0,.slice none 0 0] 87 (0,0)):=by rw[<-sE];exact heap_alloc_new _ _
    have dY:=KW.out.2.2.2.2 _ bX;obtain⟨a',c',WA,hr,hd,hg,hl⟩:=xC ((W1.alloc (.cells #[] 2)).alloc (.cells #[.bool false,.slice none 0 0,.slice none 0 0,.slice none 0 0] 87)) (w.1.size+2) (some ⟨W1.1.size,0,none⟩) 0 (vY hq (by have:=KW.out.2.2.1;omega)) m.ax (by have:=H.out.1.n;omega) 69 ad cd ((H.out.2.1.later KW.out.1).later bX).n (by have:=KW.out.2.2.1;omega);have bA:Below W1.1.size W1 WA:=bX.grown hg bX.size (fun k h=>by cases h;show W1.1.size<=W1.1.size;omega);have WV:WA.1[(W1.1.size+1)]?=some (.cells #[.bool false,.slice none 0 0,.slice none 0 0,.slice none 0 0] 87 (0,0)):=(hg.block (W1.1.size+1) (by omega) (fun e=>by have e':(W1.1.size+1)=W1.1.size:=Option.some.inj e;omega)).trans hp
    have eO:(Value.slice a' m.ax.length c').ownBlock≠some (W1.1.size+1):=fun e=>by
     rcases hl with e'|e'
     ·rw[e']at e;have NT:W1.1.size=(W1.1.size+1):=Option.some.inj e;omega
     ·rw[e']at e;have:=Option.some.inj e;omega
    have Gg:(W1.1.size+1)<WA.1.size:=by have:=hg.size;omega
    obtain⟨z0,z1,z2,z3,zf⟩:=qD WV;have oi:=zf 0;have ov:=zf 1;have oy:=zf 2;have oA:=zf 3;have GV:=KW.out.2.2.2.2 _ bA;have KA:=wL bA hd WV eO Gg (show W1.1.size<=(W1.1.size+1) by omega);clear hd hg hl bA WV eO Gg zf bX bZ hq hp bE hE;go_simp;refine hK.out _ _ (fun _=>dY) ?_;clear hK K GU Ty;refine ed 5 rfl (fun K hK=>?_);refine bJ _ rfl (.tmp 8) (.tmp 10) 69 rfl _ _ _ _ (by first|rfl|simp[Act.eval,Act.put]) (by first|rfl|simp[Act.eval,Act.put]) hr ?_;refine hK.out _ _ (fun _=>GV) ?_;clear hK K hr dY sX sE;simp only[Act.put];refine eP 6 ?_ rfl ?_ GV ?_;rotate_left
    ·(intro w aA;go_simp;first|done|with_reducible rfl|exact aA.1|exact aA.2)
    simp only[Act.put];refine ed 8 rfl (fun K hK=>?_);go_simp;refine hK.out _ _ (fun h=>absurd rfl h) ?_;clear hK K;refine cZ (by kernel_rfl) ?_ _;go_wp2_with fail;go_meet;have q2:=KW.out.2.2.1;obtain⟨k1,k2,k3,k4,k5,k6⟩:=KA.out;obtain⟨f1,f2⟩:=Ij (s:=w.1.size) (p:=(W1.1.size+1)) (alive:=m.x) (X:=WA) (by omega) k5 ((k1.block _ (by omega)).trans KW.out.2.2.2.1) k3 k2 k4;exact⟨(W1.1.size+1),a',c',rfl,f1,f2,((((KW.out.2.1.trans (k1.mono (by omega))).setCell (p:=⟨_,_,none⟩) (by simp;omega) _).setCell (p:=⟨_,_,none⟩) (by simp;omega) _).setCell (p:=⟨_,_,none⟩) (by simp;omega) _).setCell (p:=⟨_,_,none⟩) (by simp;omega) _⟩
  ·have bE:Below W1.1.size W1 (W1.alloc (.cells #[.bool false,.slice none 0 0,.slice none 0 0,.slice none 0 0] 87)):=aK.alloc aU _;have sE:(W1.alloc (.cells #[.bool false,.slice none 0 0,.slice none 0 0,.slice none 0 0] 87)).1.size=W1.1.size+1:=by simp
   have hE:(W1.alloc (.cells #[.bool false,.slice none 0 0,.slice none 0 0,.slice none 0 0] 87)).1[W1.1.size]?=some (.cells #[.bool false,.slice none 0 0,.slice none 0 0,.slice none 0 0] 87 (0,0)):=heap_alloc_new W1 _;have bZ:Below (W1.1.size+1) (W1.alloc (.cells #[.bool false,.slice none 0 0,.slice none 0 0,.slice none 0 0] 87)) ((W1.alloc (.cells #[.bool false,.slice none 0 0,.slice none 0 0,.slice none 0 0] 87)).alloc (.cells #[] 2)):=aK.alloc (by rw[sE];exact Nat.le_refl _) _;have bX:=bE.trans (bZ.mono (by omega));have sX:((W1.alloc (.cells #[.bool false,.slice none 0 0,.slice none 0 0,.slice none 0 0] 87)).alloc (.cells #[] 2)).1.size=W1.1.size+2:=by simp
   have hp:=(bZ.block _ (by omega)).trans hE;have hq:((W1.alloc (.cells #[.bool false,.slice none 0 0,.slice none 0 0,.slice none 0 0] 87)).alloc (.cells #[] 2)).1[W1.1.size+1]?=some (.cells #[] 2 (0,0)):=by rw[<-sE];exact heap_alloc_new _ _
   have Ty:=KW.out.2.2.2.2 _ bE;have dY:=KW.out.2.2.2.2 _ bX;obtain⟨a',c',WA,hr,hd,hg,hl⟩:=xC ((W1.alloc (.cells #[.bool false,.slice none 0 0,.slice none 0 0,.slice none 0 0] 87)).alloc (.cells #[] 2)) (w.1.size+2) (some ⟨(W1.1.size+1),0,none⟩) 0 (vY hq (by have:=KW.out.2.2.1;omega)) m.ax (by have:=H.out.1.n;omega) 69 ad cd ((H.out.2.1.later KW.out.1).later bX).n (by have:=KW.out.2.2.1;omega);have bA:Below W1.1.size W1 WA:=bX.grown hg bX.size (fun k h=>by cases h;show W1.1.size<=(W1.1.size+1);omega);have WV:WA.1[W1.1.size]?=some (.cells #[.bool false,.slice none 0 0,.slice none 0 0,.slice none 0 0] 87 (0,0)):=(hg.block W1.1.size (by omega) (fun e=>by have e':W1.1.size=(W1.1.size+1):=Option.some.inj e;omega)).trans hp
   have eO:(Value.slice a' m.ax.length c').ownBlock≠some W1.1.size:=fun e=>by
    rcases hl with e'|e'
    ·rw[e']at e;have NT:(W1.1.size+1)=W1.1.size:=Option.some.inj e;omega
    ·rw[e']at e;have:=Option.some.inj e;omega
   have Gg:W1.1.size<WA.1.size:=by have:=hg.size;omega
   obtain⟨z0,z1,z2,z3,zf⟩:=qD WV;have oi:=zf 0;have ov:=zf 1;have oy:=zf 2;have oA:=zf 3;have GV:=KW.out.2.2.2.2 _ bA;have KA:=wL bA hd WV eO Gg (show W1.1.size<=W1.1.size by omega);clear hd hg hl bA WV eO Gg zf bX bZ hq hp bE hE;go_simp;refine hK.out _ _ (fun _=>Ty) ?_;clear hK K GU;refine ed 2 rfl (fun K hK=>?_);go_simp;refine hK.out _ _ (fun _=>dY) ?_;clear hK K Ty;refine ed 5 rfl (fun K hK=>?_);refine bJ _ rfl (.tmp 8) (.tmp 10) 69 rfl _ _ _ _ (by first|rfl|simp[Act.eval,Act.put]) (by first|rfl|simp[Act.eval,Act.put]) hr ?_;refine hK.out _ _ (fun _=>GV) ?_;clear hK K hr dY sX sE;simp only[Act.put];refine eP 6 ?_ rfl ?_ GV ?_;rotate_left
   ·(intro w aA;go_simp;first|done|with_reducible rfl|exact aA.1|exact aA.2)
   simp only[Act.put];refine ed 8 rfl (fun K hK=>?_);go_simp;refine hK.out _ _ (fun h=>absurd rfl h) ?_;clear hK K;refine cZ (by kernel_rfl) ?_ _;go_wp2_with fail;go_meet;have q2:=KW.out.2.2.1;obtain⟨k1,k2,k3,k4,k5,k6⟩:=KA.out;obtain⟨f1,f2⟩:=Ij (s:=w.1.size) (p:=W1.1.size) (alive:=m.x) (X:=WA) (by omega) k5 ((k1.block _ (by omega)).trans KW.out.2.2.2.1) k3 k2 k4;exact⟨W1.1.size,a',c',rfl,f1,f2,((((KW.out.2.1.trans (k1.mono (by omega))).setCell (p:=⟨_,_,none⟩) (by simp;omega) _).setCell (p:=⟨_,_,none⟩) (by simp;omega) _).setCell (p:=⟨_,_,none⟩) (by simp;omega) _).setCell (p:=⟨_,_,none⟩) (by simp;omega) _⟩
 case rest=>
  obtain⟨p,a',c',rfl,jB,mR,bL⟩:=hcut;have KC:=fP jB mR bL;have we:=H.out.1.k;clear jB mR bL;go_wp2;go_loopw[4] (fun v4 wr=>∃(j:Nat) (ak:OA) (ck:Nat) (gk:Nat->Nat),j<=m.ag.length/\v4=vI j/\C3 w.1.size p m.x wr (.slice ak j ck) (.slice none 0 0) (.slice a' m.ax.length c')/\MR (w.1.size+2) p wr (.slice ak j ck) (.slice none 0 0) (.slice a' m.ax.length c') (m.ag.take j) [] m.ax gk gz/\Below (w.1.size+1) W0 wr) (fun v4 _=>m.ag.length-(intOf v4).toNat)
  case atStart=>exact⟨0,none,0,gz,Nat.zero_le _,rfl,KC.out.1,by rw[List.take_zero];exact KC.out.2.1,KC.out.2.2⟩
  case round=>
   obtain⟨j,ak,ck,gk,hj,rfl,jB,mR,bL⟩:=hrel;obtain⟨_,c1,_,_⟩:=HC.out wr bL;by_cases aN:j<m.ag.length
   ·have rT:=H.out.2.2.1.trans (bL.mono (by omega));obtain⟨_,fQ⟩:=H.out.2.1.k;have vP:=eZ aN;have h6:=H.out.1.ks _ (List.mem_of_getElem? vP);simp only[]at fQ;rcases fQ with fQ|⟨b,off,rfl,hb,h1⟩
    ·omega
    have hr:=(h1 j _ vP).below rT hb;have k0:=hr.c0;obtain⟨a1,p1,k1,fI,kz⟩:=hr.c1;have bX:Below wr.1.size wr wr.drew:=aK.drew;have hc:=K9 wr.drew a1 p1 (dX m.ag j).cells (by omega) (by omega) ((fI.mono rT.size).later bX)
    have tu:∀Y:World,(∀x,x<w.1.size+1->Y.1[x]?=wr.1[x]?)->Y.1[p]?=wr.1[p]?->(fun X:World=>X.cell? ⟨p,1,none⟩=some (.slice ak j ck)/\X.cell? ⟨w.1.size,1,none⟩=some (.slice (some ⟨b,off,none⟩) m.ag.length cc)/\X.cell? ⟨b,off+j*2,none⟩=some (vI (dX m.ag j).b)/\X.cell? ⟨b,off+j*2+1,none⟩=some (.slice a1 (dX m.ag j).cells.length p1)) Y:=fun Y h1 h2=>
     ⟨(World.cell?_of_block (a:=⟨p,1,none⟩) h2).trans jB.o1,(World.cell?_of_block (a:=⟨w.1.size,1,none⟩) (h1 w.1.size (by omega))).trans c1,(World.cell?_of_block (a:=⟨b,off+j*2,none⟩) (h1 b (by omega))).trans k0,(World.cell?_of_block (a:=⟨b,off+j*2+1,none⟩) (h1 b (by omega))).trans k1⟩
    have dY:=tu wr.drew (fun _ _=>rfl) rfl;have KH:=wL jB mR bL bX vP tu;have yS:=jB.pX;have WN:(j:Int)<(m.ag.length:Int):=by omega
    clear jB mR bL rT h1 hr fI kz bX vP h6 tu;go_wp2_with fail;refine bR 19 (fun X:World=>X.cell? ⟨p,1,none⟩=some (.slice ak j ck)/\X.cell? ⟨w.1.size,1,none⟩=some (.slice (some ⟨b,off,none⟩) m.ag.length cc)/\X.cell? ⟨b,off+j*2,none⟩=some (vI (dX m.ag j).b)/\X.cell? ⟨b,off+j*2+1,none⟩=some (.slice a1 (dX m.ag j).cells.length p1)) (by kernel_rfl) ?_;generalize Wu:wr.drew=X at *;clear Wu k0 k1 c1;refine eP 0 ?_ rfl ?_ dY ?_;rotate_left
    ·(intro w aA;obtain⟨iH,iL,iY,iZ⟩:=aA;go_simp;first|done|with_reducible rfl|exact iH|exact iL|exact iY|exact iZ|(rw[if_pos (by omega)]))
    simp only[Act.put];refine eP 1 ?_ rfl ?_ dY ?_;rotate_left
    ·(intro w aA;obtain⟨iH,iL,iY,iZ⟩:=aA;go_simp;first|done|with_reducible rfl|exact iH|exact iL|exact iY|exact iZ|(rw[if_pos (by omega)]))
    simp only[Act.put];refine eP 2 ?_ rfl ?_ dY ?_;rotate_left
    ·(intro w aA;obtain⟨iH,iL,iY,iZ⟩:=aA;go_simp;first|done|with_reducible rfl|exact iH|exact iL|exact iY|exact iZ|(rw[if_pos (by omega)]))
    simp only[Act.put];refine eP 3 ?_ rfl ?_ dY ?_;rotate_left
    ·(intro w aA;obtain⟨iH,iL,iY,iZ⟩:=aA;go_simp;first|done|with_reducible rfl|exact iH|exact iL|exact iY|exact iZ|(rw[if_pos (by omega)]))
    simp only[Act.put];refine eP 4 ?_ rfl ?_ dY ?_;rotate_left
    ·(intro w aA;obtain⟨iH,iL,iY,iZ⟩:=aA;go_simp;first|done|with_reducible rfl|exact iH|exact iL|exact iY|exact iZ|(rw[if_pos (by omega)]))
    simp only[Act.put];refine eP 5 ?_ rfl ?_ dY ?_;rotate_left
    ·(intro w aA;obtain⟨iH,iL,iY,iZ⟩:=aA;go_simp;first|done|with_reducible rfl|exact iH|exact iL|exact iY|exact iZ|(rw[if_pos (by omega)]))
    simp only[Act.put];refine eP 6 ?_ rfl ?_ dY ?_;rotate_left
    ·(intro w aA;obtain⟨iH,iL,iY,iZ⟩:=aA;go_simp;first|done|with_reducible rfl|exact iH|exact iL|exact iY|exact iZ|(rw[if_pos (by omega)]))
    simp only[Act.put];refine eP 7 ?_ rfl ?_ dY ?_;rotate_left
    ·(intro w aA;obtain⟨iH,iL,iY,iZ⟩:=aA;go_simp;first|done|with_reducible rfl|exact iH|exact iL|exact iY|exact iZ|(rw[if_pos (by omega)]))
    simp only[Act.put];refine eP 8 ?_ rfl ?_ dY ?_;rotate_left
    ·(intro w aA;obtain⟨iH,iL,iY,iZ⟩:=aA;go_simp;first|done|with_reducible rfl|exact iH|exact iL|exact iY|exact iZ|(rw[if_pos (by omega)]))
    simp only[Act.put];refine eP 9 ?_ rfl ?_ dY ?_;rotate_left
    ·(intro w aA;obtain⟨iH,iL,iY,iZ⟩:=aA;go_simp;first|done|with_reducible rfl|exact iH|exact iL|exact iY|exact iZ|(rw[if_pos (by omega)]))
    simp only[Act.put];refine eP 10 ?_ rfl ?_ dY ?_;rotate_left
    ·(intro w aA;obtain⟨iH,iL,iY,iZ⟩:=aA;go_simp;first|done|with_reducible rfl|exact iH|exact iL|exact iY|exact iZ|(rw[if_pos (by omega)]))
    simp only[Act.put];refine eP 11 ?_ rfl ?_ dY ?_;rotate_left
    ·(intro w aA;obtain⟨iH,iL,iY,iZ⟩:=aA;go_simp;first|done|with_reducible rfl|exact iH|exact iL|exact iY|exact iZ|(rw[if_pos (by omega)]))
    simp only[Act.put];refine eP 12 ?_ rfl ?_ dY ?_;rotate_left
    ·(intro w aA;obtain⟨iH,iL,iY,iZ⟩:=aA;go_simp;first|done|with_reducible rfl|exact iH|exact iL|exact iY|exact iZ|(rw[if_pos (by omega)]))
    simp only[Act.put];refine eP 13 ?_ rfl ?_ dY ?_;rotate_left
    ·(intro w aA;obtain⟨iH,iL,iY,iZ⟩:=aA;go_simp;first|done|with_reducible rfl|exact iH|exact iL|exact iY|exact iZ|(rw[if_pos (by omega)]))
    simp only[Act.put];refine ed 14 rfl (fun K hK=>?_);go_simp;refine hc.mono ?_;clear hc;rintro e X2 ⟨q,cp,rfl,K6,QO,QP,QR,Zz,b2⟩;obtain⟨jB,mR,bL,bX,vP,tu⟩:=KH.out;have Gg:=jB.pl;have nI:=bX.trans (b2.mono bX.size);have gN:=tu X2 (fun x hx=>nI.block x (by omega)) (nI.block p yS);have b3:Below X2.1.size X2 (X2.alloc (.cells #[vI (dX m.ag j).b,.slice (some ⟨q,0,none⟩) (dX m.ag j).cells.length cp] 143)):=aK.alloc aU _;have s3:(X2.alloc (.cells #[vI (dX m.ag j).b,.slice (some ⟨q,0,none⟩) (dX m.ag j).cells.length cp] 143)).1.size=X2.1.size+1:=by simp
    have qM:=nI.trans (b3.mono nI.size);have jN:=tu (X2.alloc (.cells #[vI (dX m.ag j).b,.slice (some ⟨q,0,none⟩) (dX m.ag j).cells.length cp] 143)) (fun x hx=>qM.block x (by omega)) (qM.block p yS);obtain⟨v',Y,hr,mW,gP,KJ⟩:=mR.Vy qM (by omega) yS (dX m.ag j) q cp X2.1.size (by simp;omega) 84 (by go_simp) (by go_simp) (oN.aj _ _ _ _ (b3.block q QO) ⟨QR,Zz⟩) QP (by have:=bX.size;omega) (by omega);have IL:m.ag.take j++[(dX m.ag j)]=m.ag.take (j+1):=by rw[List.take_add_one,vP];rfl
    have ig:∀x,x=p\/x<w.1.size+2->Y.1[x]?=wr.1[x]?:=fun x hx=>(gP.block x (by have:=qM.size;omega) (fun e=>by have:=KJ x e.symm;omega)).trans (qM.block x (by omega))
    have oO:=tu Y (fun x hx=>ig x (by omega)) (ig p (.inl rfl));have kP:(m.ag.take (j+1)).length=j+1:=by rw[List.length_take];omega
    rw[IL,List.length_take,Nat.min_eq_left (by omega)]at mW;obtain⟨yb,yc,rfl,-⟩:=iM.own (hd:=wK) (sz:=2) (fun _=>rfl) mW.gK (fun e=>by rw[e]at kP;simp at kP);rw[kP]at hr mW;have qP:=jB.aM (Nat.le_trans qM.size gP.size) (ig (w.1.size+1) (.inr (by omega))) (ig p (.inl rfl));have o2:=qP.o1;have dc:=qP.fo 1
    have KE:Hid (C3 w.1.size p m.x (Y.setCell ⟨p,1,none⟩ (.slice (some ⟨yb,0,none⟩) (j+1) yc)) (.slice (some ⟨yb,0,none⟩) (j+1) yc) (.slice none 0 0) (.slice a' m.ax.length c')/\MR (w.1.size+2) p (Y.setCell ⟨p,1,none⟩ (.slice (some ⟨yb,0,none⟩) (j+1) yc)) (.slice (some ⟨yb,0,none⟩) (j+1) yc) (.slice none 0 0) (.slice a' m.ax.length c') (m.ag.take (j+1)) [] m.ax (fun i=>if i=j then q else gk i) gz/\Below (w.1.size+1) W0 (Y.setCell ⟨p,1,none⟩ (.slice (some ⟨yb,0,none⟩) (j+1) yc))):=
     ⟨qP.XV _,mW.set,((bL.trans (qM.mono (by omega))).grown gP (by have:=qM.size;omega) (fun x e=>by have:=KJ x e;omega)).setCell (p:=⟨p,1,none⟩) (by show w.1.size+1<=p;omega) _⟩
    refine hK.out _ _ (fun _=>gN) ?_;clear hK K jB mR bL bX vP nI b3 s3 qM mW gP KJ IL ig kP qP dY b2 K6 QO QP QR Zz KH tu Gg;refine eP 15 ?_ rfl ?_ gN ?_;rotate_left
    ·(intro w aA;obtain⟨iH,iL,iY,iZ⟩:=aA;go_simp;first|done|with_reducible rfl|exact iH|exact iL|exact iY|exact iZ|(rw[if_pos (by omega)]))
    simp only[Act.put];refine ed 16 rfl (fun K hK=>?_);go_simp;refine hK.out _ _ (fun _=>jN) ?_;clear hK K gN;refine ed 17 rfl (fun K hK=>?_);refine bJ _ rfl (.tmp 21) (.tmp 36) 84 rfl _ _ _ _ (by first|rfl|simp[Act.eval,Act.put]) (by first|rfl|simp[Act.eval,Act.put]) hr ?_;refine hK.out _ _ (fun _=>oO) ?_;clear hK K hr jN;simp only[Act.put];refine ed 18 rfl (fun K hK=>?_);go_simp;refine hK.out _ _ (fun _=>oO) ?_;clear hK K;refine ed 19 rfl (fun K hK=>?_);go_simp;refine hK.out _ _ (fun h=>absurd rfl h) ?_;clear hK K;refine cZ (by kernel_rfl) ?_ _;go_wp2;exact⟨⟨j+1,some ⟨yb,0,none⟩,yc,_,by omega,by simp,KE.out.1,KE.out.2.1,KE.out.2.2⟩,by simp[intOf];omega⟩
   ·obtain rfl:j=m.ag.length:=by omega
    have hd:decide ((m.ag.length:Int)<(m.ag.length:Int))=false:=by simp
    rw[List.take_length]at mR;have SX:=fP jB mR bL;have ZB:=H.out.1.r;clear jB mR bL KC hj aN;generalize wr=wk at *;go_wp2;clear c1;go_loopw[5] (fun v5 wr=>∃(j:Nat) (ar:OA) (cr:Nat) (gr:Nat->Nat),j<=m.h.length/\v5=vI j/\C3 w.1.size p m.x wr (.slice ak m.ag.length ck) (.slice ar j cr) (.slice a' m.ax.length c')/\MR (w.1.size+2) p wr (.slice ak m.ag.length ck) (.slice ar j cr) (.slice a' m.ax.length c') m.ag (m.h.take j) m.ax gk gr/\Below (w.1.size+1) W0 wr) (fun v5 _=>m.h.length-(intOf v5).toNat)
    case atStart=>exact⟨0,none,0,gz,Nat.zero_le _,rfl,SX.out.1,by rw[List.take_zero];exact SX.out.2.1,SX.out.2.2⟩
    case round=>
     obtain⟨j,ar,cr,gr,hj,rfl,jB,mR,bL⟩:=hrel;obtain⟨_,_,c2,_⟩:=HC.out wr bL;by_cases aN:j<m.h.length
     ·have rT:=H.out.2.2.1.trans (bL.mono (by omega));obtain⟨_,fQ⟩:=H.out.2.1.r;have vP:=jC aN;have h6:=H.out.1.rs _ (List.mem_of_getElem? vP);simp only[]at fQ;rcases fQ with fQ|⟨b,off,rfl,hb,h1⟩
      ·omega
      have hr:=(h1 j _ vP).below rT hb;have k0:=hr.c0;have k1:=hr.c1;have k2:=hr.c2;obtain⟨a1,p1,k3,fI,kz⟩:=hr.c3;have bX:Below wr.1.size wr wr.drew:=aK.drew;have hc:=Gn wr.drew (atR m.h j) a1 p1 h6.1 (by omega) (((fI.mono rT.size).below bX).mono bX.size);simp only[R4.val]at hc
      have tu:∀Y:World,(∀x,x<w.1.size+1->Y.1[x]?=wr.1[x]?)->Y.1[p]?=wr.1[p]?->(fun X:World=>X.cell? ⟨p,2,none⟩=some (.slice ar j cr)/\X.cell? ⟨w.1.size,2,none⟩=some (.slice (some ⟨b,off,none⟩) m.h.length cl)/\X.cell? ⟨b,off+j*4,none⟩=some (vI (atR m.h j).kind)/\X.cell? ⟨b,off+j*4+1,none⟩=some (vI (atR m.h j).tx)/\X.cell? ⟨b,off+j*4+2,none⟩=some (vI (atR m.h j).b)/\X.cell? ⟨b,off+j*4+3,none⟩=some (.slice a1 (atR m.h j).ai.length p1)) Y:=fun Y h1 h2=>
       ⟨(World.cell?_of_block (a:=⟨p,2,none⟩) h2).trans jB.o2,(World.cell?_of_block (a:=⟨w.1.size,2,none⟩) (h1 w.1.size (by omega))).trans c2,(World.cell?_of_block (a:=⟨b,off+j*4,none⟩) (h1 b (by omega))).trans k0,(World.cell?_of_block (a:=⟨b,off+j*4+1,none⟩) (h1 b (by omega))).trans k1,(World.cell?_of_block (a:=⟨b,off+j*4+2,none⟩) (h1 b (by omega))).trans k2,(World.cell?_of_block (a:=⟨b,off+j*4+3,none⟩) (h1 b (by omega))).trans k3⟩
      have dY:=tu wr.drew (fun _ _=>rfl) rfl;have KH:=wL jB mR bL bX vP tu;have yS:=jB.pX;have WN:(j:Int)<(m.h.length:Int):=by omega
      clear jB mR bL rT h1 hr fI kz bX vP h6 tu;go_wp2_with fail;refine bR 11 (fun X:World=>X.cell? ⟨p,2,none⟩=some (.slice ar j cr)/\X.cell? ⟨w.1.size,2,none⟩=some (.slice (some ⟨b,off,none⟩) m.h.length cl)/\X.cell? ⟨b,off+j*4,none⟩=some (vI (atR m.h j).kind)/\X.cell? ⟨b,off+j*4+1,none⟩=some (vI (atR m.h j).tx)/\X.cell? ⟨b,off+j*4+2,none⟩=some (vI (atR m.h j).b)/\X.cell? ⟨b,off+j*4+3,none⟩=some (.slice a1 (atR m.h j).ai.length p1)) (by kernel_rfl) ?_;generalize Wu:wr.drew=X at *;clear Wu k0 k1 k2 k3 c2;refine eP 0 ?_ rfl ?_ dY ?_;rotate_left
      ·(intro w aA;obtain⟨iH,iL,iY,iZ,Pf,Pj⟩:=aA;go_simp;first|done|with_reducible rfl|exact iH|exact iL|exact iY|exact iZ|exact Pf|exact Pj|(rw[if_pos (by omega)]))
      simp only[Act.put];refine eP 1 ?_ rfl ?_ dY ?_;rotate_left
      ·(intro w aA;obtain⟨iH,iL,iY,iZ,Pf,Pj⟩:=aA;go_simp;first|done|with_reducible rfl|exact iH|exact iL|exact iY|exact iZ|exact Pf|exact Pj|(rw[if_pos (by omega)]))
      simp only[Act.put];refine eP 2 ?_ rfl ?_ dY ?_;rotate_left
      ·(intro w aA;obtain⟨iH,iL,iY,iZ,Pf,Pj⟩:=aA;go_simp;first|done|with_reducible rfl|exact iH|exact iL|exact iY|exact iZ|exact Pf|exact Pj|(rw[if_pos (by omega)]))
      simp only[Act.put];refine eP 3 ?_ rfl ?_ dY ?_;rotate_left
      ·(intro w aA;obtain⟨iH,iL,iY,iZ,Pf,Pj⟩:=aA;go_simp;first|done|with_reducible rfl|exact iH|exact iL|exact iY|exact iZ|exact Pf|exact Pj|(rw[if_pos (by omega)]))
      simp only[Act.put];refine eP 4 ?_ rfl ?_ dY ?_;rotate_left
      ·(intro w aA;obtain⟨iH,iL,iY,iZ,Pf,Pj⟩:=aA;go_simp;first|done|with_reducible rfl|exact iH|exact iL|exact iY|exact iZ|exact Pf|exact Pj|(rw[if_pos (by omega)]))
      simp only[Act.put];refine eP 5 ?_ rfl ?_ dY ?_;rotate_left
      ·(intro w aA;obtain⟨iH,iL,iY,iZ,Pf,Pj⟩:=aA;go_simp;first|done|with_reducible rfl|exact iH|exact iL|exact iY|exact iZ|exact Pf|exact Pj|(rw[if_pos (by omega)]))
      simp only[Act.put];refine eP 6 ?_ rfl ?_ dY ?_;rotate_left
      ·(intro w aA;obtain⟨iH,iL,iY,iZ,Pf,Pj⟩:=aA;go_simp;first|done|with_reducible rfl|exact iH|exact iL|exact iY|exact iZ|exact Pf|exact Pj|(rw[if_pos (by omega)]))
      simp only[Act.put];refine ed 7 rfl (fun K hK=>?_);go_simp;refine hc.mono ?_;clear hc;rintro e X2 ⟨q,cp,rfl,K6,QO,QP,QR,b2⟩;obtain⟨jB,mR,bL,bX,vP,tu⟩:=KH.out;have Gg:=jB.pl;have nI:=bX.trans (b2.mono bX.size);have gN:=tu X2 (fun x hx=>nI.block x (by omega)) (nI.block p yS);have b3:Below X2.1.size X2 (X2.alloc (.cells #[vI (atR m.h j).kind,vI (atR m.h j).tx,vI (atR m.h j).b,.slice (some ⟨q,0,none⟩) (atR m.h j).ai.length cp] 188)):=aK.alloc aU _;have s3:(X2.alloc (.cells #[vI (atR m.h j).kind,vI (atR m.h j).tx,vI (atR m.h j).b,.slice (some ⟨q,0,none⟩) (atR m.h j).ai.length cp] 188)).1.size=X2.1.size+1:=by simp
      have qM:=nI.trans (b3.mono nI.size);have jN:=tu (X2.alloc (.cells #[vI (atR m.h j).kind,vI (atR m.h j).tx,vI (atR m.h j).b,.slice (some ⟨q,0,none⟩) (atR m.h j).ai.length cp] 188)) (fun x hx=>qM.block x (by omega)) (qM.block p yS);obtain⟨v',Y,hr,mW,gP,KJ⟩:=mR.Vz qM (by omega) yS (atR m.h j) q cp X2.1.size (by simp;omega) 85 (by go_simp) (by go_simp) (by go_simp) (by go_simp) (AtR.aj _ _ _ _ (b3.block q QO) QR) QP (by have:=bX.size;omega) (by omega);have IL:m.h.take j++[(atR m.h j)]=m.h.take (j+1):=by rw[List.take_add_one,vP];rfl
      have ig:∀x,x=p\/x<w.1.size+2->Y.1[x]?=wr.1[x]?:=fun x hx=>(gP.block x (by have:=qM.size;omega) (fun e=>by have:=KJ x e.symm;omega)).trans (qM.block x (by omega))
      have oO:=tu Y (fun x hx=>ig x (by omega)) (ig p (.inl rfl));have kP:(m.h.take (j+1)).length=j+1:=by rw[List.length_take];omega
      rw[IL,List.length_take,Nat.min_eq_left (by omega)]at mW;obtain⟨yb,yc,rfl,-⟩:=iM.own (hd:=uP) (sz:=4) (fun _=>rfl) mW.gR (fun e=>by rw[e]at kP;simp at kP);rw[kP]at hr mW;have qP:=jB.aM (Nat.le_trans qM.size gP.size) (ig (w.1.size+1) (.inr (by omega))) (ig p (.inl rfl));have o2:=qP.o2;have dc:=qP.fo 2
      have KE:Hid (C3 w.1.size p m.x (Y.setCell ⟨p,2,none⟩ (.slice (some ⟨yb,0,none⟩) (j+1) yc)) (.slice ak m.ag.length ck) (.slice (some ⟨yb,0,none⟩) (j+1) yc) (.slice a' m.ax.length c')/\MR (w.1.size+2) p (Y.setCell ⟨p,2,none⟩ (.slice (some ⟨yb,0,none⟩) (j+1) yc)) (.slice ak m.ag.length ck) (.slice (some ⟨yb,0,none⟩) (j+1) yc) (.slice a' m.ax.length c') m.ag (m.h.take (j+1)) m.ax gk (fun i=>if i=j then q else gr i)/\Below (w.1.size+1) W0 (Y.setCell ⟨p,2,none⟩ (.slice (some ⟨yb,0,none⟩) (j+1) yc))):=
       ⟨qP.RS _,mW.set,((bL.trans (qM.mono (by omega))).grown gP (by have:=qM.size;omega) (fun x e=>by have:=KJ x e;omega)).setCell (p:=⟨p,2,none⟩) (by show w.1.size+1<=p;omega) _⟩
      refine hK.out _ _ (fun _=>gN) ?_;clear hK K jB mR bL bX vP nI b3 s3 qM mW gP KJ IL ig kP qP dY b2 K6 QO QP QR KH tu Gg;refine ed 8 rfl (fun K hK=>?_);go_simp;refine hK.out _ _ (fun _=>jN) ?_;clear hK K gN;refine ed 9 rfl (fun K hK=>?_);refine bJ _ rfl (.tmp 47) (.tmp 54) 85 rfl _ _ _ _ (by first|rfl|simp[Act.eval,Act.put]) (by first|rfl|simp[Act.eval,Act.put]) hr ?_;refine hK.out _ _ (fun _=>oO) ?_;clear hK K hr jN;simp only[Act.put];refine ed 10 rfl (fun K hK=>?_);go_simp;refine hK.out _ _ (fun _=>oO) ?_;clear hK K;refine ed 11 rfl (fun K hK=>?_);go_simp;refine hK.out _ _ (fun h=>absurd rfl h) ?_;clear hK K;refine cZ (by kernel_rfl) ?_ _;go_wp2;exact⟨⟨j+1,some ⟨yb,0,none⟩,yc,_,by omega,by simp,KE.out.1,KE.out.2.1,KE.out.2.2⟩,by simp[intOf];omega⟩
     ·obtain rfl:j=m.h.length:=by omega
      have vl:decide ((m.h.length:Int)<(m.h.length:Int))=false:=by simp
      rw[List.take_length]at mR;have KF:=dw mR bL;obtain⟨r0,r1,r2,r3,fr,o0,o1,o2,o3,fo,pl,pX⟩:=jB;have f0:=fr 0;have f1:=fr 1;have f2:=fr 2;have f3:=fr 3;clear mR bL SX hj aN fr fo;go_wp2;refine bodyPost_ret (v:=.agg #[.bool m.x,.slice ak m.ag.length ck,.slice ar m.h.length cr,.slice a' m.ax.length c']) (by simp[results,results89,go_sem,r0,r1,r2,r3]) rfl ⟨⟨ak,ck,ar,cr,a',c'⟩,p,gk,gr,rfl,?_,?_⟩
      ·refine KF.out.1.aM (by simp[World.setCell]) (fun x _ hx _=>?_);exact(Below.heap_setCell _ _ _ _ (by show x≠w.1.size+1;omega)).trans ((Below.heap_setCell _ _ _ _ (by show x≠w.1.size+1;omega)).trans ((Below.heap_setCell _ _ _ _ (by show x≠w.1.size+1;omega)).trans (Below.heap_setCell _ _ _ _ (by show x≠w.1.size+1;omega))))
      ·exact((((H.out.2.2.1.trans (KF.out.2.mono (by omega))).setCell (p:=⟨_,_,none⟩) (by simp) _).setCell (p:=⟨_,_,none⟩) (by simp) _).setCell (p:=⟨_,_,none⟩) (by simp) _).setCell (p:=⟨_,_,none⟩) (by simp) _
end
section
open Go.Proofs.Tryz
variable {A cs:List Value}{X Y w:World}{b o:Nat}
def Qd(ts:List (tx.TV×tx.T7)):Prop:=∀p∈ts,p.2.a.length<=p.1.cr/\p.2.ai.length<=p.1.ch
def VK(w:World)(k:C6)(e:Ending)(w':World):Prop:=∃(a1:OA) (c1:Nat) (a2:OA) (c2:Nat) (a3:OA) (c3:Nat) (ps:List ((Nat×Nat)×List Int)) (gp:Nat->Nat->Prop) (ms:List (MV×M4)) (gm:Nat->Nat->Prop) (ts:List (tx.TV×tx.T7)) (gt:Nat->Nat->Prop),e=.returned (.agg #[vI k.v,vI k.u,.slice a1 k.f.length c1,.slice a2 k.aa.length c2,.slice a3 k.c.length c3,.bool k.w])/\xe (w.1.size+3) (w.1.size+2) w' (.slice a1 k.f.length c1) (.slice a2 k.aa.length c2) (.slice a3 k.c.length c3) ps gp ms gm ts gt/\ps.map (·.2)=k.f/\ms.map (·.2)=k.aa/\ts.map (·.2)=k.c/\Below w.1.size w w'/\Qd ts
def Sp(w:World)(A:List Value)(b o:Nat)(cs:List Value)(X:World):Prop:=Bx X w.1.size A/\At X b o cs/\b<w.1.size
theorem Sp.of(h:Sp w A b o cs X)(hs:X.1.size<=Y.1.size)(hk:∀q,q<w.1.size+3->Y.1[q]?=X.1[q]?):Sp w A b o cs Y:=⟨h.1.aj (hk _ (by omega)) hs,h.2.1.aj (hk b (by have:=h.2.2;omega)),h.2.2⟩
theorem Sp.later(h:Sp w A b o cs X)(hb:Below X.1.size X Y):Sp w A b o cs Y:=⟨h.1.later hb,h.2.1.aj (hb.block b (by have:=h.2.2;have:=h.1.2.2;omega)),h.2.2⟩
theorem Ad(w:World)(a1:OA)(c1:Nat)(a2:OA)(c2:Nat)(a3:OA)(c3:Nat)(k:C6)(hk:aD k=true)(h:df.Rd w a1 c1 a2 c2 a3 c3 k):
  Calls prog 47 #[.agg #[vI k.v,vI k.u,.slice a1 k.f.length c1,.slice a2 k.aa.length c2,.slice a3 k.c.length c3,.bool k.w]] w (VK w k):=by
 have H:=dw (UO.of hk) h;clear hk h;obtain⟨W0,dO⟩:=bO (((w.alloc (.cells #[vI k.v,vI k.u,.slice a1 k.f.length c1,.slice a2 k.aa.length c2,.slice a3 k.c.length c3,.bool k.w] 32)).alloc (.cells #[vI 0,vI 0,.slice none 0 0,.slice none 0 0,.slice none 0 0,.bool false] 32)).alloc (.cells #[vI k.v,vI k.u,.slice none 0 0,.slice none 0 0,.slice none 0 0,.bool k.w] 32))
 have S0:Hid (EH w (dU a1 c1 a2 c2 a3 c3 k) sH k W0 (.slice none 0 0) (.slice none 0 0) (.slice none 0 0) [] jM [] jM [] jM):=by
  obtain⟨U1,uN,b1,x1,z1⟩:=iI w (dU a1 c1 a2 c2 a3 c3 k) 32;obtain⟨U2,Iq,b2,x2,z2⟩:=iI U1 sH 32;have x3:Bx W0 U2.1.size [vI k.v,vI k.u,.slice none 0 0,.slice none 0 0,.slice none 0 0,.bool k.w]:=by rw[dO,Iq,uN];exact Bx.made _ [vI k.v,vI k.u,.slice none 0 0,.slice none 0 0,.slice none 0 0,.bool k.w] _
  have b3:Below U2.1.size U2 W0:=by rw[dO,Iq,uN];exact aK.alloc aU _
  rw[show U2.1.size=w.1.size+2 by omega]at x3;rw[show U1.1.size=w.1.size+1 by omega]at x2;exact⟨(x1.later b2).later b3,x2.later b3,x3,xe.nil _ _ _,au (au b1 b2) b3⟩
 have p2:=S0.out.arg.1 2 _ rfl;rw[dO]at p2;go_enter func47,ntmps47;go_wp2;rw[<-dO];rw[<-dO]at p2;clear dO p2;go_loopw[4] (fun v wr=>∃(j:Nat) (bP:OA) (dP:Nat) (ps:List ((Nat×Nat)×List Int)) (gp:Nat->Nat->Prop),j<=k.f.length/\v=vI j/\ps.map (·.2)=k.f.take j/\EH w (dU a1 c1 a2 c2 a3 c3 k) sH k wr (.slice bP j dP) (.slice none 0 0) (.slice none 0 0) ps gp [] jM [] jM) (fun v _=>k.f.length-(intOf v).toNat)
 case atStart=>exact⟨0,none,0,[],jM,Nat.zero_le _,rfl,by simp,S0.out⟩
 case round=>
  obtain⟨j,bP,dP,ps,gp,hj,rfl,pK,fq⟩:=hrel;have tH:k.f.length<=1000:=by have:=H.out.1.p;omega
  have p2:=fq.arg.1 2 _ rfl;have p3:=fq.arg.1 3 _ rfl;have p4:=fq.arg.1 4 _ rfl;by_cases aN:j<k.f.length
  ·skip
   have bg:=gB aN;have IE:ps.length=j:=by have:=congrArg List.length pK;simpa[Nat.min_eq_left hj]using this
   have iw:=H.out.2.later fq.uU;obtain⟨_,fI⟩:=iw.p;rcases fI with h0|⟨b,off,rfl,hb,fI⟩
   ·omega
   obtain⟨z0,z1,e0,⟨_,nM⟩,kz⟩:=fI j _ bg;obtain⟨mi,IP⟩:=H.out.1.ps _ (List.mem_of_getElem? bg);rcases nM with h0|⟨zb,zo,rfl,Yp,ZW⟩
   ·omega
   have Sr:=e0;clear fI iw
   have lu:At wr b (off+j) [.slice (some ⟨zb,zo,none⟩) (eU k.f j).length z1]:=fun i u hu=>by
    rcases i with _|i
    ·simp at hu;subst hu;exact e0
    ·simp at hu
   have rT:b<w.1.size:=by
    rcases H.out.2.p.2 with h0|⟨b',di,e',fB,_⟩
    ·omega
    ·cases e';exact fB
   have dY:(fun X:World=>Bx X (w.1.size+2) [vI k.v,vI k.u,(.slice bP j dP),(.slice none 0 0),(.slice none 0 0),.bool k.w]/\Sp w (dU (some ⟨b,off,none⟩) c1 a2 c2 a3 c3 k) b (off+j) [.slice (some ⟨zb,zo,none⟩) (eU k.f j).length z1] X) wr.drew:=⟨fq.own.later aK.drew,⟨fq.arg.later aK.drew,lu.aj rfl,rT⟩⟩
   have HD:Hid (Below wr.1.size wr wr.drew):=aK.drew;have jn:(j:Int)<(k.f.length:Int):=by omega
   have HN:Hid (eY wr.drew zb zo (eU k.f j)/\zb<wr.drew.1.size):=⟨ZW.below (aK.drew) Yp,Yp⟩
   have HS:=af fq;have HM:Hid (ps.map (·.2)=k.f.take j/\ps.length=j/\k.f[j]?=some (eU k.f j)):=⟨pK,IE,bg⟩
   clear fq pK IE bg lu rT ZW Yp kz e0 Sr;go_wp2_with fail;refine bR 14 (fun X:World=>Bx X (w.1.size+2) [vI k.v,vI k.u,(.slice bP j dP),(.slice none 0 0),(.slice none 0 0),.bool k.w]/\Sp w (dU (some ⟨b,off,none⟩) c1 a2 c2 a3 c3 k) b (off+j) [.slice (some ⟨zb,zo,none⟩) (eU k.f j).length z1] X) (by kernel_rfl) ?_;generalize wr.drew=XD at *;refine eP 0 ?_ rfl ?_ dY ?_;rotate_left
   ·(intro w aA;go_simp;first|done|with_reducible rfl)
   simp only[Act.put];refine eP 1 ?_ rfl ?_ dY ?_;rotate_left
   ·(intro w aA;have q:=aA.1.1 2 _ rfl;go_simp;first|done|with_reducible rfl|exact q)
   simp only[Act.put];refine eP 3 ?_ rfl ?_ dY ?_;rotate_left
   ·(intro w aA;go_simp;first|done|with_reducible rfl)
   simp only[Act.put];refine eP 4 ?_ rfl ?_ dY ?_;rotate_left
   ·(intro w aA;have q:=aA.2.1.1 2 _ rfl;go_simp;first|done|with_reducible rfl|exact q)
   simp only[Act.put];refine eP 5 ?_ rfl ?_ dY ?_;rotate_left
   ·(intro w aA;go_simp;first|done|with_reducible rfl)
   simp only[Act.put];refine eP 6 ?_ rfl ?_ dY ?_;rotate_left
   ·(intro w aA;go_simp;first|done|with_reducible rfl|(rw[if_pos (by omega)]))
   simp only[Act.put];refine eP 7 ?_ rfl ?_ dY ?_;rotate_left
   ·(intro w aA;go_simp;first|done|with_reducible rfl)
   simp only[Act.put];refine eP 8 ?_ rfl ?_ dY ?_;rotate_left
   ·(intro w aA;have q0:w.cell? ⟨b,off+j,none⟩=some (.slice (some ⟨zb,zo,none⟩) (eU k.f j).length z1):=aA.2.2.1 0 _ rfl;go_simp;first|done|with_reducible rfl|rfl)
   simp only[Act.put];refine ed 2 rfl (fun K hK=>?_);go_simp;obtain⟨XE,du⟩:∃X,X=XD.alloc (.cells #[] 2):=⟨_,rfl⟩
   have bE:Below XD.1.size XD XE:=by rw[du];exact aK.alloc aU _
   have Ty:(fun X:World=>Bx X (w.1.size+2) [vI k.v,vI k.u,(.slice bP j dP),(.slice none 0 0),(.slice none 0 0),.bool k.w]/\Sp w (dU (some ⟨b,off,none⟩) c1 a2 c2 a3 c3 k) b (off+j) [.slice (some ⟨zb,zo,none⟩) (eU k.f j).length z1] X) XE:=⟨dY.1.later bE,dY.2.later bE⟩
   obtain⟨v2,X2,ri,ew,qn,qu⟩:=Fu XE XD.1.size _ [] (eU k.f j) zb zo z1 69 (by rw[du];exact ON.empty XD) (HN.out.1.below bE HN.out.2) (by simp;omega) bE.size;rw[List.nil_append]at ew;have b2:Below XD.1.size XD X2:=bE.grown qn bE.size (fun k h=>by cases h;exact Nat.le_refl _)
   obtain⟨q,cp,rfl⟩:∃g cp,v2=.slice (some ⟨g,0,none⟩) (eU k.f j).length cp:=by
    rcases ew.form with ⟨rfl,_⟩|⟨g,cp,e,_⟩
    ·rcases qu with h|h<;>cases h
    ·exact⟨g,cp,e⟩
   rw[<-du];refine hK.out _ _ (fun _=>Ty) ?_;clear hK K bE qn qu du;refine ed 9 rfl (fun K hK=>?_);refine bJ _ rfl (.tmp 23) (.tmp 29) 69 rfl _ _ _ _ (by first|rfl|simp[Act.eval,Act.put]) (by first|rfl|simp[Act.eval,Act.put]) ri ?_;clear ri;have hO:=EI.low ew.kp HD.out.size;clear ew Ty HN;have UR:=dw HD.out (show True from trivial);have HD:=UR;clear UR;have nI:=au HD.out.1 b2;have gN:=And.intro (dY.1.later b2) (dY.2.later b2);obtain⟨X3,nL,b3,x3,-⟩:=iI X2 [(.slice (some ⟨q,0,none⟩) (eU k.f j).length cp)] 102;have jN:=And.intro (gN.1.later b3) (gN.2.later b3);obtain⟨v',Y,hr,sJ,kQ,ig,dQ,a',c',rfl⟩:=HS.out.Nj (au nI b3) (q,cp) (eU k.f j) (fun x=>x=q) X2.1.size (by rw[HM.out.2.1];omega) 28 x3.1 (EI.aM hO b3.size (fun q hq=>b3.block q (EI.of hO hq).2));have oO:=And.intro kQ (jN.2.of dQ (fun q hq=>ig q (.inl hq)));have HE:Hid ((ps++[((q,cp),eU k.f j)]).map (·.2)=k.f.take (j+1)):=by unfold Hid;rw[List.map_append,HM.out.1];exact mM HM.out.2.2
   rw[HM.out.2.1]at hr sJ;have KE:=af sJ;refine hK.out _ _ (fun _=>gN) ?_;clear hK K b2 nI b3 x3 sJ kQ ig dQ hO dY;refine eP 10 ?_ rfl ?_ gN ?_;rotate_left
   ·(intro w aA;go_simp;first|done|with_reducible rfl)
   simp only[Act.put];refine ed 11 rfl (fun K hK=>?_);go_simp;rw[<-nL];refine hK.out _ _ (fun _=>jN) ?_;clear hK K gN;refine ed 12 rfl (fun K hK=>?_);refine bJ _ rfl (.tmp 22) (.tmp 32) 28 rfl _ _ _ _ (by first|rfl|simp[Act.eval,Act.put]) (by first|rfl|simp[Act.eval,Act.put]) hr ?_;refine hK.out _ _ (fun _=>oO) ?_;clear hK K hr jN nL;simp only[Act.put];refine ed 13 rfl (fun K hK=>?_);go_simp;refine hK.out _ _ (fun _=>oO) ?_;clear hK K;refine ed 14 rfl (fun K hK=>?_);have o2:=oO.1.1 2 _ rfl;have dc:=oO.1.2.1 2;go_simp;refine hK.out _ _ (fun h=>absurd rfl h) ?_;clear hK K;refine cZ (by kernel_rfl) ?_ _;go_wp2;exact⟨⟨j+1,a',c',_,_,by omega,by simp,HE.out,KE.out⟩,by simp[intOf];omega⟩
  ·obtain rfl:k.f.length=j:=by omega
   have hd:decide ((k.f.length:Int)<(k.f.length:Int))=false:=by simp
   rw[List.take_length]at pK;have EP:=af (pK);have S1:=af fq;clear pK fq hj aN tH;go_wp2;clear p2 p3 p4;generalize wr=WP at *;go_loopw[5] (fun v wr=>∃(j:Nat) (bM:OA) (dM:Nat) (ms:List ((MV)×M4)) (gm:Nat->Nat->Prop),j<=k.aa.length/\v=vI j/\ms.map (·.2)=k.aa.take j/\EH w (dU a1 c1 a2 c2 a3 c3 k) sH k wr (.slice bP k.f.length dP) (.slice bM j dM) (.slice none 0 0) ps gp ms gm [] jM) (fun v _=>k.aa.length-(intOf v).toNat)
   case atStart=>exact⟨0,none,0,[],jM,Nat.zero_le _,rfl,by simp,S1.out⟩
   case round=>
    obtain⟨j,bM,dM,ms,gm,hj,rfl,pK,fq⟩:=hrel;have tH:k.aa.length<=1000:=by have:=H.out.1.m;omega
    have p2:=fq.arg.1 2 _ rfl;have p3:=fq.arg.1 3 _ rfl;have p4:=fq.arg.1 4 _ rfl;by_cases aN:j<k.aa.length
    ·skip
     have bg:=iT aN;have IE:ms.length=j:=by have:=congrArg List.length pK;simpa[Nat.min_eq_left hj]using this
     have iw:=H.out.2.later fq.uU;rcases iw.m with h0|⟨b,off,rfl,hb,tJ⟩
     ·rw[h0]at aN;simp at aN
     obtain⟨⟨m0,m1,m2,m3,m4,m5⟩,lu,MO⟩:=tJ j _ bg;have Sr:=lu 0 _ rfl;have Wl:=lu 1 _ rfl;have Wm:=lu 2 _ rfl;have Wn:=lu 3 _ rfl;clear tJ iw lu
     have lu:At wr b (off+j*4) [.bool (bC k.aa j).x,.slice m0 (bC k.aa j).ag.length m1,.slice m2 (bC k.aa j).h.length m3,.slice m4 (bC k.aa j).ax.length m5]:=fun i u hu=>by
      rcases i with _|_|_|_|i
      ·simp at hu;subst hu;exact Sr
      ·simp at hu;subst hu;exact Wl
      ·simp at hu;subst hu;exact Wm
      ·simp at hu;subst hu;exact Wn
      ·simp at hu
     have rT:b<w.1.size:=by
      rcases H.out.2.m with h0|⟨b',di,e',fB,_⟩
      ·rw[h0]at aN;simp at aN
      ·cases e';exact fB
     have dY:(fun X:World=>Bx X (w.1.size+2) [vI k.v,vI k.u,(.slice bP k.f.length dP),(.slice bM j dM),(.slice none 0 0),.bool k.w]/\Sp w (dU a1 c1 (some ⟨b,off,none⟩) c2 a3 c3 k) b (off+j*4) [.bool (bC k.aa j).x,.slice m0 (bC k.aa j).ag.length m1,.slice m2 (bC k.aa j).h.length m3,.slice m4 (bC k.aa j).ax.length m5] X) wr.drew:=⟨fq.own.later aK.drew,⟨fq.arg.later aK.drew,lu.aj rfl,rT⟩⟩
     have HD:Hid (Below wr.1.size wr wr.drew):=aK.drew;have jn:(j:Int)<(k.aa.length:Int):=by omega
     have jo:=La wr.drew ⟨m0,m1,m2,m3,m4,m5⟩ (bC k.aa j) (H.out.1.ms _ (List.mem_of_getElem? bg)) (Ag.later MO aK.drew);simp only[MV.val]at jo;have HS:=af fq;have HM:=fP pK IE bg;clear fq pK IE bg lu rT MO Sr Wl Wm Wn;go_wp2_with fail;refine bR 11 (fun X:World=>Bx X (w.1.size+2) [vI k.v,vI k.u,(.slice bP k.f.length dP),(.slice bM j dM),(.slice none 0 0),.bool k.w]/\Sp w (dU a1 c1 (some ⟨b,off,none⟩) c2 a3 c3 k) b (off+j*4) [.bool (bC k.aa j).x,.slice m0 (bC k.aa j).ag.length m1,.slice m2 (bC k.aa j).h.length m3,.slice m4 (bC k.aa j).ax.length m5] X) (by kernel_rfl) ?_;generalize wr.drew=XD at *;refine eP 0 ?_ rfl ?_ dY ?_;rotate_left
     ·(intro w aA;go_simp;first|done|with_reducible rfl)
     simp only[Act.put];refine eP 1 ?_ rfl ?_ dY ?_;rotate_left
     ·(intro w aA;have q:=aA.1.1 3 _ rfl;go_simp;first|done|with_reducible rfl|exact q)
     simp only[Act.put];refine eP 2 ?_ rfl ?_ dY ?_;rotate_left
     ·(intro w aA;go_simp;first|done|with_reducible rfl)
     simp only[Act.put];refine eP 3 ?_ rfl ?_ dY ?_;rotate_left
     ·(intro w aA;have q:=aA.2.1.1 3 _ rfl;go_simp;first|done|with_reducible rfl|exact q)
     simp only[Act.put];refine eP 4 ?_ rfl ?_ dY ?_;rotate_left
     ·(intro w aA;go_simp;first|done|with_reducible rfl)
     simp only[Act.put];refine eP 5 ?_ rfl ?_ dY ?_;rotate_left
     ·(intro w aA;go_simp;first|done|with_reducible rfl|(rw[if_pos (by omega)]))
     simp only[Act.put];refine eP 6 ?_ rfl ?_ dY ?_;rotate_left
     ·(intro w aA;have q0:w.cell? ⟨b,off+j*4,none⟩=some (.bool (bC k.aa j).x):=aA.2.2.1 0 _ rfl;have q1:w.cell? ⟨b,off+j*4+1,none⟩=some (.slice m0 (bC k.aa j).ag.length m1):=aA.2.2.1 1 _ rfl;have q2:w.cell? ⟨b,off+j*4+2,none⟩=some (.slice m2 (bC k.aa j).h.length m3):=aA.2.2.1 2 _ rfl;have q3:w.cell? ⟨b,off+j*4+3,none⟩=some (.slice m4 (bC k.aa j).ax.length m5):=aA.2.2.1 3 _ rfl;go_simp;first|done|with_reducible rfl|rfl)
     simp only[Act.put];refine ed 7 rfl (fun K hK=>?_);go_simp;refine jo.mono ?_;clear jo;rintro e X2 ⟨⟨u0,u1,u2,u3,u4,u5⟩,pp,gk,gr,rfl,mR,b2⟩;dsimp only;obtain⟨Q,hQ⟩:=MR.ow mR;have hO:iN.Ow X2 wr.1.size ⟨u0,u1,u2,u3,u4,u5⟩ (bC k.aa j) Q:=iN.low hQ (by have:=HD.out.size;omega);clear mR hQ;have UR:=dw HD.out (show True from trivial);have HD:=UR;clear UR;have nI:=au HD.out.1 b2;have gN:=And.intro (dY.1.later b2) (dY.2.later b2);obtain⟨X3,nL,b3,x3,-⟩:=iI X2 [(.bool (bC k.aa j).x),(.slice u0 (bC k.aa j).ag.length u1),(.slice u2 (bC k.aa j).h.length u3),(.slice u4 (bC k.aa j).ax.length u5)] 87;have jN:=And.intro (gN.1.later b3) (gN.2.later b3);obtain⟨v',Y,hr,sJ,kQ,ig,dQ,a',c',rfl⟩:=HS.out.Ni (au nI b3) (⟨u0,u1,u2,u3,u4,u5⟩:MV) (bC k.aa j) Q X2.1.size (by rw[HM.out.2.1];omega) 29 x3.1 (iN.aM hO b3.size (fun q hq=>b3.block q (iN.of hO hq).2));have oO:=And.intro kQ (jN.2.of dQ (fun q hq=>ig q (.inl hq)));have HE:Hid ((ms++[((⟨u0,u1,u2,u3,u4,u5⟩:MV),bC k.aa j)]).map (·.2)=k.aa.take (j+1)):=by unfold Hid;rw[List.map_append,HM.out.1];exact mM HM.out.2.2
     rw[HM.out.2.1]at hr sJ;have KE:=af sJ;refine hK.out _ _ (fun _=>gN) ?_;clear hK K b2 nI b3 x3 sJ kQ ig dQ hO dY;refine ed 8 rfl (fun K hK=>?_);go_simp;rw[<-nL];refine hK.out _ _ (fun _=>jN) ?_;clear hK K gN;refine ed 9 rfl (fun K hK=>?_);refine bJ _ rfl (.tmp 43) (.tmp 50) 29 rfl _ _ _ _ (by first|rfl|simp[Act.eval,Act.put]) (by first|rfl|simp[Act.eval,Act.put]) hr ?_;refine hK.out _ _ (fun _=>oO) ?_;clear hK K hr jN nL;simp only[Act.put];refine ed 10 rfl (fun K hK=>?_);go_simp;refine hK.out _ _ (fun _=>oO) ?_;clear hK K;refine ed 11 rfl (fun K hK=>?_);have o3:=oO.1.1 3 _ rfl;have tM:=oO.1.2.1 3;go_simp;refine hK.out _ _ (fun h=>absurd rfl h) ?_;clear hK K;refine cZ (by kernel_rfl) ?_ _;go_wp2;exact⟨⟨j+1,a',c',_,_,by omega,by simp,HE.out,KE.out⟩,by simp[intOf];omega⟩
    ·obtain rfl:k.aa.length=j:=by omega
     have hd:decide ((k.aa.length:Int)<(k.aa.length:Int))=false:=by simp
     rw[List.take_length]at pK;have EM:=af (pK);have S1:=af fq;clear pK fq hj aN tH;go_wp2;clear p2 p3 p4;generalize wr=WM at *;go_loopw[6] (fun v wr=>∃(j:Nat) (bT:OA) (dT:Nat) (ts:List ((tx.TV)×tx.T7)) (gt:Nat->Nat->Prop),j<=k.c.length/\v=vI j/\ts.map (·.2)=k.c.take j/\Qd ts/\EH w (dU a1 c1 a2 c2 a3 c3 k) sH k wr (.slice bP k.f.length dP) (.slice bM k.aa.length dM) (.slice bT j dT) ps gp ms gm ts gt) (fun v _=>k.c.length-(intOf v).toNat)
     case atStart=>exact⟨0,none,0,[],jM,Nat.zero_le _,rfl,by simp,fun _ hp=>by simp at hp,S1.out⟩
     case round=>
      obtain⟨j,bT,dT,ts,gt,hj,rfl,pK,kz,fq⟩:=hrel;have Yf:=af kz;clear kz;have tH:k.c.length<=1000:=by have:=H.out.1.t;omega
      have p2:=fq.arg.1 2 _ rfl;have p3:=fq.arg.1 3 _ rfl;have p4:=fq.arg.1 4 _ rfl;by_cases aN:j<k.c.length
      ·skip
       have bg:=gL aN;have IE:ts.length=j:=by have:=congrArg List.length pK;simpa[Nat.min_eq_left hj]using this
       have iw:=H.out.2.later fq.uU;rcases iw.t with h0|⟨b,off,rfl,hb,tJ⟩
       ·rw[h0]at aN;simp at aN
       obtain⟨⟨t0,t1,t2,t3⟩,lu,MO⟩:=tJ j _ bg;have Sr:=lu 0 _ rfl;have Wl:=lu 1 _ rfl;have Wm:=lu 2 _ rfl;have Wn:=lu 3 _ rfl;have gg:=lu 4 _ rfl;have gj:=lu 5 _ rfl;have gn:=lu 6 _ rfl;clear tJ iw lu
       have lu:At wr b (off+j*7) (tx.jJ t0 t1 t2 t3 (bn k.c j)):=fun i u hu=>by
        rcases i with _|_|_|_|_|_|_|i
        ·simp at hu;subst hu;exact Sr
        ·simp at hu;subst hu;exact Wl
        ·simp at hu;subst hu;exact Wm
        ·simp at hu;subst hu;exact Wn
        ·simp at hu;subst hu;exact gg
        ·simp at hu;subst hu;exact gj
        ·simp at hu;subst hu;exact gn
        ·simp at hu
       have rT:b<w.1.size:=by
        rcases H.out.2.t with h0|⟨b',di,e',fB,_⟩
        ·rw[h0]at aN;simp at aN
        ·cases e';exact fB
       have dY:(fun X:World=>Bx X (w.1.size+2) [vI k.v,vI k.u,(.slice bP k.f.length dP),(.slice bM k.aa.length dM),(.slice bT j dT),.bool k.w]/\Sp w (dU a1 c1 a2 c2 (some ⟨b,off,none⟩) c3 k) b (off+j*7) (tx.jJ t0 t1 t2 t3 (bn k.c j)) X) wr.drew:=⟨fq.own.later aK.drew,⟨fq.arg.later aK.drew,lu.aj rfl,rT⟩⟩
       have HD:Hid (Below wr.1.size wr wr.drew):=aK.drew;have jn:(j:Int)<(k.c.length:Int):=by omega
       obtain⟨l1,l2⟩:=H.out.1.ts _ (List.mem_of_getElem? bg);have jo:=tx.tX wr.drew ⟨t0,t1,t2,t3⟩ (bn k.c j) (by omega) (by omega) (tx.uA.later MO aK.drew);simp only[tx.TV.val]at jo;clear l1 l2;have HS:=af fq;have HM:=fP pK IE bg;clear fq pK IE bg lu rT MO Sr Wl Wm Wn gg gj gn;go_wp2_with fail;refine bR 11 (fun X:World=>Bx X (w.1.size+2) [vI k.v,vI k.u,(.slice bP k.f.length dP),(.slice bM k.aa.length dM),(.slice bT j dT),.bool k.w]/\Sp w (dU a1 c1 a2 c2 (some ⟨b,off,none⟩) c3 k) b (off+j*7) (tx.jJ t0 t1 t2 t3 (bn k.c j)) X) (by kernel_rfl) ?_;generalize wr.drew=XD at *;refine eP 0 ?_ rfl ?_ dY ?_;rotate_left
       ·(intro w aA;go_simp;first|done|with_reducible rfl)
       simp only[Act.put];refine eP 1 ?_ rfl ?_ dY ?_;rotate_left
       ·(intro w aA;have q:=aA.1.1 4 _ rfl;go_simp;first|done|with_reducible rfl|exact q)
       simp only[Act.put];refine eP 2 ?_ rfl ?_ dY ?_;rotate_left
       ·(intro w aA;go_simp;first|done|with_reducible rfl)
       simp only[Act.put];refine eP 3 ?_ rfl ?_ dY ?_;rotate_left
       ·(intro w aA;have q:=aA.2.1.1 4 _ rfl;go_simp;first|done|with_reducible rfl|exact q)
       simp only[Act.put];refine eP 4 ?_ rfl ?_ dY ?_;rotate_left
       ·(intro w aA;go_simp;first|done|with_reducible rfl)
       simp only[Act.put];refine eP 5 ?_ rfl ?_ dY ?_;rotate_left
       ·(intro w aA;go_simp;first|done|with_reducible rfl|(rw[if_pos (by omega)]))
       simp only[Act.put];refine eP 6 ?_ rfl ?_ dY ?_;rotate_left
       ·(intro w aA;have q0:w.cell? ⟨b,off+j*7,none⟩=some (vI (bn k.c j).id):=aA.2.2.1 0 _ rfl;have q1:w.cell? ⟨b,off+j*7+1,none⟩=some (vI (bn k.c j).l):=aA.2.2.1 1 _ rfl;have q2:w.cell? ⟨b,off+j*7+2,none⟩=some (vI (bn k.c j).o):=aA.2.2.1 2 _ rfl;have q3:w.cell? ⟨b,off+j*7+3,none⟩=some (vI (bn k.c j).q):=aA.2.2.1 3 _ rfl;have q4:w.cell? ⟨b,off+j*7+4,none⟩=some (.slice t0 (bn k.c j).a.length t1):=aA.2.2.1 4 _ rfl;have q5:w.cell? ⟨b,off+j*7+5,none⟩=some (.slice t2 (bn k.c j).ai.length t3):=aA.2.2.1 5 _ rfl;have q6:w.cell? ⟨b,off+j*7+6,none⟩=some (vI (bn k.c j).az):=aA.2.2.1 6 _ rfl;go_simp;first|done|with_reducible rfl|rfl)
       simp only[Act.put];refine ed 7 rfl (fun K hK=>?_);go_simp;refine jo.mono ?_;clear jo;rintro e X2 ⟨u0,u1,u2,u3,PR,PS,rfl,ho,b2,pP⟩
       have sT:Hid (Qd (ts++[((⟨u0,u1,u2,u3⟩:tx.TV),bn k.c j)])):=fun p hp=>by
        rcases List.mem_append.1 hp with h|h
        ·exact Yf.out p h
        ·simp at h;subst h;exact pP
       clear pP;simp only[tx.TV.val];have hO:iO.Ow X2 wr.1.size ⟨u0,u1,u2,u3⟩ (bn k.c j) (tx.lZ PR PS):=iO.low (KT.ow ho) HD.out.size;have UR:=dw HD.out (show True from trivial);have HD:=UR;clear UR;have nI:=au HD.out.1 b2;have gN:=And.intro (dY.1.later b2) (dY.2.later b2);obtain⟨X3,nL,b3,x3,-⟩:=iI X2 [(vI (bn k.c j).id),(vI (bn k.c j).l),(vI (bn k.c j).o),(vI (bn k.c j).q),(.slice u0 (bn k.c j).a.length u1),(.slice u2 (bn k.c j).ai.length u3),(vI (bn k.c j).az)] 91;have jN:=And.intro (gN.1.later b3) (gN.2.later b3);obtain⟨v',Y,hr,sJ,kQ,ig,dQ,a',c',rfl⟩:=HS.out.Nk (au nI b3) (⟨u0,u1,u2,u3⟩:tx.TV) (bn k.c j) (tx.lZ PR PS) X2.1.size (by rw[HM.out.2.1];omega) 30 x3.1 (iO.aM hO b3.size (fun q hq=>b3.block q (iO.of hO hq).2));have oO:=And.intro kQ (jN.2.of dQ (fun q hq=>ig q (.inl hq)));have HE:Hid ((ts++[((⟨u0,u1,u2,u3⟩:tx.TV),bn k.c j)]).map (·.2)=k.c.take (j+1)):=by unfold Hid;rw[List.map_append,HM.out.1];exact mM HM.out.2.2
       rw[HM.out.2.1]at hr sJ;have KE:=af sJ;refine hK.out _ _ (fun _=>gN) ?_;clear hK K b2 nI b3 x3 sJ kQ ig dQ hO dY;refine ed 8 rfl (fun K hK=>?_);go_simp;rw[<-nL];refine hK.out _ _ (fun _=>jN) ?_;clear hK K gN;refine ed 9 rfl (fun K hK=>?_);refine bJ _ rfl (.tmp 61) (.tmp 68) 30 rfl _ _ _ _ (by first|rfl|simp[Act.eval,Act.put]) (by first|rfl|simp[Act.eval,Act.put]) hr ?_;refine hK.out _ _ (fun _=>oO) ?_;clear hK K hr jN nL;simp only[Act.put];refine ed 10 rfl (fun K hK=>?_);go_simp;refine hK.out _ _ (fun _=>oO) ?_;clear hK K;refine ed 11 rfl (fun K hK=>?_);have o4:=oO.1.1 4 _ rfl;have tP:=oO.1.2.1 4;go_simp;refine hK.out _ _ (fun h=>absurd rfl h) ?_;clear hK K;refine cZ (by kernel_rfl) ?_ _;go_wp2;exact⟨⟨j+1,a',c',_,_,by omega,by simp,HE.out,sT.out,KE.out⟩,by simp[intOf];omega⟩
      ·obtain rfl:k.c.length=j:=by omega
       have hd:decide ((k.c.length:Int)<(k.c.length:Int))=false:=by simp
       rw[List.take_length]at pK;have ET:=af (pK);have S1:=af fq;clear pK fq hj aN tH;have o0:=S1.out.own.c6;have r0:=S1.out.res.c6;have f0:=S1.out.res.f6;go_wp2;refine bodyPost_ret (v:=.agg #[vI k.v,vI k.u,.slice bP k.f.length dP,.slice bM k.aa.length dM,.slice bT k.c.length dT,.bool k.w]) (by simp[results,results47,go_sem,r0]) rfl ?_;refine⟨bP,dP,bM,dM,bT,dT,ps,gp,ms,gm,ts,gt,rfl,?_,EP.out,EM.out,ET.out,?_⟩
       ·exact S1.out.rows.aM (Y:=cO wr (w.1.size+1) 0 (dU bP dP bM dM bT dT k)) (by rw[aS];exact Nat.le_refl _) (fun q _ hb _=>aO (by omega) _ _ _)
       ·exact⟨aI (w:=w) (by omega) (dU bP dP bM dM bT dT k) wr 0 S1.out.uU,Yf.out⟩
theorem Lc(w:World)(a1:OA)(c1:Nat)(a2:OA)(c2:Nat)(a3:OA)(c3:Nat)(k:C6)(hk:aD k=true)(h:df.Rd w a1 c1 a2 c2 a3 c3 k):
  Calls prog 47 #[.agg #[vI k.v,vI k.u,.slice a1 k.f.length c1,.slice a2 k.aa.length c2,.slice a3 k.c.length c3,.bool k.w]] w (UQ w k):=by
 refine(Ad w a1 c1 a2 c2 a3 c3 k hk h).mono ?_;rintro e w' ⟨a,b,c,d,f,g,p1,p2,p3,p4,p5,p6,h1,h2,h3,h4,h5,h6,_⟩;exact⟨a,b,c,d,f,g,p1,p2,p3,p4,p5,p6,h1,h2,h3,h4,h5,h6⟩
end
section
open Go.Proofs.Tryz
variable {k:C6}{y:Int}
def XO(k:C6)(y:Int):Int:=if fK k y=0 then(ib k.c y:Int)else -1
theorem uI(h:fK k y≠0):XO k y=-1:=if_neg h
theorem Dq(h:fK k y=0):XO k y=(ib k.c y:Int):=if_pos h
theorem tY(w:World)(a1:OA)(c1:Nat)(a2:OA)(c2:Nat)(a3:OA)(c3:Nat)(k:C6)(n:Int)(h:df.Rd w a1 c1 a2 c2 a3 c3 k)(hk:aD k=true\/n=1)(hn:aD k=true->n≠1):
  Calls prog 18 #[.agg #[vI k.v,vI k.u,.slice a1 k.f.length c1,.slice a2 k.aa.length c2,.slice a3 k.c.length c3,.bool k.w],vI n] w (jZ w (iE k) n):=by
 obtain⟨W0,dO⟩:=bO ((w.alloc (.cells #[vI k.v,vI k.u,.slice a1 k.f.length c1,.slice a2 k.aa.length c2,.slice a3 k.c.length c3,.bool k.w] 32)).alloc (.cells #[vI 0,vI 0,.slice none 0 0,.slice none 0 0,.slice none 0 0,.bool false] 32));have b0:Below w.1.size w W0:=by rw[dO];exact(aK.alloc aU _).alloc (by simp) _
 have s0:W0.1.size=w.1.size+2:=by rw[dO];simp
 have x0:Bx W0 w.1.size (dU a1 c1 a2 c2 a3 c3 k):=by
  have:=(Bx.made w (dU a1 c1 a2 c2 a3 c3 k) 32).later (aK.alloc aU (.cells #[vI 0,vI 0,.slice none 0 0,.slice none 0 0,.slice none 0 0,.bool false] 32));rw[dO];exact this
 have x1:Bx W0 (w.1.size+1) sH:=by
  have h:=Bx.made (w.alloc (.cells #[vI k.v,vI k.u,.slice a1 k.f.length c1,.slice a2 k.aa.length c2,.slice a3 k.c.length c3,.bool k.w] 32)) sH 32;rw[show(w.alloc (.cells #[vI k.v,vI k.u,.slice a1 k.f.length c1,.slice a2 k.aa.length c2,.slice a3 k.c.length c3,.bool k.w] 32)).1.size=w.1.size+1 by simp]at h;rw[dO];exact h
 have H:=fP b0 s0 x1
 cases U9:aD k with
 | false=>
  obtain rfl:n=1:=by rcases hk with h1|h1;rw[h1]at U9;cases U9;exact h1
  have nQ:iE k=zC:=by simp[iE,U9]
  have HL:=af nQ;have r0:=x1.1 0 _ rfl;have r1:=x1.1 1 _ rfl;have r2:=x1.1 2 _ rfl;have r3:=x1.1 3 _ rfl;have r4:=x1.1 4 _ rfl;have r5:=x1.1 5 _ rfl;have f0:=x1.2.1 0;have f1:=x1.2.1 1;have f2:=x1.2.1 2;have f3:=x1.2.1 3;have f4:=x1.2.1 4;have f5:=x1.2.1 5;have q0:=r0;have q1:=r1;have q2:=r2;have q3:=r3;have q4:=r4;have q5:=r5;rw[dO]at r0 r1 r2 r3 r4 r5 f0 f1 f2 f3 f4 f5;clear b0 s0 x0 x1 h hk hn nQ U9;go_enter func18,ntmps18;go_wp2;rw[<-dO];refine bodyPost_ret (v:=.tuple #[.agg #[vI 0,vI 0,.slice none 0 0,.slice none 0 0,.slice none 0 0,.bool false],vI 1]) (by simp[results,results18,go_sem,q0,q1,q2,q3,q4,q5]) rfl ?_;rw[HL.out];refine⟨none,0,none,0,none,0,fun _=>False,rfl,VI _ _,?_⟩;exact H.out.1
 | true=>
  have eO:=hn U9;have nQ:iE k=k:=by simp[iE,U9]
  have HL:=af nQ;have hb:(n==1)=false:=by simpa using eO
  have hc:=Lc W0 a1 c1 a2 c2 a3 c3 k U9 (h.later b0);have p0:=x0.c6;rw[dO]at p0;clear b0 s0 x0 x1 h hk hn nQ U9 eO;go_enter func18,ntmps18;go_wp2_with fail;rw[<-dO];clear dO p0;refine hc.mono ?_;clear hc;rintro e w1 ⟨b1,d1,b2,d2,b3,d3,ps,gp,ms,gm,ts,gt,rfl,hr,e1,e2,e3,bl⟩;obtain⟨h1,h2,h3⟩:=H.out;have y0:=h3.later bl;have r0:=y0.c6;have f0:=y0.f6;have KE:=fP (hr.ow e1 e2 e3) (au h1 bl) h2;clear hr e1 e2 e3 bl y0 h1 h2 h3 H;go_wp2;refine bodyPost_ret (v:=.tuple #[.agg #[vI k.v,vI k.u,.slice b1 k.f.length d1,.slice b2 k.aa.length d2,.slice b3 k.c.length d3,.bool k.w],vI n]) (by simp[results,results18,go_sem,r0]) rfl ?_;rw[HL.out];refine⟨b1,d1,b2,d2,b3,d3,_,rfl,(KE.out.1.low (show w.1.size<=_ by have:=KE.out.2.2;omega)).aM (w':=cO w1 (w.1.size+1) 0 (dU b1 d1 b2 d2 b3 d3 k)) (by rw[aS];exact Nat.le_refl _) (fun q hq=>aO (fun e=>by have:=(KE.out.1.of hq).1;have:=KE.out.2.2;omega) _ _ _),?_⟩;exact aI (w:=w) (by omega) (dU b1 d1 b2 d2 b3 d3 k) w1 0 KE.out.2.1
theorem Cq(w:World)(a1:OA)(c1:Nat)(a2:OA)(c2:Nat)(a3:OA)(c3:Nat)(k:C6)(y:Int)(hl:df.L k)(h:df.Rd w a1 c1 a2 c2 a3 c3 k):
  Calls prog 17 #[.agg #[vI k.v,vI k.u,.slice a1 k.f.length c1,.slice a2 k.aa.length c2,.slice a3 k.c.length c3,.bool k.w],vI y] w fun e w'=>e=.returned (.tuple #[vI (XO k y),vI (fK k y)])/\Below w.1.size w w':=by
 obtain⟨W0,dO,b0,x0,-⟩:=iI w (dU a1 c1 a2 c2 a3 c3 k) 32;have hc:=yE W0 a1 c1 a2 c2 a3 c3 k hl (h.later b0);have p0:=x0.c6;have H:=pI b0 x0 (h.later b0) hl;rw[dO]at p0;clear b0 x0 h hl;go_enter func17,ntmps17;go_wp2_with fail;rw[<-dO];clear dO p0;refine hc.mono ?_;clear hc;rintro e w1 ⟨rfl,b1⟩;have B1:=fP (au H.out.1 b1) (H.out.2.1.later b1) (H.out.2.2.1.later b1);clear b1
 cases hk:aD k with
 | false=>
  have hr:fK k y=1:=by simp[fK,gV,hk]
  have HR:=af hr;clear hr;go_wp2;refine bodyPost_ret (v:=.tuple #[vI (-1),vI 1]) (by simp[results,results17,go_sem]) rfl ?_;exact⟨by rw[uI (by rw[HR.out];decide),HR.out],B1.out.1⟩
 | true=>
  have hf:=Ld w1 a1 c1 a2 c2 a3 c3 k y H.out.2.2.2 B1.out.2.2;have q0:=B1.out.2.1.1 0 _ rfl;have q1:=B1.out.2.1.1 1 _ rfl;have q2:=B1.out.2.1.1 2 _ rfl;have q3:=B1.out.2.1.1 3 _ rfl;have q4:=B1.out.2.1.1 4 _ rfl;have q5:=B1.out.2.1.1 5 _ rfl;have HK:=af hk;clear hk;go_wp2_with fail;refine hf.mono ?_;clear hf q0 q1 q2 q3 q4 q5;rintro e w2 ⟨⟨z,rfl,Kw⟩,b2⟩;have B2:=fP (au B1.out.1 b2) (B1.out.2.1.later b2) (B1.out.2.2.later b2);clear b2 B1;rcases J9 Kw with ⟨rfl,bg⟩|⟨i,rfl,hi,bg⟩
  ·have hr:fK k y=2:=by simp[fK,gV,HK.out,bg]
   have HR:=af hr;clear hr bg Kw;go_wp2;refine bodyPost_ret (v:=.tuple #[vI (-1),vI 2]) (by simp[results,results17,go_sem]) rfl ?_;exact⟨by rw[uI (by rw[HR.out];decide),HR.out],B2.out.1⟩
  ·clear Kw;obtain⟨Sz,ki⟩:=H8 HK.out hi;obtain⟨hm,WL⟩:∃m:Nat,(bn k.c i).l=(m:Int):=⟨(bn k.c i).l.toNat,by omega⟩
   have kq:hm<k.aa.length:=by omega
   have pG:gV k y=if (bC k.aa hm).x=true then 0 else 3:=by simp only[gV,HK.out,if_true,bg,hi,II,dm,WL,Int.toNat_natCast]
   have HC:=fP pG bg (show dm k y=bn k.c i by rw[dm,bg]);rcases B2.out.2.2.t with e0|⟨b,off,rfl,hb,iw⟩
   ·rw[e0]at hi;simp at hi
   obtain⟨⟨t0,t1,t2,t3⟩,lu,-⟩:=iw i _ (gL hi);rcases B2.out.2.2.m with e0|⟨mb,mo,rfl,Zo,Zq⟩
   ·rw[e0]at kq;simp at kq
   obtain⟨⟨m0,m1,m2,m3,m4,m5⟩,Zp,-⟩:=Zq hm _ (iT kq);have g1:w2.cell? ⟨b,off+i*7+1,none⟩=some (vI (hm:Int)):=by rw[<-WL];exact lu 1 _ rfl
   have g2:=lu 2 _ rfl;have g3:=Zp 0 _ rfl;have q3:=B2.out.2.1.1 3 _ rfl;have q4:=B2.out.2.1.1 4 _ rfl;have jn:(i:Int)<(k.c.length:Int):=by omega
   have jm:(hm:Int)<(k.aa.length:Int):=by omega
   have dn:decide ((i:Int)<0)=false:=by simp
   have x1:=fun dd os=>((below_regrown w2 dd os).cell (p:=⟨b,off+i*7+1,none⟩) hb).trans g1
   have x3:=fun dd os=>((below_regrown w2 dd os).cell (p:=⟨mb,mo+hm*4,none⟩) Zo).trans g3
   have x4:=fun dd os=>(B2.out.2.1.later (below_regrown w2 dd os)).1 3 _ rfl
   have x5:=fun dd os=>(B2.out.2.1.later (below_regrown w2 dd os)).1 4 _ rfl
   have HG2:=dw g2 hb;clear Sz ki pG bg iw lu Zq Zp g1 g2 g3 WL q3 q4 hb Zo;go_wp2_with fail;refine gy ?_;repeat (go_big_quiet_step (fail))
   refine jb fun dq bu=>?_
   have bq:=below_regrown w2 dq bu;have B3:=af (au B2.out.1 bq);have y4:=x5 dq bu;have y2:=(bq.cell (p:=⟨b,off+i*7+2,none⟩) HG2.out.2).trans HG2.out.1;clear bq x1 x3 x4 x5 B2 HG2;generalize grow (redrawn w2 dq) bu=w3 at *
   cases Ir:(bC k.aa hm).x with
   | false=>
    have hr:fK k y=3:=by
     have:gV k y=3:=by rw[HC.out.1,Ir];rfl
     simp[fK,this]
    have HR:=af hr;clear hr;go_wp2;refine bodyPost_ret (v:=.tuple #[vI (-1),vI 3]) (by simp[results,results17,go_sem]) rfl ?_;exact⟨by rw[uI (by rw[HR.out];decide),HR.out],B3.out⟩
   | true=>
    have Zg:gV k y=0:=by rw[HC.out.1,Ir];rfl
    by_cases Oj:(bn k.c i).o=1
    ·have hr:fK k y=0:=by simp[fK,Zg,HC.out.2.2,Oj]
     have HR:=af hr;rw[Oj]at y2;clear hr Zg Oj;go_wp2;refine bodyPost_ret (v:=.tuple #[vI (i:Int),vI 0]) (by simp[results,results17,go_sem]) rfl ?_;exact⟨by rw[Dq HR.out,HR.out,HC.out.2.1],B3.out⟩
    ·have hr:fK k y=4:=by simp[fK,Zg,HC.out.2.2,Oj]
     have HR:=af hr;have eO:((bn k.c i).o != 1)=true:=by simpa using Oj
     clear hr Zg Oj;go_wp2;refine bodyPost_ret (v:=.tuple #[vI (-1),vI 4]) (by simp[results,results17,go_sem]) rfl ?_;exact⟨by rw[uI (by rw[HR.out];decide),HR.out],B3.out⟩
end
section
open Go.Proofs.Tryz
end
section
open Go.Proofs.Tryz
variable {B b j n:Nat}{X:World}{g:Nat->Nat->Prop}
structure Kd.Rest{D V:Type}(K:Kd D V)(X:World)(B b n:Nat)(ys:List D)(g:Nat->Nat->Prop)(j:Nat):Prop where
 rm:Room X b (n*K.n)
 at_:∀i d,j<=i->ys[i]?=some d->∃v,At X b (i*K.n) (K.cells v d)/\K.Ow X B v d (g i)
 ne:∀i q,i<ys.length->g i q->q≠b
 ap:∀i j q,i<ys.length->j<ys.length->i≠j->g i q->¬g j q
theorem Kd.Part.rest{D V:Type}{K:Kd D V}{ys:List D}(h:K.Part X B b n ys g):K.Rest X B b n ys g 0:=⟨h.rm,fun i d _ hi=>h.at_ i d hi,h.ne,h.ap⟩
theorem Kd.Rest.up{D V:Type}{K:Kd D V}{ys:List D}(h:K.Rest X B b n ys g j):K.Rest X B b n ys g (j+1):=⟨h.rm,fun i d hj hi=>h.at_ i d (by omega) hi,h.ne,h.ap⟩
theorem Kd.Rest.set{D V:Type}{K:Kd D V}{X:World}{B b n:Nat}{ys:List D}{g:Nat->Nat->Prop}{j o:Nat}(h:K.Rest X B b n ys g (j+1))(ho:o<(j+1)*K.n)(u:Value):K.Rest (X.setCell ⟨b,o,none⟩ u) B b n ys g (j+1):=by
 refine⟨h.rm.set _,fun i d hj hi=>?_,h.ne,h.ap⟩;obtain⟨v,h1,h2⟩:=h.at_ i d hj hi;have hm:=Nat.mul_le_mul_right K.n hj;exact⟨v,fun q u' e=>(ae (by omega)).trans (h1 q u' e),K.aM h2 (by simp[World.setCell]) (fun q hq=>Below.heap_setCell _ _ _ _ (h.ne i q (List.getElem?_eq_some_iff.1 hi).1 hq))⟩
theorem Kd.Rest.kept{D V:Type}{K:Kd D V}{Y:World}{ys:List D}{Q:Nat->Prop}(h:K.Rest X B b n ys g (j+1))(hk:aG Q X Y)(hb:b<X.1.size)(hj:j<ys.length)(hQ:∀q,Q q->g j q):K.Rest Y B b n ys g (j+1):=by
 have gu:=hk.block b hb (fun e=>h.ne j b hj (hQ b e) rfl);refine⟨Ju h.rm gu,fun i d Ym hi=>?_,h.ne,h.ap⟩;obtain⟨v,h1,h2⟩:=h.at_ i d Ym hi;have hl:=(List.getElem?_eq_some_iff.1 hi).1;exact⟨v,h1.aj gu,K.aM h2 hk.size (fun q hq=>hk.block q (K.of h2 hq).2 (fun e=>h.ap i j q hl hj (by omega) hq (hQ q e)))⟩
def cM(m:M4):Nat:=1+(aL cK m.ag m.ag.length+aL cR m.h m.h.length+m.ax.length)
structure YD(w X:World)(B b:Nat)(ms:List M4)(g:Nat->Nat->Prop)(P:Nat->Prop)(j:Nat)(a2:OA)(c2:Nat)(a3:OA)(c3:Nat)(PR PD:Nat->Prop):Prop where
 r:vF 4 uP El AtR X PR a2 (bC ms j).h
 n:D7 X PD a3 (bC ms j).ax
 e2:X.cell? ⟨b,j*4+2,none⟩=some (.slice a2 (bC ms j).h.length c2)
 e3:X.cell? ⟨b,j*4+3,none⟩=some (.slice a3 (bC ms j).ax.length c3)
 rest:iN.Rest X B b ms.length ms g (j+1)
 kp:aG P w X
 lt:b<X.1.size
theorem Xv(w:World)(B b cap:Nat)(ms:List M4)(g:Nat->Nat->Prop)(P:Nat->Prop)(k:Int)(hk:0<=k)(pJ:k+(aL cM ms ms.length:Int)<=100000000)(hn:ms.length<=1048576)(ht:∀m∈ms,MT m)(hb:b<w.1.size)(EW:P b)(QA:∀i q,i<ms.length->g i q->P q)(h:iN.Part w B b ms.length ms g):
  Calls prog 33 #[.slice (some ⟨b,0,none⟩) ms.length cap,vI k] w fun e w'=>e=.returned (vI (k+(aL cM ms ms.length:Int)))/\aG P w w':=by
 have H:Hid ((∀m∈ms,MT m)/\b<w.1.size/\P b/\(∀i q,i<ms.length->g i q->P q)/\iN.Part w B b ms.length ms g):=⟨ht,hb,EW,QA,h⟩
 clear ht hb EW QA h;go_enter func33,ntmps33;go_wp2;go_loopw[1,5] (fun v1 v5 wr=>∃j:Nat,j<=ms.length/\v5=vI j/\v1=vI (k+(aL cM ms j:Int))/\aG P w wr/\iN.Rest wr B b ms.length ms g j) (fun _ v5 _=>ms.length-(intOf v5).toNat)
 case atStart=>exact⟨0,Nat.zero_le _,rfl,by rw[jf];simp,aG.refl _ _,H.out.2.2.2.2.rest⟩
 case round=>
  obtain⟨j,hj,rfl,rfl,kW,nR⟩:=hrel;have kU:=iy cM ms j;by_cases aN:j<ms.length
  ·have hd:=iT aN;obtain⟨⟨m0,m1,m2,m3,m4,m5⟩,bg,how⟩:=nR.at_ j _ aU hd;obtain⟨PK,PR,PD,om,kR,TB⟩:=how;obtain⟨z0,d0,f0⟩:∃v,wr.cell? ⟨b,j*4,none⟩=some v/\wr.frozen? ⟨b,j*4,none⟩=false:=nR.rm (j*4) (show _<ms.length*4 by omega);have e1:wr.cell? ⟨b,j*4+1,none⟩=some (.slice m0 (bC ms j).ag.length m1):=bg 1 _ rfl;have e2:wr.cell? ⟨b,j*4+2,none⟩=some (.slice m2 (bC ms j).h.length m3):=bg 2 _ rfl;have e3:wr.cell? ⟨b,j*4+3,none⟩=some (.slice m4 (bC ms j).ax.length m5):=bg 3 _ rfl;have hT:=H.out.1 _ (List.mem_of_getElem? hd);have lT:aL cM ms (j+1)=aL cM ms j+cM (bC ms j):=je cM hd;have hle:=iy cM ms (j+1);have HO:Hid (aL cM ms (j+1)=aL cM ms j+(1+(aL cK (bC ms j).ag (bC ms j).ag.length+aL cR (bC ms j).h (bC ms j).h.length+(bC ms j).ax.length))/\k+(aL cM ms (j+1):Int)<=100000000):=⟨lT,by omega⟩
   have Aa:∀q,g j q->q≠b:=fun q hq=>nR.ne j q aN hq
   have bl:b<wr.1.size:=Nat.lt_of_lt_of_le H.out.2.1 kW.size
   have S1:Hid (∀u:Value,vF 2 wK D5 oN (wr.setCell ⟨b,j*4,none⟩ u) PK m0 (bC ms j).ag/\YD w (wr.setCell ⟨b,j*4,none⟩ u) B b ms g P j m2 m3 m4 m5 PR PD):=fun u=>by
    have dQ:wr.1.size<=(wr.setCell ⟨b,j*4,none⟩ u).1.size:=by simp[World.setCell]
    exact⟨om.k.aM oN.aj dQ (fun q _ hp=>Below.heap_setCell _ _ _ _ (Aa q (kR q (.inl hp)))),om.r.aM AtR.aj dQ (fun q _ hp=>Below.heap_setCell _ _ _ _ (Aa q (kR q (.inr (.inl hp))))),om.n.aM dQ (fun q _ hp=>Below.heap_setCell _ _ _ _ (Aa q (kR q (.inr (.inr hp))))),
     (ae (by omega)).trans e2,(ae (by omega)).trans e3,nR.up.set (show j*4<(j+1)*4 by omega) u,kW.trans (aG.uj wr u H.out.2.2.1),Nat.lt_of_lt_of_le bl dQ⟩
   have HG:Hid ((∀q,PK q->g j q)/\(∀q,PR q->g j q)/\(∀q,PD q->g j q)/\(∀q,PK q->¬PR q)/\(∀q,PK q->¬PD q)/\(∀q,PR q->¬PD q)/\(∀q,g j q->q≠b)/\(∀q,g j q->P q)):=⟨fun q hq=>kR q (.inl hq),fun q hq=>kR q (.inr (.inl hq)),fun q hq=>kR q (.inr (.inr hq)),om.kr,om.kd,om.rd,Aa,fun q hq=>H.out.2.2.2.1 j q aN hq⟩
   have S2:Hid (∀u w1,aG PK (wr.setCell ⟨b,j*4,none⟩ u) w1->YD w w1 B b ms g P j m2 m3 m4 m5 PR PD):=fun u w1 k1=>by
    have R0:=(S1.out u).2;have Sw:=k1.block b R0.lt (fun e=>HG.out.2.2.2.2.2.2.1 b (HG.out.1 b e) rfl);exact⟨R0.r.aM AtR.aj k1.size (fun q hq hp=>k1.block q hq (fun e=>HG.out.2.2.2.1 q e hp)),R0.n.aM k1.size (fun q hq hp=>k1.block q hq (fun e=>HG.out.2.2.2.2.1 q e hp)),(World.cell?_of_block (a:=⟨b,j*4+2,none⟩) Sw).trans R0.e2,(World.cell?_of_block (a:=⟨b,j*4+3,none⟩) Sw).trans R0.e3,R0.rest.kept k1 R0.lt aN HG.out.1,R0.kp.trans (k1.mono (fun q hq=>HG.out.2.2.2.2.2.2.2 q (HG.out.1 q hq))),Nat.lt_of_lt_of_le R0.lt k1.size⟩
   have HT:Hid (MT (bC ms j)):=hT;have jn:(j:Int)<(ms.length:Int):=by omega
   have g0:0<=k+(aL cM ms j:Int):=by omega
   have g1:k+(aL cM ms j:Int)<=100000000:=by omega
   clear kW nR bg om kR TB hd lT hle Aa hT bl e2 e3 kU;generalize hK:k+(aL cM ms j:Int)=kj at *;go_wp2_with fail;refine(Vt _ PK m0 m1 (bC ms j).ag (kj+1) (by omega) (by omega) HT.out.tk HT.out.k HT.out.ks (S1.out _).1).mono ?_;rintro e w1 ⟨rfl,k1,-⟩;have R1:=af (S2.out _ _ k1);clear k1 S1 S2 d0 f0 e1;have e2:=R1.out.e2;have tk:=HT.out.tk;have tr:=HT.out.tr;have tn:=HT.out.n;go_wp2_with fail;refine(Vv w1 PR m2 m3 (bC ms j).h _ (by omega) (by omega) HT.out.tr HT.out.r HT.out.rs R1.out.r).mono ?_;rintro e w2 ⟨rfl,k2,-⟩
   have R2:Hid (D7 w2 PD m4 (bC ms j).ax/\w2.cell? ⟨b,j*4+3,none⟩=some (.slice m4 (bC ms j).ax.length m5)/\iN.Rest w2 B b ms.length ms g (j+1)/\aG P w w2/\b<w2.1.size):=by
    have R0:=R1.out;have Sw:=k2.block b R0.lt (fun e=>HG.out.2.2.2.2.2.2.1 b (HG.out.2.1 b e) rfl);exact⟨R0.n.aM k2.size (fun q hq hp=>k2.block q hq (fun e=>HG.out.2.2.2.2.2.1 q e hp)),(World.cell?_of_block (a:=⟨b,j*4+3,none⟩) Sw).trans R0.e3,R0.rest.kept k2 R0.lt aN HG.out.2.1,R0.kp.trans (k2.mono (fun q hq=>HG.out.2.2.2.2.2.2.2 q (HG.out.2.1 q hq))),Nat.lt_of_lt_of_le R0.lt k2.size⟩
   clear k2 R1 e2;have e3:=R2.out.2.1;go_wp2_with fail;refine(Vu w2 PD m4 m5 (bC ms j).ax _ (by omega) (by omega) HT.out.n R2.out.1).mono ?_;rintro e w3 ⟨rfl,k3,-⟩;have R3:=dw (R2.out.2.2.1.kept k3 R2.out.2.2.2.2 aN HG.out.2.2.1) (R2.out.2.2.2.1.trans (k3.mono (fun q hq=>HG.out.2.2.2.2.2.2.2 q (HG.out.2.2.1 q hq))));clear k3 R2 e3;go_wp2;exact⟨⟨j+1,by omega,by simp,by have:=HO.out.1;rw[this];congr 1;omega,R3.out.2,R3.out.1⟩,by simp[intOf];omega⟩
  ·obtain rfl:j=ms.length:=by omega
   have hd:decide ((ms.length:Int)<(ms.length:Int))=false:=by simp
   have KH:=af (kW);clear kW nR;go_wp2;go_ret;exact⟨rfl,KH.out⟩
end
section
open Go.Proofs.Tryz
theorem MX{P:Nat->Prop}{a b:World}(h:tx.aG P a b):aG P a b:=⟨h.os,h.tape,h.output,h.size,h.block⟩
def cT(t:tx.T7):Nat:=5+(5*t.a.length+5*t.ai.length)
structure YK(w X:World)(B b:Nat)(ts:List tx.T7)(g:Nat->Nat->Prop)(P:Nat->Prop)(j:Nat)(a2:OA)(c2:Nat)(PS:Nat->Prop):Prop where
 s:tx.mO X PS a2 (bn ts j).ai
 e5:X.cell? ⟨b,j*7+5,none⟩=some (.slice a2 (bn ts j).ai.length c2)
 rest:iO.Rest X B b ts.length ts g (j+1)
 kp:aG P w X
 lt:b<X.1.size
theorem Xx(w:World)(B b cap:Nat)(ts:List tx.T7)(g:Nat->Nat->Prop)(P:Nat->Prop)(k:Int)(hk:0<=k)(pJ:k+(aL cT ts ts.length:Int)<=100000000)(hn:ts.length<=1048576)(ht:∀t∈ts,KT.S t)(hb:b<w.1.size)(EW:P b)(QA:∀i q,i<ts.length->g i q->P q)(h:iO.Part w B b ts.length ts g):
  Calls prog 34 #[.slice (some ⟨b,0,none⟩) ts.length cap,vI k] w fun e w'=>e=.returned (vI (k+(aL cT ts ts.length:Int)))/\aG P w w':=by
 have H:Hid ((∀t∈ts,KT.S t)/\b<w.1.size/\P b/\(∀i q,i<ts.length->g i q->P q)/\iO.Part w B b ts.length ts g):=⟨ht,hb,EW,QA,h⟩
 clear ht hb EW QA h;go_enter func34,ntmps34;go_wp2;go_loopw[1,5] (fun v1 v5 wr=>∃j:Nat,j<=ts.length/\v5=vI j/\v1=vI (k+(aL cT ts j:Int))/\aG P w wr/\iO.Rest wr B b ts.length ts g j) (fun _ v5 _=>ts.length-(intOf v5).toNat)
 case atStart=>exact⟨0,Nat.zero_le _,rfl,by rw[jf];simp,aG.refl _ _,H.out.2.2.2.2.rest⟩
 case round=>
  obtain⟨j,hj,rfl,rfl,kW,nR⟩:=hrel;have kU:=iy cT ts j;by_cases aN:j<ts.length
  ·have hd:=gL aN;obtain⟨⟨t0,t1,t2,t3⟩,bg,how⟩:=nR.at_ j _ aU hd;obtain⟨PR,PS,om,kR,TB⟩:=how;obtain⟨z0,d0,f0⟩:∃v,wr.cell? ⟨b,j*7,none⟩=some v/\wr.frozen? ⟨b,j*7,none⟩=false:=nR.rm (j*7+0) (show _<ts.length*7 by omega);obtain⟨z1,d1,f1⟩:∃v,wr.cell? ⟨b,j*7+1,none⟩=some v/\wr.frozen? ⟨b,j*7+1,none⟩=false:=nR.rm (j*7+1) (show _<ts.length*7 by omega);obtain⟨z2,d2,f2⟩:∃v,wr.cell? ⟨b,j*7+2,none⟩=some v/\wr.frozen? ⟨b,j*7+2,none⟩=false:=nR.rm (j*7+2) (show _<ts.length*7 by omega);obtain⟨z3,d3,f3⟩:∃v,wr.cell? ⟨b,j*7+3,none⟩=some v/\wr.frozen? ⟨b,j*7+3,none⟩=false:=nR.rm (j*7+3) (show _<ts.length*7 by omega);have e4:wr.cell? ⟨b,j*7+4,none⟩=some (.slice t0 (bn ts j).a.length t1):=bg 4 _ rfl;have e5:wr.cell? ⟨b,j*7+5,none⟩=some (.slice t2 (bn ts j).ai.length t3):=bg 5 _ rfl;have hT:=H.out.1 _ (List.mem_of_getElem? hd);have lT:aL cT ts (j+1)=aL cT ts j+cT (bn ts j):=je cT hd;have hle:=iy cT ts (j+1);have HO:Hid (aL cT ts (j+1)=aL cT ts j+(5+(5*(bn ts j).a.length+5*(bn ts j).ai.length))/\k+(aL cT ts (j+1):Int)<=100000000):=⟨lT,by omega⟩
   have Aa:∀q,g j q->q≠b:=fun q hq=>nR.ne j q aN hq
   have bl:b<wr.1.size:=Nat.lt_of_lt_of_le H.out.2.1 kW.size
   have S1:Hid (∀u0 u1 u2 u3:Value,tx.oW ((((wr.setCell ⟨b,j*7,none⟩ u0).setCell ⟨b,j*7+1,none⟩ u1).setCell ⟨b,j*7+2,none⟩ u2).setCell ⟨b,j*7+3,none⟩ u3) PR t0 (bn ts j).a/\YK w ((((wr.setCell ⟨b,j*7,none⟩ u0).setCell ⟨b,j*7+1,none⟩ u1).setCell ⟨b,j*7+2,none⟩ u2).setCell ⟨b,j*7+3,none⟩ u3) B b ts g P j t2 t3 PS):=fun u0 u1 u2 u3=>by
    have ob:aX b wr ((((wr.setCell ⟨b,j*7,none⟩ u0).setCell ⟨b,j*7+1,none⟩ u1).setCell ⟨b,j*7+2,none⟩ u2).setCell ⟨b,j*7+3,none⟩ u3):=((((aX.refl b wr).setCell _ _).setCell _ _).setCell _ _).setCell _ _
    exact⟨om.r.aM (Nat.le_of_eq ob.size.symm) (fun q _ hp=>ob.block q (Aa q (kR q (.inl hp)))),om.s.aM (Nat.le_of_eq ob.size.symm) (fun q _ hp=>ob.block q (Aa q (kR q (.inr hp)))),
     (ae (by omega)).trans ((ae (by omega)).trans ((ae (by omega)).trans ((ae (by omega)).trans e5))),(((nR.up.set (show j*7<(j+1)*7 by omega) u0).set (show j*7+1<(j+1)*7 by omega) u1).set (show j*7+2<(j+1)*7 by omega) u2).set (show j*7+3<(j+1)*7 by omega) u3,kW.trans (aG.jX ob H.out.2.2.1),by rw[ob.size];exact bl⟩
   have HG:Hid ((∀q,PR q->g j q)/\(∀q,PS q->g j q)/\(∀q,PR q->¬PS q)/\(∀q,g j q->q≠b)/\(∀q,g j q->P q)):=⟨fun q hq=>kR q (.inl hq),fun q hq=>kR q (.inr hq),om.rs,Aa,fun q hq=>H.out.2.2.2.1 j q aN hq⟩
   have S2:Hid (∀u0 u1 u2 u3 w1,aG PR ((((wr.setCell ⟨b,j*7,none⟩ u0).setCell ⟨b,j*7+1,none⟩ u1).setCell ⟨b,j*7+2,none⟩ u2).setCell ⟨b,j*7+3,none⟩ u3) w1->YK w w1 B b ts g P j t2 t3 PS):=fun u0 u1 u2 u3 w1 k1=>by
    have R0:=(S1.out u0 u1 u2 u3).2;have Sw:=k1.block b R0.lt (fun e=>HG.out.2.2.2.1 b (HG.out.1 b e) rfl);exact⟨R0.s.aM k1.size (fun q hq hp=>k1.block q hq (fun e=>HG.out.2.2.1 q e hp)),(World.cell?_of_block (a:=⟨b,j*7+5,none⟩) Sw).trans R0.e5,R0.rest.kept k1 R0.lt aN HG.out.1,R0.kp.trans (k1.mono (fun q hq=>HG.out.2.2.2.2 q (HG.out.1 q hq))),Nat.lt_of_lt_of_le R0.lt k1.size⟩
   have HT:Hid (KT.S (bn ts j)):=hT;have jn:(j:Int)<(ts.length:Int):=by omega
   have g0:0<=k+(aL cT ts j:Int):=by omega
   have g1:k+(aL cT ts j:Int)<=100000000:=by omega
   clear kW nR bg om kR TB hd lT hle Aa hT bl e5 kU;generalize hK:k+(aL cT ts j:Int)=kj at *;have tr:=HT.out.1;have ts':=HT.out.2;go_wp2_with fail;refine(tx.Rn _ PR t0 t1 (bn ts j).a _ (by omega) (by omega) HT.out.1 (S1.out _ _ _ _).1).mono ?_;rintro e w1 ⟨rfl,k1,-⟩;have k1:=MX k1;have R1:=af (S2.out _ _ _ _ _ k1);clear k1 S1 S2 d0 f0 d1 f1 d2 f2 d3 f3 e4;have e5:=R1.out.e5;go_wp2_with fail;refine(tx.Ro w1 PS t2 t3 (bn ts j).ai _ (by omega) (by omega) HT.out.2 R1.out.s).mono ?_;rintro e w2 ⟨rfl,k2,-⟩;have k2:=MX k2
   have R2:Hid (iO.Rest w2 B b ts.length ts g (j+1)/\aG P w w2/\b<w2.1.size):=by
    have R0:=R1.out;exact⟨R0.rest.kept k2 R0.lt aN HG.out.2.1,R0.kp.trans (k2.mono (fun q hq=>HG.out.2.2.2.2 q (HG.out.2.1 q hq))),Nat.lt_of_lt_of_le R0.lt k2.size⟩
   clear k2 R1 e5;obtain⟨z6,d6,f6⟩:∃v,w2.cell? ⟨b,j*7+6,none⟩=some v/\w2.frozen? ⟨b,j*7+6,none⟩=false:=R2.out.1.rm (j*7+6) (show _<ts.length*7 by omega);go_wp2;exact⟨⟨j+1,by omega,by simp,by have:=HO.out.1;rw[this];congr 1;omega,R2.out.2.1.trans (aG.uj w2 _ H.out.2.2.1),R2.out.1.set (show j*7+6<(j+1)*7 by omega) _⟩,by simp[intOf];omega⟩
  ·obtain rfl:j=ts.length:=by omega
   have hd:decide ((ts.length:Int)<(ts.length:Int))=false:=by simp
   have KH:=af (kW);clear kW nR;go_wp2;go_ret;exact⟨rfl,KH.out⟩
end
section
open Go.Proofs.Tryz
theorem tF(w:World)(a:OA)(n cap:Nat)(k:Int)(hn:n<=1048576)(hk:0<=k)(pJ:k<=1000000000)(hs:sD w w.1.size a n (marks n k)):
  Calls prog 72 #[.slice a n cap,vI k] w fun e w'=>e=.returned (vI (k+n))/\w'=w:=by
 obtain⟨_,hs⟩:=hs;go_enter func72,ntmps72;go_wp2;go_loop[1,5] (fun v1 v5=>∃j:Nat,j<=n/\v5=vI j/\v1=vI (k+j)) (fun _ v5=>n-(intOf v5).toNat)
 case atStart=>exact⟨0,Nat.zero_le _,rfl,by simp⟩
 case round=>
  obtain⟨j,hj,rfl,rfl⟩:=hrel;by_cases aN:j<n
  ·rcases hs with hs|⟨b,off,rfl,hb,h1⟩
   ·omega
   ·have c:=h1 j _ (CE n k j aN);have hq:(k+(j:Int) != k+(j:Int))=false:=by simp
    clear h1;go_wp2;exact⟨⟨j+1,by omega,by simp,by simp;omega⟩,by simp[intOf];omega⟩
  ·have:j=n:=by omega
   subst this;have hd:decide ((j:Int)<(j:Int))=false:=by simp
   clear hs;go_wp2;go_ret;exact⟨by simp,rfl⟩
end
section
open Go.Proofs.Tryz
variable {j:Nat}{k:Int}
theorem QI{p:Prop}(h:p):Hid p:=h
theorem Ue{ks:List K2}(h:j<ks.length):(CO ks k)[j]?=some (mkK ks k j):=by simp[CO,h]
theorem Ug{ks:List R4}(h:j<ks.length):(CU ks k)[j]?=some (M9 ks k j):=by simp[CU,h]
theorem Eb(w:World)(a:OA)(cap:Nat)(ks:List K2)(k:Int)(hk:0<=k)(pJ:k<=500000000)(ht:aL cK ks ks.length<=100000000)(hn:ks.length<=1048576)(hl:∀c∈ks,c.cells.length<=1048576)(hs:DR w w.1.size a ks.length (CO ks k)):
  Calls prog 73 #[.slice a ks.length cap,vI k] w fun e w'=>e=.returned (vI (k+aL cK ks ks.length))/\w'=w:=by
 obtain⟨_,hs⟩:=hs;have HL:=QI hl;clear hl;go_enter func73,ntmps73;go_wp2;go_loop[1,5] (fun v1 v5=>∃j:Nat,j<=ks.length/\v5=vI j/\v1=vI (k+(aL cK ks j:Int))) (fun _ v5=>ks.length-(intOf v5).toNat)
 case atStart=>exact⟨0,Nat.zero_le _,rfl,by rw[jf];simp⟩
 case round=>
  obtain⟨j,hj,rfl,rfl⟩:=hrel;have kU:=iy cK ks j;by_cases aN:j<ks.length
  ·rcases hs with hs|⟨b,off,rfl,hb,h1⟩
   ·omega
   have Ca:=eZ aN;have hr:=h1 j _ (Ue aN);have c0:=hr.c0;obtain⟨a',aZ,c1,fI,kz⟩:=hr.c1;simp only[mkK,nV]at c0 c1 fI;have lT:Hid (aL cK ks (j+1)=aL cK ks j+cK (dX ks j)):=je cK Ca;have tH:=HL.out _ (List.mem_of_getElem? Ca);have hm:=Iy w a' (dX ks j).cells.length aZ (k+(aL cK ks j:Int)+1) tH (by omega) (by omega) fI;have dN:decide (k+(aL cK ks j:Int)+1+2*((dX ks j).cells.length:Int)<0)=false:=by simp;omega
   clear h1 hr fI kz Ca;go_wp2_with fail;refine hm.mono ?_;clear hm;rintro e w ⟨rfl,rfl⟩;go_wp2;exact⟨⟨j+1,by omega,by simp,by rw[lT.out];simp[cK];omega⟩,by simp[intOf];omega⟩
  ·obtain rfl:j=ks.length:=by omega
   have hd:decide ((ks.length:Int)<(ks.length:Int))=false:=by simp
   clear hs;go_wp2;go_ret;exact⟨rfl,rfl⟩
theorem Ak(w:World)(a:OA)(cap:Nat)(ks:List R4)(k:Int)(hk:0<=k)(pJ:k<=500000000)(ht:aL cR ks ks.length<=100000000)(hn:ks.length<=1048576)(hl:∀c∈ks,c.ai.length<=1048576)(hs:J5 w w.1.size a ks.length (CU ks k)):
  Calls prog 74 #[.slice a ks.length cap,vI k] w fun e w'=>e=.returned (vI (k+aL cR ks ks.length))/\w'=w:=by
 obtain⟨_,hs⟩:=hs;have HL:=QI hl;clear hl;go_enter func74,ntmps74;go_wp2;go_loop[1,5] (fun v1 v5=>∃j:Nat,j<=ks.length/\v5=vI j/\v1=vI (k+(aL cR ks j:Int))) (fun _ v5=>ks.length-(intOf v5).toNat)
 case atStart=>exact⟨0,Nat.zero_le _,rfl,by rw[jf];simp⟩
 case round=>
  obtain⟨j,hj,rfl,rfl⟩:=hrel;have kU:=iy cR ks j;by_cases aN:j<ks.length
  ·rcases hs with hs|⟨b,off,rfl,hb,h1⟩
   ·omega
   have Ca:=jC aN;have hr:=h1 j _ (Ug aN);have c0:=hr.c0;have c1:=hr.c1;have c2:=hr.c2;obtain⟨a',aZ,c3,fI,kz⟩:=hr.c3;simp only[M9,iX]at c0 c1 c2 c3 fI;have lT:Hid (aL cR ks (j+1)=aL cR ks j+cR (atR ks j)):=je cR Ca;have tH:=HL.out _ (List.mem_of_getElem? Ca);have hm:=vO w a' (atR ks j).ai.length aZ (k+(aL cR ks j:Int)+1+1+1) tH (by omega) (by omega) fI;have dN:decide (k+(aL cR ks j:Int)+1+1+1+5*((atR ks j).ai.length:Int)<0)=false:=by simp;omega
   clear h1 hr fI kz Ca;go_wp2_with fail;refine hm.mono ?_;clear hm;rintro e w ⟨rfl,rfl⟩;go_wp2;exact⟨⟨j+1,by omega,by simp,by rw[lT.out];simp[cR];omega⟩,by simp[intOf];omega⟩
  ·obtain rfl:j=ks.length:=by omega
   have hd:decide ((ks.length:Int)<(ks.length:Int))=false:=by simp
   clear hs;go_wp2;go_ret;exact⟨rfl,rfl⟩
end
section
open Go.Proofs.Tryz
variable {B b j:Nat}{Q:Nat->Prop}{X Y:World}{g:Nat->Nat->Prop}{ms:List M4}
def Kd.Done{D V:Type}(K:Kd D V)(X:World)(B b:Nat)(ys:List D)(g:Nat->Nat->Prop)(f:Nat->D)(j:Nat):Prop:=∀i,i<j->i<ys.length->∃v,At X b (i*K.n) (K.cells v (f i))/\K.Ow X B v (f i) (g i)
theorem Kd.Done.set{D V:Type}{K:Kd D V}{ys:List D}{f:Nat->D}{o:Nat}(h:K.Done X B b ys g f j)(eO:∀i q,i<ys.length->g i q->q≠b)(ho:j*K.n<=o)(u:Value):K.Done (X.setCell ⟨b,o,none⟩ u) B b ys g f j:=fun i hi hl=>by
 obtain⟨v,h1,h2⟩:=h i hi hl;have hm:=Nat.mul_le_mul_right K.n (Nat.succ_le_of_lt hi);rw[Nat.succ_mul]at hm
 exact⟨v,fun q u' e=>by
  have hq:=(List.getElem?_eq_some_iff.1 e).1;rw[K.len]at hq
  exact(ae (by omega)).trans (h1 q u' e),K.aM h2 (by simp[World.setCell]) (fun q hq=>Below.heap_setCell _ _ _ _ (eO i q hl hq))⟩
theorem Kd.Done.kept{D V:Type}{K:Kd D V}{ys:List D}{f:Nat->D}(h:K.Done X B b ys g f j)(eO:∀i q,i<ys.length->g i q->q≠b)(Ww:∀i j q,i<ys.length->j<ys.length->i≠j->g i q->¬g j q)(hk:aG Q X Y)(hb:b<X.1.size)(hj:j<ys.length)(hQ:∀q,Q q->g j q):K.Done Y B b ys g f j:=fun i hi hl=>by
 obtain⟨v,h1,h2⟩:=h i hi hl;have gu:=hk.block b hb (fun e=>eO j b hj (hQ b e) rfl);exact⟨v,h1.aj gu,K.aM h2 hk.size (fun q hq=>hk.block q (K.of h2 hq).2 (fun e=>Ww i j q hl hj (by omega) hq (hQ q e)))⟩
theorem Kd.Done.step{D V:Type}{K:Kd D V}{ys:List D}{f:Nat->D}(h:K.Done X B b ys g f j)(v:V)(h1:At X b (j*K.n) (K.cells v (f j)))(h2:K.Ow X B v (f j) (g j)):K.Done X B b ys g f (j+1):=fun i hi hl=>by
 by_cases e:i=j
 ·subst e;exact⟨v,h1,h2⟩
 ·exact h i (by omega) hl
theorem Kd.Done.part{D V:Type}{K:Kd D V}{ys:List D}{f:Nat->D}(h:K.Done X B b ys g f ys.length)(hr:K.Rest X B b ys.length ys g ys.length):K.Part X B b ys.length ((List.range ys.length).map f) g:=by
 refine⟨hr.rm,fun i d hi=>?_,fun i q hi=>hr.ne i q (by simpa using hi),fun i j q hi hj=>hr.ap i j q (by simpa using hi) (by simpa using hj)⟩;have hl:i<ys.length:=by have:=(List.getElem?_eq_some_iff.1 hi).1;simpa using this
 simp[hl]at hi;subst hi;exact h i hl hl
def Ay(ms:List M4)(k:Int)(i:Nat):M4:=⟨(k+aL cM ms i)%3==0,CO (bC ms i).ag (k+aL cM ms i+1),CU (bC ms i).h (k+aL cM ms i+1+aL cK (bC ms i).ag (bC ms i).ag.length),marks (bC ms i).ax.length (k+aL cM ms i+1+aL cK (bC ms i).ag (bC ms i).ag.length+aL cR (bC ms i).h (bC ms i).h.length)⟩
def CP(ms:List M4)(k:Int):List M4:=(List.range ms.length).map (Ay ms k)
theorem CQ(ms:List M4)(k:Int):(CP ms k).length=ms.length:=by simp[CP]
theorem Uf{k:Int}(h:j<ms.length):(CP ms k)[j]?=some (Ay ms k j):=by simp[CP,h]
structure cD(w X:World)(B b:Nat)(ms:List M4)(g:Nat->Nat->Prop)(P:Nat->Prop)(f:Nat->M4)(j:Nat)(x:Bool)(a1:OA)(c1:Nat)(a2:OA)(c2:Nat)(a3:OA)(c3:Nat)(ks:List K2)(rs:List R4)(zs:List Int)(PK PR PD:Nat->Prop):Prop where
 k:vF 2 wK D5 oN X PK a1 ks
 r:vF 4 uP El AtR X PR a2 rs
 n:D7 X PD a3 zs
 at_:At X b (j*4) [.bool x,.slice a1 ks.length c1,.slice a2 rs.length c2,.slice a3 zs.length c3]
 rest:iN.Rest X B b ms.length ms g (j+1)
 done:iN.Done X B b ms g f j
 kp:aG P w X
 lt:b<X.1.size
theorem cD.step{w:World}{P:Nat->Prop}{f:Nat->M4}{x:Bool}{a1:OA}{c1:Nat}{a2:OA}{c2:Nat}{a3:OA}{c3:Nat}{ks ks':List K2}{rs rs':List R4}{zs zs':List Int}{PK PR PD:Nat->Prop}(h:cD w X B b ms g P f j x a1 c1 a2 c2 a3 c3 ks rs zs PK PR PD)(hj:j<ms.length)(hk:aG Q X Y)(hQ:∀q,Q q->g j q)(hP:∀q,g j q->P q)(k':vF 2 wK D5 oN Y PK a1 ks')(lk:ks'.length=ks.length)(r':vF 4 uP El AtR Y PR a2 rs')(lr:rs'.length=rs.length)(n':D7 Y PD a3 zs')(lz:zs'.length=zs.length):cD w Y B b ms g P f j x a1 c1 a2 c2 a3 c3 ks' rs' zs' PK PR PD:=by
 have Sw:=hk.block b h.lt (fun e=>h.rest.ne j b hj (hQ b e) rfl);refine⟨k',r',n',?_,h.rest.kept hk h.lt hj hQ,h.done.kept h.rest.ne h.rest.ap hk h.lt hj hQ,h.kp.trans (hk.mono (fun q hq=>hP q (hQ q hq))),Nat.lt_of_lt_of_le h.lt hk.size⟩;rw[lk,lr,lz];exact h.at_.aj Sw
theorem Xu(w:World)(B b cap:Nat)(ms:List M4)(g:Nat->Nat->Prop)(P:Nat->Prop)(k:Int)(hk:0<=k)(pJ:k+(aL cM ms ms.length:Int)<=100000000)(hn:ms.length<=1048576)(ht:∀m∈ms,MT m)(hb:b<w.1.size)(EW:P b)(QA:∀i q,i<ms.length->g i q->P q)(h:iN.Part w B b ms.length ms g):
  Calls prog 33 #[.slice (some ⟨b,0,none⟩) ms.length cap,vI k] w fun e w'=>e=.returned (vI (k+(aL cM ms ms.length:Int)))/\aG P w w'/\iN.Part w' B b ms.length (CP ms k) g:=by
 have H:=nE ht hb EW QA h;clear ht hb EW QA h;go_enter func33,ntmps33;go_wp2;go_loopw[1,5] (fun v1 v5 wr=>∃j:Nat,j<=ms.length/\v5=vI j/\v1=vI (k+(aL cM ms j:Int))/\aG P w wr/\iN.Rest wr B b ms.length ms g j/\iN.Done wr B b ms g (Ay ms k) j) (fun _ v5 _=>ms.length-(intOf v5).toNat)
 case atStart=>exact⟨0,Nat.zero_le _,rfl,by rw[jf];simp,aG.refl _ _,H.out.2.2.2.2.rest,fun i hi=>absurd hi (Nat.not_lt_zero i)⟩
 case round=>
  obtain⟨j,hj,rfl,rfl,kW,nR,DX⟩:=hrel;have kU:=iy cM ms j;by_cases aN:j<ms.length
  ·have hd:=iT aN;obtain⟨⟨m0,m1,m2,m3,m4,m5⟩,bg,how⟩:=nR.at_ j _ aU hd;obtain⟨PK,PR,PD,om,kR,TB⟩:=how;obtain⟨z0,d0,f0⟩:∃v,wr.cell? ⟨b,j*4,none⟩=some v/\wr.frozen? ⟨b,j*4,none⟩=false:=nR.rm (j*4) (show _<ms.length*4 by omega);have e1:wr.cell? ⟨b,j*4+1,none⟩=some (.slice m0 (bC ms j).ag.length m1):=bg 1 _ rfl;have e2:wr.cell? ⟨b,j*4+2,none⟩=some (.slice m2 (bC ms j).h.length m3):=bg 2 _ rfl;have e3:wr.cell? ⟨b,j*4+3,none⟩=some (.slice m4 (bC ms j).ax.length m5):=bg 3 _ rfl;have hT:=H.out.1 _ (List.mem_of_getElem? hd);have lT:aL cM ms (j+1)=aL cM ms j+cM (bC ms j):=je cM hd;have hle:=iy cM ms (j+1);have HO:Hid (aL cM ms (j+1)=aL cM ms j+(1+(aL cK (bC ms j).ag (bC ms j).ag.length+aL cR (bC ms j).h (bC ms j).h.length+(bC ms j).ax.length))/\k+(aL cM ms (j+1):Int)<=100000000):=⟨lT,by omega⟩
   have Aa:∀q,g j q->q≠b:=fun q hq=>nR.ne j q aN hq
   have bl:b<wr.1.size:=Nat.lt_of_lt_of_le H.out.2.1 kW.size;obtain⟨V,hV⟩:∃V,V=wr.setCell ⟨b,j*4,none⟩ (.bool ((k+(aL cM ms j:Int))%3==0)):=⟨_,rfl⟩
   have S1:Hid (cD w V B b ms g P (Ay ms k) j ((k+(aL cM ms j:Int))%3==0) m0 m1 m2 m3 m4 m5 (bC ms j).ag (bC ms j).h (bC ms j).ax PK PR PD):=by
    rw[hV];have dQ:wr.1.size<=(wr.setCell ⟨b,j*4,none⟩ (.bool ((k+(aL cM ms j:Int))%3==0))).1.size:=by simp[World.setCell]
    refine⟨om.k.aM oN.aj dQ (fun q _ hp=>Below.heap_setCell _ _ _ _ (Aa q (kR q (.inl hp)))),om.r.aM AtR.aj dQ (fun q _ hp=>Below.heap_setCell _ _ _ _ (Aa q (kR q (.inr (.inl hp))))),om.n.aM dQ (fun q _ hp=>Below.heap_setCell _ _ _ _ (Aa q (kR q (.inr (.inr hp))))),
     ?_,nR.up.set (show j*4<(j+1)*4 by omega) _,DX.set nR.ne (show j*4<=j*4 by omega) _,kW.trans (aG.uj wr _ H.out.2.2.1),Nat.lt_of_lt_of_le bl dQ⟩
    intro i u hu;rcases i with _|_|_|_|i
    ·simp at hu;subst hu;exact ay d0
    ·simp at hu;subst hu;exact(ae (by omega)).trans e1
    ·simp at hu;subst hu;exact(ae (by omega)).trans e2
    ·simp at hu;subst hu;exact(ae (by omega)).trans e3
    ·simp at hu
   have HG:Hid ((∀q,PK q->g j q)/\(∀q,PR q->g j q)/\(∀q,PD q->g j q)/\(∀q,PK q->¬PR q)/\(∀q,PK q->¬PD q)/\(∀q,PR q->¬PD q)/\(∀q,g j q->P q)/\(∀q,PK q->B<=q)/\(∀q,PR q->B<=q)/\(∀q,PD q->B<=q)/\(∀q,g j q->B<=q/\q<wr.1.size)/\wr.1.size<=V.1.size):=⟨fun q hq=>kR q (.inl hq),fun q hq=>kR q (.inr (.inl hq)),fun q hq=>kR q (.inr (.inr hq)),om.kr,om.kd,om.rd,fun q hq=>H.out.2.2.2.1 j q aN hq,om.kB,om.rB,om.dB,TB,by rw[hV];simp[World.setCell]⟩
   have HT:Hid (MT (bC ms j)):=hT;have jn:(j:Int)<(ms.length:Int):=by omega
   have g0:0<=k+(aL cM ms j:Int):=by omega
   have g1:k+(aL cM ms j:Int)<=100000000:=by omega
   have HI:Hid (Ay ms k j=⟨(k+aL cM ms j)%3==0,CO (bC ms j).ag (k+aL cM ms j+1),CU (bC ms j).h (k+aL cM ms j+1+aL cK (bC ms j).ag (bC ms j).ag.length),marks (bC ms j).ax.length (k+aL cM ms j+1+aL cK (bC ms j).ag (bC ms j).ag.length+aL cR (bC ms j).h (bC ms j).h.length)⟩):=rfl;clear kW nR DX bg om kR TB hd lT hle Aa hT bl e2 e3 kU;generalize hK:k+(aL cM ms j:Int)=kj at *;go_wp2_with fail;rw[<-hV];clear hV;refine(Vt V PK m0 m1 (bC ms j).ag (kj+1) (by omega) (by omega) HT.out.tk HT.out.k HT.out.ks S1.out.k).mono ?_;rintro e w1 ⟨rfl,k1,o1⟩;have R1:=dw (S1.out.step aN k1 HG.out.1 HG.out.2.2.2.2.2.2.1 o1 (ug _ _) (S1.out.r.aM AtR.aj k1.size (fun q hq hp=>k1.block q hq (fun e=>HG.out.2.2.2.1 q e hp))) rfl (S1.out.n.aM k1.size (fun q hq hp=>k1.block q hq (fun e=>HG.out.2.2.2.2.1 q e hp))) rfl) k1.size;clear k1 o1 S1 d0 f0 e1;have e2:=R1.out.1.at_ 2 _ rfl;have tk:=HT.out.tk;have tr:=HT.out.tr;have tn:=HT.out.n;go_wp2_with fail;refine(Vv w1 PR m2 m3 (bC ms j).h _ (by omega) (by omega) HT.out.tr HT.out.r HT.out.rs R1.out.1.r).mono ?_;rintro e w2 ⟨rfl,k2,o2⟩;have R2:=dw (R1.out.1.step aN k2 HG.out.2.1 HG.out.2.2.2.2.2.2.1 (R1.out.1.k.aM oN.aj k2.size (fun q hq hp=>k2.block q hq (fun e=>HG.out.2.2.2.1 q hp e))) rfl o2 (uh _ _) (R1.out.1.n.aM k2.size (fun q hq hp=>k2.block q hq (fun e=>HG.out.2.2.2.2.2.1 q e hp))) rfl) (Nat.le_trans R1.out.2 k2.size);clear k2 o2 R1 e2;have e3:=R2.out.1.at_ 3 _ rfl;go_wp2_with fail
   refine(Vu w2 PD m4 m5 (bC ms j).ax _ (by omega) (by omega) HT.out.n R2.out.1.n).mono ?_;rintro e w3 ⟨rfl,k3,o3⟩
   have R3:Hid (iN.Rest w3 B b ms.length ms g (j+1)/\aG P w w3/\iN.Done w3 B b ms g (Ay ms k) (j+1)):=by
    have R0:=R2.out.1.step aN k3 HG.out.2.2.1 HG.out.2.2.2.2.2.2.1 (R2.out.1.k.aM oN.aj k3.size (fun q hq hp=>k3.block q hq (fun e=>HG.out.2.2.2.2.1 q hp e))) rfl (R2.out.1.r.aM AtR.aj k3.size (fun q hq hp=>k3.block q hq (fun e=>HG.out.2.2.2.2.2.1 q hp e))) rfl o3 (mH _ _);obtain⟨h1,h2,h3,h4,h5,h6,h7,h8,h9,gx,de,wJ⟩:=HG.out;have dQ:=Nat.le_trans R2.out.2 k3.size;refine⟨R0.rest,R0.kp,R0.done.step ⟨m0,m1,m2,m3,m4,m5⟩ ?_ ?_⟩
    ·rw[HI.out];exact R0.at_
    ·rw[HI.out];exact⟨PK,PR,PD,⟨R0.k,R0.r,R0.n,h4,h5,h6,h8,h9,gx⟩,fun q hq=>by rcases hq with hq|hq|hq;exact h1 q hq;exact h2 q hq;exact h3 q hq,fun q hq=>⟨(de q hq).1,by have:=(de q hq).2;omega⟩⟩
   clear k3 o3 R2 e3;go_wp2;exact⟨⟨j+1,by omega,by simp,by have:=HO.out.1;rw[this];congr 1;omega,R3.out.2.1,R3.out.1,R3.out.2.2⟩,by simp[intOf];omega⟩
  ·obtain rfl:j=ms.length:=by omega
   have hd:decide ((ms.length:Int)<(ms.length:Int))=false:=by simp
   have KH:=dw kW (DX.part nR);clear kW nR DX;go_wp2;go_ret;exact⟨rfl,KH.out.1,KH.out.2⟩
theorem WC(w:World)(a:OA)(cap:Nat)(ms:List M4)(k:Int)(hk:0<=k)(pJ:k+(aL cM ms ms.length:Int)<=100000000)(hn:ms.length<=1048576)(ht:∀m∈ms,MT m)(h:iN.vG w a (CP ms k)):
  Calls prog 36 #[.slice a ms.length cap,vI k] w fun e w'=>e=.returned (vI (k+(aL cM ms ms.length:Int)))/\Below w.1.size w w':=by
 have H:Hid ((∀m∈ms,MT m)/\iN.vG w a (CP ms k)):=⟨ht,h⟩
 clear ht h;go_enter func36,ntmps36;go_wp2;go_loopw[1,5] (fun v1 v5 wr=>∃j:Nat,j<=ms.length/\v5=vI j/\v1=vI (k+(aL cM ms j:Int))/\Below w.1.size w wr) (fun _ v5 _=>ms.length-(intOf v5).toNat)
 case atStart=>exact⟨0,Nat.zero_le _,rfl,by rw[jf];simp,aK⟩
 case round=>
  obtain⟨j,hj,rfl,rfl,aB⟩:=hrel;have kU:=iy cM ms j;by_cases aN:j<ms.length
  ·have hd:=iT aN;have iw:=H.out.2.later aB;rcases iw with h0|⟨b,off,rfl,hb,iw⟩
   ·have:=CQ ms k;rw[h0]at this;simp at this;omega
   obtain⟨⟨m0,m1,m2,m3,m4,m5⟩,bg,how⟩:=iw j _ (Uf aN);have e0:wr.cell? ⟨b,off+j*4,none⟩=some (.bool ((k+(aL cM ms j:Int))%3==0)):=bg 0 _ rfl;have e1:wr.cell? ⟨b,off+j*4+1,none⟩=some (.slice m0 (Ay ms k j).ag.length m1):=bg 1 _ rfl;have e2:wr.cell? ⟨b,off+j*4+2,none⟩=some (.slice m2 (Ay ms k j).h.length m3):=bg 2 _ rfl;have e3:wr.cell? ⟨b,off+j*4+3,none⟩=some (.slice m4 (Ay ms k j).ax.length m5):=bg 3 _ rfl;have l1:(Ay ms k j).ag.length=(bC ms j).ag.length:=ug _ _;have l2:(Ay ms k j).h.length=(bC ms j).h.length:=uh _ _;have l3:(Ay ms k j).ax.length=(bC ms j).ax.length:=mH _ _;rw[l1]at e1;rw[l2]at e2;rw[l3]at e3;obtain⟨sk,sr,sn⟩:=how;simp only at sk sr sn;rw[l1]at sk;rw[l2]at sr;rw[l3]at sn;have hT:=H.out.1 _ (List.mem_of_getElem? hd);have lT:aL cM ms (j+1)=aL cM ms j+cM (bC ms j):=je cM hd;have hle:=iy cM ms (j+1);have HO:Hid (aL cM ms (j+1)=aL cM ms j+(1+(aL cK (bC ms j).ag (bC ms j).ag.length+aL cR (bC ms j).h (bC ms j).h.length+(bC ms j).ax.length))/\k+(aL cM ms (j+1):Int)<=100000000):=⟨lT,by omega⟩
   have S:Hid (Below w.1.size w wr/\DR wr wr.1.size m0 (bC ms j).ag.length (CO (bC ms j).ag (k+aL cM ms j+1))/\J5 wr wr.1.size m2 (bC ms j).h.length (CU (bC ms j).h (k+aL cM ms j+1+aL cK (bC ms j).ag (bC ms j).ag.length))/\sD wr wr.1.size m4 (bC ms j).ax.length (marks (bC ms j).ax.length (k+aL cM ms j+1+aL cK (bC ms j).ag (bC ms j).ag.length+aL cR (bC ms j).h (bC ms j).h.length))/\b<wr.1.size):=⟨aB,sk,sr,sn,hb⟩
   have HT:Hid (MT (bC ms j)):=hT;have jn:(j:Int)<(ms.length:Int):=by omega
   have g0:0<=k+(aL cM ms j:Int):=by omega
   have g1:k+(aL cM ms j:Int)<=100000000:=by omega
   clear aB iw bg sk sr sn hd lT hle hT hb l1 l2 l3 kU;have tk:=HT.out.tk;have tr:=HT.out.tr;have tn:=HT.out.n;generalize hK:k+(aL cM ms j:Int)=kj at *;have dx:((kj%3==0) != (kj%3==0))=false:=by simp
   have d1:decide (kj+1+(aL cK (bC ms j).ag (bC ms j).ag.length:Int)<0)=false:=by simp;omega
   have d2:decide (kj+1+(aL cK (bC ms j).ag (bC ms j).ag.length:Int)+(aL cR (bC ms j).h (bC ms j).h.length:Int)<0)=false:=by simp;omega
   have d3:decide (kj+1+(aL cK (bC ms j).ag (bC ms j).ag.length:Int)+(aL cR (bC ms j).h (bC ms j).h.length:Int)+((bC ms j).ax.length:Int)<0)=false:=by simp;omega
   go_wp2_with fail;refine(Eb wr m0 m1 (bC ms j).ag (kj+1) (by omega) (by omega) HT.out.tk HT.out.k HT.out.ks S.out.2.1).mono ?_;rintro e w1 ⟨rfl,rfl⟩;go_wp2_with fail;refine(Ak w1 m2 m3 (bC ms j).h _ (by omega) (by omega) HT.out.tr HT.out.r HT.out.rs S.out.2.2.1).mono ?_;rintro e w2 ⟨rfl,rfl⟩;go_wp2_with fail;refine(tF w2 m4 (bC ms j).ax.length m5 _ (by omega) (by omega) (by omega) S.out.2.2.2.1).mono ?_;rintro e w3 ⟨rfl,rfl⟩;go_wp2;exact⟨⟨j+1,by omega,by simp,by have:=HO.out.1;rw[this];congr 1;omega,S.out.1⟩,by simp[intOf];omega⟩
  ·obtain rfl:j=ms.length:=by omega
   have hd:decide ((ms.length:Int)<(ms.length:Int))=false:=by simp
   have KH:=af (aB);clear aB;go_wp2;go_ret;exact⟨rfl,KH.out⟩
end
section
open Go.Proofs.Tryz
variable {X:World}{b j:Nat}{cs:List Value}{ts:List tx.T7}
def Xy(t:tx.T7)(kk:Int):tx.T7:=⟨kk,kk+1,kk+1+1,kk+1+1+1,tx.lv (kk+1+1+1+1) t.a.length,tx.iW (kk+1+1+1+1+5*(t.a.length:Int)) t.ai.length,kk+1+1+1+1+5*(t.a.length:Int)+5*(t.ai.length:Int)⟩
def CV(ts:List tx.T7)(k:Int)(i:Nat):tx.T7:=Xy (bn ts i) (k+aL cT ts i)
def CW(ts:List tx.T7)(k:Int):List tx.T7:=(List.range ts.length).map (CV ts k)
theorem CX(ts:List tx.T7)(k:Int):(CW ts k).length=ts.length:=by simp[CW]
theorem Uh{k:Int}(h:j<ts.length):(CW ts k)[j]?=some (CV ts k j):=by simp[CW,h]
theorem At.put{o i:Nat}(h:At X b o cs)(hi:i<cs.length)(u:Value):At (X.setCell ⟨b,o+i,none⟩ u) b o (cs.set i u):=fun j v hv=>by
 by_cases hj:i=j
 ·subst hj;rw[List.getElem?_set_self hi]at hv;obtain rfl:=Option.some.inj hv;exact ay (h i _ (List.getElem?_eq_getElem hi))
 ·rw[List.getElem?_set_ne hj]at hv;exact(ae (by omega)).trans (h j v hv)
structure UU(w X:World)(B b:Nat)(ts:List tx.T7)(g:Nat->Nat->Prop)(P:Nat->Prop)(f:Nat->tx.T7)(j:Nat)(cs:List Value)(a1 a2:OA)(ns:List tx.N5)(ss:List S5)(PR PS:Nat->Prop):Prop where
 r:tx.oW X PR a1 ns
 s:tx.mO X PS a2 ss
 at_:At X b (j*7) cs
 rest:iO.Rest X B b ts.length ts g (j+1)
 done:iO.Done X B b ts g f j
 kp:aG P w X
 lt:b<X.1.size
theorem UU.put{w X:World}{B b:Nat}{ts:List tx.T7}{g:Nat->Nat->Prop}{P:Nat->Prop}{f:Nat->tx.T7}{j:Nat}{cs:List Value}{a1 a2:OA}{ns:List tx.N5}{ss:List S5}{PR PS:Nat->Prop}(h:UU w X B b ts g P f j cs a1 a2 ns ss PR PS)(hj:j<ts.length)(EW:P b)(h1:∀q,PR q->g j q)(h2:∀q,PS q->g j q)(i:Nat)(hi:i<cs.length)(h7:i<7)(u:Value):UU w (X.setCell ⟨b,j*7+i,none⟩ u) B b ts g P f j (cs.set i u) a1 a2 ns ss PR PS:=by
 have dQ:X.1.size<=(X.setCell ⟨b,j*7+i,none⟩ u).1.size:=by simp[World.setCell]
 exact⟨h.r.aM dQ (fun q _ hp=>Below.heap_setCell _ _ _ _ (h.rest.ne j q hj (h1 q hp))),h.s.aM dQ (fun q _ hp=>Below.heap_setCell _ _ _ _ (h.rest.ne j q hj (h2 q hp))),h.at_.put hi u,h.rest.set (show j*7+i<(j+1)*7 by omega) u,h.done.set h.rest.ne (show j*7<=j*7+i by omega) u,h.kp.trans (aG.uj X u EW),Nat.lt_of_lt_of_le h.lt dQ⟩
theorem UU.step{w Y:World}{B:Nat}{g:Nat->Nat->Prop}{P:Nat->Prop}{f:Nat->tx.T7}{a1 a2:OA}{ns ns':List tx.N5}{ss ss':List S5}{PR PS Q:Nat->Prop}(h:UU w X B b ts g P f j cs a1 a2 ns ss PR PS)(hj:j<ts.length)(hk:aG Q X Y)(hQ:∀q,Q q->g j q)(hP:∀q,g j q->P q)(r':tx.oW Y PR a1 ns')(s':tx.mO Y PS a2 ss'):UU w Y B b ts g P f j cs a1 a2 ns' ss' PR PS:=by
 have Sw:=hk.block b h.lt (fun e=>h.rest.ne j b hj (hQ b e) rfl);exact⟨r',s',h.at_.aj Sw,h.rest.kept hk h.lt hj hQ,h.done.kept h.rest.ne h.rest.ap hk h.lt hj hQ,h.kp.trans (hk.mono (fun q hq=>hP q (hQ q hq))),Nat.lt_of_lt_of_le h.lt hk.size⟩
theorem Xw(w:World)(B b cap:Nat)(ts:List tx.T7)(g:Nat->Nat->Prop)(P:Nat->Prop)(k:Int)(hk:0<=k)(pJ:k+(aL cT ts ts.length:Int)<=100000000)(hn:ts.length<=1048576)(ht:∀t∈ts,KT.S t)(hb:b<w.1.size)(EW:P b)(QA:∀i q,i<ts.length->g i q->P q)(h:iO.Part w B b ts.length ts g):
  Calls prog 34 #[.slice (some ⟨b,0,none⟩) ts.length cap,vI k] w fun e w'=>e=.returned (vI (k+(aL cT ts ts.length:Int)))/\aG P w w'/\iO.Part w' B b ts.length (CW ts k) g:=by
 have H:Hid ((∀t∈ts,KT.S t)/\b<w.1.size/\P b/\(∀i q,i<ts.length->g i q->P q)/\iO.Part w B b ts.length ts g):=⟨ht,hb,EW,QA,h⟩
 clear ht hb EW QA h;go_enter func34,ntmps34;go_wp2;go_loopw[1,5] (fun v1 v5 wr=>∃j:Nat,j<=ts.length/\v5=vI j/\v1=vI (k+(aL cT ts j:Int))/\aG P w wr/\iO.Rest wr B b ts.length ts g j/\iO.Done wr B b ts g (CV ts k) j) (fun _ v5 _=>ts.length-(intOf v5).toNat)
 case atStart=>exact⟨0,Nat.zero_le _,rfl,by rw[jf];simp,aG.refl _ _,H.out.2.2.2.2.rest,fun i hi=>absurd hi (Nat.not_lt_zero i)⟩
 case round=>
  obtain⟨j,hj,rfl,rfl,kW,nR,DX⟩:=hrel;have kU:=iy cT ts j;by_cases aN:j<ts.length
  ·have hd:=gL aN;obtain⟨⟨t0,t1,t2,t3⟩,bg,how⟩:=nR.at_ j _ aU hd;obtain⟨PR,PS,om,kR,TB⟩:=how;obtain⟨z0,d0,f0⟩:∃v,wr.cell? ⟨b,j*7,none⟩=some v/\wr.frozen? ⟨b,j*7,none⟩=false:=nR.rm (j*7+0) (show _<ts.length*7 by omega);obtain⟨z1,d1,f1⟩:∃v,wr.cell? ⟨b,j*7+1,none⟩=some v/\wr.frozen? ⟨b,j*7+1,none⟩=false:=nR.rm (j*7+1) (show _<ts.length*7 by omega);obtain⟨z2,d2,f2⟩:∃v,wr.cell? ⟨b,j*7+2,none⟩=some v/\wr.frozen? ⟨b,j*7+2,none⟩=false:=nR.rm (j*7+2) (show _<ts.length*7 by omega);obtain⟨z3,d3,f3⟩:∃v,wr.cell? ⟨b,j*7+3,none⟩=some v/\wr.frozen? ⟨b,j*7+3,none⟩=false:=nR.rm (j*7+3) (show _<ts.length*7 by omega);have e4:wr.cell? ⟨b,j*7+4,none⟩=some (.slice t0 (bn ts j).a.length t1):=bg 4 _ rfl;have hT:=H.out.1 _ (List.mem_of_getElem? hd);have lT:aL cT ts (j+1)=aL cT ts j+cT (bn ts j):=je cT hd;have hle:=iy cT ts (j+1);have HO:Hid (aL cT ts (j+1)=aL cT ts j+(5+(5*(bn ts j).a.length+5*(bn ts j).ai.length))/\k+(aL cT ts (j+1):Int)<=100000000):=⟨lT,by omega⟩
   have bl:b<wr.1.size:=Nat.lt_of_lt_of_le H.out.2.1 kW.size;have HI:Hid (CV ts k j=Xy (bn ts j) (k+(aL cT ts j:Int))):=rfl;have HG:Hid ((∀q,PR q->g j q)/\(∀q,PS q->g j q)/\(∀q,PR q->¬PS q)/\(∀q,g j q->P q)/\(∀q,PR q->B<=q)/\(∀q,PS q->B<=q)/\(∀q,g j q->B<=q/\q<wr.1.size)):=⟨fun q hq=>kR q (.inl hq),fun q hq=>kR q (.inr hq),om.rs,fun q hq=>H.out.2.2.2.1 j q aN hq,fun q hq=>(om.rB q hq).1,fun q hq=>(om.sB q hq).1,TB⟩
   have S0:UU w wr B b ts g P (CV ts k) j [vI (bn ts j).id,vI (bn ts j).l,vI (bn ts j).o,vI (bn ts j).q,.slice t0 (bn ts j).a.length t1,.slice t2 (bn ts j).ai.length t3,vI (bn ts j).az] t0 t2 (bn ts j).a (bn ts j).ai PR PS:=⟨om.r,om.s,bg,nR.up,DX,kW,bl⟩
   obtain⟨V,hV⟩:∃V,V=((((wr.setCell ⟨b,j*7,none⟩ (vI (k+(aL cT ts j:Int)))).setCell ⟨b,j*7+1,none⟩ (vI (k+(aL cT ts j:Int)+1))).setCell ⟨b,j*7+2,none⟩ (vI (k+(aL cT ts j:Int)+1+1))).setCell ⟨b,j*7+3,none⟩ (vI (k+(aL cT ts j:Int)+1+1+1))):=⟨_,rfl⟩
   have S1:Hid (UU w V B b ts g P (CV ts k) j [vI (k+(aL cT ts j:Int)),vI (k+(aL cT ts j:Int)+1),vI (k+(aL cT ts j:Int)+1+1),vI (k+(aL cT ts j:Int)+1+1+1),.slice t0 (bn ts j).a.length t1,.slice t2 (bn ts j).ai.length t3,vI (bn ts j).az] t0 t2 (bn ts j).a (bn ts j).ai PR PS/\wr.1.size<=V.1.size):=by
    rw[hV];exact⟨(((S0.put aN H.out.2.2.1 HG.out.1 HG.out.2.1 0 (by simp) (by omega) _).put aN H.out.2.2.1 HG.out.1 HG.out.2.1 1 (by simp) (by omega) _).put aN H.out.2.2.1 HG.out.1 HG.out.2.1 2 (by simp) (by omega) _).put aN H.out.2.2.1 HG.out.1 HG.out.2.1 3 (by simp) (by omega) _,by simp[World.setCell]⟩
   have HT:Hid (KT.S (bn ts j)):=hT;have jn:(j:Int)<(ts.length:Int):=by omega
   have g0:0<=k+(aL cT ts j:Int):=by omega
   have g1:k+(aL cT ts j:Int)<=100000000:=by omega
   clear kW nR DX bg om kR TB hd lT hle hT bl kU S0;generalize hK:k+(aL cT ts j:Int)=kj at *;have tr:=HT.out.1;have ts':=HT.out.2;go_wp2_with fail;rw[<-hV];clear hV;refine(tx.Rn V PR t0 t1 (bn ts j).a _ (by omega) (by omega) HT.out.1 S1.out.1.r).mono ?_;rintro e w1 ⟨rfl,k1,o1⟩;have k1:=MX k1;have R1:=dw (S1.out.1.step aN k1 HG.out.1 HG.out.2.2.2.1 o1 (S1.out.1.s.aM k1.size (fun q hq hp=>k1.block q hq (fun e=>HG.out.2.2.1 q e hp)))) (Nat.le_trans S1.out.2 k1.size);clear k1 o1 S1 d0 f0 d1 f1 d2 f2 d3 f3 e4;have e5:=R1.out.1.at_ 5 _ rfl;go_wp2_with fail;refine(tx.Ro w1 PS t2 t3 (bn ts j).ai _ (by omega) (by omega) HT.out.2 R1.out.1.s).mono ?_;rintro e w2 ⟨rfl,k2,o2⟩;have k2:=MX k2;have R2:=dw (R1.out.1.step aN k2 HG.out.2.1 HG.out.2.2.2.1 (R1.out.1.r.aM k2.size (fun q hq hp=>k2.block q hq (fun e=>HG.out.2.2.1 q hp e))) o2) (Nat.le_trans R1.out.2 k2.size);clear k2 o2 R1 e5;obtain⟨z6,d6,f6⟩:∃v,w2.cell? ⟨b,j*7+6,none⟩=some v/\w2.frozen? ⟨b,j*7+6,none⟩=false:=R2.out.1.rest.rm (j*7+6) (show _<ts.length*7 by omega)
   have R3:Hid (∀Y,Y=w2.setCell ⟨b,j*7+6,none⟩ (vI (kj+1+1+1+1+5*((bn ts j).a.length:Int)+5*((bn ts j).ai.length:Int)))->iO.Rest Y B b ts.length ts g (j+1)/\aG P w Y/\iO.Done Y B b ts g (CV ts k) (j+1)):=fun Y hY=>by
    have R0:=R2.out.1.put aN H.out.2.2.1 HG.out.1 HG.out.2.1 6 (by simp) (by omega) (vI (kj+1+1+1+1+5*((bn ts j).a.length:Int)+5*((bn ts j).ai.length:Int)));rw[<-hY]at R0;obtain⟨h1,h2,h3,h4,h5,h6,h7⟩:=HG.out;have dQ:wr.1.size<=Y.1.size:=by rw[hY];simpa[World.setCell]using R2.out.2
    refine⟨R0.rest,R0.kp,R0.done.step ⟨t0,t1,t2,t3⟩ ?_ ?_⟩
    ·rw[HI.out];have:=R0.at_;simpa[iO,tx.jJ,Xy,tx.nW,tx.iX]using this
    ·rw[HI.out];exact⟨PR,PS,⟨R0.r,R0.s,h3,fun q hq=>⟨h5 q hq,by have:=(h7 q (h1 q hq)).2;omega⟩,fun q hq=>⟨h6 q hq,by have:=(h7 q (h2 q hq)).2;omega⟩⟩,fun q hq=>by rcases hq with hq|hq;exact h1 q hq;exact h2 q hq,fun q hq=>⟨(h7 q hq).1,by have:=(h7 q hq).2;omega⟩⟩
   go_wp2;exact⟨⟨j+1,by omega,by simp,by have:=HO.out.1;rw[this];congr 1;omega,(R3.out _ rfl).2.1,(R3.out _ rfl).1,(R3.out _ rfl).2.2⟩,by simp[intOf];omega⟩
  ·obtain rfl:j=ts.length:=by omega
   have hd:decide ((ts.length:Int)<(ts.length:Int))=false:=by simp
   have KH:=dw kW (DX.part nR);clear kW nR DX;go_wp2;go_ret;exact⟨rfl,KH.out.1,KH.out.2⟩
theorem WE(w:World)(a:OA)(cap:Nat)(ts:List tx.T7)(k:Int)(hk:0<=k)(pJ:k+(aL cT ts ts.length:Int)<=100000000)(hn:ts.length<=1048576)(ht:∀t∈ts,KT.S t)(h:iO.vG w a (CW ts k)):
  Calls prog 37 #[.slice a ts.length cap,vI k] w fun e w'=>e=.returned (vI (k+(aL cT ts ts.length:Int)))/\Below w.1.size w w':=by
 have H:Hid ((∀t∈ts,KT.S t)/\iO.vG w a (CW ts k)):=⟨ht,h⟩
 clear ht h;go_enter func37,ntmps37;go_wp2;go_loopw[1,5] (fun v1 v5 wr=>∃j:Nat,j<=ts.length/\v5=vI j/\v1=vI (k+(aL cT ts j:Int))/\Below w.1.size w wr) (fun _ v5 _=>ts.length-(intOf v5).toNat)
 case atStart=>exact⟨0,Nat.zero_le _,rfl,by rw[jf];simp,aK⟩
 case round=>
  obtain⟨j,hj,rfl,rfl,aB⟩:=hrel;have kU:=iy cT ts j;by_cases aN:j<ts.length
  ·have hd:=gL aN;have iw:=H.out.2.later aB;rcases iw with h0|⟨b,off,rfl,hb,iw⟩
   ·have:=CX ts k;rw[h0]at this;simp at this;omega
   obtain⟨⟨t0,t1,t2,t3⟩,bg,how⟩:=iw j _ (Uh aN);have e0:wr.cell? ⟨b,off+j*7,none⟩=some (vI (k+(aL cT ts j:Int))):=bg 0 _ rfl;have e1:wr.cell? ⟨b,off+j*7+1,none⟩=some (vI (k+(aL cT ts j:Int)+1)):=bg 1 _ rfl;have e2:wr.cell? ⟨b,off+j*7+2,none⟩=some (vI (k+(aL cT ts j:Int)+1+1)):=bg 2 _ rfl;have e3:wr.cell? ⟨b,off+j*7+3,none⟩=some (vI (k+(aL cT ts j:Int)+1+1+1)):=bg 3 _ rfl;have e4:wr.cell? ⟨b,off+j*7+4,none⟩=some (.slice t0 (CV ts k j).a.length t1):=bg 4 _ rfl;have e5:wr.cell? ⟨b,off+j*7+5,none⟩=some (.slice t2 (CV ts k j).ai.length t3):=bg 5 _ rfl;have e6:wr.cell? ⟨b,off+j*7+6,none⟩=some (vI (k+(aL cT ts j:Int)+1+1+1+1+5*((bn ts j).a.length:Int)+5*((bn ts j).ai.length:Int))):=bg 6 _ rfl;have l1:(CV ts k j).a.length=(bn ts j).a.length:=tx.nW _ _;have l2:(CV ts k j).ai.length=(bn ts j).ai.length:=tx.iX _ _;rw[l1]at e4;rw[l2]at e5;obtain⟨sr,ss⟩:=how;simp only at sr ss;rw[l1]at sr;rw[l2]at ss;have hT:=H.out.1 _ (List.mem_of_getElem? hd);have lT:aL cT ts (j+1)=aL cT ts j+cT (bn ts j):=je cT hd;have hle:=iy cT ts (j+1);have HO:Hid (aL cT ts (j+1)=aL cT ts j+(5+(5*(bn ts j).a.length+5*(bn ts j).ai.length))/\k+(aL cT ts (j+1):Int)<=100000000):=⟨lT,by omega⟩
   have S:Hid (Below w.1.size w wr/\tx.ky wr wr.1.size t0 (bn ts j).a.length (tx.lv (k+(aL cT ts j:Int)+1+1+1+1) (bn ts j).a.length)/\tx.Sl wr wr.1.size t2 (bn ts j).ai.length (tx.iW (k+(aL cT ts j:Int)+1+1+1+1+5*((bn ts j).a.length:Int)) (bn ts j).ai.length)/\b<wr.1.size):=⟨aB,sr,ss,hb⟩
   have HT:Hid (KT.S (bn ts j)):=hT;have jn:(j:Int)<(ts.length:Int):=by omega
   have g0:0<=k+(aL cT ts j:Int):=by omega
   have g1:k+(aL cT ts j:Int)<=100000000:=by omega
   clear aB iw bg sr ss hd lT hle hT hb l1 l2 kU;have tr:=HT.out.1;have ts':=HT.out.2;generalize hK:k+(aL cT ts j:Int)=kj at *;have x0:(kj != kj)=false:=by simp
   have x1:(kj+1 != kj+1)=false:=by simp
   have x2:(kj+1+1 != kj+1+1)=false:=by simp
   have x3:(kj+1+1+1 != kj+1+1+1)=false:=by simp
   have d1:decide (kj+1+1+1+1+5*((bn ts j).a.length:Int)<0)=false:=by simp;omega
   have d2:decide (kj+1+1+1+1+5*((bn ts j).a.length:Int)+5*((bn ts j).ai.length:Int)<0)=false:=by simp;omega
   have x6:(kj+1+1+1+1+5*((bn ts j).a.length:Int)+5*((bn ts j).ai.length:Int) != kj+1+1+1+1+5*((bn ts j).a.length:Int)+5*((bn ts j).ai.length:Int))=false:=by simp
   go_wp2_with fail;refine(tx.Iz wr t0 (bn ts j).a.length t1 _ HT.out.1 (by omega) (by omega) S.out.2.1).mono ?_;rintro e w1 ⟨rfl,rfl⟩;go_wp2_with fail;refine(tx.vO w1 t2 (bn ts j).ai.length t3 _ HT.out.2 (by omega) (by omega) S.out.2.2.1).mono ?_;rintro e w2 ⟨rfl,rfl⟩;go_wp2;exact⟨⟨j+1,by omega,by simp,by have:=HO.out.1;rw[this];congr 1;omega,S.out.1⟩,by simp[intOf];omega⟩
  ·obtain rfl:j=ts.length:=by omega
   have hd:decide ((ts.length:Int)<(ts.length:Int))=false:=by simp
   have KH:=af (aB);clear aB;go_wp2;go_ret;exact⟨rfl,KH.out⟩
end
section
open Go.Proofs.Tryz
theorem Jw(k:C6)(y:Int):(aD k=true\/fK k y=1)/\(aD k=true->fK k y≠1):=by
 cases hk:aD k with
 | false=>exact⟨.inr (by simp[fK,gV,hk]),fun h=>by cases h⟩
 | true=>
  refine⟨.inl rfl,fun _=>?_⟩;simp only[fK,gV,hk,if_true];split<;>split<;>(try split)<;>(try split)<;>(try decide)<;>(try omega)
end
end Go.Proofs.YtbiigfbhhkiodaaGreatDoor
