import Derived.Test.YtalnmfefmiapoaaGreatDoorJ5Read
import Derived.DeepKeys4
set_option maxHeartbeats 16000000
set_option maxRecDepth 100000
namespace Go.Proofs.YtalnmfefmiapoaaGreatDoor
open Go.RowKit
open Go.Sort (grow)
theorem uC(w:World)(a1:Option Addr)(c1:Nat)(a2:Option Addr)(c2:Nat)(a3:Option Addr)(c3:Nat)(k:C6)(hl:bK.L k)(h:bK.Rd w a1 c1 a2 c2 a3 c3 k):Calls Tryz.prog 40 #[.agg #[vI k.u,vI k.l,.slice a1 k.f.length c1,.slice a2 k.aa.length c2,.slice a3 k.c.length c3,.bool k.w]] w fun e w'=>e=.returned (.bool (aD k))/\Below w.1.size w w':=by
 obtain⟨U,hU⟩:∃Y,Y=w.alloc (.cells #[vI k.u,vI k.l,.slice a1 k.f.length c1,.slice a2 k.aa.length c2,.slice a3 k.c.length c3,.bool k.w] 32):=⟨_,rfl⟩
 have b0:Below w.1.size w U:=by rw[hU];exact aJ.alloc aR _
 have FA:Hid (Bx U w.1.size (dJ a1 c1 a2 c2 a3 c3 k)):=by rw[hU];exact Bx.made w (dJ a1 c1 a2 c2 a3 c3 k) _
 have HR:Hid (bK.Rd U a1 c1 a2 c2 a3 c3 k/\bK.L k):=⟨h.later b0,hl⟩
 have BW:Hid (Below w.1.size w U):=b0;have lm:=hl.m;have lt:=hl.t;have lp:=hl.p;unfold maxLen at lm lt lp;have p0:=FA.out.1 0 _ rfl;have p1:=FA.out.1 1 _ rfl;have p2:=FA.out.1 2 _ rfl;have p3:=FA.out.1 3 _ rfl;have p4:=FA.out.1 4 _ rfl;clear b0 hl h;by_cases g0:aY 1 1000000 k.u=true
 case neg=>
  have d0:aY 1 1000000 k.u=false:=by simpa using g0
  have hb:aD k=false:=by simp[aD,d0]
  rw[hb];rw[hU]at BW p0 p1 p2 p3 p4;clear FA HR hU;go_enter Tryz.func40,Tryz.ntmps40;go_wp2_with (first|(go_at_call 84;refine(tx.gV _ _).mono ?_;rintro e w' ⟨rfl,rfl⟩)|(go_at_call 44;refine(fw _ _ _ _).mono ?_;rintro e w' ⟨rfl,rfl⟩));go_ret;exact⟨rfl,BW.out⟩
 by_cases g1:aY 0 1000000 k.l=true
 case neg=>
  have d1:aY 0 1000000 k.l=false:=by simpa using g1
  have hb:aD k=false:=by simp[aD,d1]
  rw[hb];rw[hU]at BW p0 p1 p2 p3 p4;clear FA HR hU;go_enter Tryz.func40,Tryz.ntmps40;go_wp2_with (first|(go_at_call 84;refine(tx.gV _ _).mono ?_;rintro e w' ⟨rfl,rfl⟩)|(go_at_call 44;refine(fw _ _ _ _).mono ?_;rintro e w' ⟨rfl,rfl⟩));go_ret;exact⟨rfl,BW.out⟩
 by_cases g2:1<=k.aa.length
 case neg=>
  have d2:decide ((k.aa.length:Int)<1)=true:=by simp;omega
  have hb:aD k=false:=by simp[aD,g2]
  rw[hb];rw[hU]at BW p0 p1 p2 p3 p4;clear FA HR hU;go_enter Tryz.func40,Tryz.ntmps40;go_wp2_with (first|(go_at_call 84;refine(tx.gV _ _).mono ?_;rintro e w' ⟨rfl,rfl⟩)|(go_at_call 44;refine(fw _ _ _ _).mono ?_;rintro e w' ⟨rfl,rfl⟩));go_ret;exact⟨rfl,BW.out⟩
 have d2:decide ((k.aa.length:Int)<1)=false:=by simp;omega
 by_cases g3:k.aa.length<=8
 case neg=>
  have d3:decide ((8:Int)<(k.aa.length:Int))=true:=by simp;omega
  have hb:aD k=false:=by simp[aD,g3]
  rw[hb];rw[hU]at BW p0 p1 p2 p3 p4;clear FA HR hU;go_enter Tryz.func40,Tryz.ntmps40;go_wp2_with (first|(go_at_call 84;refine(tx.gV _ _).mono ?_;rintro e w' ⟨rfl,rfl⟩)|(go_at_call 44;refine(fw _ _ _ _).mono ?_;rintro e w' ⟨rfl,rfl⟩));go_ret;exact⟨rfl,BW.out⟩
 have d3:decide ((8:Int)<(k.aa.length:Int))=false:=by simp;omega
 have BF:Hid (∀V,Below U.1.size U V->Below w.1.size w V):=fun V hV=>ay BW.out hV
 have hc:=wy U a1 k.f.length c1 k.f HR.out.2.p HR.out.1.p;rw[hU]at p0 p1 p2 p3 p4;clear BW;go_enter Tryz.func40,Tryz.ntmps40;go_wp2_with (first|(go_at_call 84;refine(tx.gV _ _).mono ?_;rintro e w' ⟨rfl,rfl⟩)|(go_at_call 44;refine(fw _ _ _ _).mono ?_;rintro e w' ⟨rfl,rfl⟩));rw[<-hU];clear hU p0 p1 p2 p3 p4;refine hc.mono ?_;clear hc;rintro e w1 ⟨rfl,b1⟩;have B1:=tx.aB b1;clear b1;have p4:=(FA.out.later B1.out).1 4 _ rfl
 cases hP:dS k.f with
 | false=>
  have hb:Hid (aD k=false):=by unfold Hid;simp[aD,hP]
  go_wp2;go_ret;exact⟨by rw[hb.out];rfl,BF.out _ B1.out⟩
 | true=>
 by_cases g5:k.c.length<=60
 case neg=>
  have d5:decide ((60:Int)<(k.c.length:Int))=true:=by simp;omega
  have hb:Hid (aD k=false):=by unfold Hid;simp[aD,g5]
  go_wp2;go_ret;exact⟨by rw[hb.out];rfl,BF.out _ B1.out⟩
 have d5:decide ((60:Int)<(k.c.length:Int))=false:=by simp;omega
 have HC:Hid (aD k=(iK k.aa&&iw k.f k.aa&&qB k)):=by unfold Hid;simp[aD,g0,g1,g2,g3,hP,g5]
 have HZ:Hid (∀r j,r<k.f.length->j<(dR k.f r).length->0<=eU (dR k.f r) j/\eU (dR k.f r) j<=7):=fun r j hr hj=>zO hP hr hj
 clear g0 g1 hP;go_wp2;clear p4 d2 d3 d5;go_loopw[4] (fun v4 wr=>∃i:Nat,i<=k.aa.length/\v4=vI i/\Below U.1.size U wr/\(List.range i).all (fun i=>eY (aS k.aa i))=true) (fun v4 _=>k.aa.length-(intOf v4).toNat)
 case atStart=>exact⟨0,Nat.zero_le _,rfl,B1.out,rfl⟩
 case round=>
 obtain⟨i,hi,rfl,aF,aP⟩:=hrel;have KB:Hid (Below U.1.size U wr/\(List.range i).all (fun i=>eY (aS k.aa i))=true):=⟨aF,aP⟩
 clear aF aP;by_cases aN:i<k.aa.length
 case pos=>
  have hd:=il aN;rcases HR.out.1.m with hs|⟨b,off,rfl,hb,h1⟩
  ·rw[hs]at aN;simp at aN
  obtain⟨⟨m0,m1,m2,m3,m4,m5⟩,bg,fM⟩:=h1 i _ hd;have e0:wr.cell? ⟨b,off+i*4,none⟩=some (.bool (aS k.aa i).x):=(KB.out.1.cell (p:=⟨b,off+i*4,none⟩) hb).trans (bg 0 _ rfl);have e1:wr.cell? ⟨b,off+i*4+1,none⟩=some (.slice m0 (aS k.aa i).af.length m1):=(KB.out.1.cell (p:=⟨b,off+i*4+1,none⟩) hb).trans (bg 1 _ rfl);have e2:wr.cell? ⟨b,off+i*4+2,none⟩=some (.slice m2 (aS k.aa i).h.length m3):=(KB.out.1.cell (p:=⟨b,off+i*4+2,none⟩) hb).trans (bg 2 _ rfl);have e3:wr.cell? ⟨b,off+i*4+3,none⟩=some (.slice m4 (aS k.aa i).ai.length m5):=(KB.out.1.cell (p:=⟨b,off+i*4+3,none⟩) hb).trans (bg 3 _ rfl);have Gs:=HR.out.2.ms _ (List.mem_of_getElem? hd);have hc:=uD wr ⟨m0,m1,m2,m3,m4,m5⟩ (aS k.aa i) Gs.k Gs.r Gs.n Gs.ks Gs.rs (fZ.later fM KB.out.1);simp only[MV.val]at hc;have p3:=(FA.out.later KB.out.1).1 3 _ rfl;have jn:(i:Int)<(k.aa.length:Int):=by omega
  clear bg fM h1 hd Gs hb;go_wp2_with fail;refine hc.mono ?_;clear hc e0 e1 e2 e3 p3;rintro e w2 ⟨rfl,b2⟩;have K2:Hid (Below U.1.size U w2):=ay KB.out.1 b2;clear b2
  cases hB:eY (aS k.aa i)with
  | false=>
   have hb:Hid (aD k=false):=by unfold Hid;rw[HC.out];simp[iK,ig (f:=fun i=>eY (aS k.aa i)) aN hB]
   go_wp2;go_ret;exact⟨by rw[hb.out];rfl,BF.out _ K2.out⟩
  | true=>
   go_wp2;exact⟨⟨i+1,by omega,by simp,K2.out,jL KB.out.2 hB⟩,by simp[intOf];omega⟩
 obtain rfl:i=k.aa.length:=by omega
 have QN:decide ((k.aa.length:Int)<(k.aa.length:Int))=false:=by simp
 have Cr:Hid (aD k=(iw k.f k.aa&&qB k)):=by unfold Hid;rw[HC.out,iK,KB.out.2];simp
 go_wp2;generalize wr=wA at *;clear QN;go_loopw[5] (fun v5 wr=>∃r:Nat,r<=k.f.length/\v5=vI r/\Below U.1.size U wr/\(List.range r).all (fun r=>jZ k.aa r (dR k.f r))=true) (fun v5 _=>k.f.length-(intOf v5).toNat)
 case atStart=>exact⟨0,Nat.zero_le _,rfl,KB.out.1,rfl⟩
 case round=>
 obtain⟨r,hr,rfl,aF,aP⟩:=hrel;have KC:Hid (Below U.1.size U wr/\(List.range r).all (fun r=>jZ k.aa r (dR k.f r))=true):=⟨aF,aP⟩
 clear aF aP;have p2:=(FA.out.later KC.out.1).1 2 _ rfl;by_cases Pz:r<k.f.length
 case pos=>
  obtain⟨_,Q0⟩:=HR.out.1.p;rcases Q0 with Q0|⟨b,off,rfl,hb,CV⟩
  ·omega
  obtain⟨a',aZ,hc,gy,jJ⟩:=CV r _ (fI Pz);have c:=(KC.out.1.cell (p:=⟨b,off+r,none⟩) hb).trans hc;have Yn:Hid (mP U U.1.size a' (dR k.f r).length (dR k.f r)):=gy;have jr:(r:Int)<(k.f.length:Int):=by omega
  have lz:=HR.out.2.ps _ (List.mem_of_getElem? (fI Pz));unfold maxLen at lz;have HF:Hid (jZ k.aa r (dR k.f r)=false->aD k=false):=fun hh=>by rw[Cr.out,iw,ig (f:=fun r=>jZ k.aa r (dR k.f r)) Pz hh];rfl
  have Yq:Hid (∀j,j<(dR k.f r).length->0<=eU (dR k.f r) j/\eU (dR k.f r) j<=7):=fun j hj=>HZ.out r j Pz hj
  have Vk:Hid (jZ k.aa r (dR k.f r)=(List.range (dR k.f r).length).all fun j=>jf k.aa r (eU (dR k.f r) j)):=rfl;have Vi:Hid (jZ k.aa r (dR k.f r)=true->(List.range (r+1)).all (fun r=>jZ k.aa r (dR k.f r))=true):=fun hh=>jL (f:=fun r=>jZ k.aa r (dR k.f r)) KC.out.2 hh
  clear CV hc gy;generalize qL:dR k.f r=zs at *;go_wp2;clear c p2 jr qL;generalize wr=wC at *;go_loopw[7] (fun v7 wr=>∃j:Nat,j<=zs.length/\v7=vI j/\Below U.1.size U wr/\(List.range j).all (fun j=>jf k.aa r (eU zs j))=true) (fun v7 _=>zs.length-(intOf v7).toNat)
  case atStart=>exact⟨0,Nat.zero_le _,rfl,KC.out.1,rfl⟩
  case round=>
  obtain⟨j,hj,rfl,aF,aP⟩:=hrel;have KD:Hid (Below U.1.size U wr/\(List.range j).all (fun j=>jf k.aa r (eU zs j))=true):=⟨aF,aP⟩
  clear aF aP;by_cases J2:j<zs.length
  case neg=>
   obtain rfl:j=zs.length:=by omega
   have QN:decide ((zs.length:Int)<(zs.length:Int))=false:=by simp
   have hh:=Vi.out (by rw[Vk.out];exact KD.out.2);go_wp2;exact⟨⟨r+1,by omega,by simp,KD.out.1,hh⟩,by simp[intOf];omega⟩
  obtain⟨_,vF⟩:=Yn.out;rcases vF with vF|⟨b',bG,rfl,fC,h2⟩
  ·omega
  have hz:=Yq.out j J2;obtain⟨i,hi⟩:∃i:Nat,eU zs j=(i:Int):=⟨(eU zs j).toNat,by omega⟩
  have JX:=h2 j _ (iJ J2);rw[hi]at JX;have xz:∀dd os,(grow (redrawn wr dd) os).cell? ⟨b',bG+j,none⟩=some (vI (i:Int)):=fun dd os=>((ay KD.out.1 (below_regrown wr dd os)).cell (p:=⟨b',bG+j,none⟩) fC).trans (JX)
  have jz:(j:Int)<(zs.length:Int):=by omega
  have jc:j<aZ:=by omega
  have HB:Hid (jf k.aa r (eU zs j)=(decide ((i:Int)<(k.aa.length:Int))&&(!(aS k.aa i).x||tQ (aS k.aa i) (r:Int)))):=by unfold Hid jf;rw[hi];rfl
  have Lr:Hid (jf k.aa r (eU zs j)=false->aD k=false):=fun hh=>HF.out (by rw[Vk.out];exact ig (f:=fun j=>jf k.aa r (eU zs j)) J2 hh)
  clear JX h2 hz hi;by_cases JY:i<k.aa.length
  case neg=>
   have dz:decide ((k.aa.length:Int)<=(i:Int))=true:=by simp<;>omega
   have YH:decide (k.aa.length<=i)=true:=by simp<;>omega
   have qO:Hid (aD k=false):=Lr.out (by rw[HB.out];simp[JY]);go_wp2_with fail;refine wp_region_quiet_below (by kernel_rfl) (by kernel_rfl) ?_;repeat (go_big_quiet_step (fail))
   refine wpQuiet_nil ?_;intro _ dD;obtain⟨⟨dq,bI⟩,aT⟩:=dD;subst aT;have bq:=below_regrown wr dq bI;go_wp2;go_ret;exact⟨by rw[qO.out];rfl,BF.out _ (ay KD.out.1 bq)⟩
  have dz:decide ((k.aa.length:Int)<=(i:Int))=false:=by simp<;>omega
  have YH:decide (k.aa.length<=i)=false:=by simp<;>omega
  have hd:=il JY;rcases HR.out.1.m with hs|⟨b2,iX,rfl,ky,h1⟩
  ·rw[hs]at JY;simp at JY
  obtain⟨⟨m0,m1,m2,m3,m4,m5⟩,bg,fM⟩:=h1 i _ hd;have bC:=FA.out.1 3 _ rfl;have x3:∀dd os,(grow (redrawn wr dd) os).cell? ⟨w.1.size,3,none⟩=some (.slice (some ⟨b2,iX,none⟩) k.aa.length c2):=fun dd os=>((ay KD.out.1 (below_regrown wr dd os)).cell (p:=⟨w.1.size,3,none⟩) FA.out.2.2).trans (bC)
  clear bC;have e0:∀dd os,(grow (redrawn wr dd) os).cell? ⟨b2,iX+i*4,none⟩=some (.bool (aS k.aa i).x):=fun dd os=>((ay KD.out.1 (below_regrown wr dd os)).cell (p:=⟨b2,iX+i*4,none⟩) ky).trans (bg 0 _ rfl)
  have e1:∀dd os,(grow (redrawn wr dd) os).cell? ⟨b2,iX+i*4+1,none⟩=some (.slice m0 (aS k.aa i).af.length m1):=fun dd os=>((ay KD.out.1 (below_regrown wr dd os)).cell (p:=⟨b2,iX+i*4+1,none⟩) ky).trans (bg 1 _ rfl)
  have e2:∀dd os,(grow (redrawn wr dd) os).cell? ⟨b2,iX+i*4+2,none⟩=some (.slice m2 (aS k.aa i).h.length m3):=fun dd os=>((ay KD.out.1 (below_regrown wr dd os)).cell (p:=⟨b2,iX+i*4+2,none⟩) ky).trans (bg 2 _ rfl)
  have e3:∀dd os,(grow (redrawn wr dd) os).cell? ⟨b2,iX+i*4+3,none⟩=some (.slice m4 (aS k.aa i).ai.length m5):=fun dd os=>((ay KD.out.1 (below_regrown wr dd os)).cell (p:=⟨b2,iX+i*4+3,none⟩) ky).trans (bg 3 _ rfl)
  have Gs:=HR.out.2.ms _ (List.mem_of_getElem? hd);have cQ:∀dd os,Calls Tryz.prog 87 #[.agg #[.bool (aS k.aa i).x,.slice m0 (aS k.aa i).af.length m1,.slice m2 (aS k.aa i).h.length m3,.slice m4 (aS k.aa i).ai.length m5],vI (r:Int)] (grow (redrawn wr dd) os) fun e fq=>e=.returned (vI (rJ (aS k.aa i) (r:Int)))/\∃p:Regrown,fq=grow (redrawn wr p.d) p.os:=fun dd os=>Calls.regrown_of (Nl _ m0 m1 m2 m3 m4 m5 (aS k.aa i) r Gs (fZ.later fM (ay KD.out.1 (below_regrown wr dd os))))
  have im:(i:Int)<(k.aa.length:Int):=by omega
  have dC:=yh (aS k.aa i) (r:Int);clear bg fM h1 hd Gs
  cases ha:(aS k.aa i).x with
  | false=>
   rw[ha]at e0;have PI:Hid ((List.range (j+1)).all (fun j=>jf k.aa r (eU zs j))=true):=jL (f:=fun j=>jf k.aa r (eU zs j)) KD.out.2 (by rw[HB.out];simp[JY,ha]);clear cQ dC e1 e2 e3;go_wp2_with fail;refine wp_region_quiet_below (by kernel_rfl) (by kernel_rfl) ?_;repeat (go_big_quiet_step (fail))
   refine wpQuiet_nil ?_;intro _ dD;obtain⟨⟨dq,bI⟩,aT⟩:=dD;subst aT;have bq:=below_regrown wr dq bI;go_wp2;exact⟨⟨j+1,by omega,by simp,ay KD.out.1 bq,PI.out⟩,by simp[intOf];omega⟩
  | true=>
   rw[ha]at e0 cQ;generalize rJ (aS k.aa i) (r:Int)=ic at *
   cases hh:tQ (aS k.aa i) (r:Int)with
   | false=>
    rw[hh]at dC;have qO:Hid (aD k=false):=Lr.out (by rw[HB.out];simp[JY,ha,hh]);go_wp2_with fail;refine wp_region_quiet_below (by kernel_rfl) (by kernel_rfl) ?_;repeat (go_big_quiet_step (exact cQ _ _))
    refine wpQuiet_nil ?_;intro _ dD;obtain⟨⟨dq,bI⟩,aT⟩:=dD;subst aT;have bq:=below_regrown wr dq bI;go_wp2;go_ret;exact⟨by rw[qO.out];rfl,BF.out _ (ay KD.out.1 bq)⟩
   | true=>
    rw[hh]at dC;have PI:Hid ((List.range (j+1)).all (fun j=>jf k.aa r (eU zs j))=true):=jL (f:=fun j=>jf k.aa r (eU zs j)) KD.out.2 (by rw[HB.out];simp[JY,ha,hh]);go_wp2_with fail;refine wp_region_quiet_below (by kernel_rfl) (by kernel_rfl) ?_;repeat (go_big_quiet_step (exact cQ _ _))
    refine wpQuiet_nil ?_;intro _ dD;obtain⟨⟨dq,bI⟩,aT⟩:=dD;subst aT;have bq:=below_regrown wr dq bI;go_wp2;exact⟨⟨j+1,by omega,by simp,ay KD.out.1 bq,PI.out⟩,by simp[intOf];omega⟩
 obtain rfl:r=k.f.length:=by omega
 have QN:decide ((k.f.length:Int)<(k.f.length:Int))=false:=by simp
 have Z5:Hid (aD k=qB k):=by unfold Hid;rw[Cr.out,iw,KC.out.2];simp
 go_wp2;generalize wr=wB at *;clear QN p2;go_loopw[8] (fun v8 wr=>∃i:Nat,i<=k.c.length/\v8=vI i/\Below U.1.size U wr/\(List.range i).all (mr k)=true) (fun v8 _=>k.c.length-(intOf v8).toNat)
 case atStart=>exact⟨0,Nat.zero_le _,rfl,KC.out.1,rfl⟩
 case round=>
 obtain⟨i,hi,rfl,aF,aP⟩:=hrel;have KE:Hid (Below U.1.size U wr/\(List.range i).all (mr k)=true):=⟨aF,aP⟩
 clear aF aP;have p4:=(FA.out.later KE.out.1).1 4 _ rfl;by_cases aN:i<k.c.length
 case neg=>
  obtain rfl:i=k.c.length:=by omega
  have QN:decide ((k.c.length:Int)<(k.c.length:Int))=false:=by simp
  have qO:Hid (aD k=true):=by unfold Hid;rw[Z5.out];exact KE.out.2
  go_wp2;go_ret;exact⟨by rw[qO.out];rfl,BF.out _ KE.out.1⟩
 have hd:=fV aN
 have HM:Hid (i=0\/∃j,i=j+1/\k.c[j]?=some (aM k.c j)):=by
  rcases i with _|j
  ·exact .inl rfl
  ·exact .inr ⟨j,rfl,fV (by omega)⟩
 rcases HR.out.1.t with hs|⟨b,off,rfl,hb,h1⟩
 ·rw[hs]at aN;simp at aN
 have HX:Hid (mr k i=(tx.jI (aM k.c i)&&(decide (i=0)||decide ((aM k.c (i-1)).id<(aM k.c i).id))&&decide ((aM k.c i).o<(k.aa.length:Int))&&decide ((aM k.c i).aA<=k.l)&&kR k.f.length (aM k.c i).a&&nM k.f.length (aM k.c i).ag)):=rfl;have Lr:Hid (mr k i=false->aD k=false):=fun hh=>by rw[Z5.out,qB];exact ig (f:=mr k) aN hh
 have Vi:Hid (mr k i=true->(List.range (i+1)).all (mr k)=true):=fun hh=>jL (f:=mr k) KE.out.2 hh
 obtain⟨⟨t0,t1,t2,t3⟩,bg,fM⟩:=h1 i _ hd;have OD:=HR.out.2.ts _ (List.mem_of_getElem? hd)
 have HP:Hid (∀j,i=j+1->U.cell? ⟨b,off+j*7,none⟩=some (vI (aM k.c j).id)):=fun j e=>by
  obtain⟨v,qI,_⟩:=h1 j _ (fV (by omega));exact qI 0 _ rfl
 generalize ht:aM k.c i=t at *;have e0:wr.cell? ⟨b,off+i*7,none⟩=some (vI t.id):=(KE.out.1.cell (p:=⟨b,off+i*7,none⟩) hb).trans (bg 0 _ rfl);have e1:wr.cell? ⟨b,off+i*7+1,none⟩=some (vI t.o):=(KE.out.1.cell (p:=⟨b,off+i*7+1,none⟩) hb).trans (bg 1 _ rfl);have e2:wr.cell? ⟨b,off+i*7+2,none⟩=some (vI t.q):=(KE.out.1.cell (p:=⟨b,off+i*7+2,none⟩) hb).trans (bg 2 _ rfl);have e3:wr.cell? ⟨b,off+i*7+3,none⟩=some (vI t.v):=(KE.out.1.cell (p:=⟨b,off+i*7+3,none⟩) hb).trans (bg 3 _ rfl);have e4:wr.cell? ⟨b,off+i*7+4,none⟩=some (.slice t0 t.a.length t1):=(KE.out.1.cell (p:=⟨b,off+i*7+4,none⟩) hb).trans (bg 4 _ rfl);have e5:wr.cell? ⟨b,off+i*7+5,none⟩=some (.slice t2 t.ag.length t3):=(KE.out.1.cell (p:=⟨b,off+i*7+5,none⟩) hb).trans (bg 5 _ rfl);have e6:wr.cell? ⟨b,off+i*7+6,none⟩=some (vI t.aA):=(KE.out.1.cell (p:=⟨b,off+i*7+6,none⟩) hb).trans (bg 6 _ rfl);obtain⟨V,hV⟩:∃Y,Y=wr.alloc (.cells #[vI t.id,vI t.o,vI t.q,vI t.v,.slice t0 t.a.length t1,.slice t2 t.ag.length t3,vI t.aA] 50):=⟨_,rfl⟩
 have bV:Below wr.1.size wr V:=by rw[hV];exact aJ.alloc aR _
 have FT:Hid (Bx V wr.1.size (tx.iC t0 t1 t2 t3 t)):=by rw[hV];exact Bx.made wr (tx.iC t0 t1 t2 t3 t) _
 have KV:Hid (Below U.1.size U V):=ay KE.out.1 bV;have UB:Hid (tx.lW U ⟨t0,t1,t2,t3⟩ t/\tx.TL t):=⟨fM,OD⟩
 have ji:(i:Int)<(k.c.length:Int):=by omega
 clear bg fM h1 hd OD bV;go_upto_region 22 with fail
 rw[<-hV];clear hV p4 e0 e1 e2 e3 e4 e5 e6 ji;generalize wr.1.size=s9 at *;generalize wr=wD at *;generalize V=wr at *;have f0:∀dd os,(grow (redrawn wr dd) os).cell? ⟨s9,0,none⟩=some (vI t.id):=fun dd os=>(FT.out.later (below_regrown wr dd os)).1 0 _ rfl
 have f1:∀dd os,(grow (redrawn wr dd) os).cell? ⟨s9,1,none⟩=some (vI t.o):=fun dd os=>(FT.out.later (below_regrown wr dd os)).1 1 _ rfl
 have f2:∀dd os,(grow (redrawn wr dd) os).cell? ⟨s9,2,none⟩=some (vI t.q):=fun dd os=>(FT.out.later (below_regrown wr dd os)).1 2 _ rfl
 have f3:∀dd os,(grow (redrawn wr dd) os).cell? ⟨s9,3,none⟩=some (vI t.v):=fun dd os=>(FT.out.later (below_regrown wr dd os)).1 3 _ rfl
 have f4:∀dd os,(grow (redrawn wr dd) os).cell? ⟨s9,4,none⟩=some (.slice t0 t.a.length t1):=fun dd os=>(FT.out.later (below_regrown wr dd os)).1 4 _ rfl
 have f5:∀dd os,(grow (redrawn wr dd) os).cell? ⟨s9,5,none⟩=some (.slice t2 t.ag.length t3):=fun dd os=>(FT.out.later (below_regrown wr dd os)).1 5 _ rfl
 have f6:∀dd os,(grow (redrawn wr dd) os).cell? ⟨s9,6,none⟩=some (vI t.aA):=fun dd os=>(FT.out.later (below_regrown wr dd os)).1 6 _ rfl
 have cT:∀dd os,Calls Tryz.prog 88 #[.agg #[vI t.id,vI t.o,vI t.q,vI t.v,.slice t0 t.a.length t1,.slice t2 t.ag.length t3,vI t.aA]] (grow (redrawn wr dd) os) fun e fq=>e=.returned (.bool (tx.jI t))/\∃p:Regrown,fq=grow (redrawn wr p.d) p.os:=fun dd os=>by
  have hh:=tx.uH (grow (redrawn wr dd) os) ⟨t0,t1,t2,t3⟩ t UB.out.2 (UB.out.1.later (ay KV.out (below_regrown wr dd os)));simp only[tx.TV.val]at hh;exact Calls.regrown_of hh
 have bC:=FA.out.1 4 _ rfl;have x4:∀dd os,(grow (redrawn wr dd) os).cell? ⟨w.1.size,4,none⟩=some (.slice (some ⟨b,off,none⟩) k.c.length c3):=fun dd os=>((ay KV.out (below_regrown wr dd os)).cell (p:=⟨w.1.size,4,none⟩) FA.out.2.2).trans (bC)
 have bC:=FA.out.1 1 _ rfl;have x1:∀dd os,(grow (redrawn wr dd) os).cell? ⟨w.1.size,1,none⟩=some (vI k.l):=fun dd os=>((ay KV.out (below_regrown wr dd os)).cell (p:=⟨w.1.size,1,none⟩) FA.out.2.2).trans (bC)
 clear bC;have KD:Hid (Below U.1.size U wr/\True):=⟨KV.out,trivial⟩
 cases hB:tx.jI t with
 | false=>
  rw[hB]at cT;have qO:Hid (aD k=false):=Lr.out (by rw[HX.out,hB];rfl);go_wp2_with fail;refine wp_region_quiet_below (by kernel_rfl) (by kernel_rfl) ?_;repeat (go_big_quiet_step (exact cT _ _))
  refine wpQuiet_nil ?_;intro _ dD;obtain⟨⟨dq,bI⟩,aT⟩:=dD;subst aT;have bq:=below_regrown wr dq bI;go_wp2;go_ret;exact⟨by rw[qO.out];rfl,BF.out _ (ay KD.out.1 bq)⟩
 | true=>
 rw[hB]at cT;by_cases gi:i=0\/(aM k.c (i-1)).id<t.id
 case neg=>
  obtain⟨j,rfl,-⟩:=HM.out.resolve_left (fun e=>gi (.inl e));have hle:¬(aM k.c j).id<t.id:=fun e=>gi (.inr e)
  have MW:=HP.out j rfl;have xj:∀dd os,(grow (redrawn wr dd) os).cell? ⟨b,off+j*7,none⟩=some (vI (aM k.c j).id):=fun dd os=>((ay KV.out (below_regrown wr dd os)).cell (p:=⟨b,off+j*7,none⟩) hb).trans (MW)
  have d0:decide ((0:Int)<((j+1:Nat):Int))=true:=by simp<;>omega
  have ej:((j+1:Nat):Int)-1=(j:Int):=by omega
  have d1:decide (t.id<=(aM k.c j).id)=true:=by simp<;>omega
  have jn:(j:Int)<(k.c.length:Int):=by omega
  have qO:Hid (aD k=false):=Lr.out (by rw[HX.out];simp[hle]);clear MW gi hle;go_wp2_with fail;refine wp_region_quiet_below (by kernel_rfl) (by kernel_rfl) ?_;repeat (go_big_quiet_step (exact cT _ _))
  refine wpQuiet_nil ?_;intro _ dD;obtain⟨⟨dq,bI⟩,aT⟩:=dD;subst aT;have bq:=below_regrown wr dq bI;go_wp2;go_ret;exact⟨by rw[qO.out];rfl,BF.out _ (ay KD.out.1 bq)⟩
 by_cases gh:t.o<(k.aa.length:Int)
 case neg=>
  have dh:decide ((k.aa.length:Int)<=t.o)=true:=by simp<;>omega
  have qO:Hid (aD k=false):=Lr.out (by rw[HX.out];simp[gh]);rcases HM.out with rfl|⟨j,rfl,-⟩
  ·have d0:decide ((0:Int)<((0:Nat):Int))=false:=by simp
   go_wp2_with fail;refine wp_region_quiet_below (by kernel_rfl) (by kernel_rfl) ?_;repeat (go_big_quiet_step (exact cT _ _))
   refine wpQuiet_nil ?_;intro _ dD;obtain⟨⟨dq,bI⟩,aT⟩:=dD;subst aT;have bq:=below_regrown wr dq bI;go_wp2;go_ret;exact⟨by rw[qO.out];rfl,BF.out _ (ay KD.out.1 bq)⟩
  ·have Gx:(aM k.c j).id<t.id:=by rcases gi with e|e;omega;exact e
   have MW:=HP.out j rfl;have xj:∀dd os,(grow (redrawn wr dd) os).cell? ⟨b,off+j*7,none⟩=some (vI (aM k.c j).id):=fun dd os=>((ay KV.out (below_regrown wr dd os)).cell (p:=⟨b,off+j*7,none⟩) hb).trans (MW)
   have d0:decide ((0:Int)<((j+1:Nat):Int))=true:=by simp<;>omega
   have ej:((j+1:Nat):Int)-1=(j:Int):=by omega
   have d1:decide (t.id<=(aM k.c j).id)=false:=by simp<;>omega
   have jn:(j:Int)<(k.c.length:Int):=by omega
   clear MW Gx;go_wp2_with fail;refine wp_region_quiet_below (by kernel_rfl) (by kernel_rfl) ?_;repeat (go_big_quiet_step (exact cT _ _))
   refine wpQuiet_nil ?_;intro _ dD;obtain⟨⟨dq,bI⟩,aT⟩:=dD;subst aT;have bq:=below_regrown wr dq bI;go_wp2;go_ret;exact⟨by rw[qO.out];rfl,BF.out _ (ay KD.out.1 bq)⟩
 have dh:decide ((k.aa.length:Int)<=t.o)=false:=by simp<;>omega
 by_cases gs:t.aA<=k.l
 case neg=>
  have ds:decide (k.l<t.aA)=true:=by simp<;>omega
  have qO:Hid (aD k=false):=Lr.out (by rw[HX.out];simp[gs]);rcases HM.out with rfl|⟨j,rfl,-⟩
  ·have d0:decide ((0:Int)<((0:Nat):Int))=false:=by simp
   go_wp2_with fail;refine wp_region_quiet_below (by kernel_rfl) (by kernel_rfl) ?_;repeat (go_big_quiet_step (exact cT _ _))
   refine wpQuiet_nil ?_;intro _ dD;obtain⟨⟨dq,bI⟩,aT⟩:=dD;subst aT;have bq:=below_regrown wr dq bI;go_wp2;go_ret;exact⟨by rw[qO.out];rfl,BF.out _ (ay KD.out.1 bq)⟩
  ·have Gx:(aM k.c j).id<t.id:=by rcases gi with e|e;omega;exact e
   have MW:=HP.out j rfl;have xj:∀dd os,(grow (redrawn wr dd) os).cell? ⟨b,off+j*7,none⟩=some (vI (aM k.c j).id):=fun dd os=>((ay KV.out (below_regrown wr dd os)).cell (p:=⟨b,off+j*7,none⟩) hb).trans (MW)
   have d0:decide ((0:Int)<((j+1:Nat):Int))=true:=by simp<;>omega
   have ej:((j+1:Nat):Int)-1=(j:Int):=by omega
   have d1:decide (t.id<=(aM k.c j).id)=false:=by simp<;>omega
   have jn:(j:Int)<(k.c.length:Int):=by omega
   clear MW Gx;go_wp2_with fail;refine wp_region_quiet_below (by kernel_rfl) (by kernel_rfl) ?_;repeat (go_big_quiet_step (exact cT _ _))
   refine wpQuiet_nil ?_;intro _ dD;obtain⟨⟨dq,bI⟩,aT⟩:=dD;subst aT;have bq:=below_regrown wr dq bI;go_wp2;go_ret;exact⟨by rw[qO.out];rfl,BF.out _ (ay KD.out.1 bq)⟩
 have ds:decide (k.l<t.aA)=false:=by simp<;>omega
 have HY:Hid (mr k i=(kR k.f.length t.a&&nM k.f.length t.ag)):=by
  unfold Hid;rw[HX.out];rcases gi with gi|gi<;>simp[hB,gi,gh,gs]
 have lr:=UB.out.2.r;have ls:=UB.out.2.s;unfold maxLen at lr ls;have CUT:Hid (∀X,Below wr.1.size wr X->Below U.1.size U X):=fun X hX=>ay KV.out hX
 go_cut[149]from 118 to 149 (fun ZL wx=>ZL=.bool false/\Below wr.1.size wr wx)
 case first=>
  rcases HM.out with rfl|⟨j,rfl,-⟩
  ·have d0:decide ((0:Int)<((0:Nat):Int))=false:=by simp
   go_wp2_with fail;refine wp_region_quiet_below (by kernel_rfl) (by kernel_rfl) ?_;repeat (go_big_quiet_step (exact cT _ _))
   refine wpQuiet_nil ?_;intro _ dD;obtain⟨⟨dq,bI⟩,aT⟩:=dD;subst aT;have bq:=below_regrown wr dq bI;go_wp2_with fail;go_meet;exact⟨rfl,bq⟩
  ·have Gx:(aM k.c j).id<t.id:=by rcases gi with e|e;omega;exact e
   have MW:=HP.out j rfl;have xj:∀dd os,(grow (redrawn wr dd) os).cell? ⟨b,off+j*7,none⟩=some (vI (aM k.c j).id):=fun dd os=>((ay KV.out (below_regrown wr dd os)).cell (p:=⟨b,off+j*7,none⟩) hb).trans (MW)
   have d0:decide ((0:Int)<((j+1:Nat):Int))=true:=by simp<;>omega
   have ej:((j+1:Nat):Int)-1=(j:Int):=by omega
   have d1:decide (t.id<=(aM k.c j).id)=false:=by simp<;>omega
   have jn:(j:Int)<(k.c.length:Int):=by omega
   clear MW Gx;go_wp2_with fail;refine wp_region_quiet_below (by kernel_rfl) (by kernel_rfl) ?_;repeat (go_big_quiet_step (exact cT _ _))
   refine wpQuiet_nil ?_;intro _ dD;obtain⟨⟨dq,bI⟩,aT⟩:=dD;subst aT;have bq:=below_regrown wr dq bI;go_wp2_with fail;go_meet;exact⟨rfl,bq⟩
 case rest=>
 obtain⟨rfl,bx⟩:=hcut;have KW:Hid (Below wr.1.size wr wc/\Below U.1.size U wc):=⟨bx,ay KV.out bx⟩
 clear bx f0 f1 f2 f3 f4 f5 f6 cT x4 x1 dh ds KD;generalize wc=wE at *;go_wp2;generalize wr=wF at *;go_loopw[10] (fun v wr=>∃j:Nat,j<=t.a.length/\v=vI j/\Below wF.1.size wF wr/\(List.range j).all (fun j=>decide ((tx.au t.a j).b<(k.f.length:Int)))=true) (fun v _=>t.a.length-(intOf v).toNat)
 case atStart=>exact⟨0,Nat.zero_le _,rfl,KW.out.1,rfl⟩
 case round=>
 obtain⟨j,hj,rfl,aF,aP⟩:=hrel;have KD:Hid (Below U.1.size U wr/\Below wF.1.size wF wr/\(List.range j).all (fun j=>decide ((tx.au t.a j).b<(k.f.length:Int)))=true):=⟨CUT.out _ aF,aF,aP⟩
 clear aF aP;have p9:=(FT.out.later KD.out.2.1).1 4 _ rfl;by_cases J2:j<t.a.length
 case pos=>
  obtain⟨_,vF⟩:=UB.out.1.r;dsimp only at vF;rcases vF with vF|⟨b',bG,rfl,fC,h2⟩
  ·omega
  have JX:=(h2 j _ (tx.fE J2)).c0;have xz:∀dd os,(grow (redrawn wr dd) os).cell? ⟨b',bG+j*5,none⟩=some (vI (tx.au t.a j).b):=fun dd os=>((ay KD.out.1 (below_regrown wr dd os)).cell (p:=⟨b',bG+j*5,none⟩) fC).trans (JX)
  have bC:=FA.out.1 2 _ rfl;have x2:∀dd os,(grow (redrawn wr dd) os).cell? ⟨w.1.size,2,none⟩=some (.slice a1 k.f.length c1):=fun dd os=>((ay KD.out.1 (below_regrown wr dd os)).cell (p:=⟨w.1.size,2,none⟩) FA.out.2.2).trans (bC)
  have x9:∀dd os,(grow (redrawn wr dd) os).cell? ⟨s9,4,none⟩=some (.slice (some ⟨b',bG,none⟩) t.a.length t1):=fun dd os=>(FT.out.later (ay KD.out.2.1 (below_regrown wr dd os))).1 4 _ rfl
  have jz:(j:Int)<(t.a.length:Int):=by omega
  clear JX h2 bC;by_cases hz:(tx.au t.a j).b<(k.f.length:Int)
  case neg=>
   have dz:decide ((k.f.length:Int)<=(tx.au t.a j).b)=true:=by simp<;>omega
   have qO:Hid (aD k=false):=Lr.out (by rw[HY.out,kR,ig (f:=fun j=>decide ((tx.au t.a j).b<(k.f.length:Int))) J2 (by simpa using hz)];simp);go_wp2_with fail;refine wp_region_quiet_below (by kernel_rfl) (by kernel_rfl) ?_;repeat (go_big_quiet_step (fail))
   refine wpQuiet_nil ?_;intro _ dD;obtain⟨⟨dq,bI⟩,aT⟩:=dD;subst aT;have bq:=below_regrown wr dq bI;go_wp2;go_ret;exact⟨by rw[qO.out];rfl,BF.out _ (ay KD.out.1 bq)⟩
  have dz:decide ((k.f.length:Int)<=(tx.au t.a j).b)=false:=by simp<;>omega
  have PI:Hid ((List.range (j+1)).all (fun j=>decide ((tx.au t.a j).b<(k.f.length:Int)))=true):=jL (f:=fun j=>decide ((tx.au t.a j).b<(k.f.length:Int))) KD.out.2.2 (by simpa using hz);go_wp2_with fail;refine wp_region_quiet_below (by kernel_rfl) (by kernel_rfl) ?_;repeat (go_big_quiet_step (fail))
  refine wpQuiet_nil ?_;intro _ dD;obtain⟨⟨dq,bI⟩,aT⟩:=dD;subst aT;have bq:=below_regrown wr dq bI;go_wp2;exact⟨⟨j+1,by omega,by simp,ay KD.out.2.1 bq,PI.out⟩,by simp[intOf];omega⟩
 obtain rfl:j=t.a.length:=by omega
 have QN:decide ((t.a.length:Int)<(t.a.length:Int))=false:=by simp
 have ab:Hid (mr k i=nM k.f.length t.ag):=by unfold Hid;rw[HY.out,kR,KD.out.2.2];simp
 have KX:Hid (Below wF.1.size wF wr):=KD.out.2.1;go_wp2;clear p9 QN;generalize wr=wG at *;go_loopw[11] (fun v wr=>∃j:Nat,j<=t.ag.length/\v=vI j/\Below wF.1.size wF wr/\(List.range j).all (fun j=>decide ((tx.ax t.ag j).b<(k.f.length:Int)))=true) (fun v _=>t.ag.length-(intOf v).toNat)
 case atStart=>exact⟨0,Nat.zero_le _,rfl,KX.out,rfl⟩
 case round=>
 obtain⟨j,hj,rfl,aF,aP⟩:=hrel;have KD:Hid (Below U.1.size U wr/\Below wF.1.size wF wr/\(List.range j).all (fun j=>decide ((tx.ax t.ag j).b<(k.f.length:Int)))=true):=⟨CUT.out _ aF,aF,aP⟩
 clear aF aP;have p9:=(FT.out.later KD.out.2.1).1 5 _ rfl;by_cases J2:j<t.ag.length
 case pos=>
  obtain⟨_,vF⟩:=UB.out.1.s;dsimp only at vF;rcases vF with vF|⟨b',bG,rfl,fC,h2⟩
  ·omega
  have JX:=(h2 j _ (tx.gM J2)).c0;have xz:∀dd os,(grow (redrawn wr dd) os).cell? ⟨b',bG+j*5,none⟩=some (vI (tx.ax t.ag j).b):=fun dd os=>((ay KD.out.1 (below_regrown wr dd os)).cell (p:=⟨b',bG+j*5,none⟩) fC).trans (JX)
  have bC:=FA.out.1 2 _ rfl;have x2:∀dd os,(grow (redrawn wr dd) os).cell? ⟨w.1.size,2,none⟩=some (.slice a1 k.f.length c1):=fun dd os=>((ay KD.out.1 (below_regrown wr dd os)).cell (p:=⟨w.1.size,2,none⟩) FA.out.2.2).trans (bC)
  have x9:∀dd os,(grow (redrawn wr dd) os).cell? ⟨s9,5,none⟩=some (.slice (some ⟨b',bG,none⟩) t.ag.length t3):=fun dd os=>(FT.out.later (ay KD.out.2.1 (below_regrown wr dd os))).1 5 _ rfl
  have jz:(j:Int)<(t.ag.length:Int):=by omega
  clear JX h2 bC;by_cases hz:(tx.ax t.ag j).b<(k.f.length:Int)
  case neg=>
   have dz:decide ((k.f.length:Int)<=(tx.ax t.ag j).b)=true:=by simp<;>omega
   have qO:Hid (aD k=false):=Lr.out (by rw[ab.out,nM,ig (f:=fun j=>decide ((tx.ax t.ag j).b<(k.f.length:Int))) J2 (by simpa using hz)]);go_wp2_with fail;refine wp_region_quiet_below (by kernel_rfl) (by kernel_rfl) ?_;repeat (go_big_quiet_step (fail))
   refine wpQuiet_nil ?_;intro _ dD;obtain⟨⟨dq,bI⟩,aT⟩:=dD;subst aT;have bq:=below_regrown wr dq bI;go_wp2;go_ret;exact⟨by rw[qO.out];rfl,BF.out _ (ay KD.out.1 bq)⟩
  have dz:decide ((k.f.length:Int)<=(tx.ax t.ag j).b)=false:=by simp<;>omega
  have PI:Hid ((List.range (j+1)).all (fun j=>decide ((tx.ax t.ag j).b<(k.f.length:Int)))=true):=jL (f:=fun j=>decide ((tx.ax t.ag j).b<(k.f.length:Int))) KD.out.2.2 (by simpa using hz);go_wp2_with fail;refine wp_region_quiet_below (by kernel_rfl) (by kernel_rfl) ?_;repeat (go_big_quiet_step (fail))
  refine wpQuiet_nil ?_;intro _ dD;obtain⟨⟨dq,bI⟩,aT⟩:=dD;subst aT;have bq:=below_regrown wr dq bI;go_wp2;exact⟨⟨j+1,by omega,by simp,ay KD.out.2.1 bq,PI.out⟩,by simp[intOf];omega⟩
 obtain rfl:j=t.ag.length:=by omega
 have QN:decide ((t.ag.length:Int)<(t.ag.length:Int))=false:=by simp
 have hh:=Vi.out (by rw[ab.out,nM];exact KD.out.2.2);go_wp2;exact⟨⟨i+1,by omega,by simp,KD.out.1,hh⟩,by simp[intOf];omega⟩
theorem Db(w:World)(x:Int):Calls Tryz.prog 169 #[vI x] w fun e w'=>e=.returned (.bool false)/\w'=w:=by
 have h:(x != x)=false:=by simp
 go_enter Tryz.func169,Tryz.ntmps169;go_wp2;go_ret;exact⟨rfl,rfl⟩
def sS(x y:Int):Int:=if x<y then -1 else if y<x then 1 else 0
theorem Eb(w:World)(x y:Int):Calls Tryz.prog 141 #[vI x,vI y] w fun e w'=>e=.returned (vI (sS x y))/\w'=w:=by
 by_cases h1:x<y
 ·have e:sS x y=-1:=if_pos h1;rw[e];go_enter Tryz.func141,Tryz.ntmps141;go_wp2_with (go_at_call 169;refine(Db _ _).mono ?_;rintro e w' ⟨rfl,rfl⟩);go_ret;exact⟨rfl,rfl⟩
 ·have d1:decide (x<y)=false:=by simp;omega
  by_cases h2:y<x
  ·have e:sS x y=1:=by rw[sS,if_neg h1,if_pos h2]
   have d2:decide (y<x)=true:=by simp[h2]
   rw[e];clear h1;go_enter Tryz.func141,Tryz.ntmps141;go_wp2_with (go_at_call 169;refine(Db _ _).mono ?_;rintro e w' ⟨rfl,rfl⟩);go_ret;exact⟨rfl,rfl⟩
  ·have e:sS x y=0:=by rw[sS,if_neg h1,if_neg h2]
   have d2:decide (y<x)=false:=by simp;omega
   rw[e];clear h1 h2;go_enter Tryz.func141,Tryz.ntmps141;go_wp2_with (go_at_call 169;refine(Db _ _).mono ?_;rintro e w' ⟨rfl,rfl⟩);go_ret;exact⟨rfl,rfl⟩
section
variable {ts:List tx.T7}
theorem D6(w:World)(t0:Option Addr)(t1:Nat)(t2:Option Addr)(t3:Nat)(t:tx.T7)(y:Int):Calls Tryz.prog 140 #[.agg #[vI t.id,vI t.o,vI t.q,vI t.v,.slice t0 t.a.length t1,.slice t2 t.ag.length t3,vI t.aA],vI y] w fun e w'=>e=.returned (vI (sS t.id y))/\Below w.1.size w w':=by
 have b0:Below w.1.size w (w.alloc (.cells #[vI t.id,vI t.o,vI t.q,vI t.v,.slice t0 t.a.length t1,.slice t2 t.ag.length t3,vI t.aA] 50)):=aJ.alloc aR _;go_enter Tryz.func140,Tryz.ntmps140;go_wp2_with (go_at_call 141;refine(Eb _ _ _).mono ?_;rintro e w' ⟨rfl,rfl⟩);go_ret;exact⟨rfl,b0⟩
def O5(ts:List tx.T7):Prop:=∀i j,i<j->j<ts.length->(aM ts i).id<(aM ts j).id
theorem O5.TK(h:(List.range ts.length).all (F5 ts)=true):O5 ts:=by
 intro i j Eu hj
 induction j with
 | zero=>omega
 | succ j ih=>
  have h2:=List.all_eq_true.1 h (j+1) (List.mem_range.2 hj);simp[F5]at h2;by_cases e:i=j
  ·rw[e];exact h2
  ·have:=ih (by omega) (by omega);omega
structure LY(ts:List tx.T7)(y:Int)(i:Nat):Prop where
 le:i<=ts.length
 lo:∀t,t<i->(aM ts t).id<y
 hi:∀t,i<=t->t<ts.length->y<=(aM ts t).id
def kN(ts:List tx.T7)(y:Int)(i:Nat):Bool:=decide (i<ts.length)&&decide ((aM ts i).id=y)
theorem Cx(w:World)(a:Option Addr)(cap:Nat)(ts:List tx.T7)(y:Int)(hn:ts.length<=1000)(hu:O5 ts)(hs:fQ.qM w a ts):
  Calls Tryz.prog 142 #[.slice a ts.length cap,vI y,.func (.func 140) #[] #[]] w fun e w'=>∃i:Nat,e=.returned (.tuple #[vI i,.bool (kN ts y i)])/\LY ts y i/\Below w.1.size w w':=by
 have HU:Hid (O5 ts):=hu;clear hu;go_enter Tryz.func142,Tryz.ntmps142;go_wp2;go_loopw[9,10] (fun v9 v10 wr=>∃i j:Nat,i<=j/\j<=ts.length/\v9=vI i/\v10=vI j/\Below w.1.size w wr/\(∀t,t<i->(aM ts t).id<y)/\(∀t,j<=t->t<ts.length->y<=(aM ts t).id)) (fun v9 v10 _=>(intOf v10).toNat-(intOf v9).toNat)
 case atStart=>exact⟨0,ts.length,Nat.zero_le _,Nat.le_refl _,rfl,rfl,aJ,fun t h=>by omega,fun t h1 h2=>by omega⟩
 case round=>
  obtain⟨i,j,Eu,SK,rfl,rfl,aF,Ew,SH⟩:=hrel;by_cases aN:i<j
  ·have hd:(i+j)/2<ts.length:=by omega
   rcases hs with hs|⟨b,off,rfl,hb,h1⟩
   ·rw[hs]at hd;simp at hd
   obtain⟨⟨t0,t1,t2,t3⟩,bg,fM⟩:=h1 ((i+j)/2) _ (fV hd);have e0:wr.cell? ⟨b,off+((i+j)/2)*7,none⟩=some (vI (aM ts ((i+j)/2)).id):=(aF.cell (p:=⟨b,off+((i+j)/2)*7,none⟩) hb).trans (bg 0 _ rfl);have e1:wr.cell? ⟨b,off+((i+j)/2)*7+1,none⟩=some (vI (aM ts ((i+j)/2)).o):=(aF.cell (p:=⟨b,off+((i+j)/2)*7+1,none⟩) hb).trans (bg 1 _ rfl);have e2:wr.cell? ⟨b,off+((i+j)/2)*7+2,none⟩=some (vI (aM ts ((i+j)/2)).q):=(aF.cell (p:=⟨b,off+((i+j)/2)*7+2,none⟩) hb).trans (bg 2 _ rfl);have e3:wr.cell? ⟨b,off+((i+j)/2)*7+3,none⟩=some (vI (aM ts ((i+j)/2)).v):=(aF.cell (p:=⟨b,off+((i+j)/2)*7+3,none⟩) hb).trans (bg 3 _ rfl);have e4:wr.cell? ⟨b,off+((i+j)/2)*7+4,none⟩=some (.slice t0 (aM ts ((i+j)/2)).a.length t1):=(aF.cell (p:=⟨b,off+((i+j)/2)*7+4,none⟩) hb).trans (bg 4 _ rfl);have e5:wr.cell? ⟨b,off+((i+j)/2)*7+5,none⟩=some (.slice t2 (aM ts ((i+j)/2)).ag.length t3):=(aF.cell (p:=⟨b,off+((i+j)/2)*7+5,none⟩) hb).trans (bg 5 _ rfl);have e6:wr.cell? ⟨b,off+((i+j)/2)*7+6,none⟩=some (vI (aM ts ((i+j)/2)).aA):=(aF.cell (p:=⟨b,off+((i+j)/2)*7+6,none⟩) hb).trans (bg 6 _ rfl);have K:Hid (Below w.1.size w wr/\(∀t,t<i->(aM ts t).id<y)/\(∀t,j<=t->t<ts.length->y<=(aM ts t).id)):=⟨aF,Ew,SH⟩
   have hc:=D6 wr t0 t1 t2 t3 (aM ts ((i+j)/2)) y;clear h1 bg fM aF Ew SH
   have HI:Hid (∀t,t<=(i+j)/2->(aM ts t).id<=(aM ts ((i+j)/2)).id):=fun t ht=>by
    by_cases e:t=(i+j)/2
    ·rw[e];exact Int.le_refl _
    ·exact Int.le_of_lt (HU.out t _ (by omega) hd)
   have HJ:Hid (∀t,(i+j)/2<=t->t<ts.length->(aM ts ((i+j)/2)).id<=(aM ts t).id):=fun t ht wS=>by
    by_cases e:t=(i+j)/2
    ·rw[e];exact Int.le_refl _
    ·exact Int.le_of_lt (HU.out _ t (by omega) wS)
   generalize (aM ts ((i+j)/2)).id=x at *;by_cases hq:x<y
   ·rw[show sS x y=-1 from if_pos hq]at hc;have HQ:=aB hq;clear hq;go_wp2_with fail;refine hc.mono ?_;clear hc e0 e1 e2 e3 e4 e5 e6;rintro e w1 ⟨rfl,b1⟩;go_wp2;exact⟨⟨(i+j)/2+1,j,by omega,SK,by simp,rfl,K.out.1.trans (b1.mono K.out.1.size),fun t ht=>by have:=HI.out t (by omega);have:=HQ.out;omega,K.out.2.2⟩,by simp[intOf];omega⟩
   ·have VK:decide (sS x y<0)=false:=by
     rw[sS,if_neg hq];by_cases h2:y<x
     ·rw[if_pos h2];rfl
     ·rw[if_neg h2];rfl
    have HQ:=aB hq;clear hq;generalize sS x y=cv at *;go_wp2_with fail;refine hc.mono ?_;clear hc e0 e1 e2 e3 e4 e5 e6;rintro e w1 ⟨rfl,b1⟩;go_wp2;exact⟨⟨i,(i+j)/2,by omega,by omega,rfl,by simp,K.out.1.trans (b1.mono K.out.1.size),K.out.2.1,fun t ht wS=>by have:=HJ.out t ht wS;have:=HQ.out;omega⟩,by simp[intOf];omega⟩
  ·obtain rfl:i=j:=by omega
   have hd:decide ((i:Int)<(i:Int))=false:=by simp
   have HP:Hid (LY ts y i):=⟨SK,Ew,SH⟩
   clear Ew SH;by_cases JZ:i<ts.length
   ·rcases hs with hs|⟨b,off,rfl,hb,h1⟩
    ·rw[hs]at JZ;simp at JZ
    obtain⟨⟨t0,t1,t2,t3⟩,bg,fM⟩:=h1 i _ (fV JZ);have e0:wr.cell? ⟨b,off+i*7,none⟩=some (vI (aM ts i).id):=(aF.cell (p:=⟨b,off+i*7,none⟩) hb).trans (bg 0 _ rfl);have e1:wr.cell? ⟨b,off+i*7+1,none⟩=some (vI (aM ts i).o):=(aF.cell (p:=⟨b,off+i*7+1,none⟩) hb).trans (bg 1 _ rfl);have e2:wr.cell? ⟨b,off+i*7+2,none⟩=some (vI (aM ts i).q):=(aF.cell (p:=⟨b,off+i*7+2,none⟩) hb).trans (bg 2 _ rfl);have e3:wr.cell? ⟨b,off+i*7+3,none⟩=some (vI (aM ts i).v):=(aF.cell (p:=⟨b,off+i*7+3,none⟩) hb).trans (bg 3 _ rfl);have e4:wr.cell? ⟨b,off+i*7+4,none⟩=some (.slice t0 (aM ts i).a.length t1):=(aF.cell (p:=⟨b,off+i*7+4,none⟩) hb).trans (bg 4 _ rfl);have e5:wr.cell? ⟨b,off+i*7+5,none⟩=some (.slice t2 (aM ts i).ag.length t3):=(aF.cell (p:=⟨b,off+i*7+5,none⟩) hb).trans (bg 5 _ rfl);have e6:wr.cell? ⟨b,off+i*7+6,none⟩=some (vI (aM ts i).aA):=(aF.cell (p:=⟨b,off+i*7+6,none⟩) hb).trans (bg 6 _ rfl);have hc:=D6 wr t0 t1 t2 t3 (aM ts i) y;have HF:Hid (kN ts y i=decide ((aM ts i).id=y)/\Below w.1.size w wr):=⟨by simp[kN,JZ],aF⟩
    clear h1 bg fM aF;generalize (aM ts i).id=x at *
    have he:(sS x y==0)=decide (x=y):=by
     unfold sS;by_cases h1:x<y
     ·rw[if_pos h1];simp;omega
     ·rw[if_neg h1];by_cases h2:y<x
      ·rw[if_pos h2];simp;omega
      ·rw[if_neg h2];simp;omega
    generalize sS x y=cv at *;go_wp2_with fail;refine hc.mono ?_;clear hc e0 e1 e2 e3 e4 e5 e6;rintro e w1 ⟨rfl,b1⟩;have HE:=aB he;clear he;go_wp2;refine bodyPost_ret (v:=.tuple #[vI i,.bool (cv==0)]) (by simp[results,Tryz.results142,go_sem]) rfl ⟨i,by rw[HF.out.1,<-HE.out],HP.out,HF.out.2.trans (b1.mono HF.out.2.size)⟩
   ·have CR:decide ((i:Int)<(ts.length:Int))=false:=by simp;omega
    have HF:Hid (kN ts y i=false):=by unfold Hid;simp[kN,JZ]
    clear hs;go_wp2;refine bodyPost_ret (v:=.tuple #[vI i,.bool false]) (by simp[results,Tryz.results142,go_sem]) rfl ⟨i,by rw[HF.out],HP.out,aF⟩
theorem Gj{i:Nat}(h:i<ts.length):aM ts i=ts[i]:=by simp[aM,List.getElem?_eq_getElem h]
theorem CE{k:C6}(h:aD k=true):O5 k.c/\(∀i,i<k.c.length->tx.jI (aM k.c i)=true)/\k.c.length<=60:=by
 simp only[aD,Bool.and_eq_true,decide_eq_true_eq]at h;have h2:=h.2;rw[JA,Bool.and_eq_true]at h2;refine⟨O5.TK h2.1,fun i hi=>?_,h.1.1.1.2⟩;have:=List.all_eq_true.1 h2.2 i (List.mem_range.2 hi);simp only[mG,Bool.and_eq_true]at this;exact this.1.1.1.1
theorem Od{t:tx.T7}(h:tx.jI t=true):t.a.length<=1048576/\t.ag.length<=1048576:=by
 simp only[tx.jI,Bool.and_eq_true,decide_eq_true_eq]at h;exact⟨by omega,by omega⟩
theorem GK(w:World)(a1:Option Addr)(c1:Nat)(a2:Option Addr)(c2:Nat)(a3:Option Addr)(c3:Nat)(k:C6)(y:Int)(hl:bK.L k)(h:bK.Rd w a1 c1 a2 c2 a3 c3 k):Calls Tryz.prog 41 #[.agg #[vI k.u,vI k.l,.slice a1 k.f.length c1,.slice a2 k.aa.length c2,.slice a3 k.c.length c3,.bool k.w],vI y] w fun e w'=>(∃i:Int,e=.returned (vI i)/\eH (fun j=>decide ((aM k.c j).id=y)) k.c.length i)/\Below w.1.size w w':=by
 have hn:=hl.t;unfold maxLen at hn;obtain⟨U,hU⟩:∃Y,Y=w.alloc (.cells #[vI k.u,vI k.l,.slice a1 k.f.length c1,.slice a2 k.aa.length c2,.slice a3 k.c.length c3,.bool k.w] 32):=⟨_,rfl⟩
 have b0:Below w.1.size w U:=by rw[hU];exact aJ.alloc aR _
 have p4:U.cell? ⟨w.1.size,4,none⟩=some (.slice a3 k.c.length c3):=by rw[hU];go_simp
 have H:Hid (bK.Rd U a1 c1 a2 c2 a3 c3 k/\Below w.1.size w U):=⟨h.later b0,b0⟩
 clear h b0 hl;go_enter Tryz.func41,Tryz.ntmps41;go_wp2;rw[<-hU];clear hU;go_loop[5] (fun v=>∃j:Nat,j<=k.c.length/\v=vI j/\∀t,t<j->(aM k.c t).id≠y) (fun v=>k.c.length-(intOf v).toNat)
 case atStart=>exact⟨0,Nat.zero_le _,rfl,fun t h=>absurd h (by omega)⟩
 case round=>
  obtain⟨j,hj,rfl,Ew⟩:=hrel;have HL:=aB Ew;clear Ew;by_cases aN:j<k.c.length
  ·rcases H.out.1.t with hk|⟨b,off,rfl,hb,h1⟩
   ·rw[hk]at aN;simp at aN
   obtain⟨v,bg,_⟩:=h1 j _ (fV aN);have k0:U.cell? ⟨b,off+j*7,none⟩=some (vI (aM k.c j).id):=bg 0 _ rfl;have jn:(j:Int)<(k.c.length:Int):=by omega
   clear h1 bg;by_cases he:(aM k.c j).id=y
   ·have q:((aM k.c j).id==y)=true:=by simp[he]
    have HE:=aB he;clear he;go_wp2;go_ret;exact⟨⟨_,rfl,.inr ⟨j,rfl,aN,by simp[HE.out],fun t ht=>by simp[HL.out t ht]⟩⟩,H.out.2⟩
   ·have q:((aM k.c j).id==y)=false:=by simp[he]
    have HE:=aB he;clear he;go_wp2
    exact⟨⟨j+1,by omega,by simp,fun t ht=>by
     by_cases e:t=j
     ·rw[e];exact HE.out
     ·exact HL.out t (by omega)⟩,by simp[intOf];omega⟩
  ·obtain rfl:j=k.c.length:=by omega
   have hd:decide ((k.c.length:Int)<(k.c.length:Int))=false:=by simp
   go_wp2;go_ret;exact⟨⟨_,rfl,.inl ⟨rfl,fun t ht=>by simp[HL.out t ht]⟩⟩,H.out.2⟩
theorem Gq(w:World)(a:Option Addr)(cap:Nat)(ts:List tx.T7)(y:Int)(hn:ts.length<=1000)(hu:O5 ts)(hs:fQ.qM w a ts):
  Calls Tryz.prog 101 #[.slice a ts.length cap,vI y] w fun e w'=>∃i:Nat,e=.returned (.tuple #[vI i,.bool (kN ts y i)])/\LY ts y i/\Below w.1.size w w':=by
 have hc:=Cx w a cap ts y hn hu hs;go_enter Tryz.func101,Tryz.ntmps101;go_wp2_with fail;refine hc.mono ?_;clear hc;rintro e w1 ⟨i,rfl,hp,b1⟩;have K:=aB (And.intro hp b1);clear hp b1;go_wp2;refine bodyPost_ret (v:=.tuple #[vI i,.bool (kN ts y i)]) (by simp[results,Tryz.results101,go_sem]) rfl ?_;exact⟨i,rfl,K.out.1,K.out.2⟩
end
section
variable {i:Nat}{ts:List tx.T7}{y:Int}
def fT(ts:List tx.T7)(y:Int):Nat:=ts.findIdx fun t=>decide (t.id=y)
theorem Bv(hi:i<ts.length)(he:(aM ts i).id=y)(h:∀j,j<i->(aM ts j).id≠y):fT ts y=i:=by
 unfold fT;rw[List.findIdx_eq hi];refine⟨by rw[Gj hi]at he;simpa using he,fun j hj=>?_⟩;have:=h j hj;rw[Gj (by omega)]at this;simpa using this
theorem Bu(h:∀j,j<ts.length->(aM ts j).id≠y):fT ts y=ts.length:=by
 unfold fT;refine List.findIdx_eq_length_of_false (fun t ht=>?_);obtain⟨i,hi,rfl⟩:=List.getElem_of_mem ht;have:=h i hi;rw[Gj hi]at this;simpa using this
theorem L9(hp:LY ts y i)(hf:kN ts y i=true):i<ts.length/\fT ts y=i:=by
 simp only[kN,Bool.and_eq_true,decide_eq_true_eq]at hf;exact⟨hf.1,Bv hf.1 hf.2 (fun j hj=>by have:=hp.lo j hj;omega)⟩
theorem L8(hu:O5 ts)(hp:LY ts y i)(hf:kN ts y i=false):fT ts y=ts.length:=by
 refine Bu (fun j hj e=>?_);by_cases h1:j<i
 ·have:=hp.lo j h1;omega
 ·have hi:i<ts.length:=by omega
  have h2:=hp.hi i aR hi;have h3:(aM ts i).id≠y:=fun e'=>by simp[kN,hi,e']at hf
  by_cases h4:j=i
  ·subst h4;exact h3 e
  ·have:=hu i j (by omega) hj;omega
theorem Gi{i:Int}(h:eH (fun j=>decide ((aM ts j).id=y)) ts.length i):(i=-1/\fT ts y=ts.length)\/∃j:Nat,i=(j:Int)/\j<ts.length/\fT ts y=j:=by
 rcases h with ⟨rfl,h⟩|⟨j,rfl,hj,h1,h2⟩
 ·exact .inl ⟨rfl,Bu (fun j hj=>by simpa using h j hj)⟩
 ·exact .inr ⟨j,rfl,hj,Bv hj (by simpa using h1) (fun t ht=>by simpa using h2 t ht)⟩
end
def zC:C6:=⟨0,0,[],[],[],false⟩
def dF(k:C6)(y:Int):tx.T7:=aM k.c (fT k.c y)
def Ez(k:C6)(y:Int):Bool:=(aS k.aa (dF k y).o.toNat).x
def fU(k:C6)(y:Int):Int:=if aD k=true then(if fT k.c y<k.c.length then(if Ez k y=true then 0 else 3)else 2)else 1
def gJ(k:C6)(y:Int):Int:=if fU k y=0 then(if (dF k y).q=1 then 0 else 4)else fU k y
def jY(k:C6):C6:=if aD k=true then k else zC
theorem Ea{k:C6}(h:aD k=true){i:Nat}(hi:i<k.c.length):0<=(aM k.c i).o/\(aM k.c i).o<(k.aa.length:Int):=by
 have h1:=(CE h).2.1 i hi;simp only[aD,qB,Bool.and_eq_true]at h;have:=List.all_eq_true.1 h.2 i (List.mem_range.2 hi);simp only[mr,Bool.and_eq_true,decide_eq_true_eq]at this;simp only[tx.jI,tx.mf,Bool.and_eq_true]at h1;have h3:=h1.1.1.1.1.1.1.1.2;rw[dm]at h3;omega
def lF(X:World)(k:C6)(n:Int)(e:Ending)(w':World):Prop:=∃(a1:Option Addr) (c1:Nat) (a2:Option Addr) (c2:Nat) (a3:Option Addr) (c3:Nat) (P:Nat->Prop),e=.panicked [{ v:=.iface 129 (.agg #[.iface 65 (vI n),vI k.u,vI k.l,.slice a1 k.f.length c1,.slice a2 k.aa.length c2,.slice a3 k.c.length c3,.bool k.w]),recovered:=false }]/\bK.Ow w' X.1.size a1 c1 a2 c2 a3 c3 k P/\Below X.1.size X w'
theorem Rz(w:World)(B:Nat):bK.Ow w B none 0 none 0 none 0 zC (fun _=>False):=
 ⟨⟨fun _=>False,fun _=>False,fun _=>False,⟨⟨fun _=>0,.inl ⟨rfl,rfl,rfl⟩,fun b e=>(by cases e),fun i hi=>(by simp[zC]at hi)⟩,fun q h=>h.elim⟩,⟨.inl rfl,fun q h=>h.elim⟩,⟨.inl rfl,fun q h=>h.elim⟩,fun q h=>h.elim,fun q h=>h.elim,fun q h=>h.elim,fun q h=>h.elim,fun q h=>h.elim,fun q h=>h.elim⟩,fun q h=>h.elim⟩
theorem A7(w:World)(a1:Option Addr)(c1:Nat)(a2:Option Addr)(c2:Nat)(a3:Option Addr)(c3:Nat)(k:C6)(hl:bK.L k)(h:bK.Rd w a1 c1 a2 c2 a3 c3 k)(hk:aD k=true):Calls Tryz.prog 100 #[.agg #[vI k.u,vI k.l,.slice a1 k.f.length c1,.slice a2 k.aa.length c2,.slice a3 k.c.length c3,.bool k.w]] w fun e w'=>e=.returned (.tuple #[])/\Below w.1.size w w':=by
 obtain⟨W,hW⟩:∃Y,Y=w.alloc (.cells #[vI k.u,vI k.l,.slice a1 k.f.length c1,.slice a2 k.aa.length c2,.slice a3 k.c.length c3,.bool k.w] 32):=⟨_,rfl⟩
 have bW:Below w.1.size w W:=by rw[hW];exact aJ.alloc aR _
 have hc:=jO W a1 c1 a2 c2 a3 c3 k hl (h.later bW);rw[hk]at hc;have BW:Hid (Below w.1.size w W):=bW;clear bW h hl;go_enter Tryz.func100,Tryz.ntmps100;go_wp2_with fail;rw[<-hW];clear hW;refine hc.mono ?_;clear hc;rintro e w1 ⟨rfl,b1⟩;have B1:Hid (Below w.1.size w w1):=ay BW.out b1;clear b1;go_wp2;refine bodyPost_end (v:=.tuple #[]) (by simp[results,Tryz.results100]) rfl ?_;exact⟨rfl,B1.out⟩
theorem Dc(w:World)(a1:Option Addr)(c1:Nat)(a2:Option Addr)(c2:Nat)(a3:Option Addr)(c3:Nat)(k:C6)(hl:bK.L k)(h:bK.Rd w a1 c1 a2 c2 a3 c3 k)(hk:aD k=false):Calls Tryz.prog 100 #[.agg #[vI k.u,vI k.l,.slice a1 k.f.length c1,.slice a2 k.aa.length c2,.slice a3 k.c.length c3,.bool k.w]] w (lF w zC 1):=by
 obtain⟨W,hW⟩:∃Y,Y=w.alloc (.cells #[vI k.u,vI k.l,.slice a1 k.f.length c1,.slice a2 k.aa.length c2,.slice a3 k.c.length c3,.bool k.w] 32):=⟨_,rfl⟩
 have bW:Below w.1.size w W:=by rw[hW];exact aJ.alloc aR _
 have hc:=jO W a1 c1 a2 c2 a3 c3 k hl (h.later bW);rw[hk]at hc;have BW:Hid (Below w.1.size w W):=bW;clear bW h hl;go_enter Tryz.func100,Tryz.ntmps100;go_wp2_with fail;rw[<-hW];clear hW;refine hc.mono ?_;clear hc;rintro e w1 ⟨rfl,b1⟩;have B1:Hid (Below w.1.size w w1):=ay BW.out b1;clear b1;go_wp2_with fail;refine(oF w1 1 (vI 0) (vI 0) (.slice none 0 0) (.slice none 0 0) (.slice none 0 0) (.bool false)).mono ?_;rintro e w2 ⟨rfl,rfl⟩;go_wp2;exact⟨rfl,none,0,none,0,none,0,fun _=>False,rfl,Rz _ _,B1.out.alloc B1.out.size _⟩
theorem iW(w:World)(d:Nat)(a1:Option Addr)(c1:Nat)(a2:Option Addr)(c2:Nat)(a3:Option Addr)(c3:Nat)(k:C6)(cs:List Value)(n:Int)(hk:aD k=true)(h:bK.Rd w a1 c1 a2 c2 a3 c3 k)(hd:Bx w d ((dJ a1 c1 a2 c2 a3 c3 k)++cs)):Calls Tryz.prog 59 #[.pointer (some ⟨d,0,none⟩),vI n] w (lF w k n):=by
 have p0:=hd.1 0 _ rfl;have p1:=hd.1 1 _ rfl;have p2:=hd.1 2 _ rfl;have p3:=hd.1 3 _ rfl;have p4:=hd.1 4 _ rfl;have p5:=hd.1 5 _ rfl;have hc:=lT w a1 c1 a2 c2 a3 c3 k hk h;clear hd h;go_enter Tryz.func59,Tryz.ntmps59;go_wp2_with fail;refine hc.mono ?_;clear hc;rintro e w1 ⟨b1,d1,b2,d2,b3,d3,ps,gp,ms,gm,ts,gt,rfl,hr,e1,e2,e3,bl⟩;have K:Hid (bK.Ow w1 w.1.size b1 d1 b2 d2 b3 d3 k (fun q=>Kd.jU (.slice b1 k.f.length d1) ps gp q\/Kd.jU (.slice b2 k.aa.length d2) ms gm q\/Kd.jU (.slice b3 k.c.length d3) ts gt q)/\Below w.1.size w w1):=⟨(hr.ow e1 e2 e3).low (by omega),bl⟩
 clear hr e1 e2 e3 bl p0 p1 p2 p3 p4 p5;go_wp2_with fail;refine(oF w1 n _ _ _ _ _ _).mono ?_;rintro e w2 ⟨rfl,rfl⟩;go_wp2;have bA:Below w1.1.size w1 (w1.alloc (.cells #[vI k.u,vI k.l,.slice b1 k.f.length d1,.slice b2 k.aa.length d2,.slice b3 k.c.length d3,.bool k.w] 32)):=aJ.alloc aR _;exact⟨rfl,b1,d1,b2,d2,b3,d3,_,rfl,K.out.1.later bA,ay K.out.2 bA⟩
def qW(w:World)(a1:Option Addr)(c1:Nat)(a2:Option Addr)(c2:Nat)(a3:Option Addr)(c3:Nat)(k:C6)(y:Int)(n:Int)(e:Ending)(w':World):Prop:=
 (n≠0/\lF w (jY k) n e w')\/(n=0/\∃(d:Nat) (u0:Option Addr) (u1:Nat) (u2:Option Addr) (u3:Nat) (P:Nat->Prop),e=.returned (.pointer (some ⟨d,0,none⟩))/\Bx w' d [vI k.u,vI k.l,.slice a1 k.f.length c1,.slice a2 k.aa.length c2,.slice a3 k.c.length c3,.bool k.w,vI (fT k.c y),vI (dF k y).id,vI (dF k y).o,vI (dF k y).q,vI (dF k y).v,.slice u0 (dF k y).a.length u1,.slice u2 (dF k y).ag.length u3,vI (dF k y).aA]/\KT.Ow w' w.1.size u0 u1 u2 u3 (dF k y) P/\(∀q,P q->q≠d)/\w.1.size<=d/\Below w.1.size w w')
theorem lF.low{w X w':World}{k:C6}{n:Int}{e:Ending}(h:lF X k n e w')(b:Below w.1.size w X):lF w k n e w':=by
 obtain⟨a1,c1,a2,c2,a3,c3,P,h1,h2,h3⟩:=h;exact⟨a1,c1,a2,c2,a3,c3,P,h1,h2.low b.size,ay b h3⟩
theorem Gn(w:World)(a1:Option Addr)(c1:Nat)(a2:Option Addr)(c2:Nat)(a3:Option Addr)(c3:Nat)(k:C6)(y:Int)(hl:bK.L k)(h:bK.Rd w a1 c1 a2 c2 a3 c3 k):
  Calls Tryz.prog 58 #[.agg #[vI k.u,vI k.l,.slice a1 k.f.length c1,.slice a2 k.aa.length c2,.slice a3 k.c.length c3,.bool k.w],vI y] w (qW w a1 c1 a2 c2 a3 c3 k y (fU k y)):=by
 obtain⟨W0,eB⟩:∃Y,Y=w.alloc (.cells #[vI k.u,vI k.l,.slice a1 k.f.length c1,.slice a2 k.aa.length c2,.slice a3 k.c.length c3,.bool k.w] 32):=⟨_,rfl⟩
 have b0:Below w.1.size w W0:=by rw[eB];exact aJ.alloc aR _
 have x0:Bx W0 w.1.size (dJ a1 c1 a2 c2 a3 c3 k):=by rw[eB];exact Bx.made w (dJ a1 c1 a2 c2 a3 c3 k) _
 have h0:=h.later b0
 cases hk:aD k with
 | false=>
  have hc:=Dc W0 a1 c1 a2 c2 a3 c3 k hl h0 hk;have ng:fU k y=1:=by simp[fU,hk]
  have mg:jY k=zC:=by simp[jY,hk]
  have B0:Hid (Below w.1.size w W0):=b0;have HX:Hid (∀e w',lF W0 zC 1 e w'->qW w a1 c1 a2 c2 a3 c3 k y (fU k y) e w'):=fun e w' h=>.inl ⟨by rw[ng];decide,by rw[ng,mg];exact h.low B0.out⟩
  clear b0 x0 h0 h hl ng mg;go_enter Tryz.func58,Tryz.ntmps58;go_wp2_with fail;rw[<-eB];clear eB;refine hc.mono ?_;clear hc;intro e w1 hr;have yg:=hr;obtain⟨b1,d1,b2,d2,b3,d3,P,rfl,-,-⟩:=hr;have HR:=aB yg;clear yg;go_wp2;exact⟨rfl,HX.out _ _ HR.out⟩
 | true=>
  have hc:=A7 W0 a1 c1 a2 c2 a3 c3 k hl h0 hk;obtain⟨M9,eJ,VX⟩:=CE hk;have mg:jY k=k:=by simp[jY,hk]
  have H:Hid (Below w.1.size w W0/\Bx W0 w.1.size (dJ a1 c1 a2 c2 a3 c3 k)/\bK.Rd w a1 c1 a2 c2 a3 c3 k/\O5 k.c/\(∀i,i<k.c.length->tx.jI (aM k.c i)=true)/\k.c.length<=60/\aD k=true/\jY k=k):=⟨b0,x0,h,M9,eJ,VX,hk,mg⟩
  clear b0 x0 h0 h hl M9 eJ VX mg;go_enter Tryz.func58,Tryz.ntmps58;go_wp2_with fail;rw[<-eB];clear eB;refine hc.mono ?_;clear hc;rintro e w1 ⟨rfl,b1⟩;have B1:Hid (Below w.1.size w w1/\Bx w1 w.1.size (dJ a1 c1 a2 c2 a3 c3 k)/\bK.Rd w1 a1 c1 a2 c2 a3 c3 k):=⟨ay H.out.1 b1,H.out.2.1.later b1,H.out.2.2.1.later (ay H.out.1 b1)⟩
  clear b1;have p4:=B1.out.2.1.1 4 _ rfl;have hf:=Gq w1 a3 c3 k.c y (by have:=H.out.2.2.2.2.2.1;omega) H.out.2.2.2.1 B1.out.2.2.t;go_wp2_with fail;refine hf.mono ?_;clear hf;rintro e w2 ⟨i,rfl,rF,b2⟩;have B2:Hid (Below w.1.size w w2/\Bx w2 w.1.size (dJ a1 c1 a2 c2 a3 c3 k)/\bK.Rd w2 a1 c1 a2 c2 a3 c3 k):=⟨ay B1.out.1 b2,B1.out.2.1.later b2,B1.out.2.2.later b2⟩
  clear b2 p4 B1
  cases Py:kN k.c y i with
  | false=>
   have bg:=L8 H.out.2.2.2.1 rF Py;have ng:fU k y=2:=by simp[fU,hk,bg]
   have HX:Hid (∀e w',lF w k 2 e w'->qW w a1 c1 a2 c2 a3 c3 k y (fU k y) e w'):=fun e w' h=>.inl ⟨by rw[ng];decide,by rw[ng,H.out.2.2.2.2.2.2.2];exact h⟩
   have q0:=B2.out.2.1.1 0 _ rfl;have q1:=B2.out.2.1.1 1 _ rfl;have q2:=B2.out.2.1.1 2 _ rfl;have q3:=B2.out.2.1.1 3 _ rfl;have q4:=B2.out.2.1.1 4 _ rfl;have q5:=B2.out.2.1.1 5 _ rfl;have ho:=lT w2 a1 c1 a2 c2 a3 c3 k H.out.2.2.2.2.2.2.1 B2.out.2.2;clear bg ng rF;go_wp2_with fail;refine ho.mono ?_;clear ho;rintro e w3 ⟨b1,d1,b2,d2,b3,d3,ps,gp,ms,gm,ts,gt,rfl,hr,e1,e2,e3,bl⟩;have KO:Hid (bK.Ow w3 w.1.size b1 d1 b2 d2 b3 d3 k (fun q=>Kd.jU (.slice b1 k.f.length d1) ps gp q\/Kd.jU (.slice b2 k.aa.length d2) ms gm q\/Kd.jU (.slice b3 k.c.length d3) ts gt q)/\Below w.1.size w w3):=⟨(hr.ow e1 e2 e3).low (by have:=B2.out.1.size;omega),ay B2.out.1 bl⟩
   clear hr e1 e2 e3 bl q0 q1 q2 q3 q4 q5;go_wp2_with fail;refine(oF w3 2 _ _ _ _ _ _).mono ?_;rintro e w4 ⟨rfl,rfl⟩;go_wp2;have bA:Below w3.1.size w3 (w3.alloc (.cells #[vI k.u,vI k.l,.slice b1 k.f.length d1,.slice b2 k.aa.length d2,.slice b3 k.c.length d3,.bool k.w] 32)):=aJ.alloc aR _;exact⟨rfl,HX.out _ _ ⟨b1,d1,b2,d2,b3,d3,_,rfl,KO.out.1.later bA,ay KO.out.2 bA⟩⟩
  | true=>
   obtain⟨hi,bg⟩:=L9 rF Py;have S9:=Od (H.out.2.2.2.2.1 i hi);have VP:=Ea H.out.2.2.2.2.2.2.1 hi;have Zh:=(Ot.of H.out.2.2.2.2.2.2.1).m;obtain⟨hm,SI⟩:∃m:Nat,(aM k.c i).o=(m:Int):=⟨(aM k.c i).o.toNat,by omega⟩
   have ng:fU k y=if (aS k.aa hm).x=true then 0 else 3:=by
    simp only[fU,hk,if_true,bg,hi,Ez,dF,SI,Int.toNat_natCast]
   have HC:=aB ng;have HH:=aB SI;have HT:Hid (dF k y=aM k.c i/\fT k.c y=i):=⟨by simp[dF,bg],bg⟩
   rcases B2.out.2.2.t with e0|⟨b,off,rfl,hb,fM⟩
   ·rw[e0]at hi;simp at hi
   obtain⟨⟨t0,t1,t2,t3⟩,kz,Jd⟩:=fM i _ (fV hi);have iM:=tx.vY w2.drew ⟨t0,t1,t2,t3⟩ (aM k.c i) S9.1 S9.2 (tx.lW.later Jd aJ.drew);simp only[tx.TV.val]at iM;have jn:(i:Int)<(k.c.length:Int):=by omega
   have dW:(fun X:World=>Bx X w.1.size (dJ a1 c1 a2 c2 (some ⟨b,off,none⟩) c3 k)/\At X b (off+i*7) (tx.iC t0 t1 t2 t3 (aM k.c i))) w2.drew:=⟨B2.out.2.1.later aJ.drew,kz.aj rfl⟩
   have HB:Hid (b<w2.drew.1.size/\Below w.1.size w w2.drew/\bK.Rd w2.drew a1 c1 a2 c2 (some ⟨b,off,none⟩) c3 k/\hm<k.aa.length/\k.aa.length<=8/\i<k.c.length):=⟨hb,B2.out.1.drew,B2.out.2.2.later aJ.drew,by omega,Zh,hi⟩
   clear bg ng rF fM kz Jd S9 VP Zh hb B2 SI;go_wp2_with fail;refine bL 10 (fun X:World=>Bx X w.1.size (dJ a1 c1 a2 c2 (some ⟨b,off,none⟩) c3 k)/\At X b (off+i*7) (tx.iC t0 t1 t2 t3 (aM k.c i))) (by kernel_rfl) ?_;generalize w2.drew=XD at *;refine eQ 0 ?_ rfl ?_ dW ?_;rotate_left
   ·(intro w aG;have q0:=aG.1.1 0 _ rfl;have q1:=aG.1.1 1 _ rfl;have q2:=aG.1.1 2 _ rfl;have q3:=aG.1.1 3 _ rfl;have q4:=aG.1.1 4 _ rfl;have q5:=aG.1.1 5 _ rfl;go_simp;first|done|with_reducible rfl|rfl)
   simp only[Act.put];refine eQ 1 ?_ rfl ?_ dW ?_;rotate_left
   ·(intro w aG;go_simp;first|done|with_reducible rfl)
   simp only[Act.put];refine eQ 2 ?_ rfl ?_ dW ?_;rotate_left
   ·(intro w aG;go_simp;first|done|with_reducible rfl)
   simp only[Act.put];refine eQ 3 ?_ rfl ?_ dW ?_;rotate_left
   ·(intro w aG;have q4:=aG.1.1 4 _ rfl;go_simp;first|done|with_reducible rfl|rfl)
   simp only[Act.put];refine eQ 4 ?_ rfl ?_ dW ?_;rotate_left
   ·(intro w aG;go_simp;first|done|with_reducible rfl)
   simp only[Act.put];refine eQ 5 ?_ rfl ?_ dW ?_;rotate_left
   ·(intro w aG;go_simp;first|done|with_reducible rfl|(rw[if_pos (by omega)]))
   simp only[Act.put];refine eQ 6 ?_ rfl ?_ dW ?_;rotate_left
   ·(intro w aG;have q0:w.cell? ⟨b,off+i*7,none⟩=some (vI (aM k.c i).id):=aG.2 0 _ rfl;have q1:w.cell? ⟨b,off+i*7+1,none⟩=some (vI (aM k.c i).o):=aG.2 1 _ rfl;have q2:w.cell? ⟨b,off+i*7+2,none⟩=some (vI (aM k.c i).q):=aG.2 2 _ rfl;have q3:w.cell? ⟨b,off+i*7+3,none⟩=some (vI (aM k.c i).v):=aG.2 3 _ rfl;have q4:w.cell? ⟨b,off+i*7+4,none⟩=some (.slice t0 (aM k.c i).a.length t1):=aG.2 4 _ rfl;have q5:w.cell? ⟨b,off+i*7+5,none⟩=some (.slice t2 (aM k.c i).ag.length t3):=aG.2 5 _ rfl;have q6:w.cell? ⟨b,off+i*7+6,none⟩=some (vI (aM k.c i).aA):=aG.2 6 _ rfl;go_simp;first|done|with_reducible rfl|rfl)
   simp only[Act.put];refine dX 7 rfl (fun K hK=>?_);go_simp;refine iM.mono ?_;clear iM;rintro e X2 ⟨u0,u1,u2,u3,PR,PS,rfl,ho,b2⟩;simp only[tx.TV.val];obtain⟨hb,bC,Wn,Zg,Zh,oS⟩:=HB.out;have iD:(fun X:World=>Bx X w.1.size (dJ a1 c1 a2 c2 (some ⟨b,off,none⟩) c3 k)/\At X b (off+i*7) (tx.iC t0 t1 t2 t3 (aM k.c i))) X2:=⟨dW.1.later b2,dW.2.aj (b2.block b (by have:=bC.size;have:=dW.1.2.2;have:=b2.size;omega))⟩
   obtain⟨X3,lX⟩:∃X,X=X2.alloc (.cells #[vI k.u,vI k.l,.slice a1 k.f.length c1,.slice a2 k.aa.length c2,.slice (some ⟨b,off,none⟩) k.c.length c3,.bool k.w,vI (i:Int),vI (aM k.c i).id,vI (aM k.c i).o,vI (aM k.c i).q,vI (aM k.c i).v,.slice u0 (aM k.c i).a.length u1,.slice u2 (aM k.c i).ag.length u3,vI (aM k.c i).aA] 118):=⟨_,rfl⟩
   have b3:Below X2.1.size X2 X3:=by rw[lX];exact aJ.alloc aR _
   have x3:Bx X3 X2.1.size [vI k.u,vI k.l,.slice a1 k.f.length c1,.slice a2 k.aa.length c2,.slice (some ⟨b,off,none⟩) k.c.length c3,.bool k.w,vI (i:Int),vI (aM k.c i).id,vI (aM k.c i).o,vI (aM k.c i).q,vI (aM k.c i).v,.slice u0 (aM k.c i).a.length u1,.slice u2 (aM k.c i).ag.length u3,vI (aM k.c i).aA]:=by rw[lX];exact Bx.made X2 [vI k.u,vI k.l,.slice a1 k.f.length c1,.slice a2 k.aa.length c2,.slice (some ⟨b,off,none⟩) k.c.length c3,.bool k.w,vI (i:Int),vI (aM k.c i).id,vI (aM k.c i).o,vI (aM k.c i).q,vI (aM k.c i).v,.slice u0 (aM k.c i).a.length u1,.slice u2 (aM k.c i).ag.length u3,vI (aM k.c i).aA] _
   have jo:(fun X:World=>Bx X w.1.size (dJ a1 c1 a2 c2 (some ⟨b,off,none⟩) c3 k)/\At X b (off+i*7) (tx.iC t0 t1 t2 t3 (aM k.c i))) X3:=⟨iD.1.later b3,iD.2.aj (b3.block b (by have:=iD.1.2.2;have:=hb;have:=bC.size;have:=b2.size;have:=dW.1.2.2;omega))⟩
   have KD:Hid (Bx X3 X2.1.size [vI k.u,vI k.l,.slice a1 k.f.length c1,.slice a2 k.aa.length c2,.slice (some ⟨b,off,none⟩) k.c.length c3,.bool k.w,vI (i:Int),vI (aM k.c i).id,vI (aM k.c i).o,vI (aM k.c i).q,vI (aM k.c i).v,.slice u0 (aM k.c i).a.length u1,.slice u2 (aM k.c i).ag.length u3,vI (aM k.c i).aA]/\KT.Ow X3 w.1.size u0 u1 u2 u3 (aM k.c i) (tx.oW PR PS)/\(∀q,tx.oW PR PS q->q≠X2.1.size)/\w.1.size<=X2.1.size/\Below w.1.size w X3/\bK.Rd X3 a1 c1 a2 c2 (some ⟨b,off,none⟩) c3 k/\Bx X3 w.1.size (dJ a1 c1 a2 c2 (some ⟨b,off,none⟩) c3 k)):=⟨x3,((KT.ow ho).low bC.size).later b3,fun q hq e=>by have:=(KT.ow ho).of hq;omega,Nat.le_trans bC.size b2.size,ay (ay bC b2) b3,(Wn.later b2).later b3,jo.1⟩
   refine hK.out _ _ (fun _=>iD) ?_;clear hK K hb bC Wn b2 b3 x3 ho;refine eQ 8 ?_ rfl ?_ iD ?_;rotate_left
   ·(intro w aG;go_simp;first|done|with_reducible rfl)
   simp only[Act.put];refine dX 9 rfl (fun K hK=>?_);go_simp;rw[<-lX];refine hK.out _ _ (fun _=>jo) ?_;clear hK K iD lX;refine dX 10 rfl (fun K hK=>?_);go_simp;refine hK.out _ _ (fun h=>absurd rfl h) ?_;clear hK K jo dW;refine bS (by kernel_rfl) ?_ _
   have cQ:∀dd os,Calls Tryz.prog 103 #[.agg #[vI k.u,vI k.l,.slice a1 k.f.length c1,.slice a2 k.aa.length c2,.slice (some ⟨b,off,none⟩) k.c.length c3,.bool k.w],vI (aM k.c i).o] (grow (redrawn X3 dd) os) fun e fq=>e=.returned (.bool (aS k.aa hm).x)/\∃p:Regrown,fq=grow (redrawn X3 p.d) p.os:=fun dd os=>by
    have hh:=AJ (grow (redrawn X3 dd) os) a1 c1 a2 c2 (some ⟨b,off,none⟩) c3 k hm Zg (KD.out.2.2.2.2.2.1.later (below_regrown X3 dd os));rw[<-HH.out]at hh;exact Calls.regrown_of hh
   have c0:∀dd os,(grow (redrawn X3 dd) os).cell? ⟨w.1.size,0,none⟩=some (vI k.u):=fun dd os=>(KD.out.2.2.2.2.2.2.later (below_regrown X3 dd os)).1 0 _ rfl
   have c1':∀dd os,(grow (redrawn X3 dd) os).cell? ⟨w.1.size,1,none⟩=some (vI k.l):=fun dd os=>(KD.out.2.2.2.2.2.2.later (below_regrown X3 dd os)).1 1 _ rfl
   have c2':∀dd os,(grow (redrawn X3 dd) os).cell? ⟨w.1.size,2,none⟩=some (.slice a1 k.f.length c1):=fun dd os=>(KD.out.2.2.2.2.2.2.later (below_regrown X3 dd os)).1 2 _ rfl
   have c3':∀dd os,(grow (redrawn X3 dd) os).cell? ⟨w.1.size,3,none⟩=some (.slice a2 k.aa.length c2):=fun dd os=>(KD.out.2.2.2.2.2.2.later (below_regrown X3 dd os)).1 3 _ rfl
   have Me:∀dd os,(grow (redrawn X3 dd) os).cell? ⟨w.1.size,4,none⟩=some (.slice (some ⟨b,off,none⟩) k.c.length c3):=fun dd os=>(KD.out.2.2.2.2.2.2.later (below_regrown X3 dd os)).1 4 _ rfl
   have ia:∀dd os,(grow (redrawn X3 dd) os).cell? ⟨w.1.size,5,none⟩=some (.bool k.w):=fun dd os=>(KD.out.2.2.2.2.2.2.later (below_regrown X3 dd os)).1 5 _ rfl
   have c8:∀dd os,(grow (redrawn X3 dd) os).cell? ⟨X2.1.size,8,none⟩=some (vI (aM k.c i).o):=fun dd os=>(KD.out.1.later (below_regrown X3 dd os)).1 8 _ rfl
   go_wp2_with fail;refine wp_region_quiet_below (by kernel_rfl) (by kernel_rfl) ?_;repeat (go_big_quiet_step (exact cQ _ _))
   refine wpQuiet_nil ?_;intro _ dD;obtain⟨⟨dq,bI⟩,aT⟩:=dD;subst aT;have bq:=below_regrown X3 dq bI
   have K5:Hid (Bx (grow (redrawn X3 dq) bI) X2.1.size [vI k.u,vI k.l,.slice a1 k.f.length c1,.slice a2 k.aa.length c2,.slice (some ⟨b,off,none⟩) k.c.length c3,.bool k.w,vI (i:Int),vI (aM k.c i).id,vI (aM k.c i).o,vI (aM k.c i).q,vI (aM k.c i).v,.slice u0 (aM k.c i).a.length u1,.slice u2 (aM k.c i).ag.length u3,vI (aM k.c i).aA]/\KT.Ow (grow (redrawn X3 dq) bI) w.1.size u0 u1 u2 u3 (aM k.c i) (tx.oW PR PS)/\(∀q,tx.oW PR PS q->q≠X2.1.size)/\w.1.size<=X2.1.size/\Below w.1.size w (grow (redrawn X3 dq) bI)/\bK.Rd (grow (redrawn X3 dq) bI) a1 c1 a2 c2 (some ⟨b,off,none⟩) c3 k):=by
    obtain⟨k1,k2,k3,k4,k5,k6,k7⟩:=KD.out;exact⟨k1.later bq,k2.later bq,k3,k4,ay k5 bq,k6.later bq⟩
   clear bq cQ c0 c1' c2' c3' Me ia c8 KD;generalize grow (redrawn X3 dq) bI=w5 at *
   cases Eo:(aS k.aa hm).x with
   | true=>
    have hz:fU k y=0:=by rw[HC.out,Eo];rfl
    have HZ:=aB hz;clear hz;go_wp2;go_ret;refine .inr ⟨HZ.out,X2.1.size,u0,u1,u2,u3,tx.oW PR PS,rfl,?_⟩;rw[HT.out.1,HT.out.2];exact⟨K5.out.1,K5.out.2.1,K5.out.2.2.1,K5.out.2.2.2.1,K5.out.2.2.2.2.1⟩
   | false=>
    have hz:fU k y=3:=by rw[HC.out,Eo];rfl
    have HX:Hid (∀e w',lF w5 k 3 e w'->qW w a1 c1 a2 c2 (some ⟨b,off,none⟩) c3 k y (fU k y) e w'):=fun e w' h=>.inl ⟨by rw[hz];decide,by rw[hz,H.out.2.2.2.2.2.2.2];exact h.low K5.out.2.2.2.2.1⟩
    have Wo:=iW w5 X2.1.size a1 c1 a2 c2 (some ⟨b,off,none⟩) c3 k [vI (i:Int),vI (aM k.c i).id,vI (aM k.c i).o,vI (aM k.c i).q,vI (aM k.c i).v,.slice u0 (aM k.c i).a.length u1,.slice u2 (aM k.c i).ag.length u3,vI (aM k.c i).aA] 3 H.out.2.2.2.2.2.2.1 K5.out.2.2.2.2.2 K5.out.1;clear hz;go_wp2_with fail;refine Wo.mono ?_;clear Wo;intro e w6 hr;have yg:=hr;obtain⟨b1,d1,b2,d2,b3,d3,P,rfl,-,-⟩:=hr;have HR:=aB yg;clear yg;go_wp2;exact⟨rfl,HX.out _ _ HR.out⟩
namespace tx
theorem kL{t:T7}(h:jI t=true):t.a.length<=12/\t.ag.length<=12:=by
 simp only[jI,Bool.and_eq_true,decide_eq_true_eq]at h;exact⟨h.1.1.1.2,h.1.1.2⟩
open Go.RowKit Go.Maps
variable {W W':World}{b n:Nat}{f:Int->Int->Option Nat}{r s:Int}
def jV(r s:Int):Value:=.agg #[vI r,vI s]
theorem rM:Keyed Tryz.prog 62:=Keyed.of_law (deep_law_laid (m:=5) (by kernel_rfl) (by omega) (of_decide_eq_true (by kernel_rfl)) (by kernel_rfl) (by kernel_rfl))
theorem Nq{i:Nat}(hi:i<=1000000):(Lit.int .i64 (i:Int)).wf=true:=by
 have h1:IntKind.i64.min=-9223372036854775808:=rfl;have h2:IntKind.i64.max=9223372036854775807:=rfl;simp[Lit.wf,h1,h2];omega
theorem six(h:aY 0 5 r=true):r=0\/r=1\/r=2\/r=3\/r=4\/r=5:=by
 rw[dm]at h;omega
theorem xZ(h1:aY 0 5 r=true)(h2:aY 0 5 s=true):∃l,keyOf Tryz.prog 62 (jV r s)=some l:=by
 have:(keyOf Tryz.prog 62 (jV r s)).isSome=true:=by
  rcases six h1 with rfl|rfl|rfl|rfl|rfl|rfl<;>rcases six h2 with rfl|rfl|rfl|rfl|rfl|rfl<;>kernel_rfl
 exact Option.isSome_iff_exists.1 this
theorem Mf{q t:Int}{l:Lit}(h1:keyOf Tryz.prog 62 (jV r s)=some l)(h2:keyOf Tryz.prog 62 (jV q t)=some l):r=q/\s=t:=by
 have:=rM.inj h1 h2;simp[jV]at this;exact this
def j3(W:World)(b n:Nat)(f:Int->Int->Option Nat):Prop:=
 ∃D:DataW Unit,W.ownsMap Tryz.prog 62 (plainElem Tryz.prog 3) b n D/\∀r s l,keyOf Tryz.prog 62 (jV r s)=some l->(f r s=none->has D l=false)/\(∀i,f r s=some i->has D l=true/\∀z,D.atKey l z=.lit (.int .i64 (i:Int)))
theorem j3.lt(h:j3 W b n f):b<W.1.size:=by obtain⟨D,h,_⟩:=h;exact h.lt
theorem j3.aj(h:j3 W b n f)(e:W'.1[b]?=W.1[b]?):j3 W' b n f:=by
 obtain⟨D,⟨es,clock,hb,r⟩,h'⟩:=h;exact⟨D,⟨es,clock,e.trans hb,r⟩,h'⟩
theorem j3.later(h:j3 W b n f)(hb:Below W.1.size W W'):j3 W' b n f:=h.aj (hb.block _ h.lt)
theorem j3.made(W:World):j3 (W.alloc (.map #[] 0)) W.1.size 0 (fun _ _=>none):=
 ⟨.map [],World.ownsMap_made W _ _ _,fun r s l _=>⟨fun _=>rfl,fun i h=>by cases h⟩⟩
theorem Oo(W:World):(zeroValue 3).run Tryz.prog W=.ok (vI 0) W:=by kernel_rfl
theorem j3.look(h:j3 W b n f)(h1:aY 0 5 r=true)(h2:aY 0 5 s=true):
  (Instr.lookup 165 (.map (some b)) (jV r s) true).run Tryz.prog W=.ok (.tuple #[vI (((f r s).getD 0:Nat):Int),.bool (f r s).isSome]) W:=by
 obtain⟨D,hD,hf⟩:=h;obtain⟨l,hl⟩:=xZ h1 h2;obtain⟨v,ps,jN,hv⟩:=hD.look_ok rM Tryz.underlying165 (Oo W) (plainElem_int Tryz.underlying3 (by decide)) hl;obtain⟨g1,g2⟩:=hf r s l hl
 cases e:f r s with
 | none=>
  rw[g1 e]at jN;rw[atKey_of_not_has (g1 e)]at hv;obtain⟨a,rfl,ha,_⟩:=plainElem_int_inv Tryz.underlying3 hv;simp at ha;rw[jN,<-ha.1];rfl
 | some i=>
  rw[(g2 i e).1]at jN;rw[(g2 i e).2]at hv;obtain⟨a,rfl,ha,_⟩:=plainElem_int_inv Tryz.underlying3 hv;simp at ha;rw[jN,<-ha.1];rfl
def Dg(f:Int->Int->Option Nat)(r s:Int)(i:Nat):Int->Int->Option Nat:=fun q t=>if q=r/\t=s then some i else f q t
theorem cu.of_map(h:W.mapTurned W' b):cu b W W':=by
 have hg:=h.grown;exact⟨hg.os,hg.tape,hg.output,hg.size,fun k hk hc=>hg.block k hk (fun e=>hc (Option.some.inj e))⟩
theorem j3.store{W:World}{b n:Nat}{f:Int->Int->Option Nat}(h:j3 W b n f)(hn:n<=1000000){r s:Int}(h1:aY 0 5 r=true)(h2:aY 0 5 s=true)(i:Nat)(hi:i<=1000000):
  ∃W',(Instr.mapUpdate 165 (.map (some b)) (jV r s) (vI (i:Int))).run Tryz.prog W=.ok () W'/\j3 W' b (n+1) (Dg f r s i)/\cu b W W'/\W'.1.size=W.1.size:=by
 obtain⟨D,hD,hf⟩:=h;obtain⟨l,hl⟩:=xZ h1 h2;have Zx:(Lit.int .i64 (i:Int)).wf=true:=Nq hi;obtain⟨W',jN,Vv,ht⟩:=hD.store rM Tryz.underlying165 (by unfold maxLen;omega) hl (plainElem_int Tryz.underlying3 Zx);refine⟨W',jN,⟨_,Vv,fun q t l' VQ=>?_⟩,cu.of_map ht,?_⟩
 ·obtain⟨g1,g2⟩:=hf q t l' VQ;by_cases e:q=r/\t=s
  ·obtain⟨rfl,rfl⟩:=e;rw[hl]at VQ;obtain rfl:=Option.some.inj VQ;refine⟨fun h=>by simp[Dg]at h,fun j hj=>?_⟩;simp[Dg]at hj;subst hj;exact⟨has_put_same hD.isMap (rM.key hl) _,fun z=>atKey_put_same hD.isMap (rM.key hl) _ z⟩
  ·have fF:l'≠l:=fun e'=>e (by rw[e']at VQ;exact Mf VQ hl)
   have ep:Dg f r s i q t=f q t:=by unfold Dg;rw[if_neg e]
   rw[ep];refine⟨fun h=>by rw[has_put_other fF];exact g1 h,fun j hj=>?_⟩;rw[has_put_other fF];exact⟨(g2 j hj).1,fun z=>by rw[atKey_put_other fF];exact(g2 j hj).2 z⟩
 ·obtain⟨es,c,es',c',hb,rfl⟩:=ht;simp[ChangeMaps.setBlock]
def qX(W:World)(b n:Nat):Prop:=∃D:DataW Unit,W.ownsMap Tryz.prog 62 (plainElem Tryz.prog 3) b n D
theorem j3.any(h:j3 W b n f):qX W b n:=by obtain⟨D,h,_⟩:=h;exact⟨D,h⟩
theorem qX.lt(h:qX W b n):b<W.1.size:=by obtain⟨D,h⟩:=h;exact h.lt
theorem qX.aj(h:qX W b n)(e:W'.1[b]?=W.1[b]?):qX W' b n:=by
 obtain⟨D,es,clock,hb,r⟩:=h;exact⟨D,es,clock,e.trans hb,r⟩
theorem qX.store{W:World}{b n:Nat}(h:qX W b n)(hn:n<=1000000){r s:Int}(h1:aY 0 5 r=true)(h2:aY 0 5 s=true)(i:Nat)(hi:i<=1000000):
  ∃W',(Instr.mapUpdate 165 (.map (some b)) (jV r s) (vI (i:Int))).run Tryz.prog W=.ok () W'/\qX W' b (n+1)/\cu b W W'/\W'.1.size=W.1.size:=by
 obtain⟨D,hD⟩:=h;obtain⟨l,hl⟩:=xZ h1 h2;have Zx:(Lit.int .i64 (i:Int)).wf=true:=Nq hi;obtain⟨W',jN,Vv,ht⟩:=hD.store rM Tryz.underlying165 (by unfold maxLen;omega) hl (plainElem_int Tryz.underlying3 Zx);refine⟨W',jN,⟨_,Vv⟩,cu.of_map ht,?_⟩;obtain⟨es,c,es',c',hb,rfl⟩:=ht;simp[ChangeMaps.setBlock]
theorem qX.drop{W:World}{b n:Nat}(h:qX W b n){r s:Int}(h1:aY 0 5 r=true)(h2:aY 0 5 s=true)(ty:TypeId):
  ∃W',(Builtin.delete_ #[165,62] ty #[.map (some b),jV r s]).run Tryz.prog W=.ok (.tuple #[]) W'/\qX W' b n/\cu b W W'/\W'.1.size=W.1.size:=by
 obtain⟨D,hD⟩:=h;obtain⟨l,hl⟩:=xZ h1 h2;obtain⟨W',jN,Vv,ht⟩:=hD.drop rM Tryz.underlying165 hl ty;refine⟨W',jN,⟨_,Vv⟩,cu.of_map ht,?_⟩;obtain⟨es,c,es',c',hb,rfl⟩:=ht;simp[ChangeMaps.setBlock]
end tx
namespace tx
def sD(p q mb:Nat)(x:Nat):Prop:=x=p\/x=q\/x=mb
theorem aH.vV{P:Nat->Prop}{c:Nat}{a b:World}(h:cu c a b)(hc:P c):aH P a b:=⟨h.os,h.tape,h.output,h.size,fun q hq hn=>h.block q hq (fun e=>hn (e▸hc))⟩
variable {V W:World}{mb n p q:Nat}{xs:List N5}
structure kM(W:World)(base p q mb n cap:Nat)(xs:List N5):Prop where
 c0:W.cell? ⟨p,0,none⟩=some (.slice (some ⟨q,0,none⟩) xs.length cap)
 c1:W.cell? ⟨p,1,none⟩=some (.map (some mb))
 fz:∀j,W.frozen? ⟨p,j,none⟩=false
 at_:bR W q 0 xs
 rm:Room W q (xs.length*5)
 cp:xs.length<=cap
 mp:qX W mb n
 ok:∀s∈xs,bn s=true
 pq:p≠q
 pm:p≠mb
 qm:q≠mb
 bp:base<=p
 bq:base<=q
 bm:base<=mb
 lp:p<W.1.size
 lq:q<W.1.size
theorem kM.aQ{base cap:Nat}(h:kM W base p q mb n cap xs)(hs:W.1.size<=V.1.size)(hk:∀x,sD p q mb x->V.1[x]?=W.1[x]?):kM V base p q mb n cap xs:=
 ⟨(World.cell?_of_block (a:=⟨p,0,none⟩) (hk p (.inl rfl))).trans h.c0,(World.cell?_of_block (a:=⟨p,1,none⟩) (hk p (.inl rfl))).trans h.c1,fun j=>(World.frozen?_of_block (a:=⟨p,j,none⟩) (hk p (.inl rfl))).trans (h.fz j),h.at_.aj (hk q (.inr (.inl rfl))),h.rm.aj (hk q (.inr (.inl rfl))),h.cp,h.mp.aj (hk mb (.inr (.inr rfl))),h.ok,h.pq,h.pm,h.qm,h.bp,h.bq,h.bm,Nat.lt_of_lt_of_le h.lp hs,Nat.lt_of_lt_of_le h.lq hs⟩
theorem kM.later{base cap:Nat}(h:kM W base p q mb n cap xs)(hb:Below W.1.size W V):kM V base p q mb n cap xs:=h.aQ hb.size (fun x hx=>hb.block x (by rcases hx with rfl|rfl|rfl;exact h.lp;exact h.lq;exact h.mp.lt))
theorem kM.Gl{base cap:Nat}(h:kM W base p q mb n cap xs)(e:W.drew=V):kM V base p q mb n cap xs:=by rw[<-e];exact h.later (aJ.drew)
theorem kM.Oc{base n' cap:Nat}(h:kM W base p q mb n cap xs)(ht:cu mb W V)(hm:qX V mb n')(hs:V.1.size=W.1.size):kM V base p q mb n' cap xs:=by
 have hp:=ht.block p h.lp h.pm;have hq:=ht.block q h.lq h.qm;exact⟨(World.cell?_of_block (a:=⟨p,0,none⟩) hp).trans h.c0,(World.cell?_of_block (a:=⟨p,1,none⟩) hp).trans h.c1,fun j=>(World.frozen?_of_block (a:=⟨p,j,none⟩) hp).trans (h.fz j),h.at_.aj hq,h.rm.aj hq,h.cp,hm,h.ok,h.pq,h.pm,h.qm,h.bp,h.bq,h.bm,by rw[hs];exact h.lp,by rw[hs];exact h.lq⟩
theorem kM.Xb{base cap i:Nat}{x:N5}(h:kM W base p q mb n cap xs)(hi:xs[i]?=some x)(y:N5)(hy:bn y=true):kM (((((W.setCell ⟨q,i*5,none⟩ (vI y.b)).setCell ⟨q,i*5+1,none⟩ (vI y.e)).setCell ⟨q,i*5+2,none⟩ (vI y.j)).setCell ⟨q,i*5+3,none⟩ (vI y.g)).setCell ⟨q,i*5+4,none⟩ (.bool y.i)) base p q mb n cap (xs.set i y):=by
 have li:=(List.getElem?_eq_some_iff.1 hi).1;have ho:aW q W (((((W.setCell ⟨q,i*5,none⟩ (vI y.b)).setCell ⟨q,i*5+1,none⟩ (vI y.e)).setCell ⟨q,i*5+2,none⟩ (vI y.j)).setCell ⟨q,i*5+3,none⟩ (vI y.g)).setCell ⟨q,i*5+4,none⟩ (.bool y.i)):=(((((aW.refl q _).setCell _ _).setCell _ _).setCell _ _).setCell _ _).setCell _ _;have hp:=ho.block p h.pq;have hm:=ho.block mb (Ne.symm h.qm);obtain⟨v0,d0,_⟩:=h.rm (i*5) (by omega);obtain⟨v1,d1,_⟩:=h.rm (i*5+1) (by omega);obtain⟨v2,d2,_⟩:=h.rm (i*5+2) (by omega);obtain⟨v3,d3,_⟩:=h.rm (i*5+3) (by omega);obtain⟨v4,d4,_⟩:=h.rm (i*5+4) (by omega);refine⟨(World.cell?_of_block (a:=⟨p,0,none⟩) hp).trans (by rw[List.length_set];exact h.c0),(World.cell?_of_block (a:=⟨p,1,none⟩) hp).trans h.c1,fun j=>(World.frozen?_of_block (a:=⟨p,j,none⟩) hp).trans (h.fz j),fun k s hk=>?_,by rw[List.length_set];exact((((h.rm.set _).set _).set _).set _).set _,by rw[List.length_set];exact h.cp,h.mp.aj hm,fun s hs=>?_,h.pq,h.pm,h.qm,h.bp,h.bq,h.bm,by rw[ho.size];exact h.lp,by rw[ho.size];exact h.lq⟩
 ·rw[Nat.zero_add];by_cases e:i=k
  ·subst e;rw[List.getElem?_set_self li]at hk;obtain rfl:=Option.some.inj hk;exact aL.put y d0 d1 d2 d3 d4
  ·rw[List.getElem?_set_ne e]at hk;have:=h.at_ k s hk;rw[Nat.zero_add]at this;exact((((this.set (by omega) _).set (by omega) _).set (by omega) _).set (by omega) _).set (by omega) _
 ·rcases List.mem_or_eq_of_mem_set hs with hs|rfl
  ·exact h.ok s hs
  ·exact hy
theorem rT(w:World)(base p q mb n cap:Nat)(xs:List N5)(i j:Nat)(x y:N5)(h:kM w base p q mb n cap xs)(hn:n<=100000)(hl:xs.length<=1000)(hi:xs[i]?=some x)(hj:xs[j]?=some y):
  Calls Tryz.prog 197 #[.pointer (some ⟨p,0,none⟩),vI (i:Int),vI (j:Int)] w fun e w'=>e=.returned (.tuple #[])/\kM w' base p q mb (n+1+1) cap ((xs.set i y).set j x)/\aH (sD p q mb) w w':=by
 have li:=(List.getElem?_eq_some_iff.1 hi).1;have lj:=(List.getElem?_eq_some_iff.1 hj).1;have ix:(i:Int)<(xs.length:Int):=by omega
 have jx:(j:Int)<(xs.length:Int):=by omega
 have hS:(fun X:World=>X.cell? ⟨p,0,none⟩=some (.slice (some ⟨q,0,none⟩) xs.length cap)/\aL X q (i*5) x/\aL X q (j*5) y) w.drew:=⟨h.c0,(show aL w q (i*5) x by simpa using h.at_ i x hi).below ((Below.refl w.1.size w).drew) h.lq,(show aL w q (j*5) y by simpa using h.at_ j y hj).below ((Below.refl w.1.size w).drew) h.lq⟩
 have rd:Room w.drew q (xs.length*5):=h.rm;have KH:=aB h;clear h;go_enter Tryz.func197,Tryz.ntmps197;go_upto_region 0 with fail
 refine bu (fun z=>z==25||z==27) (fun X:World=>X.cell? ⟨p,0,none⟩=some (.slice (some ⟨q,0,none⟩) xs.length cap)/\aL X q (i*5) x/\aL X q (j*5) y) (by kernel_rfl) ?_;obtain⟨v0,c0,f0⟩:=rd (i*5) (by omega);obtain⟨v1,c1,f1⟩:=rd (i*5+1) (by omega);obtain⟨v2,c2,f2⟩:=rd (i*5+2) (by omega);obtain⟨v3,c3,f3⟩:=rd (i*5+3) (by omega);obtain⟨v4,c4,f4⟩:=rd (i*5+4) (by omega);generalize YT:w.drew=Wd at *;refine cz 0 ?_ rfl ?_ hS ?_;rotate_left
 ·(intro w _;go_simp;first|done|with_reducible rfl|(rw[if_pos (by omega)])|(rw[if_pos (by omega)];go_simp))
 simp only[Act.put];refine cz 1 ?_ rfl ?_ hS ?_;rotate_left
 ·(intro w _;go_simp;first|done|with_reducible rfl|(rw[if_pos (by omega)])|(rw[if_pos (by omega)];go_simp))
 simp only[Act.put];refine cz 2 ?_ rfl ?_ hS ?_;rotate_left
 ·(intro w _;go_simp;first|done|with_reducible rfl|(rw[if_pos (by omega)])|(rw[if_pos (by omega)];go_simp))
 simp only[Act.put];refine jg 3 ?_ rfl ?_ hS ?_;rotate_left
 ·(intro w aG;obtain⟨s0,⟨a0,a1,a2,a3,a4⟩,⟨b0,b1,b2,b3,b4⟩⟩:=aG;go_simp;first|done|with_reducible rfl)
 simp only[Act.put];refine cz 4 ?_ rfl ?_ hS ?_;rotate_left
 ·(intro w _;go_simp;first|done|with_reducible rfl|(rw[if_pos (by omega)])|(rw[if_pos (by omega)];go_simp))
 simp only[Act.put];refine cz 5 ?_ rfl ?_ hS ?_;rotate_left
 ·(intro w _;go_simp;first|done|with_reducible rfl|(rw[if_pos (by omega)])|(rw[if_pos (by omega)];go_simp))
 simp only[Act.put];refine cz 6 ?_ rfl ?_ hS ?_;rotate_left
 ·(intro w _;go_simp;first|done|with_reducible rfl|(rw[if_pos (by omega)])|(rw[if_pos (by omega)];go_simp))
 simp only[Act.put];refine cz 7 ?_ rfl ?_ hS ?_;rotate_left
 ·(intro w _;go_simp;first|done|with_reducible rfl|(rw[if_pos (by omega)])|(rw[if_pos (by omega)];go_simp))
 simp only[Act.put];refine jg 8 ?_ rfl ?_ hS ?_;rotate_left
 ·(intro w aG;obtain⟨s0,⟨a0,a1,a2,a3,a4⟩,⟨b0,b1,b2,b3,b4⟩⟩:=aG;go_simp;first|done|with_reducible rfl)
 simp only[Act.put];refine cz 9 ?_ rfl ?_ hS ?_;rotate_left
 ·(intro w _;go_simp;first|done|with_reducible rfl|(rw[if_pos (by omega)])|(rw[if_pos (by omega)];go_simp))
 simp only[Act.put];refine cz 10 ?_ rfl ?_ hS ?_;rotate_left
 ·(intro w _;go_simp;first|done|with_reducible rfl|(rw[if_pos (by omega)])|(rw[if_pos (by omega)];go_simp))
 simp only[Act.put];refine cz 11 ?_ rfl ?_ hS ?_;rotate_left
 ·(intro w _;go_simp;first|done|with_reducible rfl|(rw[if_pos (by omega)])|(rw[if_pos (by omega)];go_simp))
 simp only[Act.put];refine cz 12 ?_ rfl ?_ hS ?_;rotate_left
 ·(intro w _;go_simp;first|done|with_reducible rfl|(rw[if_pos (by omega)])|(rw[if_pos (by omega)];go_simp))
 simp only[Act.put];refine jg 13 ?_ rfl ?_ hS ?_;rotate_left
 ·(intro w aG;obtain⟨s0,⟨a0,a1,a2,a3,a4⟩,⟨b0,b1,b2,b3,b4⟩⟩:=aG;go_simp;first|done|with_reducible rfl)
 simp only[Act.put];refine cz 14 ?_ rfl ?_ hS ?_;rotate_left
 ·(intro w _;go_simp;first|done|with_reducible rfl|(rw[if_pos (by omega)])|(rw[if_pos (by omega)];go_simp))
 simp only[Act.put];refine cz 15 ?_ rfl ?_ hS ?_;rotate_left
 ·(intro w _;go_simp;first|done|with_reducible rfl|(rw[if_pos (by omega)])|(rw[if_pos (by omega)];go_simp))
 simp only[Act.put];refine jg 16 ?_ rfl ?_ hS ?_;rotate_left
 ·(intro w aG;obtain⟨s0,⟨a0,a1,a2,a3,a4⟩,⟨b0,b1,b2,b3,b4⟩⟩:=aG;go_simp;first|done|with_reducible rfl)
 simp only[Act.put];refine cz 17 ?_ rfl ?_ hS ?_;rotate_left
 ·(intro w _;go_simp;first|done|with_reducible rfl|(rw[if_pos (by omega)])|(rw[if_pos (by omega)];go_simp))
 simp only[Act.put];refine cz 18 ?_ rfl ?_ hS ?_;rotate_left
 ·(intro w _;go_simp;first|done|with_reducible rfl|(rw[if_pos (by omega)])|(rw[if_pos (by omega)];go_simp))
 simp only[Act.put];refine cz 19 ?_ rfl ?_ hS ?_;rotate_left
 ·(intro w _;go_simp;first|done|with_reducible rfl|(rw[if_pos (by omega)])|(rw[if_pos (by omega)];go_simp))
 simp only[Act.put];refine jg 20 ?_ rfl ?_ hS ?_;rotate_left
 ·(intro w aG;obtain⟨s0,⟨a0,a1,a2,a3,a4⟩,⟨b0,b1,b2,b3,b4⟩⟩:=aG;go_simp;first|done|with_reducible rfl)
 simp only[Act.put];refine cz 21 ?_ rfl ?_ hS ?_;rotate_left
 ·(intro w _;go_simp;first|done|with_reducible rfl|(rw[if_pos (by omega)])|(rw[if_pos (by omega)];go_simp))
 simp only[Act.put];refine cz 22 ?_ rfl ?_ hS ?_;rotate_left
 ·(intro w _;go_simp;first|done|with_reducible rfl|(rw[if_pos (by omega)])|(rw[if_pos (by omega)];go_simp))
 simp only[Act.put];refine jg 23 ?_ rfl ?_ hS ?_;rotate_left
 ·(intro w aG;obtain⟨s0,⟨a0,a1,a2,a3,a4⟩,⟨b0,b1,b2,b3,b4⟩⟩:=aG;go_simp;first|done|with_reducible rfl)
 simp only[Act.put];refine cz 24 ?_ rfl ?_ hS ?_;rotate_left
 ·(intro w _;go_simp;first|done|with_reducible rfl|(rw[if_pos (by omega)])|(rw[if_pos (by omega)];go_simp))
 simp only[Act.put];refine cZ 25 rfl (fun K hK=>?_);go_simp;refine hK.out _ _ (fun h=>absurd (show false=true from h.symm.trans (by kernel_rfl)) (by decide)) ?_;clear hK K;refine cZ 26 rfl (fun K hK=>?_);go_simp;refine hK.out _ _ (fun h=>absurd (show false=true from h.symm.trans (by kernel_rfl)) (by decide)) ?_;clear hK K;have r1:Room (((((Wd.setCell ⟨q,i*5,none⟩ (vI y.b)).setCell ⟨q,i*5+1,none⟩ (vI y.e)).setCell ⟨q,i*5+2,none⟩ (vI y.j)).setCell ⟨q,i*5+3,none⟩ (vI y.g)).setCell ⟨q,i*5+4,none⟩ (.bool y.i)) q (xs.length*5):=((((rd.set _).set _).set _).set _).set _;generalize ja:(((((Wd.setCell ⟨q,i*5,none⟩ (vI y.b)).setCell ⟨q,i*5+1,none⟩ (vI y.e)).setCell ⟨q,i*5+2,none⟩ (vI y.j)).setCell ⟨q,i*5+3,none⟩ (vI y.g)).setCell ⟨q,i*5+4,none⟩ (.bool y.i))=W1 at *;obtain⟨u0,e0,g0⟩:=r1 (j*5) (by omega);obtain⟨u1,e1,g1⟩:=r1 (j*5+1) (by omega);obtain⟨u2,e2,g2⟩:=r1 (j*5+2) (by omega);obtain⟨u3,e3,g3⟩:=r1 (j*5+3) (by omega);obtain⟨u4,e4,g4⟩:=r1 (j*5+4) (by omega);refine cZ 27 rfl (fun K hK=>?_);go_simp;refine hK.out _ _ (fun h=>absurd (show false=true from h.symm.trans (by kernel_rfl)) (by decide)) ?_;clear hK K;refine dL (by kernel_rfl) ?_ _
 have OH:(xs.set i y)[j]?=some y:=by
  by_cases e:i=j
  ·subst e;rw[List.getElem?_set_self li]
  ·rw[List.getElem?_set_ne e];exact hj
 have PF:kM (((((W1.setCell ⟨q,j*5,none⟩ (vI x.b)).setCell ⟨q,j*5+1,none⟩ (vI x.e)).setCell ⟨q,j*5+2,none⟩ (vI x.j)).setCell ⟨q,j*5+3,none⟩ (vI x.g)).setCell ⟨q,j*5+4,none⟩ (.bool x.i)) base p q mb n cap ((xs.set i y).set j x):=by
  rw[<-ja];exact((KH.out.Gl YT).Xb hi y (KH.out.ok y (List.mem_of_getElem? hj))).Xb OH x (KH.out.ok x (List.mem_of_getElem? hi))
 have KF:aH (sD p q mb) w (((((W1.setCell ⟨q,j*5,none⟩ (vI x.b)).setCell ⟨q,j*5+1,none⟩ (vI x.e)).setCell ⟨q,j*5+2,none⟩ (vI x.j)).setCell ⟨q,j*5+3,none⟩ (vI x.g)).setCell ⟨q,j*5+4,none⟩ (.bool x.i)):=by
  rw[<-ja,<-YT];exact(aH.dK ((Below.refl w.1.size w).drew)).trans (aH.jQ (c:=q) (((((((((((aW.refl q _).setCell _ _).setCell _ _).setCell _ _).setCell _ _).setCell _ _).setCell _ _).setCell _ _).setCell _ _).setCell _ _).setCell _ _) (.inr (.inl rfl)))
 obtain⟨zi,Ra⟩:∃z,((xs.set i y).set j x)[i]?=some z:=⟨_,List.getElem?_eq_getElem (by simpa using li)⟩
 have eV:((xs.set i y).set j x)[j]?=some x:=by rw[List.getElem?_set_self (by simpa using lj)]
 have hle:((xs.set i y).set j x).length=xs.length:=by simp
 have an:Hid (aH (sD p q mb) w (((((W1.setCell ⟨q,j*5,none⟩ (vI x.b)).setCell ⟨q,j*5+1,none⟩ (vI x.e)).setCell ⟨q,j*5+2,none⟩ (vI x.j)).setCell ⟨q,j*5+3,none⟩ (vI x.g)).setCell ⟨q,j*5+4,none⟩ (.bool x.i))/\kM (((((W1.setCell ⟨q,j*5,none⟩ (vI x.b)).setCell ⟨q,j*5+1,none⟩ (vI x.e)).setCell ⟨q,j*5+2,none⟩ (vI x.j)).setCell ⟨q,j*5+3,none⟩ (vI x.g)).setCell ⟨q,j*5+4,none⟩ (.bool x.i)) base p q mb n cap ((xs.set i y).set j x)):=⟨KF,PF⟩
 clear KH PF KF OH rd r1 c0 c1 c2 c3 c4 f0 f1 f2 f3 f4 e0 e1 e2 e3 e4 g0 g1 g2 g3 g4 hS YT ja ix jx;generalize (((((W1.setCell ⟨q,j*5,none⟩ (vI x.b)).setCell ⟨q,j*5+1,none⟩ (vI x.e)).setCell ⟨q,j*5+2,none⟩ (vI x.j)).setCell ⟨q,j*5+3,none⟩ (vI x.g)).setCell ⟨q,j*5+4,none⟩ (.bool x.i))=V at *;have KH:=an;clear an;generalize cj:(xs.set i y).set j x=zs at *;have tV:zs.length=xs.length:=hle;have ix:(i:Int)<(zs.length:Int):=by omega
 have jx:(j:Int)<(zs.length:Int):=by omega
 rw[<-tV]at li lj hl;have HZ:=aB cj;clear hle hi hj cj tV Wd W1;have Sw:=Ra;have Sy:=eV;clear Ra eV;obtain⟨eR,ZB⟩:∃hz:bn zi=true,V.1.size=V.1.size:=⟨KH.out.2.ok zi (List.mem_of_getElem? Sw),rfl⟩
 have Zb:=fP eR;have hS:(fun X:World=>X.cell? ⟨p,0,none⟩=some (.slice (some ⟨q,0,none⟩) (zs).length cap)/\X.cell? ⟨p,1,none⟩=some (.map (some mb))/\aL X q (i*5) zi) V.drew:=⟨KH.out.2.c0,KH.out.2.c1,(show aL V q (i*5) zi by simpa using KH.out.2.at_ i zi Sw).below ((Below.refl V.1.size V).drew) KH.out.2.lq⟩
 have hm:∀w:World,(method 454 112 (.agg #[vI zi.b,vI zi.e,vI zi.j,vI zi.g,.bool zi.i]) "loop.example/g00153/impl.cell").run Tryz.prog w=.ok (209,.agg #[vI zi.b,vI zi.e,vI zi.j,vI zi.g,.bool zi.i]) w:=fun _=>by kernel_rfl
 go_upto_region 1 with fail
 refine bu (fun z=>z==14) (fun X:World=>X.cell? ⟨p,0,none⟩=some (.slice (some ⟨q,0,none⟩) (zs).length cap)/\X.cell? ⟨p,1,none⟩=some (.map (some mb))/\aL X q (i*5) zi) (by kernel_rfl) ?_;have KD:Hid (Below V.1.size V V.drew):=aJ.drew;generalize V.drew=Wd at *;refine cz 0 ?_ rfl ?_ hS ?_;rotate_left
 ·(intro w _;go_simp;first|done|with_reducible rfl|(rw[if_pos (by omega)])|(rw[if_pos (by omega)];go_simp))
 simp only[Act.put];refine cz 1 ?_ rfl ?_ hS ?_;rotate_left
 ·(intro w _;go_simp;first|done|with_reducible rfl|(rw[if_pos (by omega)])|(rw[if_pos (by omega)];go_simp))
 simp only[Act.put];refine cz 2 ?_ rfl ?_ hS ?_;rotate_left
 ·(intro w _;go_simp;first|done|with_reducible rfl|(rw[if_pos (by omega)])|(rw[if_pos (by omega)];go_simp))
 simp only[Act.put];refine jg 3 ?_ rfl ?_ hS ?_;rotate_left
 ·(intro w aG;obtain⟨s0,s1,⟨a0,a1,a2,a3,a4⟩⟩:=aG;go_simp;first|done|with_reducible rfl)
 simp only[Act.put];refine cz 4 ?_ rfl ?_ hS ?_;rotate_left
 ·(intro w _;go_simp;first|done|with_reducible rfl|(rw[if_pos (by omega)])|(rw[if_pos (by omega)];go_simp))
 simp only[Act.put];refine cz 5 ?_ rfl ?_ hS ?_;rotate_left
 ·(intro w _;go_simp;first|done|with_reducible rfl|(rw[if_pos (by omega)])|(rw[if_pos (by omega)];go_simp))
 simp only[Act.put];refine cz 6 ?_ rfl ?_ hS ?_;rotate_left
 ·(intro w _;go_simp;first|done|with_reducible rfl|(rw[if_pos (by omega)])|(rw[if_pos (by omega)];go_simp))
 simp only[Act.put];refine jg 7 ?_ rfl ?_ hS ?_;rotate_left
 ·(intro w aG;obtain⟨s0,s1,⟨a0,a1,a2,a3,a4⟩⟩:=aG;go_simp;first|done|with_reducible rfl)
 simp only[Act.put];refine cz 8 ?_ rfl ?_ hS ?_;rotate_left
 ·(intro w _;go_simp;first|done|with_reducible rfl|(rw[if_pos (by omega)])|(rw[if_pos (by omega)];go_simp))
 simp only[Act.put];refine cz 9 ?_ rfl ?_ hS ?_;rotate_left
 ·(intro w _;go_simp;first|done|with_reducible rfl|(rw[if_pos (by omega)])|(rw[if_pos (by omega)];go_simp))
 simp only[Act.put];refine jg 10 ?_ rfl ?_ hS ?_;rotate_left
 ·(intro w aG;obtain⟨s0,s1,⟨a0,a1,a2,a3,a4⟩⟩:=aG;go_simp;first|done|with_reducible rfl)
 simp only[Act.put];refine cz 11 ?_ rfl ?_ hS ?_;rotate_left
 ·(intro w _;go_simp;first|done|with_reducible rfl|(rw[if_pos (by omega)])|(rw[if_pos (by omega)];go_simp))
 simp only[Act.put];refine cz 13 ?_ rfl ?_ hS ?_;rotate_left
 ·(intro w _;go_simp;first|done|with_reducible rfl|(rw[if_pos (by omega)])|(rw[if_pos (by omega)];go_simp))
 simp only[Act.put];refine cZ 12 rfl (fun K hK=>?_);go_simp;refine(gI Wd zi).mono ?_;rintro e X2 ⟨rfl,b2⟩;have bX:Below V.1.size V X2:=KD.out.trans (b2.mono KD.out.size);have P2:=KH.out.2.later bX;obtain⟨Y,fO,BH,uU,DR⟩:=P2.mp.store (by omega) Zb.1 Zb.2 i (by omega);have P3:=P2.Oc uU BH DR;have KX:Hid (aH (sD p q mb) w Y/\kM Y base p q mb (n+1) cap (zs)):=⟨(KH.out.1.trans (aH.dK bX)).trans (aH.vV uU (.inr (.inr rfl))),P3⟩
 simp only[jV]at fO;have iD:(fun X:World=>X.cell? ⟨p,0,none⟩=some (.slice (some ⟨q,0,none⟩) (zs).length cap)/\X.cell? ⟨p,1,none⟩=some (.map (some mb))/\aL X q (i*5) zi) X2:=⟨P2.c0,P2.c1,by simpa using P2.at_ i zi Sw⟩
 refine hK.out _ _ (fun _=>iD) ?_;clear hK K iD hS P2 P3 bX KD BH uU DR hm eR ZB Zb KH b2;refine cZ 14 rfl (fun K hK=>?_);go_simp;refine hK.out _ _ (fun h=>absurd (show false=true from h.symm.trans (by kernel_rfl)) (by decide)) ?_;clear hK K fO;refine dL (by kernel_rfl) ?_ _;have KH:=KX;clear KX;generalize Y=V2 at *;obtain⟨eS,ZC⟩:∃hz:bn x=true,V2.1.size=V2.1.size:=⟨KH.out.2.ok x (List.mem_of_getElem? Sy),rfl⟩
 have Zc:=fP eS;have hS:(fun X:World=>X.cell? ⟨p,0,none⟩=some (.slice (some ⟨q,0,none⟩) (zs).length cap)/\X.cell? ⟨p,1,none⟩=some (.map (some mb))/\aL X q (j*5) x) V2.drew:=⟨KH.out.2.c0,KH.out.2.c1,(show aL V2 q (j*5) x by simpa using KH.out.2.at_ j x Sy).below ((Below.refl V2.1.size V2).drew) KH.out.2.lq⟩
 have hm:∀w:World,(method 454 112 (.agg #[vI x.b,vI x.e,vI x.j,vI x.g,.bool x.i]) "loop.example/g00153/impl.cell").run Tryz.prog w=.ok (209,.agg #[vI x.b,vI x.e,vI x.j,vI x.g,.bool x.i]) w:=fun _=>by kernel_rfl
 go_upto_region 2 with fail
 refine bu (fun z=>z==14) (fun X:World=>X.cell? ⟨p,0,none⟩=some (.slice (some ⟨q,0,none⟩) (zs).length cap)/\X.cell? ⟨p,1,none⟩=some (.map (some mb))/\aL X q (j*5) x) (by kernel_rfl) ?_;have KD:Hid (Below V2.1.size V2 V2.drew):=aJ.drew;generalize V2.drew=Wd at *;refine cz 0 ?_ rfl ?_ hS ?_;rotate_left
 ·(intro w _;go_simp;first|done|with_reducible rfl|(rw[if_pos (by omega)])|(rw[if_pos (by omega)];go_simp))
 simp only[Act.put];refine cz 1 ?_ rfl ?_ hS ?_;rotate_left
 ·(intro w _;go_simp;first|done|with_reducible rfl|(rw[if_pos (by omega)])|(rw[if_pos (by omega)];go_simp))
 simp only[Act.put];refine cz 2 ?_ rfl ?_ hS ?_;rotate_left
 ·(intro w _;go_simp;first|done|with_reducible rfl|(rw[if_pos (by omega)])|(rw[if_pos (by omega)];go_simp))
 simp only[Act.put];refine jg 3 ?_ rfl ?_ hS ?_;rotate_left
 ·(intro w aG;obtain⟨s0,s1,⟨a0,a1,a2,a3,a4⟩⟩:=aG;go_simp;first|done|with_reducible rfl)
 simp only[Act.put];refine cz 4 ?_ rfl ?_ hS ?_;rotate_left
 ·(intro w _;go_simp;first|done|with_reducible rfl|(rw[if_pos (by omega)])|(rw[if_pos (by omega)];go_simp))
 simp only[Act.put];refine cz 5 ?_ rfl ?_ hS ?_;rotate_left
 ·(intro w _;go_simp;first|done|with_reducible rfl|(rw[if_pos (by omega)])|(rw[if_pos (by omega)];go_simp))
 simp only[Act.put];refine cz 6 ?_ rfl ?_ hS ?_;rotate_left
 ·(intro w _;go_simp;first|done|with_reducible rfl|(rw[if_pos (by omega)])|(rw[if_pos (by omega)];go_simp))
 simp only[Act.put];refine jg 7 ?_ rfl ?_ hS ?_;rotate_left
 ·(intro w aG;obtain⟨s0,s1,⟨a0,a1,a2,a3,a4⟩⟩:=aG;go_simp;first|done|with_reducible rfl)
 simp only[Act.put];refine cz 8 ?_ rfl ?_ hS ?_;rotate_left
 ·(intro w _;go_simp;first|done|with_reducible rfl|(rw[if_pos (by omega)])|(rw[if_pos (by omega)];go_simp))
 simp only[Act.put];refine cz 9 ?_ rfl ?_ hS ?_;rotate_left
 ·(intro w _;go_simp;first|done|with_reducible rfl|(rw[if_pos (by omega)])|(rw[if_pos (by omega)];go_simp))
 simp only[Act.put];refine jg 10 ?_ rfl ?_ hS ?_;rotate_left
 ·(intro w aG;obtain⟨s0,s1,⟨a0,a1,a2,a3,a4⟩⟩:=aG;go_simp;first|done|with_reducible rfl)
 simp only[Act.put];refine cz 11 ?_ rfl ?_ hS ?_;rotate_left
 ·(intro w _;go_simp;first|done|with_reducible rfl|(rw[if_pos (by omega)])|(rw[if_pos (by omega)];go_simp))
 simp only[Act.put];refine cz 13 ?_ rfl ?_ hS ?_;rotate_left
 ·(intro w _;go_simp;first|done|with_reducible rfl|(rw[if_pos (by omega)])|(rw[if_pos (by omega)];go_simp))
 simp only[Act.put];refine cZ 12 rfl (fun K hK=>?_);go_simp;refine(gI Wd x).mono ?_;rintro e X2 ⟨rfl,b2⟩;have bX:Below V2.1.size V2 X2:=KD.out.trans (b2.mono KD.out.size);have P2:=KH.out.2.later bX;obtain⟨Y,fO,BH,uU,DR⟩:=P2.mp.store (by omega) Zc.1 Zc.2 j (by omega);have P3:=P2.Oc uU BH DR;have KX:Hid (aH (sD p q mb) w Y/\kM Y base p q mb (n+1+1) cap (zs)):=⟨(KH.out.1.trans (aH.dK bX)).trans (aH.vV uU (.inr (.inr rfl))),P3⟩
 simp only[jV]at fO;have iD:(fun X:World=>X.cell? ⟨p,0,none⟩=some (.slice (some ⟨q,0,none⟩) (zs).length cap)/\X.cell? ⟨p,1,none⟩=some (.map (some mb))/\aL X q (j*5) x) X2:=⟨P2.c0,P2.c1,by simpa using P2.at_ j x Sy⟩
 refine hK.out _ _ (fun _=>iD) ?_;clear hK K iD hS P2 P3 bX KD BH uU DR hm eS ZC Zc KH b2;refine cZ 14 rfl (fun K hK=>?_);go_simp;refine hK.out _ _ (fun h=>absurd (show false=true from h.symm.trans (by kernel_rfl)) (by decide)) ?_;clear hK K fO;refine dL (by kernel_rfl) ?_ _;have KH:=KX;clear KX;go_wp2;refine bodyPost_end (v:=.tuple #[]) (by simp[results,Tryz.results197,go_sem]) rfl ⟨rfl,by rw[HZ.out];exact KH.out.2,KH.out.1⟩
end tx
section
namespace eG
variable {c n:Nat}{k:Nat->Int}
def La{α:Type}(k:Nat->α)(a b:Nat):Nat->α:=fun i=>if i=a then k b else if i=b then k a else k i
def Hp(k:Nat->Int)(n:Nat):Prop:=∀i,0<i->i<n->k ((i-1)/2)<=k i
def wZ(k:Nat->Int)(n c:Nat):Prop:=(∀i,0<i->i<n->i≠c->k ((i-1)/2)<=k i)/\(∀i,0<i->i<n->(i-1)/2=c->0<c->k ((c-1)/2)<=k i)
def pz(k:Nat->Int)(n c:Nat):Prop:=(∀i,0<i->i<n->(i-1)/2≠c->k ((i-1)/2)<=k i)/\(∀i,0<i->i<n->(i-1)/2=c->0<c->k ((c-1)/2)<=k i)
theorem wZ.done(h:wZ k n c)(hc:c=0\/k ((c-1)/2)<=k c):Hp k n:=fun i h0 hn=>by
 by_cases e:i=c
 ·subst e;rcases hc with hc|hc
  ·omega
  ·exact hc
 ·exact h.1 i h0 hn e
theorem wZ.step(h:wZ k n c)(h0:0<c)(hn:c<n)(hl:k c<k ((c-1)/2)):wZ (La k c ((c-1)/2)) n ((c-1)/2):=by
 obtain⟨h1,h2⟩:=h;refine⟨fun i i0 hi fF=>?_,fun i i0 hi hp pd=>?_⟩
 ·unfold La;by_cases e1:i=c
  ·subst e1;simp[show ¬(i-1)/2=i by omega];omega
  ·by_cases e2:(i-1)/2=c
   ·simp[e1,fF,e2];exact h2 i i0 hi e2 h0
   ·by_cases e3:(i-1)/2=(c-1)/2
    ·simp[e1,fF,e3,show ¬(c-1)/2=c by omega];have:=h1 i i0 hi e1;rw[e3]at this;omega
    ·simp[e1,fF,e2,e3];exact h1 i i0 hi e1
 ·unfold La;have hq:=h1 ((c-1)/2) (by omega) (by omega) (by omega);by_cases e1:i=c
  ·subst e1;simp[show ¬((i-1)/2-1)/2=i by omega,show ¬((i-1)/2-1)/2=(i-1)/2 by omega];exact hq
  ·have Aj:=h1 i i0 hi e1;rw[hp]at Aj;simp[e1,show ¬i=(c-1)/2 by omega,show ¬((c-1)/2-1)/2=c by omega,show ¬((c-1)/2-1)/2=(c-1)/2 by omega];omega
theorem pz.done(h:pz k n c)(h1:2*c+1<n->k c<=k (2*c+1))(h2:2*c+2<n->k c<=k (2*c+2)):Hp k n:=fun i h0 hn=>by
 by_cases e:(i-1)/2=c
 ·rw[e];rcases(show i=2*c+1\/i=2*c+2 by omega)with rfl|rfl
  ·exact h1 hn
  ·exact h2 hn
 ·exact h.1 i h0 hn e
theorem pz.step{l:Nat}(h:pz k n c)(hl:l=2*c+1\/l=2*c+2)(hn:l<n)(aN:k l<k c)(h1:2*c+1<n->k l<=k (2*c+1))(h2:2*c+2<n->k l<=k (2*c+2)):pz (La k c l) n l:=by
 obtain⟨g1,g2⟩:=h;have CV:(l-1)/2=c:=by omega
 refine⟨fun i i0 hi fF=>?_,fun i i0 hi hp _=>?_⟩
 ·unfold La;by_cases e0:i=c
  ·subst e0;simp[show ¬(i-1)/2=i by omega,fF];exact g2 l (by omega) hn CV i0
  ·by_cases e1:(i-1)/2=c
   ·simp only[e1,e0,if_true,if_false];by_cases e2:i=l
    ·simp[e2];omega
    ·simp[e2];rcases(show i=2*c+1\/i=2*c+2 by omega)with rfl|rfl
     ·exact h1 hi
     ·exact h2 hi
   ·have:=g1 i i0 hi e1;by_cases e2:i=l
    ·omega
    ·simp[e0,e1,e2,fF];exact this
 ·unfold La;have:=g1 i i0 hi (by omega);rw[hp]at this;simp[CV,show ¬i=c by omega,show ¬i=l by omega];exact this
theorem Hp.top(h:Hp k n):∀i,i<n->k 0<=k i:=by
 intro i
 induction i using Nat.strongRecOn with
 | ind i ih=>
  intro hi;by_cases e:i=0
  ·subst e;exact Int.le_refl _
  ·have:=ih ((i-1)/2) (by omega) (by omega);have:=h i (by omega) hi;omega
theorem wZ.Qd(h:Hp k n):wZ k (n+1) n:=⟨fun i h0 hn fF=>h i h0 (by omega),fun i h0 hn hp h'=>by omega⟩
theorem pz.TM(h:Hp k (n+1)):pz (La k 0 n) n 0:=⟨fun i h0 hn fF=>by
 have:=h i h0 (by omega);unfold La;simp[show ¬i=0 by omega,show ¬i=n by omega,fF,show ¬(i-1)/2=n by omega]
 exact this,fun i h0 hn hp h'=>by omega⟩
end eG
namespace eG
theorem set_set_perm{α:Type}:∀(xs:List α) (a b:Nat) (x y:α),xs[a]?=some x->xs[b]?=some y->((xs.set a y).set b x).Perm xs:=by
 intro xs a b x y ha hb;have la:=(List.getElem?_eq_some_iff.1 ha).1;have Jb:=(List.getElem?_eq_some_iff.1 hb).1;have mv:=(List.getElem?_eq_some_iff.1 ha).2;have Wy:=(List.getElem?_eq_some_iff.1 hb).2;have:=Array.swap_perm (xs:=xs.toArray) (i:=a) (j:=b) (by simpa using la) (by simpa using Jb);have h2:=Array.perm_iff_toList_perm.1 this;simp[Array.swap,mv,Wy]at h2;exact h2
theorem Jy{α:Type}(rk:α->Int):∀{l₁ l₂:List α},l₁.Pairwise (fun p q=>rk p<rk q)->l₂.Pairwise (fun p q=>rk p<rk q)->l₁.Perm l₂->l₁=l₂
 | [],l₂,_,_,h=>(List.Perm.nil_eq h)
 | x::r,[],_,_,h=>by have:=h.length_eq;simp at this
 | x::r,y::s,h1,h2,h=>by
  obtain⟨a1,a2⟩:=List.pairwise_cons.1 h1;obtain⟨b1,b2⟩:=List.pairwise_cons.1 h2;have hx:x∈y::s:=h.mem_iff.1 (by simp);have hy:y∈x::r:=h.mem_iff.2 (by simp)
  have e:x=y:=by
   rcases List.mem_cons.1 hx with e|hx
   ·exact e
   ·rcases List.mem_cons.1 hy with e|hy
    ·exact e.symm
    ·have:=a1 y hy;have:=b1 x hx;omega
  subst e;rw[Jy rk a2 b2 (List.Perm.cons_inv h)]
theorem pz.congr{k k':Nat->Int}{n:Nat}(h:pz k n 0)(e:∀i,i<n->k' i=k i):pz k' n 0:=
 ⟨fun i h0 hn hc=>by rw[e i hn,e _ (by omega)];exact h.1 i h0 hn hc,fun i _ _ _ h'=>by omega⟩
end eG
end
namespace tx
variable {i:Nat}{x:N5}{xs:List N5}
def gG(xs:List N5)(i:Nat):Int:=rk (au xs i).b (au xs i).e
theorem ku(h:xs[i]?=some x):gG xs i=rk x.b x.e:=by
 unfold gG au;rw[h];rfl
theorem rR(w:World)(base p q mb n cap:Nat)(xs:List N5)(i j:Nat)(x y:N5)(h:kM w base p q mb n cap xs)(hi:xs[i]?=some x)(hj:xs[j]?=some y):
  Calls Tryz.prog 196 #[.pointer (some ⟨p,0,none⟩),vI (i:Int),vI (j:Int)] w fun e w'=>e=.returned (.bool (decide (rk x.b x.e<rk y.b y.e)))/\Below w.1.size w w':=by
 have li:=(List.getElem?_eq_some_iff.1 hi).1;have lj:=(List.getElem?_eq_some_iff.1 hj).1;have ix:(i:Int)<(xs.length:Int):=by omega
 have jx:(j:Int)<(xs.length:Int):=by omega
 obtain⟨t0,t1,t2,t3,t4⟩:=(show aL w q (i*5) x by simpa using h.at_ i x hi)
 obtain⟨u0,u1,u2,u3,u4⟩:=(show aL w q (j*5) y by simpa using h.at_ j y hj)
 have lift:∀{o:Nat}{u:Value},w.cell? ⟨q,o,none⟩=some u->∀d os,(grow (redrawn w d) os).cell? ⟨q,o,none⟩=some u:=fun {o u} hh d os=>((below_regrown w d os).cell (p:=⟨q,o,none⟩) h.lq).trans hh
 have x0:=lift t0;have y0:=lift u0;have x1:=lift t1;have y1:=lift u1;have x2:=lift t2;have y2:=lift u2;have x3:=lift t3;have y3:=lift u3;have x4:=lift t4;have y4:=lift u4;have z0:∀d os,(grow (redrawn w d) os).cell? ⟨p,0,none⟩=some (.slice (some ⟨q,0,none⟩) xs.length cap):=fun d os=>((below_regrown w d os).cell (p:=⟨p,0,none⟩) h.lp).trans h.c0
 have k1:=fP (h.ok x (List.mem_of_getElem? hi));have k2:=fP (h.ok y (List.mem_of_getElem? hj));have cA:∀d os,Calls Tryz.prog 224 #[.agg #[vI x.b,vI x.e,vI x.j,vI x.g,.bool x.i]] (grow (redrawn w d) os) fun e fq=>e=.returned (vI (rk x.b x.e))/\∃p:Regrown,fq=grow (redrawn w p.d) p.os:=fun d os=>Calls.regrown_of (oD _ _ k1.1 k1.2)
 have cB:∀d os,Calls Tryz.prog 224 #[.agg #[vI y.b,vI y.e,vI y.j,vI y.g,.bool y.i]] (grow (redrawn w d) os) fun e fq=>e=.returned (vI (rk y.b y.e))/\∃p:Regrown,fq=grow (redrawn w p.d) p.os:=fun d os=>Calls.regrown_of (oD _ _ k2.1 k2.2)
 clear lift t0 t1 t2 t3 t4 u0 u1 u2 u3 u4 k1 k2 h hi hj;generalize rk x.b x.e=rx at *;generalize rk y.b y.e=ry at *;generalize x.b=a0 at *;generalize y.b=e0 at *;generalize x.e=a1 at *;generalize y.e=e1 at *;generalize x.j=a2 at *;generalize y.j=e2 at *;generalize x.g=a3 at *;generalize y.g=e3 at *;generalize x.i=a4 at *;generalize y.i=e4 at *;go_enter Tryz.func196,Tryz.ntmps196;go_wp2_with fail;refine wp_region_quiet_below (by kernel_rfl) (by kernel_rfl) ?_;repeat (go_big_quiet_step (first|(go_at_call_of 224 (Value.agg #[vI a0,vI a1,vI a2,vI a3,.bool a4]);exact cA _ _)|(go_at_call_of 224 (Value.agg #[vI e0,vI e1,vI e2,vI e3,.bool e4]);exact cB _ _)))
 refine wpQuiet_nil ?_;intro _ dD;obtain⟨⟨lH,bI⟩,aT⟩:=dD;subst aT;have bq:=below_regrown w lH bI;go_wp2;go_ret;exact⟨rfl,bq⟩
theorem zI{j:Nat}{y:N5}(hi:xs[i]?=some x)(hj:xs[j]?=some y)(k:Nat):gG ((xs.set i y).set j x) k=eG.La (gG xs) i j k:=by
 have li:=(List.getElem?_eq_some_iff.1 hi).1;have lj:=(List.getElem?_eq_some_iff.1 hj).1;unfold eG.La;by_cases e1:k=i
 ·subst e1;rw[if_pos rfl];by_cases e2:j=k
  ·subst e2;rw[ku (x:=x) (by rw[List.getElem?_set_self (by simpa using lj)]),ku hi]
  ·rw[ku (x:=y) (by rw[List.getElem?_set_ne e2,List.getElem?_set_self li]),ku hj]
 ·rw[if_neg e1];by_cases e2:k=j
  ·subst e2;rw[if_pos rfl,ku (x:=x) (by rw[List.getElem?_set_self (by simpa using lj)]),ku hi]
  ·rw[if_neg e2];unfold gG au;rw[List.getElem?_set_ne (Ne.symm e2),List.getElem?_set_ne (Ne.symm e1)]
theorem Ha(w:World)(base p q mb n cap:Nat)(xs:List N5)(c:Nat)(h:kM w base p q mb n cap xs)(hn:n<=10000)(hl:xs.length<=1000)(hc:c<xs.length)(hu:eG.wZ (gG xs) xs.length c):
  Calls Tryz.prog 172 #[.pointer (some ⟨p,0,none⟩),vI (c:Int)] w fun e w'=>e=.returned (.tuple #[])/\∃n' ys,n'<=n+2*c/\kM w' base p q mb n' cap ys/\ys.Perm xs/\eG.Hp (gG ys) ys.length/\aH (sD p q mb) w w':=by
 have H:Hid (kM w base p q mb n cap xs/\eG.wZ (gG xs) xs.length c):=⟨h,hu⟩
 clear h hu;go_enter Tryz.func172,Tryz.ntmps172;go_wp2;go_loopw[1] (fun v wr=>∃(d n':Nat) (ys:List N5),v=vI (d:Int)/\d<xs.length/\n'+2*d<=n+2*c/\ys.length=xs.length/\kM wr base p q mb n' cap ys/\ys.Perm xs/\eG.wZ (gG ys) ys.length d/\aH (sD p q mb) w wr) (fun v _=>(intOf v).toNat)
 case atStart=>exact⟨c,n,xs,rfl,hc,by omega,rfl,H.out.1,List.Perm.refl _,H.out.2,aH.refl _ _⟩
 case round=>
  obtain⟨d,n',ys,rfl,hd,PH,hle,hp,mH,hu,hk⟩:=hrel;rcases d with _|e
  ·have KE:Hid (kM wr base p q mb n' cap ys/\ys.Perm xs/\eG.Hp (gG ys) ys.length/\aH (sD p q mb) w wr):=⟨hp,mH,hu.done (.inl rfl),hk⟩
   clear hp mH hu hk;have d0:decide ((0:Int)<((0:Nat):Int))=false:=by simp
   go_wp2;refine bodyPost_end (v:=.tuple #[]) (by simp[results,Tryz.results172,go_sem]) rfl ⟨rfl,n',ys,by omega,KE.out.1,KE.out.2.1,KE.out.2.2.1,KE.out.2.2.2⟩
  ·have d0:decide ((0:Int)<((e+1:Nat):Int))=true:=by simp
   obtain⟨x,hx⟩:∃x,ys[e+1]?=some x:=⟨_,List.getElem?_eq_getElem (by omega)⟩
   obtain⟨y,hy⟩:∃y,ys[e/2]?=some y:=⟨_,List.getElem?_eq_getElem (by omega)⟩
   have c1:=rR wr base p q mb n' cap ys (e+1) (e/2) x y hp hx hy;have KA:Hid (kM wr base p q mb n' cap ys/\ys.Perm xs/\eG.wZ (gG ys) ys.length (e+1)/\aH (sD p q mb) w wr/\ys[e+1]?=some x/\ys[e/2]?=some y/\ys.length=xs.length):=⟨hp,mH,hu,hk,hx,hy,hle⟩
   have eA:rk x.b x.e=gG ys (e+1):=(ku hx).symm;have Wp:rk y.b y.e=gG ys (e/2):=(ku hy).symm;rw[eA,Wp]at c1;clear hp mH hu hk hx hy hle eA Wp;by_cases aN:gG ys (e+1)<gG ys (e/2)
   ·have dl:decide (gG ys (e+1)<gG ys (e/2))=true:=by simpa using aN
    rw[dl]at c1;have RH:=aB aN;have ea:((e+1:Nat):Int)=(e:Int)+1:=by omega
    have eb:((e/2:Nat):Int)=(e:Int)/2:=by omega
    rw[ea,eb]at c1;clear aN dl ea eb;go_wp2_with fail;refine c1.mono ?_;clear c1;rintro e' w1 ⟨rfl,b1⟩;have c2:=rT w1 base p q mb n' cap ys (e+1) (e/2) x y (KA.out.1.later b1) (by omega) (by have:=KA.out.2.2.2.2.2.2;omega) KA.out.2.2.2.2.1 KA.out.2.2.2.2.2.1;have ea:((e+1:Nat):Int)=(e:Int)+1:=by omega
    have eb:((e/2:Nat):Int)=(e:Int)/2:=by omega
    rw[ea,eb]at c2;have KB:Hid (Below wr.1.size wr w1):=b1;clear ea eb b1;go_wp2_with fail;refine c2.mono ?_;clear c2;rintro e' w2 ⟨rfl,p2,k2⟩;have KE:Hid (kM w2 base p q mb (n'+1+1) cap ((ys.set (e+1) y).set (e/2) x)/\aH (sD p q mb) w w2):=⟨p2,(KA.out.2.2.2.1.trans (aH.dK KB.out)).trans k2⟩
    clear p2 k2;go_wp2;obtain⟨f1,f2,f3,f4,f5,f6,f7⟩:=KA.out;refine⟨⟨e/2,n'+1+1,(ys.set (e+1) y).set (e/2) x,by simp,by omega,by omega,by simpa using f7,KE.out.1,(eG.set_set_perm ys (e+1) (e/2) x y f5 f6).trans f2,?_,KE.out.2⟩,by simp[intOf];omega⟩;have fO:=f3.step (by omega) (by omega) (by simpa using RH.out);rw[show(e+1-1)/2=e/2 by omega]at fO;have MU:gG ((ys.set (e+1) y).set (e/2) x)=eG.La (gG ys) (e+1) (e/2):=funext fun k=>zI f5 f6 k
    rw[MU];simpa using fO
   ·have dl:decide (gG ys (e+1)<gG ys (e/2))=false:=by simpa using aN
    rw[dl]at c1;have KE:Hid (eG.Hp (gG ys) ys.length):=KA.out.2.2.1.done (.inr (by simp at aN ⊢;omega));have ea:((e+1:Nat):Int)=(e:Int)+1:=by omega
    have eb:((e/2:Nat):Int)=(e:Int)/2:=by omega
    rw[ea,eb]at c1;clear aN dl ea eb;go_wp2_with fail;refine c1.mono ?_;clear c1;rintro e' w1 ⟨rfl,b1⟩;have KB:Hid (Below wr.1.size wr w1):=b1;clear b1;go_wp2;refine bodyPost_ret (v:=.tuple #[]) (by simp[results,Tryz.results172,go_sem]) rfl ⟨rfl,n',ys,by omega,KA.out.1.later KB.out,KA.out.2.1,KE.out,KA.out.2.2.2.1.trans (aH.dK KB.out)⟩
end tx
namespace tx
theorem Hd(w:World)(base p q mb n cap:Nat)(xs:List N5)(h:kM w base p q mb n cap xs)(hn:n<=10000)(hl:xs.length<=1000)(hu:eG.pz (gG xs) xs.length 0):
  Calls Tryz.prog 257 #[.pointer (some ⟨p,0,none⟩),vI 0] w fun e w'=>e=.returned (.tuple #[])/\∃n' ys,n'<=n+2*xs.length/\kM w' base p q mb n' cap ys/\ys.Perm xs/\eG.Hp (gG ys) ys.length/\aH (sD p q mb) w w':=by
 have H:Hid (kM w base p q mb n cap xs/\eG.pz (gG xs) xs.length 0):=⟨h,hu⟩
 clear h hu;go_enter Tryz.func257,Tryz.ntmps257;go_wp2;go_loopw[1] (fun v wr=>∃(d n':Nat) (ys:List N5),v=vI (d:Int)/\(d<xs.length\/d=0)/\n'<=n+2*d/\ys.length=xs.length/\kM wr base p q mb n' cap ys/\ys.Perm xs/\eG.pz (gG ys) ys.length d/\aH (sD p q mb) w wr) (fun v _=>2000-(intOf v).toNat)
 case atStart=>exact⟨0,n,xs,rfl,.inr rfl,by omega,rfl,H.out.1,List.Perm.refl _,H.out.2,aH.refl _ _⟩
 case round=>
  obtain⟨d,n',ys,rfl,hd,PH,hle,hp,mH,hu,hk⟩:=hrel;have KA:Hid (kM wr base p q mb n' cap ys/\ys.Perm xs/\eG.pz (gG ys) ys.length d/\aH (sD p q mb) w wr/\ys.length=xs.length):=⟨hp,mH,hu,hk,hle⟩
  clear hp mH hu hk hle;have OG:d<=1000:=by omega
  go_wp2;generalize wr=W0 at *;go_loopw[4,5] (fun v4 v5 wr=>∃l b:Nat,v4=vI (l:Int)/\v5=vI (b:Int)/\2*d+1<=b/\b<=2*d+3/\Below W0.1.size W0 wr/\(l=d\/(2*d+1<=l/\l<b/\l<ys.length/\gG ys l<gG ys d))/\(∀j,2*d+1<=j->j<b->j<ys.length->gG ys l<=gG ys j)) (fun _ v5 _=>2*d+3-(intOf v5).toNat)
  case atStart=>exact⟨d,2*d+1,rfl,by simp,by omega,by omega,aJ,.inl rfl,fun j h1 h2=>by omega⟩
  case round=>
   obtain⟨l,b,rfl,rfl,Ep,ky,aF,F8,QT⟩:=hrel;have hlen:=KA.out.2.2.2.2;by_cases VJ:b<=2*d+2
   ·have db:decide ((b:Int)<=2*(d:Int)+2)=true:=by simp;omega
    have p0:=(KA.out.1.later aF).c0;rw[hlen]at p0;by_cases Lu:b<xs.length
    ·have dn:decide ((b:Int)<(xs.length:Int))=true:=by simp;omega
     have tV:l<ys.length:=by omega
     obtain⟨x,hx⟩:∃x,ys[b]?=some x:=⟨_,List.getElem?_eq_getElem (by omega)⟩
     obtain⟨y,hy⟩:∃y,ys[l]?=some y:=⟨_,List.getElem?_eq_getElem tV⟩
     have c1:=rR wr base p q mb n' cap ys b l x y (KA.out.1.later aF) hx hy;rw[(ku hx).symm,(ku hy).symm]at c1;have KB:Hid (Below W0.1.size W0 wr/\(l=d\/(2*d+1<=l/\l<b/\l<ys.length/\gG ys l<gG ys d))/\(∀j,2*d+1<=j->j<b->j<ys.length->gG ys l<=gG ys j)/\ys.length=xs.length):=⟨aF,F8,QT,hlen⟩
     clear hx hy aF F8 QT hlen tV;by_cases aN:gG ys b<gG ys l
     ·have dl:decide (gG ys b<gG ys l)=true:=by simpa using aN
      rw[dl]at c1;have RH:=aB aN;clear aN dl;go_wp2_with fail;refine c1.mono ?_;clear c1;rintro e' w1 ⟨rfl,b1⟩;have KC:Hid (Below W0.1.size W0 w1):=KB.out.1.trans (b1.mono KB.out.1.size);clear b1 p0;go_wp2;obtain⟨_,g1,g2,g3⟩:=KB.out;have g4:=RH.out;refine⟨⟨b,b+1,rfl,by simp,by omega,by omega,KC.out,.inr ⟨by omega,by omega,by omega,?_⟩,fun j h1 h2 h3=>?_⟩,by simp[intOf];omega⟩
      ·rcases g1 with rfl|g1
       ·exact g4
       ·have:=g1.2.2.2;omega
      ·by_cases e:j=b
       ·subst e;exact Int.le_refl _
       ·have:=g2 j h1 (by omega) h3;omega
     ·have dl:decide (gG ys b<gG ys l)=false:=by simpa using aN
      rw[dl]at c1;have RH:=aB aN;clear aN dl;go_wp2_with fail;refine c1.mono ?_;clear c1;rintro e' w1 ⟨rfl,b1⟩;have KC:Hid (Below W0.1.size W0 w1):=KB.out.1.trans (b1.mono KB.out.1.size);clear b1 p0;go_wp2;obtain⟨_,g1,g2,g3⟩:=KB.out;have g4:=RH.out;refine⟨⟨l,b+1,rfl,by simp,by omega,by omega,KC.out,?_,fun j h1 h2 h3=>?_⟩,by simp[intOf];omega⟩
      ·rcases g1 with g1|g1
       ·exact .inl g1
       ·exact .inr ⟨g1.1,by omega,g1.2.2.1,g1.2.2.2⟩
      ·by_cases e:j=b
       ·subst e;omega
       ·exact g2 j h1 (by omega) h3
    ·have dn:decide ((b:Int)<(xs.length:Int))=false:=by simp;omega
     have KB:Hid (Below W0.1.size W0 wr/\(l=d\/(2*d+1<=l/\l<b/\l<ys.length/\gG ys l<gG ys d))/\(∀j,2*d+1<=j->j<b->j<ys.length->gG ys l<=gG ys j)/\ys.length=xs.length):=⟨aF,F8,QT,hlen⟩
     clear aF F8 QT hlen;go_wp2;obtain⟨g0,g1,g2,g3⟩:=KB.out;refine⟨⟨l,b+1,rfl,by simp,by omega,by omega,g0,?_,fun j h1 h2 h3=>?_⟩,by simp[intOf];omega⟩
     ·rcases g1 with g1|g1
      ·exact .inl g1
      ·exact .inr ⟨g1.1,by omega,g1.2.2.1,g1.2.2.2⟩
     ·exact g2 j h1 (by omega) h3
   ·have db:decide ((b:Int)<=2*(d:Int)+2)=false:=by simp;omega
    have KB:Hid (Below W0.1.size W0 wr/\(l=d\/(2*d+1<=l/\l<=2*d+2/\l<ys.length/\gG ys l<gG ys d))/\(∀j,2*d+1<=j->j<=2*d+2->j<ys.length->gG ys l<=gG ys j)):=⟨aF,by
     rcases F8 with g|g
     ·exact .inl g
     ·exact .inr ⟨g.1,by omega,g.2.2.1,g.2.2.2⟩,fun j h1 h2 h3=>QT j h1 (by omega) h3⟩
    clear F8 QT aF Ep ky VJ;by_cases VR:l=d
    ·have ql:((l:Int)==(d:Int))=true:=by simp;omega
     have KE:Hid (eG.Hp (gG ys) ys.length):=KA.out.2.2.1.done (fun h1=>by have:=KB.out.2.2 (2*d+1) (by omega) (by omega) h1;rwa[VR]at this) (fun h1=>by have:=KB.out.2.2 (2*d+2) (by omega) (by omega) h1;rwa[VR]at this);have HD:Hid (d<xs.length\/d=0):=hd;clear VR hlen hd;go_wp2;obtain⟨f1,f2,f3,f4,f5⟩:=KA.out;have f6:=HD.out;refine bodyPost_ret (v:=.tuple #[]) (by simp[results,Tryz.results257,go_sem]) rfl ⟨rfl,n',ys,by omega,f1.later KB.out.1,f2,KE.out,f4.trans (aH.dK KB.out.1)⟩
    ·have ql:((l:Int)==(d:Int))=false:=by simp;omega
     have XQ:2*d+1<=l/\l<=2*d+2/\l<ys.length/\gG ys l<gG ys d:=KB.out.2.1.resolve_left VR;obtain⟨x,hx⟩:∃x,ys[d]?=some x:=⟨_,List.getElem?_eq_getElem (by omega)⟩
     obtain⟨y,hy⟩:∃y,ys[l]?=some y:=⟨_,List.getElem?_eq_getElem XQ.2.2.1⟩
     have c2:=rT wr base p q mb n' cap ys d l x y (KA.out.1.later KB.out.1) (by omega) (by omega) hx hy;have KX:Hid (ys[d]?=some x/\ys[l]?=some y/\2*d+1<=l/\l<=2*d+2/\l<ys.length/\gG ys l<gG ys d):=⟨hx,hy,XQ⟩
     clear hx hy XQ VR hlen;go_wp2_with fail;refine c2.mono ?_;clear c2;rintro e' w2 ⟨rfl,p2,k2⟩;have KE:Hid (kM w2 base p q mb (n'+1+1) cap ((ys.set d y).set l x)/\aH (sD p q mb) w w2):=⟨p2,(KA.out.2.2.2.1.trans (aH.dK KB.out.1)).trans k2⟩
     clear p2 k2;go_wp2;obtain⟨f1,f2,f3,f4,f5⟩:=KA.out;obtain⟨g1,g2,g3,g4,g5,g6⟩:=KX.out;refine⟨⟨l,n'+1+1,(ys.set d y).set l x,rfl,.inl (by omega),by omega,by simpa using f5,KE.out.1,(eG.set_set_perm ys d l x y g1 g2).trans f2,?_,KE.out.2⟩,by simp[intOf];omega⟩;have fO:=f3.step (l:=l) (by omega) g5 g6 (fun h1=>KB.out.2.2 _ (by omega) (by omega) h1) (fun h1=>KB.out.2.2 _ (by omega) (by omega) h1);have MU:gG ((ys.set d y).set l x)=eG.La (gG ys) d l:=funext fun k=>zI g1 g2 k
     rw[MU];simpa using fO
variable {W:World}{xs:List N5}
theorem aL.mM{V:World}{b o:Nat}{s:N5}(h:aL W b o s)(e:V.1[b]?=W.1[b]?):aL V b o s:=
 ⟨(World.cell?_of_block (a:=⟨b,o,none⟩) e).trans h.c0,(World.cell?_of_block (a:=⟨b,o+1,none⟩) e).trans h.c1,(World.cell?_of_block (a:=⟨b,o+2,none⟩) e).trans h.c2,(World.cell?_of_block (a:=⟨b,o+3,none⟩) e).trans h.c3,(World.cell?_of_block (a:=⟨b,o+4,none⟩) e).trans h.c4⟩
theorem kM.trunc{base p q mb n cap:Nat}(h:kM W base p q mb n cap xs)(m:Nat)(hm:m<=xs.length):kM (W.setCell ⟨p,0,none⟩ (.slice (some ⟨q,0,none⟩) m cap)) base p q mb n cap (xs.take m):=by
 have J3:(xs.take m).length=m:=by rw[List.length_take];omega
 have hq:(W.setCell ⟨p,0,none⟩ (.slice (some ⟨q,0,none⟩) m cap)).1[q]?=W.1[q]?:=Below.heap_setCell _ _ _ _ (fun e=>h.pq e.symm);refine⟨by rw[J3];exact az h.c0,(ae (by omega)).trans h.c1,fun j=>by rw[World.frozen?_setCell];exact h.fz j,fun i s e=>?_,fun j hj=>?_,by have:=h.cp;omega,h.mp.aj (Below.heap_setCell _ _ _ _ (fun e=>h.pm e.symm)),fun s hs=>h.ok s (List.mem_of_mem_take hs),h.pq,h.pm,h.qm,h.bp,h.bq,h.bm,by simpa[World.setCell]using h.lp,by simpa[World.setCell]using h.lq⟩
 ·rw[List.getElem?_take]at e;split at e
  ·exact(h.at_.aj hq) i s e
  ·cases e
 ·exact(h.rm.aj hq) j (by rw[J3]at hj;have:m*5<=xs.length*5:=Nat.mul_le_mul_right 5 hm;omega)
theorem Ty{m:Nat}{x y:N5}(hl:xs.length=m+1)(hx:xs[0]?=some x)(hy:xs[m]?=some y):((xs.set 0 y).set m x)[m]?=some x/\xs.Perm (x::((xs.set 0 y).set m x).take m):=by
 have h1:((xs.set 0 y).set m x)[m]?=some x:=by rw[List.getElem?_set_self (by simp;omega)]
 have h2:=eG.set_set_perm xs 0 m x y hx hy;have oX:((xs.set 0 y).set m x).length=m+1:=by simpa using hl
 refine⟨h1,h2.symm.trans ?_⟩;generalize (xs.set 0 y).set m x=zs at *
 have h3:zs=zs.take m++[x]:=by
  have e:zs.take (m+1)=zs:=List.take_of_length_le (by omega);have:=List.take_add_one (l:=zs) (i:=m);rw[h1,e]at this;simpa using this
 exact(List.Perm.of_eq h3).trans List.perm_append_comm
theorem He(w:World)(base p q mb n cap m:Nat)(xs:List N5)(x:N5)(h:kM w base p q mb n cap xs)(hn:n<=9000)(hl:xs.length=m+1)(QT:m<=100)(hx:xs[0]?=some x)(hu:eG.Hp (gG xs) xs.length):
  Calls Tryz.prog 236 #[.pointer (some ⟨p,0,none⟩)] w fun e w'=>e=.returned (.agg #[vI x.b,vI x.e,vI x.j,vI x.g,.bool x.i])/\∃n' ys,n'<=n+2+2*m/\kM w' base p q mb n' cap ys/\xs.Perm (x::ys)/\eG.Hp (gG ys) ys.length/\aH (sD p q mb) w w':=by
 obtain⟨y,hy⟩:∃y,xs[m]?=some y:=⟨_,List.getElem?_eq_getElem (by omega)⟩
 obtain⟨W0,eB⟩:∃W,W=w.alloc (.cells #[vI 0,vI 0,vI 0,vI 0,.bool false] 112):=⟨_,rfl⟩
 have b0:Below w.1.size w W0:=by rw[eB];exact aJ.alloc aR _
 have h0:=h.later b0;have zr:W0.1[w.1.size]?=some (.cells #[vI 0,vI 0,vI 0,vI 0,.bool false] 112 (0,0)):=by rw[eB];exact heap_alloc_new w _
 have p0:=h0.c0;rw[hl,eB]at p0;have oR:IntKind.i64.wrap (((m+1:Nat):Int)-1)=(m:Int):=by simp[IntKind.wrap,IntKind.bits,IntKind.signed];omega
 have c1:=rT W0 base p q mb n cap xs 0 m x y h0 (by omega) (by omega) hx hy;obtain⟨lY,nY⟩:=Ty hl hx hy
 have CR:eG.pz (gG (((xs.set 0 y).set m x).take m)) m 0:=by
  rw[hl]at hu;have hd:=eG.pz.TM hu;have MU:gG ((xs.set 0 y).set m x)=eG.La (gG xs) 0 m:=funext fun k=>zI hx hy k
  rw[<-MU]at hd;refine hd.congr (fun i hi=>?_);unfold gG au;rw[List.getElem?_take,if_pos hi]
 have H:Hid (Below w.1.size w W0/\w.1.size<W0.1.size/\W0.1[w.1.size]?=some (.cells #[vI 0,vI 0,vI 0,vI 0,.bool false] 112 (0,0))/\((xs.set 0 y).set m x)[m]?=some x/\xs.Perm (x::((xs.set 0 y).set m x).take m)/\eG.pz (gG (((xs.set 0 y).set m x).take m)) m 0/\bn x=true/\p≠w.1.size/\q≠w.1.size/\mb≠w.1.size):=⟨b0,by rw[eB];simp,zr,lY,nY,CR,h.ok x (List.mem_of_getElem? hx),by have:=h.lp;omega,by have:=h.lq;omega,by have:=h.mp.lt;omega⟩
 have xu:((xs.set 0 y).set m x).length=m+1:=by simpa using hl
 clear h h0 b0 zr lY nY CR hu hx hy;generalize (xs.set 0 y).set m x=zs at *;go_enter Tryz.func236,Tryz.ntmps236;go_wp2_with fail;rw[<-eB];clear eB;refine c1.mono ?_;clear c1 p0;rintro e w1 ⟨rfl,p1,k1⟩;have e0:=p1.c0;rw[xu]at e0;obtain⟨t0,t1,t2,t3,t4⟩:=(show aL w1 q (m*5) x by simpa using p1.at_ m x H.out.2.2.2.1)
 have mx:(m:Int)<((m+1:Nat):Int):=by omega
 obtain⟨W1,ja⟩:∃W,W=w1.alloc (.cells #[vI x.b,vI x.e,vI x.j,vI x.g,.bool x.i] 112):=⟨_,rfl⟩
 have b1:Below w1.1.size w1 W1:=by rw[ja];exact aJ.alloc aR _
 have z1:W1.1.size=w1.1.size+1:=by rw[ja];simp
 have e1:W1.cell? ⟨p,0,none⟩=some (.slice (some ⟨q,0,none⟩) (m+1) cap):=(b1.cell (p:=⟨p,0,none⟩) p1.lp).trans e0;have f1:=(p1.later b1).fz 0;have yM:=p1.cp;rw[xu]at yM;have bx1:aL W1 w1.1.size 0 x:=by rw[ja];exact aL.box w1 x _
 have pt:=(p1.later b1).trunc m (by omega);obtain⟨W2,DK⟩:∃W,W=W1.setCell ⟨p,0,none⟩ (.slice (some ⟨q,0,none⟩) m cap):=⟨_,rfl⟩
 rw[<-DK]at pt;have Am:p≠w1.1.size:=by have:=p1.lp;omega
 have bk:aL W2 w1.1.size 0 x:=by
  rw[DK];exact aL.mM bx1 (Below.heap_setCell _ _ _ _ (fun e=>Am e.symm))
 have K2:Hid (kM W2 base p q mb (n+1+1) cap (zs.take m)/\aL W2 w1.1.size 0 x/\aH (sD p q mb) w W2/\w1.1.size<W2.1.size/\W2.1[w.1.size]?=some (.cells #[vI 0,vI 0,vI 0,vI 0,.bool false] 112 (0,0))/\w.1.size<w1.1.size/\p≠w1.1.size/\q≠w1.1.size/\mb≠w1.1.size):=by
  have kk:aH (sD p q mb) w1 W2:=by
   rw[DK];exact(aH.dK b1).trans (aH.rX _ _ (.inl rfl))
  have DL:¬sD p q mb w.1.size:=by
   rintro (e|e|e)
   ·exact H.out.2.2.2.2.2.2.2.1 e.symm
   ·exact H.out.2.2.2.2.2.2.2.2.1 e.symm
   ·exact H.out.2.2.2.2.2.2.2.2.2 e.symm
  have eW:=k1.trans kk;exact⟨pt,bk,(aH.dK H.out.1).trans eW,by rw[DK];simp[World.setCell,z1],(eW.block _ H.out.2.1 DL).trans H.out.2.2.1,Nat.lt_of_lt_of_le H.out.2.1 k1.size,Am,by have:=p1.lq;omega,by have:=p1.mp.lt;omega⟩
 clear p1 k1 b1 z1 bx1 bk pt Am;rw[ja]at DK e1 f1;have dk:(m:Int)<=(cap:Int):=by omega
 go_upto_region 5 with fail
 rw[<-DK];clear DK ja e0 e1 f1 t0 t1 t2 t3 t4 W1;have hk:=fP H.out.2.2.2.2.2.2.1;obtain⟨lb,Jb⟩:∃lb,lb=w1.1.size:=⟨_,rfl⟩
 rw[<-Jb]at K2 ⊢;have nw:Hid (lb=w1.1.size):=Jb;clear Jb;have hS:(fun X:World=>X.cell? ⟨p,1,none⟩=some (.map (some mb))/\aL X lb 0 x) W2.drew:=⟨K2.out.1.c1,K2.out.2.1.below ((Below.refl W2.1.size W2).drew) K2.out.2.2.2.1⟩
 have hm:∀w:World,(method 454 112 (.agg #[vI x.b,vI x.e,vI x.j,vI x.g,.bool x.i]) "loop.example/g00153/impl.cell").run Tryz.prog w=.ok (209,.agg #[vI x.b,vI x.e,vI x.j,vI x.g,.bool x.i]) w:=fun _=>by kernel_rfl
 refine bu (fun _=>false) (fun X:World=>X.cell? ⟨p,1,none⟩=some (.map (some mb))/\aL X lb 0 x) (by kernel_rfl) ?_;have KD:Hid (Below W2.1.size W2 W2.drew):=aJ.drew;generalize W2.drew=Wd at *;refine cz 0 ?_ rfl ?_ hS ?_;rotate_left
 ·(intro w _;go_simp;first|done|with_reducible rfl|(rw[if_pos (by omega)])|(rw[if_pos (by omega)];go_simp))
 simp only[Act.put];refine cz 1 ?_ rfl ?_ hS ?_;rotate_left
 ·(intro w _;go_simp;first|done|with_reducible rfl|(rw[if_pos (by omega)])|(rw[if_pos (by omega)];go_simp))
 simp only[Act.put];refine cz 2 ?_ rfl ?_ hS ?_;rotate_left
 ·(intro w _;go_simp;first|done|with_reducible rfl|(rw[if_pos (by omega)])|(rw[if_pos (by omega)];go_simp))
 simp only[Act.put];refine jg 3 ?_ rfl ?_ hS ?_;rotate_left
 ·(intro w aG;obtain⟨s1,⟨a0,a1,a2,a3,a4⟩⟩:=aG;go_simp;first|done|with_reducible rfl)
 simp only[Act.put];refine jg 4 ?_ rfl ?_ hS ?_;rotate_left
 ·(intro w aG;obtain⟨s1,⟨a0,a1,a2,a3,a4⟩⟩:=aG;go_simp;first|done|with_reducible rfl)
 simp only[Act.put];refine cz 5 ?_ rfl ?_ hS ?_;rotate_left
 ·(intro w _;go_simp;first|done|with_reducible rfl|(rw[if_pos (by omega)])|(rw[if_pos (by omega)];go_simp))
 simp only[Act.put];refine cZ 6 rfl (fun K hK=>?_);go_simp;refine(gI Wd x).mono ?_;rintro e X2 ⟨rfl,b2⟩;have bX:Below W2.1.size W2 X2:=KD.out.trans (b2.mono KD.out.size);have P2:=K2.out.1.later bX;obtain⟨Y,fO,BH,uU,DR⟩:=P2.mp.drop hk.1 hk.2 0;have P3:=P2.Oc uU BH DR;have iD:(fun X:World=>X.cell? ⟨p,1,none⟩=some (.map (some mb))/\aL X lb 0 x) X2:=⟨P2.c1,K2.out.2.1.below bX K2.out.2.2.2.1⟩
 have K3:Hid (kM Y base p q mb (n+1+1) cap (zs.take m)/\aL Y lb 0 x/\aH (sD p q mb) w Y/\lb<Y.1.size/\Y.1[w.1.size]?=some (.cells #[vI 0,vI 0,vI 0,vI 0,.bool false] 112 (0,0))/\w.1.size<lb/\p≠lb/\q≠lb/\mb≠lb):=by
  obtain⟨_,g1,g2,g3,g4,g5,g6,g7,g8⟩:=K2.out;have bC:=bX.size;refine⟨P3,aL.mM (iD.2) (uU.block lb (by omega) (Ne.symm g8)),(g2.trans (aH.dK bX)).trans (aH.vV uU (.inr (.inr rfl))),by rw[DR];omega,?_,g5,g6,g7,g8⟩;exact(uU.block _ (by omega) (fun e=>H.out.2.2.2.2.2.2.2.2.2 e.symm)).trans ((bX.block _ (by omega)).trans g4)
 simp only[jV]at fO;refine hK.out _ _ (fun _=>iD) ?_;have jo:(fun X:World=>X.cell? ⟨p,1,none⟩=some (.map (some mb))/\aL X lb 0 x) Y:=⟨K3.out.1.c1,K3.out.2.1⟩
 clear hK K iD hS P2 P3 bX KD BH uU DR hm hk b2 K2;refine cZ 7 rfl (fun K hK=>?_);go_simp;refine hK.out _ _ (fun _=>jo) ?_;clear hK K fO jo;refine dL (by kernel_rfl) ?_ _;have aN:(zs.take m).length=m:=by rw[List.length_take];omega
 have c3:=Hd Y base p q mb (n+1+1) cap (zs.take m) K3.out.1 (by omega) (by omega) (by rw[aN];exact H.out.2.2.2.2.2.1);rw[aN]at c3;have RH:=aB aN;clear aN;go_wp2_with fail;refine c3.mono ?_;clear c3;rintro e w5 ⟨rfl,n5,ys,lO,p5,fi,yS,k5⟩;have ZK:∀b,b≠p->b≠q->b≠mb->¬sD p q mb b:=fun b h1 h2 h3 h=>by rcases h with h|h|h;exact h1 h;exact h2 h;exact h3 h
 obtain⟨_,g1,g2,g3,g4,g5,g6,g7,g8⟩:=K3.out;obtain⟨t0,t1,t2,t3,t4⟩:=aL.mM g1 (k5.block lb g3 (ZK lb (Ne.symm g6) (Ne.symm g7) (Ne.symm g8)));have Oq:=(k5.block w.1.size (by omega) (ZK _ (Ne.symm H.out.2.2.2.2.2.2.2.1) (Ne.symm H.out.2.2.2.2.2.2.2.2.1) (Ne.symm H.out.2.2.2.2.2.2.2.2.2))).trans g4;have r0:w5.cell? ⟨w.1.size,0,none⟩=some (vI 0):=by rw[cell_of_row w5 _ 0 _ _ _ Oq];rfl
 have r1:w5.cell? ⟨w.1.size,1,none⟩=some (vI 0):=by rw[cell_of_row w5 _ 1 _ _ _ Oq];rfl
 have r2:w5.cell? ⟨w.1.size,2,none⟩=some (vI 0):=by rw[cell_of_row w5 _ 2 _ _ _ Oq];rfl
 have r3:w5.cell? ⟨w.1.size,3,none⟩=some (vI 0):=by rw[cell_of_row w5 _ 3 _ _ _ Oq];rfl
 have r4:w5.cell? ⟨w.1.size,4,none⟩=some (.bool false):=by rw[cell_of_row w5 _ 4 _ _ _ Oq];rfl
 have q0:w5.frozen? ⟨w.1.size,0,none⟩=false:=frozen_of_row w5 _ 0 _ _ Oq;have q1:w5.frozen? ⟨w.1.size,1,none⟩=false:=frozen_of_row w5 _ 1 _ _ Oq;have q2:w5.frozen? ⟨w.1.size,2,none⟩=false:=frozen_of_row w5 _ 2 _ _ Oq;have q3:w5.frozen? ⟨w.1.size,3,none⟩=false:=frozen_of_row w5 _ 3 _ _ Oq;have q4:w5.frozen? ⟨w.1.size,4,none⟩=false:=frozen_of_row w5 _ 4 _ _ Oq;have KE:Hid (n5<=n+2+2*m/\kM w5 base p q mb n5 cap ys/\xs.Perm (x::ys)/\eG.Hp (gG ys) ys.length/\aH (sD p q mb) w w5):=⟨by omega,p5,H.out.2.2.2.2.1.trans (List.Perm.cons x fi.symm),yS,g2.trans k5⟩
 have HP:Hid (p≠w.1.size/\q≠w.1.size/\mb≠w.1.size):=H.out.2.2.2.2.2.2.2;simp only[Nat.zero_add]at t0 t1 t2 t3 t4;clear g1 g2 g3 g4 g5 g6 g7 g8 Oq ZK p5 fi yS k5 lO H K3 xu RH yM;go_wp2;refine bodyPost_ret (v:=.agg #[vI x.b,vI x.e,vI x.j,vI x.g,.bool x.i]) (by simp[results,Tryz.results236,go_sem,r0,r1,r2,r3,r4]) rfl ⟨rfl,n5,ys,KE.out.1,?_,KE.out.2.2.1,KE.out.2.2.2.1,?_⟩
 ·refine KE.out.2.1.aQ (by simp[World.setCell]) (fun b hb=>?_)
  have Lu:b≠w.1.size:=by
   rcases hb with rfl|rfl|rfl
   ·exact HP.out.1
   ·exact HP.out.2.1
   ·exact HP.out.2.2
  exact(Below.heap_setCell _ _ _ _ Lu).trans ((Below.heap_setCell _ _ _ _ Lu).trans ((Below.heap_setCell _ _ _ _ Lu).trans ((Below.heap_setCell _ _ _ _ Lu).trans (Below.heap_setCell _ _ _ _ Lu))))
 ·have kk:=KE.out.2.2.2.2;refine⟨kk.os,kk.tape,kk.output,by simpa[World.setCell]using kk.size,fun b hb Ak=>?_⟩;have Lu:b≠w.1.size:=by omega
  exact((Below.heap_setCell _ _ _ _ Lu).trans ((Below.heap_setCell _ _ _ _ Lu).trans ((Below.heap_setCell _ _ _ _ Lu).trans ((Below.heap_setCell _ _ _ _ Lu).trans (Below.heap_setCell _ _ _ _ Lu))))).trans (kk.block b hb Ak)
end tx
namespace tx
variable {x:N5}
def jH(s:N5):Int:=rk s.b s.e
def Ro:Value->Nat
 | .slice _ n _=>n
 | _=>0
theorem BR{xs:List N5}{i:Nat}(h:xs[i]?=some x):gG xs i=jH x:=ku h
theorem WX{ys:List N5}(h:eG.Hp (gG ys) ys.length)(hx:ys[0]?=some x):∀b∈ys,jH x<=jH b:=fun b hb=>by
 obtain⟨i,hi,rfl⟩:=List.getElem_of_mem hb;have:=h.top i hi;rwa[BR hx,BR (List.getElem?_eq_getElem hi)]at this
theorem A8(w:World)(base p q mb n cap:Nat)(xs:List N5)(h:kM w base p q mb n cap xs)(hn:n<=5000)(hl:xs.length<=13)(hu:eG.Hp (gG xs) xs.length)(hd:xs.Pairwise (fun a b=>jH a≠jH b)):
  Calls Tryz.prog 211 #[.pointer (some ⟨p,0,none⟩)] w fun e w'=>∃v out,e=.returned v/\eZ w' w.1.size v out/\out.Perm xs/\out.Pairwise (fun a b=>jH a<jH b)/\aH (sD p q mb) w w':=by
 have J4:p<w.1.size/\q<w.1.size/\mb<w.1.size:=⟨h.lp,h.lq,h.mp.lt⟩
 have H:Hid (kM w base p q mb n cap xs/\eG.Hp (gG xs) xs.length/\xs.Pairwise (fun a b=>jH a≠jH b)/\p<w.1.size/\q<w.1.size/\mb<w.1.size):=⟨h,hu,hd,J4⟩
 clear h hu hd J4;go_enter Tryz.func211,Tryz.ntmps211;go_wp2;go_loopw[3] (fun v wr=>∃(n':Nat) (ys out:List N5),eZ wr w.1.size v out/\kM wr base p q mb n' cap ys/\eG.Hp (gG ys) ys.length/\(out++ys).Perm xs/\out.Pairwise (fun a b=>jH a<jH b)/\(∀a∈out,∀b∈ys,jH a<jH b)/\n'+60*ys.length<=n+60*xs.length/\aH (sD p q mb) w wr) (fun v _=>100-Ro v)
 case atStart=>exact⟨n,xs,[],eZ.nil _ _,H.out.1,H.out.2.1,by simp,by simp,by simp,Nat.le_refl _,aH.refl _ _⟩
 case round=>
  obtain⟨n',ys,out,kH,hp,hu,mH,XV,aN,PH,hk⟩:=hrel;obtain⟨a3,k3,rfl,-⟩:=kH.form;have hlen:out.length+ys.length=xs.length:=by have:=mH.length_eq;simpa using this
  have p0:=hp.c0
  cases Q9:ys with
  | nil=>
   subst Q9;have KE:Hid (eZ wr w.1.size (.slice a3 out.length k3) out/\out.Perm xs/\out.Pairwise (fun a b=>jH a<jH b)/\aH (sD p q mb) w wr):=⟨kH,by simpa using mH,XV,hk⟩
   simp only[List.length_nil]at p0;clear kH hp hu mH XV aN hk hlen PH;go_wp2;go_ret;exact⟨_,out,rfl,KE.out.1,KE.out.2.1,KE.out.2.2.1,KE.out.2.2.2⟩
  | cons x r=>
   have hx:ys[0]?=some x:=by rw[Q9];rfl
   have WE:ys.length=r.length+1:=by rw[Q9];rfl
   have c1:=He wr base p q mb n' cap r.length ys x hp (by omega) WE (by omega) hx hu;rw[WE]at p0;have d0:decide ((0:Int)<((r.length+1:Nat):Int))=true:=by simp
   have QM:(out++ys).Pairwise (fun a b=>jH a≠jH b):=(mH.symm.pairwise_iff (fun {a b} (h:jH a≠jH b)=>h.symm)).1 H.out.2.2.1;have KA:Hid (eZ wr w.1.size (.slice a3 out.length k3) out/\(out++ys).Perm xs/\out.Pairwise (fun a b=>jH a<jH b)/\(∀a∈out,∀b∈ys,jH a<jH b)/\aH (sD p q mb) w wr/\(∀b∈ys,jH x<=jH b)/\x∈ys/\(out++ys).Pairwise (fun a b=>jH a≠jH b)/\ys.length=r.length+1):=⟨kH,mH,XV,aN,hk,WX hu hx,List.mem_of_getElem? hx,QM,WE⟩
   clear kH hp hu mH XV aN hk hx QM Q9;go_wp2_with fail;refine c1.mono ?_;clear c1 p0;rintro e w1 ⟨rfl,n1,zs,QW,p1,U6,OL,k1⟩;obtain⟨g1,g2,g3,g4,g5,g6,g7,g8,g9⟩:=KA.out
   have SN:∀b,w.1.size<=b->¬sD p q mb b:=fun b hb h=>by
    obtain⟨_,_,_,l1,l2,l3⟩:=H.out;rcases h with h|h|h<;>omega
   have nK:eZ w1 w.1.size (.slice a3 out.length k3) out:=g1.aQ (fun b hb aN _=>k1.block b aN (SN b hb));obtain⟨V,hV⟩:∃V,V=w1.alloc (.cells #[vI x.b,vI x.e,vI x.j,vI x.g,.bool x.i] 112):=⟨_,rfl⟩
   have bV:Below w1.1.size w1 V:=by rw[hV];exact aJ.alloc aR _
   have nu:bR V w1.1.size 0 [x]:=by rw[hV];exact(aL.box w1 _ _).one
   have Wx:w.1.size<=w1.1.size:=Nat.le_trans g5.size k1.size;obtain⟨v',Y,hr,BI,iT,jd⟩:=rZ (nK.later bV) [x] (by simp;omega) 47 w1.1.size 0 1 nu (by have:=bV.size;omega);have xu:zs.length=r.length:=by have:=U6.length_eq;simp at this;omega
   have eM:∀b∈zs,jH x<jH b:=fun b hb=>by
    have h1:=g6 b (U6.mem_iff.2 (by simp[hb]));have h2:(x::zs).Pairwise (fun a b=>jH a≠jH b):=(U6.pairwise_iff (fun {a b} (h:jH a≠jH b)=>h.symm)).1 ((List.pairwise_append.1 g8).2.1);have h3:=(List.pairwise_cons.1 h2).1 b hb;omega
   have kY:aH (sD p q mb) w Y:=by
    have k0:aH (sD p q mb) w V:=(g5.trans k1).trans (aH.dK bV);exact⟨iT.os.trans k0.os,iT.tape.trans k0.tape,iT.output.trans k0.output,Nat.le_trans k0.size iT.size,fun b hb Ak=>(iT.block b (Nat.lt_of_lt_of_le hb k0.size) (fun e=>by have:=(nK.lt e.symm).1;omega)).trans (k0.block b hb Ak)⟩
   have KE:Hid (eZ Y w.1.size v' (out++[x])/\kM Y base p q mb n1 cap zs/\eG.Hp (gG zs) zs.length/\((out++[x])++zs).Perm xs/\(out++[x]).Pairwise (fun a b=>jH a<jH b)/\(∀a∈out++[x],∀b∈zs,jH a<jH b)/\n1+60*zs.length<=n+60*xs.length/\aH (sD p q mb) w Y):=by
    refine⟨BI,?_,OL,?_,?_,?_,by omega,kY⟩
    ·refine(p1.later bV).aQ iT.size (fun b hb=>iT.block b ?_ (fun e=>?_))
     ·have:=bV.size;rcases hb with rfl|rfl|rfl
      ·have:=p1.lp;omega
      ·have:=p1.lq;omega
      ·have:=p1.mp.lt;omega
     ·exact SN b (nK.lt e.symm).1 hb
    ·rw[List.append_assoc];exact((List.Perm.refl out).append (U6.symm:(x::zs).Perm ys)).trans g2
    ·rw[List.pairwise_append];exact⟨g3,by simp,fun a ha b hb=>by simp at hb;subst hb;exact g4 a ha b g7⟩
    ·intro a ha b hb;rcases List.mem_append.1 ha with ha|ha
     ·exact g4 a ha b (U6.mem_iff.2 (by simp[hb]))
     ·simp at ha;subst ha;exact eM b hb
   have HL:Hid (out.length<13/\∃a c,v'=.slice a (out++[x]).length c):=⟨by omega,by obtain⟨a,c,e,_⟩:=BI.form;exact⟨a,c,e⟩⟩
   rw[hV]at hr;clear hV bV nu BI iT jd nK SN xu eM kY g1 g2 g3 g4 g5 g6 g7 g8 g9 p1 U6 OL k1 Wx;simp only[List.length_cons,List.length_nil,Nat.zero_add]at hr;go_wp2_with (at_builtin;refine eO _ rfl (.tmp 10) (.tmp 13) 47 rfl _ _ _ _ rfl rfl hr ?_);obtain⟨g1,a,c,rfl⟩:=HL.out;exact⟨⟨n1,zs,out++[x],KE.out⟩,by simp[Ro];omega⟩
end tx
end Go.Proofs.YtalnmfefmiapoaaGreatDoor
