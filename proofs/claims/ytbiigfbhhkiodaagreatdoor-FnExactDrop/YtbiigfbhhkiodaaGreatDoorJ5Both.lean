import Derived.Test.YtbiigfbhhkiodaaGreatDoorJ4Both
import Derived.DeepKeys4
set_option maxHeartbeats 16000000
set_option maxRecDepth 100000
namespace Go.Proofs.YtbiigfbhhkiodaaGreatDoor
open Go.RowKit
open Go.Sort (grow)
section
open Go.Proofs.Tryz
theorem Ed(w:World)(a1:OA)(c1:Nat)(a2:OA)(c2:Nat)(a3:OA)(c3:Nat)(k:C6)(i:Nat)(hi:i<k.aa.length)(h:df.Rd w a1 c1 a2 c2 a3 c3 k):Calls prog 109 #[.agg #[vI k.v,vI k.u,.slice a1 k.f.length c1,.slice a2 k.aa.length c2,.slice a3 k.c.length c3,.bool k.w],vI (i:Int)] w fun e w'=>e=.returned (.bool (bC k.aa i).x)/\Below w.1.size w w':=by
 obtain⟨W,hW⟩:∃Y,Y=w.alloc (.cells #[vI k.v,vI k.u,.slice a1 k.f.length c1,.slice a2 k.aa.length c2,.slice a3 k.c.length c3,.bool k.w] 32):=⟨_,rfl⟩
 have bW:Below w.1.size w W:=by rw[hW];exact aK.alloc aU _
 have p3:W.cell? ⟨w.1.size,3,none⟩=some (.slice a2 k.aa.length c2):=by rw[hW];go_simp
 rcases(h.later bW).m with h0|⟨b,off,rfl,hb,iw⟩
 ·rw[h0]at hi;simp at hi
 obtain⟨⟨m0,m1,m2,m3,m4,m5⟩,lu,-⟩:=iw i _ (iT hi);have e0:W.cell? ⟨b,off+i*4,none⟩=some (.bool (bC k.aa i).x):=lu 0 _ rfl;have e1:W.cell? ⟨b,off+i*4+1,none⟩=some (.slice m0 (bC k.aa i).ag.length m1):=lu 1 _ rfl;have e2:W.cell? ⟨b,off+i*4+2,none⟩=some (.slice m2 (bC k.aa i).h.length m3):=lu 2 _ rfl;have e3:W.cell? ⟨b,off+i*4+3,none⟩=some (.slice m4 (bC k.aa i).ax.length m5):=lu 3 _ rfl;have d0:decide (0<=(i:Int))=true:=by simp
 have d1:decide ((i:Int)<(k.aa.length:Int))=true:=by simp;omega
 have i0:0<=(i:Int):=by omega
 have i1:(i:Int)<(k.aa.length:Int):=by omega
 have BW:Hid (Below w.1.size w W):=bW;rw[hW]at p3 e0 e1 e2 e3;have Zo:=qX W m0 m1 m2 m3 m4 m5 (bC k.aa i);clear bW h iw lu hb
 have AG:∀(a:OA) (n c:Nat) (w:World),(method 458 263 (.agg #[.slice a n c]) "loop.example/g00153/impl.lives").run prog w=.ok (316,.agg #[.slice a n c]) w:=fun _ _ _ _=>by kernel_rfl
 have AF:∀w:World,(method 458 265 (.agg #[]) "loop.example/g00153/impl.lives").run prog w=.ok (318,.agg #[]) w:=fun _=>by kernel_rfl
 go_enter func109,ntmps109;go_wp2_with fail;rw[<-hW];clear hW;refine Zo.mono ?_;clear Zo;rintro e w1 ⟨rfl,b1⟩;have B1:=af (au BW.out b1);clear b1 p3 e0 e1 e2 e3;unfold oJ
 cases ha:(bC k.aa i).x with
 | true=>
  simp only[if_true];go_wp2_with fail;refine(Ct w1 m0 (bC k.aa i).ag.length m1).mono ?_;rintro e w2 ⟨rfl,b2⟩;have B2:=af (au B1.out b2);clear b2;go_wp2;go_ret;exact⟨by rw[ha];rfl,B2.out⟩
 | false=>
  simp only[Bool.false_eq_true,if_false];go_wp2_with fail;refine(Cs w1).mono ?_;rintro e w2 ⟨rfl,b2⟩;have B2:=af (au B1.out b2);clear b2;go_wp2;go_ret;exact⟨by rw[ha];rfl,B2.out⟩
end
section
open Go.Proofs.Tryz
theorem yE(w:World)(a1:OA)(c1:Nat)(a2:OA)(c2:Nat)(a3:OA)(c3:Nat)(k:C6)(hl:df.L k)(h:df.Rd w a1 c1 a2 c2 a3 c3 k):Calls prog 45 #[.agg #[vI k.v,vI k.u,.slice a1 k.f.length c1,.slice a2 k.aa.length c2,.slice a3 k.c.length c3,.bool k.w]] w fun e w'=>e=.returned (.bool (aD k))/\Below w.1.size w w':=by
 obtain⟨U,hU⟩:=bO (w.alloc (.cells #[vI k.v,vI k.u,.slice a1 k.f.length c1,.slice a2 k.aa.length c2,.slice a3 k.c.length c3,.bool k.w] 32));have b0:Below w.1.size w U:=by rw[hU];exact aK.alloc aU _
 have FA:Hid (Bx U w.1.size (dU a1 c1 a2 c2 a3 c3 k)):=by rw[hU];exact Bx.made w (dU a1 c1 a2 c2 a3 c3 k) _
 have HR:=dw (h.later b0) hl;have BW:=af (b0);have lm:=hl.m;have lt:=hl.t;have lp:=hl.p;unfold maxLen at lm lt lp;have p0:=FA.out.1 0 _ rfl;have p1:=FA.out.1 1 _ rfl;have p2:=FA.out.1 2 _ rfl;have p3:=FA.out.1 3 _ rfl;have p4:=FA.out.1 4 _ rfl;clear b0 hl h;by_cases g0:aW 1 1000000 k.v=true
 case neg=>
  have d0:aW 1 1000000 k.v=false:=by simpa using g0
  have hb:aD k=false:=by simp[aD,d0]
  rw[hb];rw[hU]at BW p0 p1 p2 p3 p4;clear FA HR hU;go_enter func45,ntmps45;go_wp2_with (first|(go_at_call 84;refine(tx.iG _ _).mono ?_;rintro e w' ⟨rfl,rfl⟩)|(go_at_call 77;refine(fw _ _ _ _).mono ?_;rintro e w' ⟨rfl,rfl⟩));go_ret;exact⟨rfl,BW.out⟩
 by_cases g1:aW 0 1000000 k.u=true
 case neg=>
  have d1:aW 0 1000000 k.u=false:=by simpa using g1
  have hb:aD k=false:=by simp[aD,d1]
  rw[hb];rw[hU]at BW p0 p1 p2 p3 p4;clear FA HR hU;go_enter func45,ntmps45;go_wp2_with (first|(go_at_call 84;refine(tx.iG _ _).mono ?_;rintro e w' ⟨rfl,rfl⟩)|(go_at_call 77;refine(fw _ _ _ _).mono ?_;rintro e w' ⟨rfl,rfl⟩));go_ret;exact⟨rfl,BW.out⟩
 by_cases g2:1<=k.aa.length
 case neg=>
  have d2:decide ((k.aa.length:Int)<1)=true:=by simp;omega
  have hb:aD k=false:=by simp[aD,g2]
  rw[hb];rw[hU]at BW p0 p1 p2 p3 p4;clear FA HR hU;go_enter func45,ntmps45;go_wp2_with (first|(go_at_call 84;refine(tx.iG _ _).mono ?_;rintro e w' ⟨rfl,rfl⟩)|(go_at_call 77;refine(fw _ _ _ _).mono ?_;rintro e w' ⟨rfl,rfl⟩));go_ret;exact⟨rfl,BW.out⟩
 have d2:decide ((k.aa.length:Int)<1)=false:=by simp;omega
 by_cases g3:k.aa.length<=8
 case neg=>
  have d3:decide ((8:Int)<(k.aa.length:Int))=true:=by simp;omega
  have hb:aD k=false:=by simp[aD,g3]
  rw[hb];rw[hU]at BW p0 p1 p2 p3 p4;clear FA HR hU;go_enter func45,ntmps45;go_wp2_with (first|(go_at_call 84;refine(tx.iG _ _).mono ?_;rintro e w' ⟨rfl,rfl⟩)|(go_at_call 77;refine(fw _ _ _ _).mono ?_;rintro e w' ⟨rfl,rfl⟩));go_ret;exact⟨rfl,BW.out⟩
 have d3:decide ((8:Int)<(k.aa.length:Int))=false:=by simp;omega
 have BF:Hid (∀V,Below U.1.size U V->Below w.1.size w V):=fun V hV=>au BW.out hV
 have hc:=zD U a1 k.f.length c1 k.f HR.out.2.p HR.out.1.p;rw[hU]at p0 p1 p2 p3 p4;clear BW;go_enter func45,ntmps45;go_wp2_with (first|(go_at_call 84;refine(tx.iG _ _).mono ?_;rintro e w' ⟨rfl,rfl⟩)|(go_at_call 77;refine(fw _ _ _ _).mono ?_;rintro e w' ⟨rfl,rfl⟩));rw[<-hU];clear hU p0 p1 p2 p3 p4;refine hc.mono ?_;clear hc;rintro e w1 ⟨rfl,b1⟩;have B1:=tx.af b1;clear b1;have p4:=(FA.out.later B1.out).1 4 _ rfl
 cases hP:dZ k.f with
 | false=>
  have hb:Hid (aD k=false):=by unfold Hid;simp[aD,hP]
  go_wp2;go_ret;exact⟨by rw[hb.out];rfl,BF.out _ B1.out⟩
 | true=>
 by_cases g5:k.c.length<=60
 case neg=>
  have d5:decide ((60:Int)<(k.c.length:Int))=true:=by simp;omega
  have hb:Hid (aD k=false):=by unfold Hid;simp[aD,g5]
  go_wp2;go_ret;exact⟨by rw[hb.out];rfl,BF.out _ B1.out⟩
 have d5:decide ((60:Int)<(k.c.length:Int))=false:=by simp;omega
 have HC:Hid (aD k=(jP k.aa&&jw k.f k.aa&&uT k)):=by unfold Hid;simp[aD,g0,g1,g2,g3,hP,g5]
 have HZ:Hid (∀r j,r<k.f.length->j<(eU k.f r).length->0<=fC (eU k.f r) j/\fC (eU k.f r) j<=7):=fun r j hr hj=>Dj hP hr hj
 clear g0 g1 hP;go_wp2;clear p4 d2 d3 d5;go_loopw[4] (fun v4 wr=>∃i:Nat,i<=k.aa.length/\v4=vI i/\Below U.1.size U wr/\(List.range i).all (fun i=>fF (bC k.aa i))=true) (fun v4 _=>k.aa.length-(intOf v4).toNat)
 case atStart=>exact⟨0,Nat.zero_le _,rfl,B1.out,rfl⟩
 case round=>
 obtain⟨i,hi,rfl,aB,aQ⟩:=hrel;have KB:=dw aB aQ;clear aB aQ;by_cases aN:i<k.aa.length
 case pos=>
  have hd:=iT aN;rcases HR.out.1.m with hs|⟨b,off,rfl,hb,h1⟩
  ·rw[hs]at aN;simp at aN
  obtain⟨⟨m0,m1,m2,m3,m4,m5⟩,bg,iw⟩:=h1 i _ hd;have e0:=(KB.out.1.cell (p:=⟨b,off+i*4,none⟩) hb).trans (bg 0 _ rfl);have e1:=(KB.out.1.cell (p:=⟨b,off+i*4+1,none⟩) hb).trans (bg 1 _ rfl);have e2:=(KB.out.1.cell (p:=⟨b,off+i*4+2,none⟩) hb).trans (bg 2 _ rfl);have e3:=(KB.out.1.cell (p:=⟨b,off+i*4+3,none⟩) hb).trans (bg 3 _ rfl);have Km:=HR.out.2.ms _ (List.mem_of_getElem? hd);have hc:=yG wr ⟨m0,m1,m2,m3,m4,m5⟩ (bC k.aa i) Km.k Km.r Km.n Km.ks Km.rs (iN.later iw KB.out.1);simp only[MV.val]at hc;have p3:=(FA.out.later KB.out.1).1 3 _ rfl;have jn:(i:Int)<(k.aa.length:Int):=by omega
  clear bg iw h1 hd Km hb;go_wp2_with fail;refine hc.mono ?_;clear hc e0 e1 e2 e3 p3;rintro e w2 ⟨rfl,b2⟩;have K2:=af (au KB.out.1 b2);clear b2
  cases hB:fF (bC k.aa i)with
  | false=>
   have hb:Hid (aD k=false):=by unfold Hid;rw[HC.out];simp[jP,iR (f:=fun i=>fF (bC k.aa i)) aN hB]
   go_wp2;go_ret;exact⟨by rw[hb.out];rfl,BF.out _ K2.out⟩
  | true=>
   go_wp2;exact⟨⟨i+1,by omega,by simp,K2.out,kF KB.out.2 hB⟩,by simp[intOf];omega⟩
 obtain rfl:i=k.aa.length:=by omega
 have U7:decide ((k.aa.length:Int)<(k.aa.length:Int))=false:=by simp
 have FK:Hid (aD k=(jw k.f k.aa&&uT k)):=by unfold Hid;rw[HC.out,jP,KB.out.2];simp
 go_wp2;generalize wr=wA at *;clear U7;go_loopw[5] (fun v5 wr=>∃r:Nat,r<=k.f.length/\v5=vI r/\Below U.1.size U wr/\(List.range r).all (fun r=>l7 k.aa r (eU k.f r))=true) (fun v5 _=>k.f.length-(intOf v5).toNat)
 case atStart=>exact⟨0,Nat.zero_le _,rfl,KB.out.1,rfl⟩
 case round=>
 obtain⟨r,hr,rfl,aB,aQ⟩:=hrel;have KC:=dw aB aQ;clear aB aQ;have p2:=(FA.out.later KC.out.1).1 2 _ rfl;by_cases TF:r<k.f.length
 case pos=>
  obtain⟨_,Vh⟩:=HR.out.1.p;rcases Vh with Vh|⟨b,off,rfl,hb,Gg⟩
  ·omega
  obtain⟨a',aZ,hc,fI,kz⟩:=Gg r _ (gB TF);have c:=(KC.out.1.cell (p:=⟨b,off+r,none⟩) hb).trans hc;have fh:=af (fI);have jr:(r:Int)<(k.f.length:Int):=by omega
  have lz:=HR.out.2.ps _ (List.mem_of_getElem? (gB TF));unfold maxLen at lz;have HF:Hid (l7 k.aa r (eU k.f r)=false->aD k=false):=fun hh=>by rw[FK.out,jw,iR (f:=fun r=>l7 k.aa r (eU k.f r)) TF hh];rfl
  have fp:Hid (∀j,j<(eU k.f r).length->0<=fC (eU k.f r) j/\fC (eU k.f r) j<=7):=fun j hj=>HZ.out r j TF hj
  have YA:Hid (l7 k.aa r (eU k.f r)=(List.range (eU k.f r).length).all fun j=>ku k.aa r (fC (eU k.f r) j)):=rfl;have Yy:Hid (l7 k.aa r (eU k.f r)=true->(List.range (r+1)).all (fun r=>l7 k.aa r (eU k.f r))=true):=fun hh=>kF (f:=fun r=>l7 k.aa r (eU k.f r)) KC.out.2 hh
  clear Gg hc fI;generalize nM:eU k.f r=zs at *;go_wp2;clear c p2 jr nM;generalize wr=wC at *;go_loopw[7] (fun v7 wr=>∃j:Nat,j<=zs.length/\v7=vI j/\Below U.1.size U wr/\(List.range j).all (fun j=>ku k.aa r (fC zs j))=true) (fun v7 _=>zs.length-(intOf v7).toNat)
  case atStart=>exact⟨0,Nat.zero_le _,rfl,KC.out.1,rfl⟩
  case round=>
  obtain⟨j,hj,rfl,aB,aQ⟩:=hrel;have KD:=dw aB aQ;clear aB aQ;by_cases Oe:j<zs.length
  case neg=>
   obtain rfl:j=zs.length:=by omega
   have U7:decide ((zs.length:Int)<(zs.length:Int))=false:=by simp
   have hh:=Yy.out (by rw[YA.out];exact KD.out.2);go_wp2;exact⟨⟨r+1,by omega,by simp,KD.out.1,hh⟩,by simp[intOf];omega⟩
  obtain⟨_,x8⟩:=fh.out;rcases x8 with x8|⟨b',di,rfl,fB,h2⟩
  ·omega
  have hz:=fp.out j Oe;obtain⟨i,hi⟩:∃i:Nat,fC zs j=(i:Int):=⟨(fC zs j).toNat,by omega⟩
  have N9:=h2 j _ (jh Oe);rw[hi]at N9;have xz:=fun dd os=>((au KD.out.1 (below_regrown wr dd os)).cell (p:=⟨b',di+j,none⟩) fB).trans (N9)
  have jz:(j:Int)<(zs.length:Int):=by omega
  have jc:j<aZ:=by omega
  have HB:Hid (ku k.aa r (fC zs j)=(decide ((i:Int)<(k.aa.length:Int))&&(!(bC k.aa i).x||Ai (bC k.aa i) (r:Int)))):=by unfold Hid ku;rw[hi];rfl
  have Pz:Hid (ku k.aa r (fC zs j)=false->aD k=false):=fun hh=>HF.out (by rw[YA.out];exact iR (f:=fun j=>ku k.aa r (fC zs j)) Oe hh)
  clear N9 h2 hz hi;by_cases Oa:i<k.aa.length
  case neg=>
   have dz:decide ((k.aa.length:Int)<=(i:Int))=true:=by simp<;>omega
   have gf:decide (k.aa.length<=i)=true:=by simp<;>omega
   have uV:Hid (aD k=false):=Pz.out (by rw[HB.out];simp[Oa]);go_wp2_with fail;refine gy ?_;repeat (go_big_quiet_step (fail))
   refine jb fun dq bu=>?_
   have bq:=below_regrown wr dq bu;go_wp2;go_ret;exact⟨by rw[uV.out];rfl,BF.out _ (au KD.out.1 bq)⟩
  have dz:decide ((k.aa.length:Int)<=(i:Int))=false:=by simp<;>omega
  have gf:decide (k.aa.length<=i)=false:=by simp<;>omega
  have hd:=iT Oa;rcases HR.out.1.m with hs|⟨b2,lI,rfl,kU,h1⟩
  ·rw[hs]at Oa;simp at Oa
  obtain⟨⟨m0,m1,m2,m3,m4,m5⟩,bg,iw⟩:=h1 i _ hd;have bL:=FA.out.1 3 _ rfl;have x3:=fun dd os=>((au KD.out.1 (below_regrown wr dd os)).cell (p:=⟨w.1.size,3,none⟩) FA.out.2.2).trans (bL)
  clear bL;have e0:=fun dd os=>((au KD.out.1 (below_regrown wr dd os)).cell (p:=⟨b2,lI+i*4,none⟩) kU).trans (bg 0 _ rfl)
  have e1:=fun dd os=>((au KD.out.1 (below_regrown wr dd os)).cell (p:=⟨b2,lI+i*4+1,none⟩) kU).trans (bg 1 _ rfl)
  have e2:=fun dd os=>((au KD.out.1 (below_regrown wr dd os)).cell (p:=⟨b2,lI+i*4+2,none⟩) kU).trans (bg 2 _ rfl)
  have e3:=fun dd os=>((au KD.out.1 (below_regrown wr dd os)).cell (p:=⟨b2,lI+i*4+3,none⟩) kU).trans (bg 3 _ rfl)
  have Km:=HR.out.2.ms _ (List.mem_of_getElem? hd);have cQ:=fun dd os=>Calls.regrown_of (Re _ m0 m1 m2 m3 m4 m5 (bC k.aa i) r Km (iN.later iw (au KD.out.1 (below_regrown wr dd os))))
  have im:(i:Int)<(k.aa.length:Int):=by omega
  have dC:=AY (bC k.aa i) (r:Int);clear bg iw h1 hd Km
  cases ha:(bC k.aa i).x with
  | false=>
   rw[ha]at e0;have TI:Hid ((List.range (j+1)).all (fun j=>ku k.aa r (fC zs j))=true):=kF (f:=fun j=>ku k.aa r (fC zs j)) KD.out.2 (by rw[HB.out];simp[Oa,ha]);clear cQ dC e1 e2 e3;go_wp2_with fail;refine gy ?_;repeat (go_big_quiet_step (fail))
   refine jb fun dq bu=>?_
   have bq:=below_regrown wr dq bu;go_wp2;exact⟨⟨j+1,by omega,by simp,au KD.out.1 bq,TI.out⟩,by simp[intOf];omega⟩
  | true=>
   rw[ha]at e0 cQ;generalize zh (bC k.aa i) (r:Int)=ic at *
   cases hh:Ai (bC k.aa i) (r:Int)with
   | false=>
    rw[hh]at dC;have uV:Hid (aD k=false):=Pz.out (by rw[HB.out];simp[Oa,ha,hh]);go_wp2_with fail;refine gy ?_;repeat (go_big_quiet_step (exact cQ _ _))
    refine jb fun dq bu=>?_
    have bq:=below_regrown wr dq bu;go_wp2;go_ret;exact⟨by rw[uV.out];rfl,BF.out _ (au KD.out.1 bq)⟩
   | true=>
    rw[hh]at dC;have TI:Hid ((List.range (j+1)).all (fun j=>ku k.aa r (fC zs j))=true):=kF (f:=fun j=>ku k.aa r (fC zs j)) KD.out.2 (by rw[HB.out];simp[Oa,ha,hh]);go_wp2_with fail;refine gy ?_;repeat (go_big_quiet_step (exact cQ _ _))
    refine jb fun dq bu=>?_
    have bq:=below_regrown wr dq bu;go_wp2;exact⟨⟨j+1,by omega,by simp,au KD.out.1 bq,TI.out⟩,by simp[intOf];omega⟩
 obtain rfl:r=k.f.length:=by omega
 have U7:decide ((k.f.length:Int)<(k.f.length:Int))=false:=by simp
 have oE:Hid (aD k=uT k):=by unfold Hid;rw[FK.out,jw,KC.out.2];simp
 go_wp2;generalize wr=wB at *;clear U7 p2;go_loopw[8] (fun v8 wr=>∃i:Nat,i<=k.c.length/\v8=vI i/\Below U.1.size U wr/\(List.range i).all (qi k)=true) (fun v8 _=>k.c.length-(intOf v8).toNat)
 case atStart=>exact⟨0,Nat.zero_le _,rfl,KC.out.1,rfl⟩
 case round=>
 obtain⟨i,hi,rfl,aB,aQ⟩:=hrel;have KE:=dw aB aQ;clear aB aQ;have p4:=(FA.out.later KE.out.1).1 4 _ rfl;by_cases aN:i<k.c.length
 case neg=>
  obtain rfl:i=k.c.length:=by omega
  have U7:decide ((k.c.length:Int)<(k.c.length:Int))=false:=by simp
  have uV:Hid (aD k=true):=by unfold Hid;rw[oE.out];exact KE.out.2
  go_wp2;go_ret;exact⟨by rw[uV.out];rfl,BF.out _ KE.out.1⟩
 have hd:=gL aN
 have HM:Hid (i=0\/∃j,i=j+1/\k.c[j]?=some (bn k.c j)):=by
  rcases i with _|j
  ·exact .inl rfl
  ·exact .inr ⟨j,rfl,gL (by omega)⟩
 rcases HR.out.1.t with hs|⟨b,off,rfl,hb,h1⟩
 ·rw[hs]at aN;simp at aN
 have HX:Hid (qi k i=(tx.kv (bn k.c i)&&(decide (i=0)||decide ((bn k.c (i-1)).id<(bn k.c i).id))&&decide ((bn k.c i).l<(k.aa.length:Int))&&decide ((bn k.c i).az<=k.u)&&lW k.f.length (bn k.c i).a&&qd k.f.length (bn k.c i).ai)):=rfl;have Pz:Hid (qi k i=false->aD k=false):=fun hh=>by rw[oE.out,uT];exact iR (f:=qi k) aN hh
 have Yy:Hid (qi k i=true->(List.range (i+1)).all (qi k)=true):=fun hh=>kF (f:=qi k) KE.out.2 hh
 obtain⟨⟨t0,t1,t2,t3⟩,bg,iw⟩:=h1 i _ hd;have N7:=HR.out.2.ts _ (List.mem_of_getElem? hd)
 have HP:Hid (∀j,i=j+1->U.cell? ⟨b,off+j*7,none⟩=some (vI (bn k.c j).id)):=fun j e=>by
  obtain⟨v,uO,_⟩:=h1 j _ (gL (by omega));exact uO 0 _ rfl
 generalize ht:bn k.c i=t at *;have e0:=(KE.out.1.cell (p:=⟨b,off+i*7,none⟩) hb).trans (bg 0 _ rfl);have e1:=(KE.out.1.cell (p:=⟨b,off+i*7+1,none⟩) hb).trans (bg 1 _ rfl);have e2:=(KE.out.1.cell (p:=⟨b,off+i*7+2,none⟩) hb).trans (bg 2 _ rfl);have e3:=(KE.out.1.cell (p:=⟨b,off+i*7+3,none⟩) hb).trans (bg 3 _ rfl);have e4:=(KE.out.1.cell (p:=⟨b,off+i*7+4,none⟩) hb).trans (bg 4 _ rfl);have e5:=(KE.out.1.cell (p:=⟨b,off+i*7+5,none⟩) hb).trans (bg 5 _ rfl);have e6:=(KE.out.1.cell (p:=⟨b,off+i*7+6,none⟩) hb).trans (bg 6 _ rfl);obtain⟨V,hV⟩:=bO (wr.alloc (.cells #[vI t.id,vI t.l,vI t.o,vI t.q,.slice t0 t.a.length t1,.slice t2 t.ai.length t3,vI t.az] 91));have bV:Below wr.1.size wr V:=by rw[hV];exact aK.alloc aU _
 have FT:Hid (Bx V wr.1.size (tx.jJ t0 t1 t2 t3 t)):=by rw[hV];exact Bx.made wr (tx.jJ t0 t1 t2 t3 t) _
 have KV:=af (au KE.out.1 bV);have Yg:=dw iw N7;have ji:(i:Int)<(k.c.length:Int):=by omega
 clear bg iw h1 hd N7 bV;go_upto_region 22 with fail
 rw[<-hV];clear hV p4 e0 e1 e2 e3 e4 e5 e6 ji;generalize wr.1.size=s9 at *;generalize wr=wD at *;generalize V=wr at *;have f0:=fun dd os=>(FT.out.later (below_regrown wr dd os)).c7
 have cT:∀dd os,Calls prog 88 #[.agg #[vI t.id,vI t.l,vI t.o,vI t.q,.slice t0 t.a.length t1,.slice t2 t.ai.length t3,vI t.az]] (grow (redrawn wr dd) os) fun e gH=>e=.returned (.bool (tx.kv t))/\∃p:Regrown,gH=grow (redrawn wr p.d) p.os:=fun dd os=>by
  have hh:=tx.rE (grow (redrawn wr dd) os) ⟨t0,t1,t2,t3⟩ t Yg.out.2 (Yg.out.1.later (au KV.out (below_regrown wr dd os)));simp only[tx.TV.val]at hh;exact Calls.regrown_of hh
 have bL:=FA.out.1 4 _ rfl;have x4:=fun dd os=>((au KV.out (below_regrown wr dd os)).cell (p:=⟨w.1.size,4,none⟩) FA.out.2.2).trans (bL)
 have bL:=FA.out.1 1 _ rfl;have x1:=fun dd os=>((au KV.out (below_regrown wr dd os)).cell (p:=⟨w.1.size,1,none⟩) FA.out.2.2).trans (bL)
 clear bL;have KD:=dw KV.out (show True from trivial)
 cases hB:tx.kv t with
 | false=>
  rw[hB]at cT;have uV:Hid (aD k=false):=Pz.out (by rw[HX.out,hB];rfl);go_wp2_with fail;refine gy ?_;repeat (go_big_quiet_step (exact cT _ _))
  refine jb fun dq bu=>?_
  have bq:=below_regrown wr dq bu;go_wp2;go_ret;exact⟨by rw[uV.out];rfl,BF.out _ (au KD.out.1 bq)⟩
 | true=>
 rw[hB]at cT;by_cases gi:i=0\/(bn k.c (i-1)).id<t.id
 case neg=>
  obtain⟨j,rfl,-⟩:=HM.out.resolve_left (fun e=>gi (.inl e));have hle:¬(bn k.c j).id<t.id:=fun e=>gi (.inr e)
  have QH:=HP.out j rfl;have xj:=fun dd os=>((au KV.out (below_regrown wr dd os)).cell (p:=⟨b,off+j*7,none⟩) hb).trans (QH)
  have d0:decide ((0:Int)<((j+1:Nat):Int))=true:=by simp<;>omega
  have ej:((j+1:Nat):Int)-1=(j:Int):=by omega
  have d1:decide (t.id<=(bn k.c j).id)=true:=by simp<;>omega
  have jn:(j:Int)<(k.c.length:Int):=by omega
  have uV:Hid (aD k=false):=Pz.out (by rw[HX.out];simp[hle]);clear QH gi hle;go_wp2_with fail;refine gy ?_;repeat (go_big_quiet_step (exact cT _ _))
  refine jb fun dq bu=>?_
  have bq:=below_regrown wr dq bu;go_wp2;go_ret;exact⟨by rw[uV.out];rfl,BF.out _ (au KD.out.1 bq)⟩
 by_cases gh:t.l<(k.aa.length:Int)
 case neg=>
  have dh:decide ((k.aa.length:Int)<=t.l)=true:=by simp<;>omega
  have uV:Hid (aD k=false):=Pz.out (by rw[HX.out];simp[gh]);rcases HM.out with rfl|⟨j,rfl,-⟩
  ·have d0:decide ((0:Int)<((0:Nat):Int))=false:=by simp
   go_wp2_with fail;refine gy ?_;repeat (go_big_quiet_step (exact cT _ _))
   refine jb fun dq bu=>?_
   have bq:=below_regrown wr dq bu;go_wp2;go_ret;exact⟨by rw[uV.out];rfl,BF.out _ (au KD.out.1 bq)⟩
  ·have KG:(bn k.c j).id<t.id:=by rcases gi with e|e;omega;exact e
   have QH:=HP.out j rfl;have xj:=fun dd os=>((au KV.out (below_regrown wr dd os)).cell (p:=⟨b,off+j*7,none⟩) hb).trans (QH)
   have d0:decide ((0:Int)<((j+1:Nat):Int))=true:=by simp<;>omega
   have ej:((j+1:Nat):Int)-1=(j:Int):=by omega
   have d1:decide (t.id<=(bn k.c j).id)=false:=by simp<;>omega
   have jn:(j:Int)<(k.c.length:Int):=by omega
   clear QH KG;go_wp2_with fail;refine gy ?_;repeat (go_big_quiet_step (exact cT _ _))
   refine jb fun dq bu=>?_
   have bq:=below_regrown wr dq bu;go_wp2;go_ret;exact⟨by rw[uV.out];rfl,BF.out _ (au KD.out.1 bq)⟩
 have dh:decide ((k.aa.length:Int)<=t.l)=false:=by simp<;>omega
 by_cases gs:t.az<=k.u
 case neg=>
  have ds:decide (k.u<t.az)=true:=by simp<;>omega
  have uV:Hid (aD k=false):=Pz.out (by rw[HX.out];simp[gs]);rcases HM.out with rfl|⟨j,rfl,-⟩
  ·have d0:decide ((0:Int)<((0:Nat):Int))=false:=by simp
   go_wp2_with fail;refine gy ?_;repeat (go_big_quiet_step (exact cT _ _))
   refine jb fun dq bu=>?_
   have bq:=below_regrown wr dq bu;go_wp2;go_ret;exact⟨by rw[uV.out];rfl,BF.out _ (au KD.out.1 bq)⟩
  ·have KG:(bn k.c j).id<t.id:=by rcases gi with e|e;omega;exact e
   have QH:=HP.out j rfl;have xj:=fun dd os=>((au KV.out (below_regrown wr dd os)).cell (p:=⟨b,off+j*7,none⟩) hb).trans (QH)
   have d0:decide ((0:Int)<((j+1:Nat):Int))=true:=by simp<;>omega
   have ej:((j+1:Nat):Int)-1=(j:Int):=by omega
   have d1:decide (t.id<=(bn k.c j).id)=false:=by simp<;>omega
   have jn:(j:Int)<(k.c.length:Int):=by omega
   clear QH KG;go_wp2_with fail;refine gy ?_;repeat (go_big_quiet_step (exact cT _ _))
   refine jb fun dq bu=>?_
   have bq:=below_regrown wr dq bu;go_wp2;go_ret;exact⟨by rw[uV.out];rfl,BF.out _ (au KD.out.1 bq)⟩
 have ds:decide (k.u<t.az)=false:=by simp<;>omega
 have HY:Hid (qi k i=(lW k.f.length t.a&&qd k.f.length t.ai)):=by
  unfold Hid;rw[HX.out];rcases gi with gi|gi<;>simp[hB,gi,gh,gs]
 have lr:=Yg.out.2.r;have ls:=Yg.out.2.s;unfold maxLen at lr ls;have CUT:Hid (∀X,Below wr.1.size wr X->Below U.1.size U X):=fun X hX=>au KV.out hX
 go_cut[149]from 118 to 149 (fun nj wx=>nj=.bool false/\Below wr.1.size wr wx)
 case first=>
  rcases HM.out with rfl|⟨j,rfl,-⟩
  ·have d0:decide ((0:Int)<((0:Nat):Int))=false:=by simp
   go_wp2_with fail;refine gy ?_;repeat (go_big_quiet_step (exact cT _ _))
   refine jb fun dq bu=>?_
   have bq:=below_regrown wr dq bu;go_wp2_with fail;go_meet;exact⟨rfl,bq⟩
  ·have KG:(bn k.c j).id<t.id:=by rcases gi with e|e;omega;exact e
   have QH:=HP.out j rfl;have xj:=fun dd os=>((au KV.out (below_regrown wr dd os)).cell (p:=⟨b,off+j*7,none⟩) hb).trans (QH)
   have d0:decide ((0:Int)<((j+1:Nat):Int))=true:=by simp<;>omega
   have ej:((j+1:Nat):Int)-1=(j:Int):=by omega
   have d1:decide (t.id<=(bn k.c j).id)=false:=by simp<;>omega
   have jn:(j:Int)<(k.c.length:Int):=by omega
   clear QH KG;go_wp2_with fail;refine gy ?_;repeat (go_big_quiet_step (exact cT _ _))
   refine jb fun dq bu=>?_
   have bq:=below_regrown wr dq bu;go_wp2_with fail;go_meet;exact⟨rfl,bq⟩
 case rest=>
 obtain⟨rfl,bx⟩:=hcut;have KW:=dw bx (au KV.out bx);clear bx f0 cT x4 x1 dh ds KD;generalize wc=wE at *;go_wp2;generalize wr=wF at *;go_loopw[10] (fun v wr=>∃j:Nat,j<=t.a.length/\v=vI j/\Below wF.1.size wF wr/\(List.range j).all (fun j=>decide ((tx.aH t.a j).b<(k.f.length:Int)))=true) (fun v _=>t.a.length-(intOf v).toNat)
 case atStart=>exact⟨0,Nat.zero_le _,rfl,KW.out.1,rfl⟩
 case round=>
 obtain⟨j,hj,rfl,aB,aQ⟩:=hrel;have KD:=fP (CUT.out _ aB) aB aQ;clear aB aQ;have p9:=(FT.out.later KD.out.2.1).1 4 _ rfl;by_cases Oe:j<t.a.length
 case pos=>
  obtain⟨_,x8⟩:=Yg.out.1.r;dsimp only at x8;rcases x8 with x8|⟨b',di,rfl,fB,h2⟩
  ·omega
  have N9:=(h2 j _ (tx.fD Oe)).c0;have xz:=fun dd os=>((au KD.out.1 (below_regrown wr dd os)).cell (p:=⟨b',di+j*5,none⟩) fB).trans (N9)
  have bL:=FA.out.1 2 _ rfl;have x2:=fun dd os=>((au KD.out.1 (below_regrown wr dd os)).cell (p:=⟨w.1.size,2,none⟩) FA.out.2.2).trans (bL)
  have x9:=fun dd os=>(FT.out.later (au KD.out.2.1 (below_regrown wr dd os))).1 4 _ rfl
  have jz:(j:Int)<(t.a.length:Int):=by omega
  clear N9 h2 bL;by_cases hz:(tx.aH t.a j).b<(k.f.length:Int)
  case neg=>
   have dz:decide ((k.f.length:Int)<=(tx.aH t.a j).b)=true:=by simp<;>omega
   have uV:Hid (aD k=false):=Pz.out (by rw[HY.out,lW,iR (f:=fun j=>decide ((tx.aH t.a j).b<(k.f.length:Int))) Oe (by simpa using hz)];simp);go_wp2_with fail;refine gy ?_;repeat (go_big_quiet_step (fail))
   refine jb fun dq bu=>?_
   have bq:=below_regrown wr dq bu;go_wp2;go_ret;exact⟨by rw[uV.out];rfl,BF.out _ (au KD.out.1 bq)⟩
  have dz:decide ((k.f.length:Int)<=(tx.aH t.a j).b)=false:=by simp<;>omega
  have TI:Hid ((List.range (j+1)).all (fun j=>decide ((tx.aH t.a j).b<(k.f.length:Int)))=true):=kF (f:=fun j=>decide ((tx.aH t.a j).b<(k.f.length:Int))) KD.out.2.2 (by simpa using hz);go_wp2_with fail;refine gy ?_;repeat (go_big_quiet_step (fail))
  refine jb fun dq bu=>?_
  have bq:=below_regrown wr dq bu;go_wp2;exact⟨⟨j+1,by omega,by simp,au KD.out.2.1 bq,TI.out⟩,by simp[intOf];omega⟩
 obtain rfl:j=t.a.length:=by omega
 have U7:decide ((t.a.length:Int)<(t.a.length:Int))=false:=by simp
 have pc:Hid (qi k i=qd k.f.length t.ai):=by unfold Hid;rw[HY.out,lW,KD.out.2.2];simp
 have KX:=af (KD.out.2.1);go_wp2;clear p9 U7;generalize wr=wG at *;go_loopw[11] (fun v wr=>∃j:Nat,j<=t.ai.length/\v=vI j/\Below wF.1.size wF wr/\(List.range j).all (fun j=>decide ((tx.aF t.ai j).b<(k.f.length:Int)))=true) (fun v _=>t.ai.length-(intOf v).toNat)
 case atStart=>exact⟨0,Nat.zero_le _,rfl,KX.out,rfl⟩
 case round=>
 obtain⟨j,hj,rfl,aB,aQ⟩:=hrel;have KD:=fP (CUT.out _ aB) aB aQ;clear aB aQ;have p9:=(FT.out.later KD.out.2.1).1 5 _ rfl;by_cases Oe:j<t.ai.length
 case pos=>
  obtain⟨_,x8⟩:=Yg.out.1.s;dsimp only at x8;rcases x8 with x8|⟨b',di,rfl,fB,h2⟩
  ·omega
  have N9:=(h2 j _ (tx.eX Oe)).c0;have xz:=fun dd os=>((au KD.out.1 (below_regrown wr dd os)).cell (p:=⟨b',di+j*5,none⟩) fB).trans (N9)
  have bL:=FA.out.1 2 _ rfl;have x2:=fun dd os=>((au KD.out.1 (below_regrown wr dd os)).cell (p:=⟨w.1.size,2,none⟩) FA.out.2.2).trans (bL)
  have x9:=fun dd os=>(FT.out.later (au KD.out.2.1 (below_regrown wr dd os))).1 5 _ rfl
  have jz:(j:Int)<(t.ai.length:Int):=by omega
  clear N9 h2 bL;by_cases hz:(tx.aF t.ai j).b<(k.f.length:Int)
  case neg=>
   have dz:decide ((k.f.length:Int)<=(tx.aF t.ai j).b)=true:=by simp<;>omega
   have uV:Hid (aD k=false):=Pz.out (by rw[pc.out,qd,iR (f:=fun j=>decide ((tx.aF t.ai j).b<(k.f.length:Int))) Oe (by simpa using hz)]);go_wp2_with fail;refine gy ?_;repeat (go_big_quiet_step (fail))
   refine jb fun dq bu=>?_
   have bq:=below_regrown wr dq bu;go_wp2;go_ret;exact⟨by rw[uV.out];rfl,BF.out _ (au KD.out.1 bq)⟩
  have dz:decide ((k.f.length:Int)<=(tx.aF t.ai j).b)=false:=by simp<;>omega
  have TI:Hid ((List.range (j+1)).all (fun j=>decide ((tx.aF t.ai j).b<(k.f.length:Int)))=true):=kF (f:=fun j=>decide ((tx.aF t.ai j).b<(k.f.length:Int))) KD.out.2.2 (by simpa using hz);go_wp2_with fail;refine gy ?_;repeat (go_big_quiet_step (fail))
  refine jb fun dq bu=>?_
  have bq:=below_regrown wr dq bu;go_wp2;exact⟨⟨j+1,by omega,by simp,au KD.out.2.1 bq,TI.out⟩,by simp[intOf];omega⟩
 obtain rfl:j=t.ai.length:=by omega
 have U7:decide ((t.ai.length:Int)<(t.ai.length:Int))=false:=by simp
 have hh:=Yy.out (by rw[pc.out,qd];exact KD.out.2.2);go_wp2;exact⟨⟨i+1,by omega,by simp,KD.out.1,hh⟩,by simp[intOf];omega⟩
end
section
open Go.Proofs.Tryz
theorem Gq(w:World)(x:Int):Calls prog 180 #[vI x] w fun e w'=>e=.returned (.bool false)/\w'=w:=by
 have h:(x != x)=false:=by simp
 go_enter func180,ntmps180;go_wp2;go_ret;exact⟨rfl,rfl⟩
def xH(x y:Int):Int:=if x<y then -1 else if y<x then 1 else 0
theorem H9(w:World)(x y:Int):Calls prog 148 #[vI x,vI y] w fun e w'=>e=.returned (vI (xH x y))/\w'=w:=by
 by_cases h1:x<y
 ·have e:xH x y=-1:=if_pos h1;rw[e];go_enter func148,ntmps148;go_wp2_with (go_at_call 180;refine(Gq _ _).mono ?_;rintro e w' ⟨rfl,rfl⟩);go_ret;exact⟨rfl,rfl⟩
 ·have d1:decide (x<y)=false:=by simp;omega
  by_cases h2:y<x
  ·have e:xH x y=1:=by rw[xH,if_neg h1,if_pos h2]
   have d2:decide (y<x)=true:=by simp[h2]
   rw[e];clear h1;go_enter func148,ntmps148;go_wp2_with (go_at_call 180;refine(Gq _ _).mono ?_;rintro e w' ⟨rfl,rfl⟩);go_ret;exact⟨rfl,rfl⟩
  ·have e:xH x y=0:=by rw[xH,if_neg h1,if_neg h2]
   have d2:decide (y<x)=false:=by simp;omega
   rw[e];clear h1 h2;go_enter func148,ntmps148;go_wp2_with (go_at_call 180;refine(Gq _ _).mono ?_;rintro e w' ⟨rfl,rfl⟩);go_ret;exact⟨rfl,rfl⟩
end
section
open Go.Proofs.Tryz
variable {ts:List tx.T7}
theorem Hu(w:World)(t0:OA)(t1:Nat)(t2:OA)(t3:Nat)(t:tx.T7)(y:Int):Calls prog 147 #[.agg #[vI t.id,vI t.l,vI t.o,vI t.q,.slice t0 t.a.length t1,.slice t2 t.ai.length t3,vI t.az],vI y] w fun e w'=>e=.returned (vI (xH t.id y))/\Below w.1.size w w':=by
 have b0:Below w.1.size w (w.alloc (.cells #[vI t.id,vI t.l,vI t.o,vI t.q,.slice t0 t.a.length t1,.slice t2 t.ai.length t3,vI t.az] 91)):=aK.alloc aU _;go_enter func147,ntmps147;go_wp2_with (go_at_call 148;refine(H9 _ _ _).mono ?_;rintro e w' ⟨rfl,rfl⟩);go_ret;exact⟨rfl,b0⟩
def VR(ts:List tx.T7):Prop:=∀i j,i<j->j<ts.length->(bn ts i).id<(bn ts j).id
theorem VR.XI(h:(List.range ts.length).all (JY ts)=true):VR ts:=by
 intro i j IC hj
 induction j with
 | zero=>omega
 | succ j ih=>
  have h2:=List.all_eq_true.1 h (j+1) (List.mem_range.2 hj);simp[JY]at h2;by_cases e:i=j
  ·rw[e];exact h2
  ·have:=ih (by omega) (by omega);omega
structure PY(ts:List tx.T7)(y:Int)(i:Nat):Prop where
 le:i<=ts.length
 lo:∀t,t<i->(bn ts t).id<y
 hi:∀t,i<=t->t<ts.length->y<=(bn ts t).id
def lQ(ts:List tx.T7)(y:Int)(i:Nat):Bool:=decide (i<ts.length)&&decide ((bn ts i).id=y)
theorem FR(w:World)(a:OA)(cap:Nat)(ts:List tx.T7)(y:Int)(hn:ts.length<=1000)(hu:VR ts)(hs:iO.vG w a ts):
  Calls prog 149 #[.slice a ts.length cap,vI y,.func (.func 147) #[] #[]] w fun e w'=>∃i:Nat,e=.returned (.tuple #[vI i,.bool (lQ ts y i)])/\PY ts y i/\Below w.1.size w w':=by
 have HU:=af (hu);clear hu;go_enter func149,ntmps149;go_wp2;go_loopw[9,10] (fun v9 v10 wr=>∃i j:Nat,i<=j/\j<=ts.length/\v9=vI i/\v10=vI j/\Below w.1.size w wr/\(∀t,t<i->(bn ts t).id<y)/\(∀t,j<=t->t<ts.length->y<=(bn ts t).id)) (fun v9 v10 _=>(intOf v10).toNat-(intOf v9).toNat)
 case atStart=>exact⟨0,ts.length,Nat.zero_le _,Nat.le_refl _,rfl,rfl,aK,fun t h=>by omega,fun t h1 h2=>by omega⟩
 case round=>
  obtain⟨i,j,IC,WN,rfl,rfl,aB,EZ,Sy⟩:=hrel;by_cases aN:i<j
  ·have hd:(i+j)/2<ts.length:=by omega
   rcases hs with hs|⟨b,off,rfl,hb,h1⟩
   ·rw[hs]at hd;simp at hd
   obtain⟨⟨t0,t1,t2,t3⟩,bg,iw⟩:=h1 ((i+j)/2) _ (gL hd);have e0:=(aB.cell (p:=⟨b,off+((i+j)/2)*7,none⟩) hb).trans (bg 0 _ rfl);have e1:=(aB.cell (p:=⟨b,off+((i+j)/2)*7+1,none⟩) hb).trans (bg 1 _ rfl);have e2:=(aB.cell (p:=⟨b,off+((i+j)/2)*7+2,none⟩) hb).trans (bg 2 _ rfl);have e3:=(aB.cell (p:=⟨b,off+((i+j)/2)*7+3,none⟩) hb).trans (bg 3 _ rfl);have e4:=(aB.cell (p:=⟨b,off+((i+j)/2)*7+4,none⟩) hb).trans (bg 4 _ rfl);have e5:=(aB.cell (p:=⟨b,off+((i+j)/2)*7+5,none⟩) hb).trans (bg 5 _ rfl);have e6:=(aB.cell (p:=⟨b,off+((i+j)/2)*7+6,none⟩) hb).trans (bg 6 _ rfl);have K:=fP aB EZ Sy;have hc:=Hu wr t0 t1 t2 t3 (bn ts ((i+j)/2)) y;clear h1 bg iw aB EZ Sy
   have HI:Hid (∀t,t<=(i+j)/2->(bn ts t).id<=(bn ts ((i+j)/2)).id):=fun t ht=>by
    by_cases e:t=(i+j)/2
    ·rw[e];exact Int.le_refl _
    ·exact Int.le_of_lt (HU.out t _ (by omega) hd)
   have HJ:Hid (∀t,(i+j)/2<=t->t<ts.length->(bn ts ((i+j)/2)).id<=(bn ts t).id):=fun t ht qG=>by
    by_cases e:t=(i+j)/2
    ·rw[e];exact Int.le_refl _
    ·exact Int.le_of_lt (HU.out _ t (by omega) qG)
   generalize (bn ts ((i+j)/2)).id=x at *;by_cases hq:x<y
   ·rw[show xH x y=-1 from if_pos hq]at hc;have HQ:=af hq;clear hq;go_wp2_with fail;refine hc.mono ?_;clear hc e0 e1 e2 e3 e4 e5 e6;rintro e w1 ⟨rfl,b1⟩;go_wp2;exact⟨⟨(i+j)/2+1,j,by omega,WN,by simp,rfl,K.out.1.trans (b1.mono K.out.1.size),fun t ht=>by have:=HI.out t (by omega);have:=HQ.out;omega,K.out.2.2⟩,by simp[intOf];omega⟩
   ·have Zg:decide (xH x y<0)=false:=by
     rw[xH,if_neg hq];by_cases h2:y<x
     ·rw[if_pos h2];rfl
     ·rw[if_neg h2];rfl
    have HQ:=af hq;clear hq;generalize xH x y=cv at *;go_wp2_with fail;refine hc.mono ?_;clear hc e0 e1 e2 e3 e4 e5 e6;rintro e w1 ⟨rfl,b1⟩;go_wp2;exact⟨⟨i,(i+j)/2,by omega,by omega,rfl,by simp,K.out.1.trans (b1.mono K.out.1.size),K.out.2.1,fun t ht qG=>by have:=HJ.out t ht qG;have:=HQ.out;omega⟩,by simp[intOf];omega⟩
  ·obtain rfl:i=j:=by omega
   have hd:decide ((i:Int)<(i:Int))=false:=by simp
   have HP:Hid (PY ts y i):=⟨WN,EZ,Sy⟩
   clear EZ Sy;by_cases Ob:i<ts.length
   ·rcases hs with hs|⟨b,off,rfl,hb,h1⟩
    ·rw[hs]at Ob;simp at Ob
    obtain⟨⟨t0,t1,t2,t3⟩,bg,iw⟩:=h1 i _ (gL Ob);have e0:=(aB.cell (p:=⟨b,off+i*7,none⟩) hb).trans (bg 0 _ rfl);have e1:=(aB.cell (p:=⟨b,off+i*7+1,none⟩) hb).trans (bg 1 _ rfl);have e2:=(aB.cell (p:=⟨b,off+i*7+2,none⟩) hb).trans (bg 2 _ rfl);have e3:=(aB.cell (p:=⟨b,off+i*7+3,none⟩) hb).trans (bg 3 _ rfl);have e4:=(aB.cell (p:=⟨b,off+i*7+4,none⟩) hb).trans (bg 4 _ rfl);have e5:=(aB.cell (p:=⟨b,off+i*7+5,none⟩) hb).trans (bg 5 _ rfl);have e6:=(aB.cell (p:=⟨b,off+i*7+6,none⟩) hb).trans (bg 6 _ rfl);have hc:=Hu wr t0 t1 t2 t3 (bn ts i) y;have HF:=dw (show lQ ts y i=decide ((bn ts i).id=y) by simp[lQ,Ob]) aB;clear h1 bg iw aB;generalize (bn ts i).id=x at *
    have he:(xH x y==0)=decide (x=y):=by
     unfold xH;by_cases h1:x<y
     ·rw[if_pos h1];simp;omega
     ·rw[if_neg h1];by_cases h2:y<x
      ·rw[if_pos h2];simp;omega
      ·rw[if_neg h2];simp;omega
    generalize xH x y=cv at *;go_wp2_with fail;refine hc.mono ?_;clear hc e0 e1 e2 e3 e4 e5 e6;rintro e w1 ⟨rfl,b1⟩;have HE:=af he;clear he;go_wp2;refine bodyPost_ret (v:=.tuple #[vI i,.bool (cv==0)]) (by simp[results,results149,go_sem]) rfl ⟨i,by rw[HF.out.1,<-HE.out],HP.out,HF.out.2.trans (b1.mono HF.out.2.size)⟩
   ·have DX:decide ((i:Int)<(ts.length:Int))=false:=by simp;omega
    have HF:Hid (lQ ts y i=false):=by unfold Hid;simp[lQ,Ob]
    clear hs;go_wp2;refine bodyPost_ret (v:=.tuple #[vI i,.bool false]) (by simp[results,results149,go_sem]) rfl ⟨i,by rw[HF.out],HP.out,aB⟩
theorem Ka{i:Nat}(h:i<ts.length):bn ts i=ts[i]:=by simp[bn,List.getElem?_eq_getElem h]
theorem BL{k:C6}(h:aD k=true):VR k.c/\(∀i,i<k.c.length->tx.kv (bn k.c i)=true)/\k.c.length<=60:=by
 simp only[aD,Bool.and_eq_true,decide_eq_true_eq]at h;have h2:=h.2;rw[Ns,Bool.and_eq_true]at h2;refine⟨VR.XI h2.1,fun i hi=>?_,h.1.1.1.2⟩;have:=List.all_eq_true.1 h2.2 i (List.mem_range.2 hi);simp only[oC,Bool.and_eq_true]at this;exact this.1.1.1.1
theorem R7{t:tx.T7}(h:tx.kv t=true):t.a.length<=1048576/\t.ai.length<=1048576:=by
 simp only[tx.kv,Bool.and_eq_true,decide_eq_true_eq]at h;exact⟨by omega,by omega⟩
theorem Ld(w:World)(a1:OA)(c1:Nat)(a2:OA)(c2:Nat)(a3:OA)(c3:Nat)(k:C6)(y:Int)(hl:df.L k)(h:df.Rd w a1 c1 a2 c2 a3 c3 k):Calls prog 46 #[.agg #[vI k.v,vI k.u,.slice a1 k.f.length c1,.slice a2 k.aa.length c2,.slice a3 k.c.length c3,.bool k.w],vI y] w fun e w'=>(∃i:Int,e=.returned (vI i)/\eH (fun j=>decide ((bn k.c j).id=y)) k.c.length i)/\Below w.1.size w w':=by
 have hn:=hl.t;unfold maxLen at hn;obtain⟨U,hU⟩:=bO (w.alloc (.cells #[vI k.v,vI k.u,.slice a1 k.f.length c1,.slice a2 k.aa.length c2,.slice a3 k.c.length c3,.bool k.w] 32));have b0:Below w.1.size w U:=by rw[hU];exact aK.alloc aU _
 have p4:U.cell? ⟨w.1.size,4,none⟩=some (.slice a3 k.c.length c3):=by rw[hU];go_simp
 have H:=dw (h.later b0) b0;clear h b0 hl;go_enter func46,ntmps46;go_wp2;rw[<-hU];clear hU;go_loop[5] (fun v=>∃j:Nat,j<=k.c.length/\v=vI j/\∀t,t<j->(bn k.c t).id≠y) (fun v=>k.c.length-(intOf v).toNat)
 case atStart=>exact⟨0,Nat.zero_le _,rfl,fun t h=>absurd h (by omega)⟩
 case round=>
  obtain⟨j,hj,rfl,EZ⟩:=hrel;have HL:=af EZ;clear EZ;by_cases aN:j<k.c.length
  ·rcases H.out.1.t with hk|⟨b,off,rfl,hb,h1⟩
   ·rw[hk]at aN;simp at aN
   obtain⟨v,bg,_⟩:=h1 j _ (gL aN);have k0:U.cell? ⟨b,off+j*7,none⟩=some (vI (bn k.c j).id):=bg 0 _ rfl;have jn:(j:Int)<(k.c.length:Int):=by omega
   clear h1 bg;by_cases he:(bn k.c j).id=y
   ·have q:((bn k.c j).id==y)=true:=by simp[he]
    have HE:=af he;clear he;go_wp2;go_ret;exact⟨⟨_,rfl,.inr ⟨j,rfl,aN,by simp[HE.out],fun t ht=>by simp[HL.out t ht]⟩⟩,H.out.2⟩
   ·have q:((bn k.c j).id==y)=false:=by simp[he]
    have HE:=af he;clear he;go_wp2
    exact⟨⟨j+1,by omega,by simp,fun t ht=>by
     by_cases e:t=j
     ·rw[e];exact HE.out
     ·exact HL.out t (by omega)⟩,by simp[intOf];omega⟩
  ·obtain rfl:j=k.c.length:=by omega
   have hd:decide ((k.c.length:Int)<(k.c.length:Int))=false:=by simp
   go_wp2;go_ret;exact⟨⟨_,rfl,.inl ⟨rfl,fun t ht=>by simp[HL.out t ht]⟩⟩,H.out.2⟩
theorem Kj(w:World)(a:OA)(cap:Nat)(ts:List tx.T7)(y:Int)(hn:ts.length<=1000)(hu:VR ts)(hs:iO.vG w a ts):
  Calls prog 107 #[.slice a ts.length cap,vI y] w fun e w'=>∃i:Nat,e=.returned (.tuple #[vI i,.bool (lQ ts y i)])/\PY ts y i/\Below w.1.size w w':=by
 have hc:=FR w a cap ts y hn hu hs;go_enter func107,ntmps107;go_wp2_with fail;refine hc.mono ?_;clear hc;rintro e w1 ⟨i,rfl,hp,b1⟩;have K:=af (And.intro hp b1);clear hp b1;go_wp2;refine bodyPost_ret (v:=.tuple #[vI i,.bool (lQ ts y i)]) (by simp[results,results107,go_sem]) rfl ?_;exact⟨i,rfl,K.out.1,K.out.2⟩
end
section
open Go.Proofs.Tryz
variable {i:Nat}{ts:List tx.T7}{y:Int}
def ib(ts:List tx.T7)(y:Int):Nat:=ts.findIdx fun t=>decide (t.id=y)
theorem EN(hi:i<ts.length)(he:(bn ts i).id=y)(h:∀j,j<i->(bn ts j).id≠y):ib ts y=i:=by
 unfold ib;rw[List.findIdx_eq hi];refine⟨by rw[Ka hi]at he;simpa using he,fun j hj=>?_⟩;have:=h j hj;rw[Ka (by omega)]at this;simpa using this
theorem EL(h:∀j,j<ts.length->(bn ts j).id≠y):ib ts y=ts.length:=by
 unfold ib;refine List.findIdx_eq_length_of_false (fun t ht=>?_);obtain⟨i,hi,rfl⟩:=List.getElem_of_mem ht;have:=h i hi;rw[Ka hi]at this;simpa using this
theorem P8(hp:PY ts y i)(hf:lQ ts y i=true):i<ts.length/\ib ts y=i:=by
 simp only[lQ,Bool.and_eq_true,decide_eq_true_eq]at hf;exact⟨hf.1,EN hf.1 hf.2 (fun j hj=>by have:=hp.lo j hj;omega)⟩
theorem P6(hu:VR ts)(hp:PY ts y i)(hf:lQ ts y i=false):ib ts y=ts.length:=by
 refine EL (fun j hj e=>?_);by_cases h1:j<i
 ·have:=hp.lo j h1;omega
 ·have hi:i<ts.length:=by omega
  have h2:=hp.hi i aU hi;have h3:(bn ts i).id≠y:=fun e'=>by simp[lQ,hi,e']at hf
  by_cases h4:j=i
  ·subst h4;exact h3 e
  ·have:=hu i j (by omega) hj;omega
theorem J9{i:Int}(h:eH (fun j=>decide ((bn ts j).id=y)) ts.length i):(i=-1/\ib ts y=ts.length)\/∃j:Nat,i=(j:Int)/\j<ts.length/\ib ts y=j:=by
 rcases h with ⟨rfl,h⟩|⟨j,rfl,hj,h1,h2⟩
 ·exact .inl ⟨rfl,EL (fun j hj=>by simpa using h j hj)⟩
 ·exact .inr ⟨j,rfl,hj,EN hj (by simpa using h1) (fun t ht=>by simpa using h2 t ht)⟩
end
section
open Go.Proofs.Tryz
variable {k:C6}
def zC:C6:=⟨0,0,[],[],[],false⟩
def dm(k:C6)(y:Int):tx.T7:=bn k.c (ib k.c y)
def II(k:C6)(y:Int):Bool:=(bC k.aa (dm k y).l.toNat).x
def gV(k:C6)(y:Int):Int:=if aD k=true then(if ib k.c y<k.c.length then(if II k y=true then 0 else 3)else 2)else 1
def fK(k:C6)(y:Int):Int:=if gV k y=0 then(if (dm k y).o=1 then 0 else 4)else gV k y
def iE(k:C6):C6:=if aD k=true then k else zC
theorem H8(h:aD k=true){i:Nat}(hi:i<k.c.length):0<=(bn k.c i).l/\(bn k.c i).l<(k.aa.length:Int):=by
 have h1:=(BL h).2.1 i hi;simp only[aD,uT,Bool.and_eq_true]at h;have:=List.all_eq_true.1 h.2 i (List.mem_range.2 hi);simp only[qi,Bool.and_eq_true,decide_eq_true_eq]at this;simp only[tx.kv,tx.nP,Bool.and_eq_true]at h1;have h3:=h1.1.1.1.1.1.1.1.2;rw[dD]at h3;omega
def o9(X:World)(k:C6)(n:Int)(e:Ending)(w':World):Prop:=∃(a1:OA) (c1:Nat) (a2:OA) (c2:Nat) (a3:OA) (c3:Nat) (P:Nat->Prop),e=.panicked [{ v:=.iface 157 (.agg #[.iface 67 (vI n),vI k.v,vI k.u,.slice a1 k.f.length c1,.slice a2 k.aa.length c2,.slice a3 k.c.length c3,.bool k.w]),recovered:=false }]/\df.Ow w' X.1.size a1 c1 a2 c2 a3 c3 k P/\Below X.1.size X w'
theorem o9.d{X:World}{n:Int}{e:Ending}{w':World}(h:o9 X k n e w')(hn:n≠0):xg X k n e w':=by
 obtain⟨a1,c1,a2,c2,a3,c3,P,h1,h2,h3⟩:=h;exact⟨a1,c1,a2,c2,a3,c3,P,.inr ⟨hn,h1⟩,h2,h3⟩
theorem VI(w:World)(B:Nat):df.Ow w B none 0 none 0 none 0 zC (fun _=>False):=
 ⟨⟨fun _=>False,fun _=>False,fun _=>False,⟨⟨fun _=>0,.inl ⟨rfl,rfl,rfl⟩,fun b e=>(by cases e),fun i hi=>(by simp[zC]at hi)⟩,fun q h=>h.elim⟩,⟨.inl rfl,fun q h=>h.elim⟩,⟨.inl rfl,fun q h=>h.elim⟩,fun q h=>h.elim,fun q h=>h.elim,fun q h=>h.elim,fun q h=>h.elim,fun q h=>h.elim,fun q h=>h.elim⟩,fun q h=>h.elim⟩
theorem Er(w:World)(a1:OA)(c1:Nat)(a2:OA)(c2:Nat)(a3:OA)(c3:Nat)(k:C6)(hl:df.L k)(h:df.Rd w a1 c1 a2 c2 a3 c3 k)(hk:aD k=true):Calls prog 106 #[.agg #[vI k.v,vI k.u,.slice a1 k.f.length c1,.slice a2 k.aa.length c2,.slice a3 k.c.length c3,.bool k.w]] w fun e w'=>e=.returned (.tuple #[])/\Below w.1.size w w':=by
 obtain⟨W,hW⟩:=bO (w.alloc (.cells #[vI k.v,vI k.u,.slice a1 k.f.length c1,.slice a2 k.aa.length c2,.slice a3 k.c.length c3,.bool k.w] 32));have bW:Below w.1.size w W:=by rw[hW];exact aK.alloc aU _
 have hc:=kJ W a1 c1 a2 c2 a3 c3 k hl (h.later bW);rw[hk]at hc;have BW:=af (bW);clear bW h hl;go_enter func106,ntmps106;go_wp2_with fail;rw[<-hW];clear hW;refine hc.mono ?_;clear hc;rintro e w1 ⟨rfl,b1⟩;have B1:=af (au BW.out b1);clear b1;go_wp2;refine bodyPost_end (v:=.tuple #[]) (by simp[results,results106]) rfl ?_;exact⟨rfl,B1.out⟩
theorem Gr(w:World)(a1:OA)(c1:Nat)(a2:OA)(c2:Nat)(a3:OA)(c3:Nat)(k:C6)(hl:df.L k)(h:df.Rd w a1 c1 a2 c2 a3 c3 k)(hk:aD k=false):Calls prog 106 #[.agg #[vI k.v,vI k.u,.slice a1 k.f.length c1,.slice a2 k.aa.length c2,.slice a3 k.c.length c3,.bool k.w]] w (o9 w zC 1):=by
 obtain⟨W,hW⟩:=bO (w.alloc (.cells #[vI k.v,vI k.u,.slice a1 k.f.length c1,.slice a2 k.aa.length c2,.slice a3 k.c.length c3,.bool k.w] 32));have bW:Below w.1.size w W:=by rw[hW];exact aK.alloc aU _
 have hc:=kJ W a1 c1 a2 c2 a3 c3 k hl (h.later bW);rw[hk]at hc;have BW:=af (bW);clear bW h hl;go_enter func106,ntmps106;go_wp2_with fail;rw[<-hW];clear hW;refine hc.mono ?_;clear hc;rintro e w1 ⟨rfl,b1⟩;have B1:=af (au BW.out b1);clear b1;go_wp2_with fail;refine(wm w1 1 (vI 0) (vI 0) (.slice none 0 0) (.slice none 0 0) (.slice none 0 0) (.bool false)).mono ?_;rintro e w2 ⟨rfl,rfl⟩;go_wp2;exact⟨rfl,none,0,none,0,none,0,fun _=>False,rfl,VI _ _,B1.out.alloc B1.out.size _⟩
theorem fO(w:World)(d:Nat)(a1:OA)(c1:Nat)(a2:OA)(c2:Nat)(a3:OA)(c3:Nat)(k:C6)(cs:List Value)(n:Int)(hk:aD k=true)(h:df.Rd w a1 c1 a2 c2 a3 c3 k)(hd:Bx w d ((dU a1 c1 a2 c2 a3 c3 k)++cs)):Calls prog 41 #[.pointer (some ⟨d,0,none⟩),vI n] w (o9 w k n):=by
 have p0:=hd.c6;have hc:=nz w a1 c1 a2 c2 a3 c3 k hk h;clear hd h;go_enter func41,ntmps41;go_wp2_with fail;refine hc.mono ?_;clear hc;rintro e w1 ⟨b1,d1,b2,d2,b3,d3,ps,gp,ms,gm,ts,gt,rfl,hr,e1,e2,e3,bl⟩;have K:Hid (df.Ow w1 w.1.size b1 d1 b2 d2 b3 d3 k (fun q=>Kd.lK (.slice b1 k.f.length d1) ps gp q\/Kd.lK (.slice b2 k.aa.length d2) ms gm q\/Kd.lK (.slice b3 k.c.length d3) ts gt q)/\Below w.1.size w w1):=⟨(hr.ow e1 e2 e3).low (by omega),bl⟩
 clear hr e1 e2 e3 bl p0;go_wp2_with fail;refine(wm w1 n _ _ _ _ _ _).mono ?_;rintro e w2 ⟨rfl,rfl⟩;go_wp2;have bA:Below w1.1.size w1 (w1.alloc (.cells #[vI k.v,vI k.u,.slice b1 k.f.length d1,.slice b2 k.aa.length d2,.slice b3 k.c.length d3,.bool k.w] 32)):=aK.alloc aU _;exact⟨rfl,b1,d1,b2,d2,b3,d3,_,rfl,K.out.1.later bA,au K.out.2 bA⟩
end
section
open Go.Proofs.Tryz
def vE(w:World)(a1:OA)(c1:Nat)(a2:OA)(c2:Nat)(a3:OA)(c3:Nat)(k:C6)(y:Int)(n:Int)(e:Ending)(w':World):Prop:=
 (n≠0/\o9 w (iE k) n e w')\/(n=0/\∃(d:Nat) (u0:OA) (u1:Nat) (u2:OA) (u3:Nat) (P:Nat->Prop),e=.returned (.pointer (some ⟨d,0,none⟩))/\Bx w' d [vI k.v,vI k.u,.slice a1 k.f.length c1,.slice a2 k.aa.length c2,.slice a3 k.c.length c3,.bool k.w,vI (ib k.c y),vI (dm k y).id,vI (dm k y).l,vI (dm k y).o,vI (dm k y).q,.slice u0 (dm k y).a.length u1,.slice u2 (dm k y).ai.length u3,vI (dm k y).az]/\KT.Ow w' w.1.size u0 u1 u2 u3 (dm k y) P/\(∀q,P q->q≠d)/\w.1.size<=d/\Below w.1.size w w')
theorem o9.low{w X w':World}{k:C6}{n:Int}{e:Ending}(h:o9 X k n e w')(b:Below w.1.size w X):o9 w k n e w':=by
 obtain⟨a1,c1,a2,c2,a3,c3,P,h1,h2,h3⟩:=h;exact⟨a1,c1,a2,c2,a3,c3,P,h1,h2.low b.size,au b h3⟩
theorem Kh(w:World)(a1:OA)(c1:Nat)(a2:OA)(c2:Nat)(a3:OA)(c3:Nat)(k:C6)(y:Int)(hl:df.L k)(h:df.Rd w a1 c1 a2 c2 a3 c3 k):
  Calls prog 56 #[.agg #[vI k.v,vI k.u,.slice a1 k.f.length c1,.slice a2 k.aa.length c2,.slice a3 k.c.length c3,.bool k.w],vI y] w (vE w a1 c1 a2 c2 a3 c3 k y (gV k y)):=by
 obtain⟨W0,dO,b0,x0,-⟩:=iI w (dU a1 c1 a2 c2 a3 c3 k) 32;have h0:=h.later b0
 cases hk:aD k with
 | false=>
  have hc:=Gr W0 a1 c1 a2 c2 a3 c3 k hl h0 hk;have pG:gV k y=1:=by simp[gV,hk]
  have nQ:iE k=zC:=by simp[iE,hk]
  have B0:=af (b0);have HX:Hid (∀e w',o9 W0 zC 1 e w'->vE w a1 c1 a2 c2 a3 c3 k y (gV k y) e w'):=fun e w' h=>.inl ⟨by rw[pG];decide,by rw[pG,nQ];exact h.low B0.out⟩
  clear b0 x0 h0 h hl pG nQ;go_enter func56,ntmps56;go_wp2_with fail;rw[<-dO];clear dO;refine hc.mono ?_;clear hc;intro e w1 hr;have yT:=hr;obtain⟨b1,d1,b2,d2,b3,d3,P,rfl,-,-⟩:=hr;have HR:=af yT;clear yT;go_wp2;exact⟨rfl,HX.out _ _ HR.out⟩
 | true=>
  have hc:=Er W0 a1 c1 a2 c2 a3 c3 k hl h0 hk;obtain⟨Gh,rI,Zt⟩:=BL hk;have nQ:iE k=k:=by simp[iE,hk]
  have H:=xZ b0 x0 h Gh rI Zt hk nQ;clear b0 x0 h0 h hl Gh rI Zt nQ;go_enter func56,ntmps56;go_wp2_with fail;rw[<-dO];clear dO;refine hc.mono ?_;clear hc;rintro e w1 ⟨rfl,b1⟩;have B1:=fP (au H.out.1 b1) (H.out.2.1.later b1) (H.out.2.2.1.later (au H.out.1 b1));clear b1;have p4:=B1.out.2.1.1 4 _ rfl;have hf:=Kj w1 a3 c3 k.c y (by have:=H.out.2.2.2.2.2.1;omega) H.out.2.2.2.1 B1.out.2.2.t;go_wp2_with fail;refine hf.mono ?_;clear hf;rintro e w2 ⟨i,rfl,vQ,b2⟩;have B2:=fP (au B1.out.1 b2) (B1.out.2.1.later b2) (B1.out.2.2.later b2);clear b2 p4 B1
  cases TE:lQ k.c y i with
  | false=>
   have bg:=P6 H.out.2.2.2.1 vQ TE;have pG:gV k y=2:=by simp[gV,hk,bg]
   have HX:Hid (∀e w',o9 w k 2 e w'->vE w a1 c1 a2 c2 a3 c3 k y (gV k y) e w'):=fun e w' h=>.inl ⟨by rw[pG];decide,by rw[pG,H.out.2.2.2.2.2.2.2];exact h⟩
   have q0:=B2.out.2.1.c6;have ho:=nz w2 a1 c1 a2 c2 a3 c3 k H.out.2.2.2.2.2.2.1 B2.out.2.2;clear bg pG vQ;go_wp2_with fail;refine ho.mono ?_;clear ho;rintro e w3 ⟨b1,d1,b2,d2,b3,d3,ps,gp,ms,gm,ts,gt,rfl,hr,e1,e2,e3,bl⟩;have KO:=dw (show df.Ow w3 w.1.size b1 d1 b2 d2 b3 d3 k (fun q=>Kd.lK (.slice b1 k.f.length d1) ps gp q\/Kd.lK (.slice b2 k.aa.length d2) ms gm q\/Kd.lK (.slice b3 k.c.length d3) ts gt q)from(hr.ow e1 e2 e3).low (by have:=B2.out.1.size;omega)) (au B2.out.1 bl);clear hr e1 e2 e3 bl q0;go_wp2_with fail;refine(wm w3 2 _ _ _ _ _ _).mono ?_;rintro e w4 ⟨rfl,rfl⟩;go_wp2;have bA:Below w3.1.size w3 (w3.alloc (.cells #[vI k.v,vI k.u,.slice b1 k.f.length d1,.slice b2 k.aa.length d2,.slice b3 k.c.length d3,.bool k.w] 32)):=aK.alloc aU _;exact⟨rfl,HX.out _ _ ⟨b1,d1,b2,d2,b3,d3,_,rfl,KO.out.1.later bA,au KO.out.2 bA⟩⟩
  | true=>
   obtain⟨hi,bg⟩:=P8 vQ TE;have WY:=R7 (H.out.2.2.2.2.1 i hi);have Zl:=H8 H.out.2.2.2.2.2.2.1 hi;have kl:=(UO.of H.out.2.2.2.2.2.2.1).m;obtain⟨hm,WL⟩:∃m:Nat,(bn k.c i).l=(m:Int):=⟨(bn k.c i).l.toNat,by omega⟩
   have pG:gV k y=if (bC k.aa hm).x=true then 0 else 3:=by
    simp only[gV,hk,if_true,bg,hi,II,dm,WL,Int.toNat_natCast]
   have HC:=af pG;have HH:=af WL;have HT:Hid (dm k y=bn k.c i/\ib k.c y=i):=⟨by simp[dm,bg],bg⟩
   rcases B2.out.2.2.t with e0|⟨b,off,rfl,hb,iw⟩
   ·rw[e0]at hi;simp at hi
   obtain⟨⟨t0,t1,t2,t3⟩,lu,MO⟩:=iw i _ (gL hi);have jo:=tx.uH w2.drew ⟨t0,t1,t2,t3⟩ (bn k.c i) WY.1 WY.2 (tx.uA.later MO aK.drew);simp only[tx.TV.val]at jo;have jn:(i:Int)<(k.c.length:Int):=by omega
   have dY:(fun X:World=>Bx X w.1.size (dU a1 c1 a2 c2 (some ⟨b,off,none⟩) c3 k)/\At X b (off+i*7) (tx.jJ t0 t1 t2 t3 (bn k.c i))) w2.drew:=⟨B2.out.2.1.later aK.drew,lu.aj rfl⟩
   have HB:Hid (b<w2.drew.1.size/\Below w.1.size w w2.drew/\df.Rd w2.drew a1 c1 a2 c2 (some ⟨b,off,none⟩) c3 k/\hm<k.aa.length/\k.aa.length<=8/\i<k.c.length):=⟨hb,B2.out.1.drew,B2.out.2.2.later aK.drew,by omega,kl,hi⟩
   clear bg pG vQ iw lu MO WY Zl kl hb B2 WL;go_wp2_with fail;refine bR 10 (fun X:World=>Bx X w.1.size (dU a1 c1 a2 c2 (some ⟨b,off,none⟩) c3 k)/\At X b (off+i*7) (tx.jJ t0 t1 t2 t3 (bn k.c i))) (by kernel_rfl) ?_;generalize w2.drew=XD at *;refine eP 0 ?_ rfl ?_ dY ?_;rotate_left
   ·(intro w aA;have q0:=aA.1.1 0 _ rfl;have q1:=aA.1.1 1 _ rfl;have q2:=aA.1.1 2 _ rfl;have q3:=aA.1.1 3 _ rfl;have q4:=aA.1.1 4 _ rfl;have q5:=aA.1.1 5 _ rfl;go_simp;first|done|with_reducible rfl|rfl)
   simp only[Act.put];refine eP 1 ?_ rfl ?_ dY ?_;rotate_left
   ·(intro w aA;go_simp;first|done|with_reducible rfl)
   simp only[Act.put];refine eP 2 ?_ rfl ?_ dY ?_;rotate_left
   ·(intro w aA;go_simp;first|done|with_reducible rfl)
   simp only[Act.put];refine eP 3 ?_ rfl ?_ dY ?_;rotate_left
   ·(intro w aA;have q4:=aA.1.1 4 _ rfl;go_simp;first|done|with_reducible rfl|rfl)
   simp only[Act.put];refine eP 4 ?_ rfl ?_ dY ?_;rotate_left
   ·(intro w aA;go_simp;first|done|with_reducible rfl)
   simp only[Act.put];refine eP 5 ?_ rfl ?_ dY ?_;rotate_left
   ·(intro w aA;go_simp;first|done|with_reducible rfl|(rw[if_pos (by omega)]))
   simp only[Act.put];refine eP 6 ?_ rfl ?_ dY ?_;rotate_left
   ·(intro w aA;have q0:w.cell? ⟨b,off+i*7,none⟩=some (vI (bn k.c i).id):=aA.2 0 _ rfl;have q1:w.cell? ⟨b,off+i*7+1,none⟩=some (vI (bn k.c i).l):=aA.2 1 _ rfl;have q2:w.cell? ⟨b,off+i*7+2,none⟩=some (vI (bn k.c i).o):=aA.2 2 _ rfl;have q3:w.cell? ⟨b,off+i*7+3,none⟩=some (vI (bn k.c i).q):=aA.2 3 _ rfl;have q4:w.cell? ⟨b,off+i*7+4,none⟩=some (.slice t0 (bn k.c i).a.length t1):=aA.2 4 _ rfl;have q5:w.cell? ⟨b,off+i*7+5,none⟩=some (.slice t2 (bn k.c i).ai.length t3):=aA.2 5 _ rfl;have q6:w.cell? ⟨b,off+i*7+6,none⟩=some (vI (bn k.c i).az):=aA.2 6 _ rfl;go_simp;first|done|with_reducible rfl|rfl)
   simp only[Act.put];refine ed 7 rfl (fun K hK=>?_);go_simp;refine jo.mono ?_;clear jo;rintro e X2 ⟨u0,u1,u2,u3,PR,PS,rfl,ho,b2⟩;simp only[tx.TV.val];obtain⟨hb,bL,ZC,ki,kl,QG⟩:=HB.out;have gN:(fun X:World=>Bx X w.1.size (dU a1 c1 a2 c2 (some ⟨b,off,none⟩) c3 k)/\At X b (off+i*7) (tx.jJ t0 t1 t2 t3 (bn k.c i))) X2:=⟨dY.1.later b2,dY.2.aj (b2.block b (by have:=bL.size;have:=dY.1.2.2;have:=b2.size;omega))⟩
   obtain⟨X3,nL,b3,x3,-⟩:=iI X2 [vI k.v,vI k.u,.slice a1 k.f.length c1,.slice a2 k.aa.length c2,.slice (some ⟨b,off,none⟩) k.c.length c3,.bool k.w,vI (i:Int),vI (bn k.c i).id,vI (bn k.c i).l,vI (bn k.c i).o,vI (bn k.c i).q,.slice u0 (bn k.c i).a.length u1,.slice u2 (bn k.c i).ai.length u3,vI (bn k.c i).az] 108;have jN:(fun X:World=>Bx X w.1.size (dU a1 c1 a2 c2 (some ⟨b,off,none⟩) c3 k)/\At X b (off+i*7) (tx.jJ t0 t1 t2 t3 (bn k.c i))) X3:=⟨gN.1.later b3,gN.2.aj (b3.block b (by have:=gN.1.2.2;have:=hb;have:=bL.size;have:=b2.size;have:=dY.1.2.2;omega))⟩
   have KD:Hid (Bx X3 X2.1.size [vI k.v,vI k.u,.slice a1 k.f.length c1,.slice a2 k.aa.length c2,.slice (some ⟨b,off,none⟩) k.c.length c3,.bool k.w,vI (i:Int),vI (bn k.c i).id,vI (bn k.c i).l,vI (bn k.c i).o,vI (bn k.c i).q,.slice u0 (bn k.c i).a.length u1,.slice u2 (bn k.c i).ai.length u3,vI (bn k.c i).az]/\KT.Ow X3 w.1.size u0 u1 u2 u3 (bn k.c i) (tx.lZ PR PS)/\(∀q,tx.lZ PR PS q->q≠X2.1.size)/\w.1.size<=X2.1.size/\Below w.1.size w X3/\df.Rd X3 a1 c1 a2 c2 (some ⟨b,off,none⟩) c3 k/\Bx X3 w.1.size (dU a1 c1 a2 c2 (some ⟨b,off,none⟩) c3 k)):=⟨x3,((KT.ow ho).low bL.size).later b3,fun q hq e=>by have:=(KT.ow ho).of hq;omega,Nat.le_trans bL.size b2.size,au (au bL b2) b3,(ZC.later b2).later b3,jN.1⟩
   refine hK.out _ _ (fun _=>gN) ?_;clear hK K hb bL ZC b2 b3 x3 ho;refine eP 8 ?_ rfl ?_ gN ?_;rotate_left
   ·(intro w aA;go_simp;first|done|with_reducible rfl)
   simp only[Act.put];refine ed 9 rfl (fun K hK=>?_);go_simp;rw[<-nL];refine hK.out _ _ (fun _=>jN) ?_;clear hK K gN nL;refine ed 10 rfl (fun K hK=>?_);go_simp;refine hK.out _ _ (fun h=>absurd rfl h) ?_;clear hK K jN dY;refine cZ (by kernel_rfl) ?_ _
   have cQ:∀dd os,Calls prog 109 #[.agg #[vI k.v,vI k.u,.slice a1 k.f.length c1,.slice a2 k.aa.length c2,.slice (some ⟨b,off,none⟩) k.c.length c3,.bool k.w],vI (bn k.c i).l] (grow (redrawn X3 dd) os) fun e gH=>e=.returned (.bool (bC k.aa hm).x)/\∃p:Regrown,gH=grow (redrawn X3 p.d) p.os:=fun dd os=>by
    have hh:=Ed (grow (redrawn X3 dd) os) a1 c1 a2 c2 (some ⟨b,off,none⟩) c3 k hm ki (KD.out.2.2.2.2.2.1.later (below_regrown X3 dd os));rw[<-HH.out]at hh;exact Calls.regrown_of hh
   have c0:=fun dd os=>(KD.out.2.2.2.2.2.2.later (below_regrown X3 dd os)).1 0 _ rfl
   have c1':=fun dd os=>(KD.out.2.2.2.2.2.2.later (below_regrown X3 dd os)).1 1 _ rfl
   have c2':=fun dd os=>(KD.out.2.2.2.2.2.2.later (below_regrown X3 dd os)).1 2 _ rfl
   have c3':=fun dd os=>(KD.out.2.2.2.2.2.2.later (below_regrown X3 dd os)).1 3 _ rfl
   have DT:=fun dd os=>(KD.out.2.2.2.2.2.2.later (below_regrown X3 dd os)).1 4 _ rfl
   have tw:=fun dd os=>(KD.out.2.2.2.2.2.2.later (below_regrown X3 dd os)).1 5 _ rfl
   have c8:=fun dd os=>(KD.out.1.later (below_regrown X3 dd os)).1 8 _ rfl
   go_wp2_with fail;refine gy ?_;repeat (go_big_quiet_step (exact cQ _ _))
   refine jb fun dq bu=>?_
   have bq:=below_regrown X3 dq bu
   have K5:Hid (Bx (grow (redrawn X3 dq) bu) X2.1.size [vI k.v,vI k.u,.slice a1 k.f.length c1,.slice a2 k.aa.length c2,.slice (some ⟨b,off,none⟩) k.c.length c3,.bool k.w,vI (i:Int),vI (bn k.c i).id,vI (bn k.c i).l,vI (bn k.c i).o,vI (bn k.c i).q,.slice u0 (bn k.c i).a.length u1,.slice u2 (bn k.c i).ai.length u3,vI (bn k.c i).az]/\KT.Ow (grow (redrawn X3 dq) bu) w.1.size u0 u1 u2 u3 (bn k.c i) (tx.lZ PR PS)/\(∀q,tx.lZ PR PS q->q≠X2.1.size)/\w.1.size<=X2.1.size/\Below w.1.size w (grow (redrawn X3 dq) bu)/\df.Rd (grow (redrawn X3 dq) bu) a1 c1 a2 c2 (some ⟨b,off,none⟩) c3 k):=by
    obtain⟨k1,k2,k3,k4,k5,k6,k7⟩:=KD.out;exact⟨k1.later bq,k2.later bq,k3,k4,au k5 bq,k6.later bq⟩
   clear bq cQ c0 c1' c2' c3' DT tw c8 KD;generalize grow (redrawn X3 dq) bu=w5 at *
   cases Ir:(bC k.aa hm).x with
   | true=>
    have hz:gV k y=0:=by rw[HC.out,Ir];rfl
    have HZ:=af hz;clear hz;go_wp2;go_ret;refine .inr ⟨HZ.out,X2.1.size,u0,u1,u2,u3,tx.lZ PR PS,rfl,?_⟩;rw[HT.out.1,HT.out.2];exact⟨K5.out.1,K5.out.2.1,K5.out.2.2.1,K5.out.2.2.2.1,K5.out.2.2.2.2.1⟩
   | false=>
    have hz:gV k y=3:=by rw[HC.out,Ir];rfl
    have HX:Hid (∀e w',o9 w5 k 3 e w'->vE w a1 c1 a2 c2 (some ⟨b,off,none⟩) c3 k y (gV k y) e w'):=fun e w' h=>.inl ⟨by rw[hz];decide,by rw[hz,H.out.2.2.2.2.2.2.2];exact h.low K5.out.2.2.2.2.1⟩
    have ZE:=fO w5 X2.1.size a1 c1 a2 c2 (some ⟨b,off,none⟩) c3 k [vI (i:Int),vI (bn k.c i).id,vI (bn k.c i).l,vI (bn k.c i).o,vI (bn k.c i).q,.slice u0 (bn k.c i).a.length u1,.slice u2 (bn k.c i).ai.length u3,vI (bn k.c i).az] 3 H.out.2.2.2.2.2.2.1 K5.out.2.2.2.2.2 K5.out.1;clear hz;go_wp2_with fail;refine ZE.mono ?_;clear ZE;intro e w6 hr;have yT:=hr;obtain⟨b1,d1,b2,d2,b3,d3,P,rfl,-,-⟩:=hr;have HR:=af yT;clear yT;go_wp2;exact⟨rfl,HX.out _ _ HR.out⟩
end
namespace tx
open Go.Proofs.Tryz
theorem gG{t:T7}(h:kv t=true):t.a.length<=12/\t.ai.length<=12:=by
 simp only[kv,Bool.and_eq_true,decide_eq_true_eq]at h;exact⟨h.1.1.1.2,h.1.1.2⟩
end tx
namespace tx
open Go.Proofs.Tryz
open Go.RowKit Go.Maps
variable {W W':World}{b n:Nat}{f:Int->Int->Option Nat}{r s:Int}
def jI(r s:Int):Value:=.agg #[vI r,vI s]
theorem vU:Keyed prog 56:=Keyed.of_law (deep_law_laid (m:=5) (by kernel_rfl) (by omega) (of_decide_eq_true (by kernel_rfl)) (by kernel_rfl) (by kernel_rfl))
theorem Rh{i:Nat}(hi:i<=1000000):(Lit.int .i64 (i:Int)).wf=true:=by
 have h1:IntKind.i64.min=-9223372036854775808:=rfl;have h2:IntKind.i64.max=9223372036854775807:=rfl;simp[Lit.wf,h1,h2];omega
theorem six(h:aW 0 5 r=true):r=0\/r=1\/r=2\/r=3\/r=4\/r=5:=by
 rw[dD]at h;omega
theorem AQ(h1:aW 0 5 r=true)(h2:aW 0 5 s=true):∃l,keyOf prog 56 (jI r s)=some l:=by
 have:(keyOf prog 56 (jI r s)).isSome=true:=by
  rcases six h1 with rfl|rfl|rfl|rfl|rfl|rfl<;>rcases six h2 with rfl|rfl|rfl|rfl|rfl|rfl<;>kernel_rfl
 exact Option.isSome_iff_exists.1 this
theorem Qb{q t:Int}{l:Lit}(h1:keyOf prog 56 (jI r s)=some l)(h2:keyOf prog 56 (jI q t)=some l):r=q/\s=t:=by
 have:=vU.inj h1 h2;simp[jI]at this;exact this
def kE(W:World)(b n:Nat)(f:Int->Int->Option Nat):Prop:=
 ∃D:DataW Unit,W.ownsMap prog 56 (plainElem prog 3) b n D/\∀r s l,keyOf prog 56 (jI r s)=some l->(f r s=none->has D l=false)/\(∀i,f r s=some i->has D l=true/\∀z,D.atKey l z=.lit (.int .i64 (i:Int)))
theorem kE.lt(h:kE W b n f):b<W.1.size:=by obtain⟨D,h,_⟩:=h;exact h.lt
theorem kE.aj(h:kE W b n f)(e:W'.1[b]?=W.1[b]?):kE W' b n f:=by
 obtain⟨D,⟨es,clock,hb,r⟩,h'⟩:=h;exact⟨D,⟨es,clock,e.trans hb,r⟩,h'⟩
theorem kE.later(h:kE W b n f)(hb:Below W.1.size W W'):kE W' b n f:=h.aj (hb.block _ h.lt)
theorem kE.made(W:World):kE (W.alloc (.map #[] 0)) W.1.size 0 (fun _ _=>none):=
 ⟨.map [],World.ownsMap_made W _ _ _,fun r s l _=>⟨fun _=>rfl,fun i h=>by cases h⟩⟩
theorem Si(W:World):(zeroValue 3).run prog W=.ok (vI 0) W:=by kernel_rfl
theorem kE.look(h:kE W b n f)(h1:aW 0 5 r=true)(h2:aW 0 5 s=true):
  (Instr.lookup 170 (.map (some b)) (jI r s) true).run prog W=.ok (.tuple #[vI (((f r s).getD 0:Nat):Int),.bool (f r s).isSome]) W:=by
 obtain⟨D,hD,hf⟩:=h;obtain⟨l,hl⟩:=AQ h1 h2;obtain⟨v,ps,kI,hv⟩:=hD.look_ok vU underlying170 (Si W) (plainElem_int underlying3 (by decide)) hl;obtain⟨g1,g2⟩:=hf r s l hl
 cases e:f r s with
 | none=>
  rw[g1 e]at kI;rw[atKey_of_not_has (g1 e)]at hv;obtain⟨a,rfl,ha,_⟩:=plainElem_int_inv underlying3 hv;simp at ha;rw[kI,<-ha.1];rfl
 | some i=>
  rw[(g2 i e).1]at kI;rw[(g2 i e).2]at hv;obtain⟨a,rfl,ha,_⟩:=plainElem_int_inv underlying3 hv;simp at ha;rw[kI,<-ha.1];rfl
def Gw(f:Int->Int->Option Nat)(r s:Int)(i:Nat):Int->Int->Option Nat:=fun q t=>if q=r/\t=s then some i else f q t
theorem dV.of_map(h:W.mapTurned W' b):dV b W W':=by
 have hg:=h.grown;exact⟨hg.os,hg.tape,hg.output,hg.size,fun k hk hc=>hg.block k hk (fun e=>hc (Option.some.inj e))⟩
theorem kE.store{W:World}{b n:Nat}{f:Int->Int->Option Nat}(h:kE W b n f)(hn:n<=1000000){r s:Int}(h1:aW 0 5 r=true)(h2:aW 0 5 s=true)(i:Nat)(hi:i<=1000000):
  ∃W',(Instr.mapUpdate 170 (.map (some b)) (jI r s) (vI (i:Int))).run prog W=.ok () W'/\kE W' b (n+1) (Gw f r s i)/\dV b W W'/\W'.1.size=W.1.size:=by
 obtain⟨D,hD,hf⟩:=h;obtain⟨l,hl⟩:=AQ h1 h2;have mB:=Rh hi;obtain⟨W',kI,YV,ht⟩:=hD.store vU underlying170 (by unfold maxLen;omega) hl (plainElem_int underlying3 mB);refine⟨W',kI,⟨_,YV,fun q t l' Zn=>?_⟩,dV.of_map ht,?_⟩
 ·obtain⟨g1,g2⟩:=hf q t l' Zn;by_cases e:q=r/\t=s
  ·obtain⟨rfl,rfl⟩:=e;rw[hl]at Zn;obtain rfl:=Option.some.inj Zn;refine⟨fun h=>by simp[Gw]at h,fun j hj=>?_⟩;simp[Gw]at hj;subst hj;exact⟨has_put_same hD.isMap (vU.key hl) _,fun z=>atKey_put_same hD.isMap (vU.key hl) _ z⟩
  ·have eO:l'≠l:=fun e'=>e (by rw[e']at Zn;exact Qb Zn hl)
   have ep:Gw f r s i q t=f q t:=by unfold Gw;rw[if_neg e]
   rw[ep];refine⟨fun h=>by rw[has_put_other eO];exact g1 h,fun j hj=>?_⟩;rw[has_put_other eO];exact⟨(g2 j hj).1,fun z=>by rw[atKey_put_other eO];exact(g2 j hj).2 z⟩
 ·obtain⟨es,c,es',c',hb,rfl⟩:=ht;simp[ChangeMaps.setBlock]
def uM(W:World)(b n:Nat):Prop:=∃D:DataW Unit,W.ownsMap prog 56 (plainElem prog 3) b n D
theorem kE.any(h:kE W b n f):uM W b n:=by obtain⟨D,h,_⟩:=h;exact⟨D,h⟩
theorem uM.lt(h:uM W b n):b<W.1.size:=by obtain⟨D,h⟩:=h;exact h.lt
theorem uM.aj(h:uM W b n)(e:W'.1[b]?=W.1[b]?):uM W' b n:=by
 obtain⟨D,es,clock,hb,r⟩:=h;exact⟨D,es,clock,e.trans hb,r⟩
theorem uM.store{W:World}{b n:Nat}(h:uM W b n)(hn:n<=1000000){r s:Int}(h1:aW 0 5 r=true)(h2:aW 0 5 s=true)(i:Nat)(hi:i<=1000000):
  ∃W',(Instr.mapUpdate 170 (.map (some b)) (jI r s) (vI (i:Int))).run prog W=.ok () W'/\uM W' b (n+1)/\dV b W W'/\W'.1.size=W.1.size:=by
 obtain⟨D,hD⟩:=h;obtain⟨l,hl⟩:=AQ h1 h2;have mB:=Rh hi;obtain⟨W',kI,YV,ht⟩:=hD.store vU underlying170 (by unfold maxLen;omega) hl (plainElem_int underlying3 mB);refine⟨W',kI,⟨_,YV⟩,dV.of_map ht,?_⟩;obtain⟨es,c,es',c',hb,rfl⟩:=ht;simp[ChangeMaps.setBlock]
theorem uM.drop{W:World}{b n:Nat}(h:uM W b n){r s:Int}(h1:aW 0 5 r=true)(h2:aW 0 5 s=true)(ty:TypeId):
  ∃W',(Builtin.delete_ #[170,56] ty #[.map (some b),jI r s]).run prog W=.ok (.tuple #[]) W'/\uM W' b n/\dV b W W'/\W'.1.size=W.1.size:=by
 obtain⟨D,hD⟩:=h;obtain⟨l,hl⟩:=AQ h1 h2;obtain⟨W',kI,YV,ht⟩:=hD.drop vU underlying170 hl ty;refine⟨W',kI,⟨_,YV⟩,dV.of_map ht,?_⟩;obtain⟨es,c,es',c',hb,rfl⟩:=ht;simp[ChangeMaps.setBlock]
end tx
namespace tx
open Go.Proofs.Tryz
def qE(p q mb:Nat)(x:Nat):Prop:=x=p\/x=q\/x=mb
theorem aG.mJ{P:Nat->Prop}{c:Nat}{a b:World}(h:dV c a b)(hc:P c):aG P a b:=⟨h.os,h.tape,h.output,h.size,fun q hq hn=>h.block q hq (fun e=>hn (e▸hc))⟩
end tx
namespace tx
open Go.Proofs.Tryz
variable {V W:World}{mb n p q:Nat}{xs:List N5}
structure qF(W:World)(base p q mb n cap:Nat)(xs:List N5):Prop where
 c0:W.cell? ⟨p,0,none⟩=some (.slice (some ⟨q,0,none⟩) xs.length cap)
 c1:W.cell? ⟨p,1,none⟩=some (.map (some mb))
 fz:∀j,W.frozen? ⟨p,j,none⟩=false
 at_:dK W q 0 xs
 rm:Room W q (xs.length*5)
 cp:xs.length<=cap
 mp:uM W mb n
 ok:∀s∈xs,bS s=true
 pq:p≠q
 pm:p≠mb
 qm:q≠mb
 bp:base<=p
 bq:base<=q
 bm:base<=mb
 lp:p<W.1.size
 lq:q<W.1.size
theorem qF.aM{base cap:Nat}(h:qF W base p q mb n cap xs)(hs:W.1.size<=V.1.size)(hk:∀x,qE p q mb x->V.1[x]?=W.1[x]?):qF V base p q mb n cap xs:=
 ⟨(World.cell?_of_block (a:=⟨p,0,none⟩) (hk p (.inl rfl))).trans h.c0,(World.cell?_of_block (a:=⟨p,1,none⟩) (hk p (.inl rfl))).trans h.c1,fun j=>(World.frozen?_of_block (a:=⟨p,j,none⟩) (hk p (.inl rfl))).trans (h.fz j),h.at_.aj (hk q (.inr (.inl rfl))),h.rm.aj (hk q (.inr (.inl rfl))),h.cp,h.mp.aj (hk mb (.inr (.inr rfl))),h.ok,h.pq,h.pm,h.qm,h.bp,h.bq,h.bm,Nat.lt_of_lt_of_le h.lp hs,Nat.lt_of_lt_of_le h.lq hs⟩
theorem qF.later{base cap:Nat}(h:qF W base p q mb n cap xs)(hb:Below W.1.size W V):qF V base p q mb n cap xs:=h.aM hb.size (fun x hx=>hb.block x (by rcases hx with rfl|rfl|rfl;exact h.lp;exact h.lq;exact h.mp.lt))
theorem qF.vJ{base cap:Nat}(h:qF W base p q mb n cap xs)(e:W.drew=V):qF V base p q mb n cap xs:=by rw[<-e];exact h.later (aK.drew)
theorem qF.DI{base n' cap:Nat}(h:qF W base p q mb n cap xs)(ht:dV mb W V)(hm:uM V mb n')(hs:V.1.size=W.1.size):qF V base p q mb n' cap xs:=by
 have hp:=ht.block p h.lp h.pm;have hq:=ht.block q h.lq h.qm;exact⟨(World.cell?_of_block (a:=⟨p,0,none⟩) hp).trans h.c0,(World.cell?_of_block (a:=⟨p,1,none⟩) hp).trans h.c1,fun j=>(World.frozen?_of_block (a:=⟨p,j,none⟩) hp).trans (h.fz j),h.at_.aj hq,h.rm.aj hq,h.cp,hm,h.ok,h.pq,h.pm,h.qm,h.bp,h.bq,h.bm,by rw[hs];exact h.lp,by rw[hs];exact h.lq⟩
theorem qF.Jo{base cap i:Nat}{x:N5}(h:qF W base p q mb n cap xs)(hi:xs[i]?=some x)(y:N5)(hy:bS y=true):qF (((((W.setCell ⟨q,i*5,none⟩ (vI y.b)).setCell ⟨q,i*5+1,none⟩ (vI y.e)).setCell ⟨q,i*5+2,none⟩ (vI y.i)).setCell ⟨q,i*5+3,none⟩ (vI y.g)).setCell ⟨q,i*5+4,none⟩ (.bool y.j)) base p q mb n cap (xs.set i y):=by
 have li:=(List.getElem?_eq_some_iff.1 hi).1;have ho:aX q W (((((W.setCell ⟨q,i*5,none⟩ (vI y.b)).setCell ⟨q,i*5+1,none⟩ (vI y.e)).setCell ⟨q,i*5+2,none⟩ (vI y.i)).setCell ⟨q,i*5+3,none⟩ (vI y.g)).setCell ⟨q,i*5+4,none⟩ (.bool y.j)):=(((((aX.refl q _).setCell _ _).setCell _ _).setCell _ _).setCell _ _).setCell _ _;have hp:=ho.block p h.pq;have hm:=ho.block mb (Ne.symm h.qm);obtain⟨v0,d0,_⟩:=h.rm (i*5) (by omega);obtain⟨v1,d1,_⟩:=h.rm (i*5+1) (by omega);obtain⟨v2,d2,_⟩:=h.rm (i*5+2) (by omega);obtain⟨v3,d3,_⟩:=h.rm (i*5+3) (by omega);obtain⟨v4,d4,_⟩:=h.rm (i*5+4) (by omega);refine⟨(World.cell?_of_block (a:=⟨p,0,none⟩) hp).trans (by rw[List.length_set];exact h.c0),(World.cell?_of_block (a:=⟨p,1,none⟩) hp).trans h.c1,fun j=>(World.frozen?_of_block (a:=⟨p,j,none⟩) hp).trans (h.fz j),fun k s hk=>?_,by rw[List.length_set];exact((((h.rm.set _).set _).set _).set _).set _,by rw[List.length_set];exact h.cp,h.mp.aj hm,fun s hs=>?_,h.pq,h.pm,h.qm,h.bp,h.bq,h.bm,by rw[ho.size];exact h.lp,by rw[ho.size];exact h.lq⟩
 ·rw[Nat.zero_add];by_cases e:i=k
  ·subst e;rw[List.getElem?_set_self li]at hk;obtain rfl:=Option.some.inj hk;exact aP.put y d0 d1 d2 d3 d4
  ·rw[List.getElem?_set_ne e]at hk;have:=h.at_ k s hk;rw[Nat.zero_add]at this;exact((((this.set (by omega) _).set (by omega) _).set (by omega) _).set (by omega) _).set (by omega) _
 ·rcases List.mem_or_eq_of_mem_set hs with hs|rfl
  ·exact h.ok s hs
  ·exact hy
theorem vX(w:World)(base p q mb n cap:Nat)(xs:List N5)(i j:Nat)(x y:N5)(h:qF w base p q mb n cap xs)(hn:n<=100000)(hl:xs.length<=1000)(hi:xs[i]?=some x)(hj:xs[j]?=some y):
  Calls prog 187 #[.pointer (some ⟨p,0,none⟩),vI (i:Int),vI (j:Int)] w fun e w'=>e=.returned (.tuple #[])/\qF w' base p q mb (n+1+1) cap ((xs.set i y).set j x)/\aG (qE p q mb) w w':=by
 have li:=(List.getElem?_eq_some_iff.1 hi).1;have lj:=(List.getElem?_eq_some_iff.1 hj).1;have ix:(i:Int)<(xs.length:Int):=by omega
 have jx:(j:Int)<(xs.length:Int):=by omega
 have hS:(fun X:World=>X.cell? ⟨p,0,none⟩=some (.slice (some ⟨q,0,none⟩) xs.length cap)/\aP X q (i*5) x/\aP X q (j*5) y) w.drew:=⟨h.c0,(show aP w q (i*5) x by simpa using h.at_ i x hi).below ((Below.refl w.1.size w).drew) h.lq,(show aP w q (j*5) y by simpa using h.at_ j y hj).below ((Below.refl w.1.size w).drew) h.lq⟩
 have rd:Room w.drew q (xs.length*5):=h.rm;have KH:=af h;clear h;go_enter func187,ntmps187;go_upto_region 0 with fail
 refine aT (fun z=>z==25||z==27) (fun X:World=>X.cell? ⟨p,0,none⟩=some (.slice (some ⟨q,0,none⟩) xs.length cap)/\aP X q (i*5) x/\aP X q (j*5) y) (by kernel_rfl) ?_;obtain⟨v0,c0,f0⟩:=rd (i*5) (by omega);obtain⟨v1,c1,f1⟩:=rd (i*5+1) (by omega);obtain⟨v2,c2,f2⟩:=rd (i*5+2) (by omega);obtain⟨v3,c3,f3⟩:=rd (i*5+3) (by omega);obtain⟨v4,c4,f4⟩:=rd (i*5+4) (by omega);generalize Ws:w.drew=Wd at *;refine bf 0 rfl hS ?_;simp only[Act.put];refine bf 1 rfl hS ?_;simp only[Act.put];refine bf 2 rfl hS ?_;simp only[Act.put];refine fU 3 ?_ rfl ?_ hS ?_;rotate_left
 ·(intro w aA;obtain⟨s0,⟨a0,a1,a2,a3,a4⟩,⟨b0,b1,b2,b3,b4⟩⟩:=aA;go_simp;first|done|with_reducible rfl)
 simp only[Act.put];refine bf 4 rfl hS ?_;simp only[Act.put];refine bf 5 rfl hS ?_;simp only[Act.put];refine bf 6 rfl hS ?_;simp only[Act.put];refine bf 7 rfl hS ?_;simp only[Act.put];refine fU 8 ?_ rfl ?_ hS ?_;rotate_left
 ·(intro w aA;obtain⟨s0,⟨a0,a1,a2,a3,a4⟩,⟨b0,b1,b2,b3,b4⟩⟩:=aA;go_simp;first|done|with_reducible rfl)
 simp only[Act.put];refine bf 9 rfl hS ?_;simp only[Act.put];refine bf 10 rfl hS ?_;simp only[Act.put];refine bf 11 rfl hS ?_;simp only[Act.put];refine bf 12 rfl hS ?_;simp only[Act.put];refine fU 13 ?_ rfl ?_ hS ?_;rotate_left
 ·(intro w aA;obtain⟨s0,⟨a0,a1,a2,a3,a4⟩,⟨b0,b1,b2,b3,b4⟩⟩:=aA;go_simp;first|done|with_reducible rfl)
 simp only[Act.put];refine bf 14 rfl hS ?_;simp only[Act.put];refine bf 15 rfl hS ?_;simp only[Act.put];refine fU 16 ?_ rfl ?_ hS ?_;rotate_left
 ·(intro w aA;obtain⟨s0,⟨a0,a1,a2,a3,a4⟩,⟨b0,b1,b2,b3,b4⟩⟩:=aA;go_simp;first|done|with_reducible rfl)
 simp only[Act.put];refine bf 17 rfl hS ?_;simp only[Act.put];refine bf 18 rfl hS ?_;simp only[Act.put];refine bf 19 rfl hS ?_;simp only[Act.put];refine fU 20 ?_ rfl ?_ hS ?_;rotate_left
 ·(intro w aA;obtain⟨s0,⟨a0,a1,a2,a3,a4⟩,⟨b0,b1,b2,b3,b4⟩⟩:=aA;go_simp;first|done|with_reducible rfl)
 simp only[Act.put];refine bf 21 rfl hS ?_;simp only[Act.put];refine bf 22 rfl hS ?_;simp only[Act.put];refine fU 23 ?_ rfl ?_ hS ?_;rotate_left
 ·(intro w aA;obtain⟨s0,⟨a0,a1,a2,a3,a4⟩,⟨b0,b1,b2,b3,b4⟩⟩:=aA;go_simp;first|done|with_reducible rfl)
 simp only[Act.put];refine bf 24 rfl hS ?_;simp only[Act.put];refine bG 25 rfl (fun K hK=>?_);go_simp;refine hK.out _ _ (fun h=>absurd (show false=true from h.symm.trans (by kernel_rfl)) (by decide)) ?_;clear hK K;refine bG 26 rfl (fun K hK=>?_);go_simp;refine hK.out _ _ (fun h=>absurd (show false=true from h.symm.trans (by kernel_rfl)) (by decide)) ?_;clear hK K;have r1:Room (((((Wd.setCell ⟨q,i*5,none⟩ (vI y.b)).setCell ⟨q,i*5+1,none⟩ (vI y.e)).setCell ⟨q,i*5+2,none⟩ (vI y.i)).setCell ⟨q,i*5+3,none⟩ (vI y.g)).setCell ⟨q,i*5+4,none⟩ (.bool y.j)) q (xs.length*5):=((((rd.set _).set _).set _).set _).set _;generalize fA:(((((Wd.setCell ⟨q,i*5,none⟩ (vI y.b)).setCell ⟨q,i*5+1,none⟩ (vI y.e)).setCell ⟨q,i*5+2,none⟩ (vI y.i)).setCell ⟨q,i*5+3,none⟩ (vI y.g)).setCell ⟨q,i*5+4,none⟩ (.bool y.j))=W1 at *;obtain⟨u0,e0,g0⟩:=r1 (j*5) (by omega);obtain⟨u1,e1,g1⟩:=r1 (j*5+1) (by omega);obtain⟨u2,e2,g2⟩:=r1 (j*5+2) (by omega);obtain⟨u3,e3,g3⟩:=r1 (j*5+3) (by omega);obtain⟨u4,e4,g4⟩:=r1 (j*5+4) (by omega);refine bG 27 rfl (fun K hK=>?_);go_simp;refine hK.out _ _ (fun h=>absurd (show false=true from h.symm.trans (by kernel_rfl)) (by decide)) ?_;clear hK K;refine bH (by kernel_rfl) ?_ _
 have Od:(xs.set i y)[j]?=some y:=by
  by_cases e:i=j
  ·subst e;rw[List.getElem?_set_self li]
  ·rw[List.getElem?_set_ne e];exact hj
 have PF:qF (((((W1.setCell ⟨q,j*5,none⟩ (vI x.b)).setCell ⟨q,j*5+1,none⟩ (vI x.e)).setCell ⟨q,j*5+2,none⟩ (vI x.i)).setCell ⟨q,j*5+3,none⟩ (vI x.g)).setCell ⟨q,j*5+4,none⟩ (.bool x.j)) base p q mb n cap ((xs.set i y).set j x):=by
  rw[<-fA];exact((KH.out.vJ Ws).Jo hi y (KH.out.ok y (List.mem_of_getElem? hj))).Jo Od x (KH.out.ok x (List.mem_of_getElem? hi))
 have KF:aG (qE p q mb) w (((((W1.setCell ⟨q,j*5,none⟩ (vI x.b)).setCell ⟨q,j*5+1,none⟩ (vI x.e)).setCell ⟨q,j*5+2,none⟩ (vI x.i)).setCell ⟨q,j*5+3,none⟩ (vI x.g)).setCell ⟨q,j*5+4,none⟩ (.bool x.j)):=by
  rw[<-fA,<-Ws];exact(aG.bN ((Below.refl w.1.size w).drew)).trans (aG.jX (c:=q) (((((((((((aX.refl q _).setCell _ _).setCell _ _).setCell _ _).setCell _ _).setCell _ _).setCell _ _).setCell _ _).setCell _ _).setCell _ _).setCell _ _) (.inr (.inl rfl)))
 obtain⟨zi,Q0⟩:∃z,((xs.set i y).set j x)[i]?=some z:=⟨_,List.getElem?_eq_getElem (by simpa using li)⟩
 have ZV:((xs.set i y).set j x)[j]?=some x:=by rw[List.getElem?_set_self (by simpa using lj)]
 have hle:((xs.set i y).set j x).length=xs.length:=by simp
 have YC:Hid (aG (qE p q mb) w (((((W1.setCell ⟨q,j*5,none⟩ (vI x.b)).setCell ⟨q,j*5+1,none⟩ (vI x.e)).setCell ⟨q,j*5+2,none⟩ (vI x.i)).setCell ⟨q,j*5+3,none⟩ (vI x.g)).setCell ⟨q,j*5+4,none⟩ (.bool x.j))/\qF (((((W1.setCell ⟨q,j*5,none⟩ (vI x.b)).setCell ⟨q,j*5+1,none⟩ (vI x.e)).setCell ⟨q,j*5+2,none⟩ (vI x.i)).setCell ⟨q,j*5+3,none⟩ (vI x.g)).setCell ⟨q,j*5+4,none⟩ (.bool x.j)) base p q mb n cap ((xs.set i y).set j x)):=⟨KF,PF⟩
 clear KH PF KF Od rd r1 c0 c1 c2 c3 c4 f0 f1 f2 f3 f4 e0 e1 e2 e3 e4 g0 g1 g2 g3 g4 hS Ws fA ix jx;generalize (((((W1.setCell ⟨q,j*5,none⟩ (vI x.b)).setCell ⟨q,j*5+1,none⟩ (vI x.e)).setCell ⟨q,j*5+2,none⟩ (vI x.i)).setCell ⟨q,j*5+3,none⟩ (vI x.g)).setCell ⟨q,j*5+4,none⟩ (.bool x.j))=V at *;have KH:=YC;clear YC;generalize Y9:(xs.set i y).set j x=zs at *;have tH:zs.length=xs.length:=hle;have ix:(i:Int)<(zs.length:Int):=by omega
 have jx:(j:Int)<(zs.length:Int):=by omega
 rw[<-tH]at li lj hl;have HZ:=af Y9;clear hle hi hj Y9 tH Wd W1;have Ku:=Q0;have Kv:=ZV;clear Q0 ZV;obtain⟨ZR,Xd⟩:∃hz:bS zi=true,V.1.size=V.1.size:=⟨KH.out.2.ok zi (List.mem_of_getElem? Ku),rfl⟩
 have WO:=gI ZR;have hS:(fun X:World=>X.cell? ⟨p,0,none⟩=some (.slice (some ⟨q,0,none⟩) (zs).length cap)/\X.cell? ⟨p,1,none⟩=some (.map (some mb))/\aP X q (i*5) zi) V.drew:=⟨KH.out.2.c0,KH.out.2.c1,(show aP V q (i*5) zi by simpa using KH.out.2.at_ i zi Ku).below ((Below.refl V.1.size V).drew) KH.out.2.lq⟩
 have hm:∀w:World,(method 458 99 (.agg #[vI zi.b,vI zi.e,vI zi.i,vI zi.g,.bool zi.j]) "loop.example/g00153/impl.cell").run prog w=.ok (249,.agg #[vI zi.b,vI zi.e,vI zi.i,vI zi.g,.bool zi.j]) w:=fun _=>by kernel_rfl
 go_upto_region 1 with fail
 refine aT (fun z=>z==14) (fun X:World=>X.cell? ⟨p,0,none⟩=some (.slice (some ⟨q,0,none⟩) (zs).length cap)/\X.cell? ⟨p,1,none⟩=some (.map (some mb))/\aP X q (i*5) zi) (by kernel_rfl) ?_;have KD:Hid (Below V.1.size V V.drew):=aK.drew;generalize V.drew=Wd at *;refine bf 0 rfl hS ?_;simp only[Act.put];refine bf 1 rfl hS ?_;simp only[Act.put];refine bf 2 rfl hS ?_;simp only[Act.put];refine fU 3 ?_ rfl ?_ hS ?_;rotate_left
 ·(intro w aA;obtain⟨s0,s1,⟨a0,a1,a2,a3,a4⟩⟩:=aA;go_simp;first|done|with_reducible rfl)
 simp only[Act.put];refine bf 4 rfl hS ?_;simp only[Act.put];refine bf 5 rfl hS ?_;simp only[Act.put];refine bf 6 rfl hS ?_;simp only[Act.put];refine fU 7 ?_ rfl ?_ hS ?_;rotate_left
 ·(intro w aA;obtain⟨s0,s1,⟨a0,a1,a2,a3,a4⟩⟩:=aA;go_simp;first|done|with_reducible rfl)
 simp only[Act.put];refine bf 8 rfl hS ?_;simp only[Act.put];refine bf 9 rfl hS ?_;simp only[Act.put];refine fU 10 ?_ rfl ?_ hS ?_;rotate_left
 ·(intro w aA;obtain⟨s0,s1,⟨a0,a1,a2,a3,a4⟩⟩:=aA;go_simp;first|done|with_reducible rfl)
 simp only[Act.put];refine bf 11 rfl hS ?_;simp only[Act.put];refine bf 13 rfl hS ?_;simp only[Act.put];refine bG 12 rfl (fun K hK=>?_);go_simp;refine(gY Wd zi).mono ?_;rintro e X2 ⟨rfl,b2⟩;have bX:Below V.1.size V X2:=KD.out.trans (b2.mono KD.out.size);have P2:=KH.out.2.later bX;obtain⟨Y,fq,uR,ng,vR⟩:=P2.mp.store (by omega) WO.1 WO.2 i (by omega);have P3:=P2.DI ng uR vR;have KX:Hid (aG (qE p q mb) w Y/\qF Y base p q mb (n+1) cap (zs)):=⟨(KH.out.1.trans (aG.bN bX)).trans (aG.mJ ng (.inr (.inr rfl))),P3⟩
 simp only[jI]at fq;have gN:(fun X:World=>X.cell? ⟨p,0,none⟩=some (.slice (some ⟨q,0,none⟩) (zs).length cap)/\X.cell? ⟨p,1,none⟩=some (.map (some mb))/\aP X q (i*5) zi) X2:=⟨P2.c0,P2.c1,by simpa using P2.at_ i zi Ku⟩
 refine hK.out _ _ (fun _=>gN) ?_;clear hK K gN hS P2 P3 bX KD uR ng vR hm ZR Xd WO KH b2;refine bG 14 rfl (fun K hK=>?_);go_simp;refine hK.out _ _ (fun h=>absurd (show false=true from h.symm.trans (by kernel_rfl)) (by decide)) ?_;clear hK K fq;refine bH (by kernel_rfl) ?_ _;have KH:=KX;clear KX;generalize Y=V2 at *;obtain⟨ZT,Xe⟩:∃hz:bS x=true,V2.1.size=V2.1.size:=⟨KH.out.2.ok x (List.mem_of_getElem? Kv),rfl⟩
 have WQ:=gI ZT;have hS:(fun X:World=>X.cell? ⟨p,0,none⟩=some (.slice (some ⟨q,0,none⟩) (zs).length cap)/\X.cell? ⟨p,1,none⟩=some (.map (some mb))/\aP X q (j*5) x) V2.drew:=⟨KH.out.2.c0,KH.out.2.c1,(show aP V2 q (j*5) x by simpa using KH.out.2.at_ j x Kv).below ((Below.refl V2.1.size V2).drew) KH.out.2.lq⟩
 have hm:∀w:World,(method 458 99 (.agg #[vI x.b,vI x.e,vI x.i,vI x.g,.bool x.j]) "loop.example/g00153/impl.cell").run prog w=.ok (249,.agg #[vI x.b,vI x.e,vI x.i,vI x.g,.bool x.j]) w:=fun _=>by kernel_rfl
 go_upto_region 2 with fail
 refine aT (fun z=>z==14) (fun X:World=>X.cell? ⟨p,0,none⟩=some (.slice (some ⟨q,0,none⟩) (zs).length cap)/\X.cell? ⟨p,1,none⟩=some (.map (some mb))/\aP X q (j*5) x) (by kernel_rfl) ?_;have KD:Hid (Below V2.1.size V2 V2.drew):=aK.drew;generalize V2.drew=Wd at *;refine bf 0 rfl hS ?_;simp only[Act.put];refine bf 1 rfl hS ?_;simp only[Act.put];refine bf 2 rfl hS ?_;simp only[Act.put];refine fU 3 ?_ rfl ?_ hS ?_;rotate_left
 ·(intro w aA;obtain⟨s0,s1,⟨a0,a1,a2,a3,a4⟩⟩:=aA;go_simp;first|done|with_reducible rfl)
 simp only[Act.put];refine bf 4 rfl hS ?_;simp only[Act.put];refine bf 5 rfl hS ?_;simp only[Act.put];refine bf 6 rfl hS ?_;simp only[Act.put];refine fU 7 ?_ rfl ?_ hS ?_;rotate_left
 ·(intro w aA;obtain⟨s0,s1,⟨a0,a1,a2,a3,a4⟩⟩:=aA;go_simp;first|done|with_reducible rfl)
 simp only[Act.put];refine bf 8 rfl hS ?_;simp only[Act.put];refine bf 9 rfl hS ?_;simp only[Act.put];refine fU 10 ?_ rfl ?_ hS ?_;rotate_left
 ·(intro w aA;obtain⟨s0,s1,⟨a0,a1,a2,a3,a4⟩⟩:=aA;go_simp;first|done|with_reducible rfl)
 simp only[Act.put];refine bf 11 rfl hS ?_;simp only[Act.put];refine bf 13 rfl hS ?_;simp only[Act.put];refine bG 12 rfl (fun K hK=>?_);go_simp;refine(gY Wd x).mono ?_;rintro e X2 ⟨rfl,b2⟩;have bX:=KD.out.trans (b2.mono KD.out.size);have P2:=KH.out.2.later bX;obtain⟨Y,fq,uR,ng,vR⟩:=P2.mp.store (by omega) WQ.1 WQ.2 j (by omega);have P3:=P2.DI ng uR vR;have KX:=dw ((KH.out.1.trans (aG.bN bX)).trans (aG.mJ ng (.inr (.inr rfl)))) P3;simp only[jI]at fq;have gN:=nH P2.c0 P2.c1 (show aP X2 q (j*5) x by simpa using P2.at_ j x Kv);refine hK.out _ _ (fun _=>gN) ?_;clear hK K gN hS P2 P3 bX KD uR ng vR hm ZT Xe WQ KH b2;refine bG 14 rfl (fun K hK=>?_);go_simp;refine hK.out _ _ (fun h=>absurd (show false=true from h.symm.trans (by kernel_rfl)) (by decide)) ?_;clear hK K fq;refine bH (by kernel_rfl) ?_ _;have KH:=KX;clear KX;go_wp2;refine bodyPost_end (v:=.tuple #[]) (by simp[results,results187,go_sem]) rfl ⟨rfl,by rw[HZ.out];exact KH.out.2,KH.out.1⟩
end tx
section
open Go.Proofs.Tryz
namespace dF
variable {c n:Nat}{k:Nat->Int}
def G6{α:Type}(k:Nat->α)(a b:Nat):Nat->α:=fun i=>if i=a then k b else if i=b then k a else k i
def Hp(k:Nat->Int)(n:Nat):Prop:=∀i,0<i->i<n->k ((i-1)/2)<=k i
def yX(k:Nat->Int)(n c:Nat):Prop:=(∀i,0<i->i<n->i≠c->k ((i-1)/2)<=k i)/\(∀i,0<i->i<n->(i-1)/2=c->0<c->k ((c-1)/2)<=k i)
def su(k:Nat->Int)(n c:Nat):Prop:=(∀i,0<i->i<n->(i-1)/2≠c->k ((i-1)/2)<=k i)/\(∀i,0<i->i<n->(i-1)/2=c->0<c->k ((c-1)/2)<=k i)
theorem yX.done(h:yX k n c)(hc:c=0\/k ((c-1)/2)<=k c):Hp k n:=fun i h0 hn=>by
 by_cases e:i=c
 ·subst e;rcases hc with hc|hc
  ·omega
  ·exact hc
 ·exact h.1 i h0 hn e
theorem yX.step(h:yX k n c)(h0:0<c)(hn:c<n)(hl:k c<k ((c-1)/2)):yX (G6 k c ((c-1)/2)) n ((c-1)/2):=by
 obtain⟨h1,h2⟩:=h;refine⟨fun i i0 hi eO=>?_,fun i i0 hi hp AH=>?_⟩
 ·unfold G6;by_cases e1:i=c
  ·subst e1;simp[show ¬(i-1)/2=i by omega];omega
  ·by_cases e2:(i-1)/2=c
   ·simp[e1,eO,e2];exact h2 i i0 hi e2 h0
   ·by_cases e3:(i-1)/2=(c-1)/2
    ·simp[e1,eO,e3,show ¬(c-1)/2=c by omega];have:=h1 i i0 hi e1;rw[e3]at this;omega
    ·simp[e1,eO,e2,e3];exact h1 i i0 hi e1
 ·unfold G6;have hq:=h1 ((c-1)/2) (by omega) (by omega) (by omega);by_cases e1:i=c
  ·subst e1;simp[show ¬((i-1)/2-1)/2=i by omega,show ¬((i-1)/2-1)/2=(i-1)/2 by omega];exact hq
  ·have AV:=h1 i i0 hi e1;rw[hp]at AV;simp[e1,show ¬i=(c-1)/2 by omega,show ¬((c-1)/2-1)/2=c by omega,show ¬((c-1)/2-1)/2=(c-1)/2 by omega];omega
theorem su.done(h:su k n c)(h1:2*c+1<n->k c<=k (2*c+1))(h2:2*c+2<n->k c<=k (2*c+2)):Hp k n:=fun i h0 hn=>by
 by_cases e:(i-1)/2=c
 ·rw[e];rcases(show i=2*c+1\/i=2*c+2 by omega)with rfl|rfl
  ·exact h1 hn
  ·exact h2 hn
 ·exact h.1 i h0 hn e
theorem su.step{l:Nat}(h:su k n c)(hl:l=2*c+1\/l=2*c+2)(hn:l<n)(aN:k l<k c)(h1:2*c+1<n->k l<=k (2*c+1))(h2:2*c+2<n->k l<=k (2*c+2)):su (G6 k c l) n l:=by
 obtain⟨g1,g2⟩:=h;have Gg:(l-1)/2=c:=by omega
 refine⟨fun i i0 hi eO=>?_,fun i i0 hi hp _=>?_⟩
 ·unfold G6;by_cases e0:i=c
  ·subst e0;simp[show ¬(i-1)/2=i by omega,eO];exact g2 l (by omega) hn Gg i0
  ·by_cases e1:(i-1)/2=c
   ·simp only[e1,e0,if_true,if_false];by_cases e2:i=l
    ·simp[e2];omega
    ·simp[e2];rcases(show i=2*c+1\/i=2*c+2 by omega)with rfl|rfl
     ·exact h1 hi
     ·exact h2 hi
   ·have:=g1 i i0 hi e1;by_cases e2:i=l
    ·omega
    ·simp[e0,e1,e2,eO];exact this
 ·unfold G6;have:=g1 i i0 hi (by omega);rw[hp]at this;simp[Gg,show ¬i=c by omega,show ¬i=l by omega];exact this
theorem Hp.top(h:Hp k n):∀i,i<n->k 0<=k i:=by
 intro i
 induction i using Nat.strongRecOn with
 | ind i ih=>
  intro hi;by_cases e:i=0
  ·subst e;exact Int.le_refl _
  ·have:=ih ((i-1)/2) (by omega) (by omega);have:=h i (by omega) hi;omega
theorem yX.Nb(h:Hp k n):yX k (n+1) n:=⟨fun i h0 hn eO=>h i h0 (by omega),fun i h0 hn hp h'=>by omega⟩
theorem su.Ry(h:Hp k (n+1)):su (G6 k 0 n) n 0:=⟨fun i h0 hn eO=>by
 have:=h i h0 (by omega);unfold G6;simp[show ¬i=0 by omega,show ¬i=n by omega,eO,show ¬(i-1)/2=n by omega]
 exact this,fun i h0 hn hp h'=>by omega⟩
end dF
namespace dF
theorem set_set_perm{α:Type}:∀(xs:List α) (a b:Nat) (x y:α),xs[a]?=some x->xs[b]?=some y->((xs.set a y).set b x).Perm xs:=by
 intro xs a b x y ha hb;have wi:=(List.getElem?_eq_some_iff.1 ha).1;have GX:=(List.getElem?_eq_some_iff.1 hb).1;have xT:=(List.getElem?_eq_some_iff.1 ha).2;have ZM:=(List.getElem?_eq_some_iff.1 hb).2;have:=Array.swap_perm (xs:=xs.toArray) (i:=a) (j:=b) (by simpa using wi) (by simpa using GX);have h2:=Array.perm_iff_toList_perm.1 this;simp[Array.swap,xT,ZM]at h2;exact h2
theorem A7{α:Type}(rk:α->Int):∀{l₁ l₂:List α},l₁.Pairwise (fun p q=>rk p<rk q)->l₂.Pairwise (fun p q=>rk p<rk q)->l₁.Perm l₂->l₁=l₂
 | [],l₂,_,_,h=>(List.Perm.nil_eq h)
 | x::r,[],_,_,h=>by have:=h.length_eq;simp at this
 | x::r,y::s,h1,h2,h=>by
  obtain⟨a1,a2⟩:=List.pairwise_cons.1 h1;obtain⟨b1,b2⟩:=List.pairwise_cons.1 h2;have hx:x∈y::s:=h.mem_iff.1 (by simp);have hy:y∈x::r:=h.mem_iff.2 (by simp)
  have e:x=y:=by
   rcases List.mem_cons.1 hx with e|hx
   ·exact e
   ·rcases List.mem_cons.1 hy with e|hy
    ·exact e.symm
    ·have:=a1 y hy;have:=b1 x hx;omega
  subst e;rw[A7 rk a2 b2 (List.Perm.cons_inv h)]
theorem su.congr{k k':Nat->Int}{n:Nat}(h:su k n 0)(e:∀i,i<n->k' i=k i):su k' n 0:=
 ⟨fun i h0 hn hc=>by rw[e i hn,e _ (by omega)];exact h.1 i h0 hn hc,fun i _ _ _ h'=>by omega⟩
end dF
end
namespace tx
open Go.Proofs.Tryz
variable {i:Nat}{x:N5}{xs:List N5}
def jR(xs:List N5)(i:Nat):Int:=rk (aH xs i).b (aH xs i).e
theorem lg(h:xs[i]?=some x):jR xs i=rk x.b x.e:=by
 unfold jR aH;rw[h];rfl
theorem vW(w:World)(base p q mb n cap:Nat)(xs:List N5)(i j:Nat)(x y:N5)(h:qF w base p q mb n cap xs)(hi:xs[i]?=some x)(hj:xs[j]?=some y):
  Calls prog 186 #[.pointer (some ⟨p,0,none⟩),vI (i:Int),vI (j:Int)] w fun e w'=>e=.returned (.bool (decide (rk x.b x.e<rk y.b y.e)))/\Below w.1.size w w':=by
 have li:=(List.getElem?_eq_some_iff.1 hi).1;have lj:=(List.getElem?_eq_some_iff.1 hj).1;have ix:(i:Int)<(xs.length:Int):=by omega
 have jx:(j:Int)<(xs.length:Int):=by omega
 obtain⟨t0,t1,t2,t3,t4⟩:=(show aP w q (i*5) x by simpa using h.at_ i x hi)
 obtain⟨u0,u1,u2,u3,u4⟩:=(show aP w q (j*5) y by simpa using h.at_ j y hj)
 have lift:∀{o:Nat}{u:Value},w.cell? ⟨q,o,none⟩=some u->∀d os,(grow (redrawn w d) os).cell? ⟨q,o,none⟩=some u:=fun {o u} hh d os=>((below_regrown w d os).cell (p:=⟨q,o,none⟩) h.lq).trans hh
 have x0:=lift t0;have y0:=lift u0;have x1:=lift t1;have y1:=lift u1;have x2:=lift t2;have y2:=lift u2;have x3:=lift t3;have y3:=lift u3;have x4:=lift t4;have y4:=lift u4;have z0:=fun d os=>((below_regrown w d os).cell (p:=⟨p,0,none⟩) h.lp).trans h.c0
 have k1:=gI (h.ok x (List.mem_of_getElem? hi));have k2:=gI (h.ok y (List.mem_of_getElem? hj));have cA:∀d os,Calls prog 220 #[.agg #[vI x.b,vI x.e,vI x.i,vI x.g,.bool x.j]] (grow (redrawn w d) os) fun e gH=>e=.returned (vI (rk x.b x.e))/\∃p:Regrown,gH=grow (redrawn w p.d) p.os:=fun d os=>Calls.regrown_of (qZ _ _ k1.1 k1.2)
 have cB:∀d os,Calls prog 220 #[.agg #[vI y.b,vI y.e,vI y.i,vI y.g,.bool y.j]] (grow (redrawn w d) os) fun e gH=>e=.returned (vI (rk y.b y.e))/\∃p:Regrown,gH=grow (redrawn w p.d) p.os:=fun d os=>Calls.regrown_of (qZ _ _ k2.1 k2.2)
 clear lift t0 t1 t2 t3 t4 u0 u1 u2 u3 u4 k1 k2 h hi hj;generalize rk x.b x.e=rx at *;generalize rk y.b y.e=ry at *;generalize x.b=a0 at *;generalize y.b=e0 at *;generalize x.e=a1 at *;generalize y.e=e1 at *;generalize x.i=a2 at *;generalize y.i=e2 at *;generalize x.g=a3 at *;generalize y.g=e3 at *;generalize x.j=a4 at *;generalize y.j=e4 at *;go_enter func186,ntmps186;go_wp2_with fail;refine gy ?_;repeat (go_big_quiet_step (first|(go_at_call_of 220 (Value.agg #[vI a0,vI a1,vI a2,vI a3,.bool a4]);exact cA _ _)|(go_at_call_of 220 (Value.agg #[vI e0,vI e1,vI e2,vI e3,.bool e4]);exact cB _ _)))
 refine wpQuiet_nil ?_;intro _ tL;obtain⟨⟨jH,bu⟩,jF⟩:=tL;subst jF;have bq:=below_regrown w jH bu;go_wp2;go_ret;exact⟨rfl,bq⟩
theorem Dc{j:Nat}{y:N5}(hi:xs[i]?=some x)(hj:xs[j]?=some y)(k:Nat):jR ((xs.set i y).set j x) k=dF.G6 (jR xs) i j k:=by
 have li:=(List.getElem?_eq_some_iff.1 hi).1;have lj:=(List.getElem?_eq_some_iff.1 hj).1;unfold dF.G6;by_cases e1:k=i
 ·subst e1;rw[if_pos rfl];by_cases e2:j=k
  ·subst e2;rw[lg (x:=x) (by rw[List.getElem?_set_self (by simpa using lj)]),lg hi]
  ·rw[lg (x:=y) (by rw[List.getElem?_set_ne e2,List.getElem?_set_self li]),lg hj]
 ·rw[if_neg e1];by_cases e2:k=j
  ·subst e2;rw[if_pos rfl,lg (x:=x) (by rw[List.getElem?_set_self (by simpa using lj)]),lg hi]
  ·rw[if_neg e2];unfold jR aH;rw[List.getElem?_set_ne (Ne.symm e2),List.getElem?_set_ne (Ne.symm e1)]
theorem Ls(w:World)(base p q mb n cap:Nat)(xs:List N5)(c:Nat)(h:qF w base p q mb n cap xs)(hn:n<=10000)(hl:xs.length<=1000)(hc:c<xs.length)(hu:dF.yX (jR xs) xs.length c):
  Calls prog 154 #[.pointer (some ⟨p,0,none⟩),vI (c:Int)] w fun e w'=>e=.returned (.tuple #[])/\∃n' ys,n'<=n+2*c/\qF w' base p q mb n' cap ys/\ys.Perm xs/\dF.Hp (jR ys) ys.length/\aG (qE p q mb) w w':=by
 have H:=dw h hu;clear h hu;go_enter func154,ntmps154;go_wp2;go_loopw[1] (fun v wr=>∃(d n':Nat) (ys:List N5),v=vI (d:Int)/\d<xs.length/\n'+2*d<=n+2*c/\ys.length=xs.length/\qF wr base p q mb n' cap ys/\ys.Perm xs/\dF.yX (jR ys) ys.length d/\aG (qE p q mb) w wr) (fun v _=>(intOf v).toNat)
 case atStart=>exact⟨c,n,xs,rfl,hc,by omega,rfl,H.out.1,List.Perm.refl _,H.out.2,aG.refl _ _⟩
 case round=>
  obtain⟨d,n',ys,rfl,hd,IG,hle,hp,jQ,hu,hk⟩:=hrel;rcases d with _|e
  ·have KE:=pI hp jQ (hu.done (.inl rfl)) hk;clear hp jQ hu hk;have d0:decide ((0:Int)<((0:Nat):Int))=false:=by simp
   go_wp2;refine bodyPost_end (v:=.tuple #[]) (by simp[results,results154,go_sem]) rfl ⟨rfl,n',ys,by omega,KE.out.1,KE.out.2.1,KE.out.2.2.1,KE.out.2.2.2⟩
  ·have d0:decide ((0:Int)<((e+1:Nat):Int))=true:=by simp
   obtain⟨x,hx⟩:∃x,ys[e+1]?=some x:=⟨_,List.getElem?_eq_getElem (by omega)⟩
   obtain⟨y,hy⟩:∃y,ys[e/2]?=some y:=⟨_,List.getElem?_eq_getElem (by omega)⟩
   have c1:=vW wr base p q mb n' cap ys (e+1) (e/2) x y hp hx hy;have KA:=QG hp jQ hu hk hx hy hle;have ZF:=(lg hx).symm;have QS:=(lg hy).symm;rw[ZF,QS]at c1;clear hp jQ hu hk hx hy hle ZF QS;by_cases aN:jR ys (e+1)<jR ys (e/2)
   ·have dl:decide (jR ys (e+1)<jR ys (e/2))=true:=by simpa using aN
    rw[dl]at c1;have J3:=af aN;have ea:((e+1:Nat):Int)=(e:Int)+1:=by omega
    have eb:((e/2:Nat):Int)=(e:Int)/2:=by omega
    rw[ea,eb]at c1;clear aN dl ea eb;go_wp2_with fail;refine c1.mono ?_;clear c1;rintro e' w1 ⟨rfl,b1⟩;have c2:=vX w1 base p q mb n' cap ys (e+1) (e/2) x y (KA.out.1.later b1) (by omega) (by have:=KA.out.2.2.2.2.2.2;omega) KA.out.2.2.2.2.1 KA.out.2.2.2.2.2.1;have ea:((e+1:Nat):Int)=(e:Int)+1:=by omega
    have eb:((e/2:Nat):Int)=(e:Int)/2:=by omega
    rw[ea,eb]at c2;have KB:=af (b1);clear ea eb b1;go_wp2_with fail;refine c2.mono ?_;clear c2;rintro e' w2 ⟨rfl,p2,k2⟩;have KE:=dw p2 ((KA.out.2.2.2.1.trans (aG.bN KB.out)).trans k2);clear p2 k2;go_wp2;obtain⟨f1,f2,f3,f4,f5,f6,f7⟩:=KA.out;refine⟨⟨e/2,n'+1+1,(ys.set (e+1) y).set (e/2) x,by simp,by omega,by omega,by simpa using f7,KE.out.1,(dF.set_set_perm ys (e+1) (e/2) x y f5 f6).trans f2,?_,KE.out.2⟩,by simp[intOf];omega⟩;have fq:=f3.step (by omega) (by omega) (by simpa using J3.out);rw[show(e+1-1)/2=e/2 by omega]at fq;have BZ:jR ((ys.set (e+1) y).set (e/2) x)=dF.G6 (jR ys) (e+1) (e/2):=funext fun k=>Dc f5 f6 k
    rw[BZ];simpa using fq
   ·have dl:decide (jR ys (e+1)<jR ys (e/2))=false:=by simpa using aN
    rw[dl]at c1;have KE:Hid (dF.Hp (jR ys) ys.length):=KA.out.2.2.1.done (.inr (by simp at aN ⊢;omega));have ea:((e+1:Nat):Int)=(e:Int)+1:=by omega
    have eb:((e/2:Nat):Int)=(e:Int)/2:=by omega
    rw[ea,eb]at c1;clear aN dl ea eb;go_wp2_with fail;refine c1.mono ?_;clear c1;rintro e' w1 ⟨rfl,b1⟩;have KB:=af (b1);clear b1;go_wp2;refine bodyPost_ret (v:=.tuple #[]) (by simp[results,results154,go_sem]) rfl ⟨rfl,n',ys,by omega,KA.out.1.later KB.out,KA.out.2.1,KE.out,KA.out.2.2.2.1.trans (aG.bN KB.out)⟩
end tx
namespace tx
open Go.Proofs.Tryz
theorem Lt(w:World)(base p q mb n cap:Nat)(xs:List N5)(h:qF w base p q mb n cap xs)(hn:n<=10000)(hl:xs.length<=1000)(hu:dF.su (jR xs) xs.length 0):
  Calls prog 278 #[.pointer (some ⟨p,0,none⟩),vI 0] w fun e w'=>e=.returned (.tuple #[])/\∃n' ys,n'<=n+2*xs.length/\qF w' base p q mb n' cap ys/\ys.Perm xs/\dF.Hp (jR ys) ys.length/\aG (qE p q mb) w w':=by
 have H:=dw h hu;clear h hu;go_enter func278,ntmps278;go_wp2;go_loopw[1] (fun v wr=>∃(d n':Nat) (ys:List N5),v=vI (d:Int)/\(d<xs.length\/d=0)/\n'<=n+2*d/\ys.length=xs.length/\qF wr base p q mb n' cap ys/\ys.Perm xs/\dF.su (jR ys) ys.length d/\aG (qE p q mb) w wr) (fun v _=>2000-(intOf v).toNat)
 case atStart=>exact⟨0,n,xs,rfl,.inr rfl,by omega,rfl,H.out.1,List.Perm.refl _,H.out.2,aG.refl _ _⟩
 case round=>
  obtain⟨d,n',ys,rfl,hd,IG,hle,hp,jQ,hu,hk⟩:=hrel;have KA:=nE hp jQ hu hk hle;clear hp jQ hu hk hle;have QE:d<=1000:=by omega
  go_wp2;generalize wr=W0 at *;go_loopw[4,5] (fun v4 v5 wr=>∃l b:Nat,v4=vI (l:Int)/\v5=vI (b:Int)/\2*d+1<=b/\b<=2*d+3/\Below W0.1.size W0 wr/\(l=d\/(2*d+1<=l/\l<b/\l<ys.length/\jR ys l<jR ys d))/\(∀j,2*d+1<=j->j<b->j<ys.length->jR ys l<=jR ys j)) (fun _ v5 _=>2*d+3-(intOf v5).toNat)
  case atStart=>exact⟨d,2*d+1,rfl,by simp,by omega,by omega,aK,.inl rfl,fun j h1 h2=>by omega⟩
  case round=>
   obtain⟨l,b,rfl,rfl,DW,kU,aB,uQ,JU⟩:=hrel;have hlen:=KA.out.2.2.2.2;by_cases Wx:b<=2*d+2
   ·have db:decide ((b:Int)<=2*(d:Int)+2)=true:=by simp;omega
    have p0:=(KA.out.1.later aB).c0;rw[hlen]at p0;by_cases Aj:b<xs.length
    ·have dn:decide ((b:Int)<(xs.length:Int))=true:=by simp;omega
     have tH:l<ys.length:=by omega
     obtain⟨x,hx⟩:∃x,ys[b]?=some x:=⟨_,List.getElem?_eq_getElem (by omega)⟩
     obtain⟨y,hy⟩:∃y,ys[l]?=some y:=⟨_,List.getElem?_eq_getElem tH⟩
     have c1:=vW wr base p q mb n' cap ys b l x y (KA.out.1.later aB) hx hy;rw[(lg hx).symm,(lg hy).symm]at c1;have KB:=pI aB uQ JU hlen;clear hx hy aB uQ JU hlen tH;by_cases aN:jR ys b<jR ys l
     ·have dl:decide (jR ys b<jR ys l)=true:=by simpa using aN
      rw[dl]at c1;have J3:=af aN;clear aN dl;go_wp2_with fail;refine c1.mono ?_;clear c1;rintro e' w1 ⟨rfl,b1⟩;have KC:=af (KB.out.1.trans (b1.mono KB.out.1.size));clear b1 p0;go_wp2;obtain⟨_,g1,g2,g3⟩:=KB.out;have g4:=J3.out;refine⟨⟨b,b+1,rfl,by simp,by omega,by omega,KC.out,.inr ⟨by omega,by omega,by omega,?_⟩,fun j h1 h2 h3=>?_⟩,by simp[intOf];omega⟩
      ·rcases g1 with rfl|g1
       ·exact g4
       ·have:=g1.2.2.2;omega
      ·by_cases e:j=b
       ·subst e;exact Int.le_refl _
       ·have:=g2 j h1 (by omega) h3;omega
     ·have dl:decide (jR ys b<jR ys l)=false:=by simpa using aN
      rw[dl]at c1;have J3:=af aN;clear aN dl;go_wp2_with fail;refine c1.mono ?_;clear c1;rintro e' w1 ⟨rfl,b1⟩;have KC:=af (KB.out.1.trans (b1.mono KB.out.1.size));clear b1 p0;go_wp2;obtain⟨_,g1,g2,g3⟩:=KB.out;have g4:=J3.out;refine⟨⟨l,b+1,rfl,by simp,by omega,by omega,KC.out,?_,fun j h1 h2 h3=>?_⟩,by simp[intOf];omega⟩
      ·rcases g1 with g1|g1
       ·exact .inl g1
       ·exact .inr ⟨g1.1,by omega,g1.2.2.1,g1.2.2.2⟩
      ·by_cases e:j=b
       ·subst e;omega
       ·exact g2 j h1 (by omega) h3
    ·have dn:decide ((b:Int)<(xs.length:Int))=false:=by simp;omega
     have KB:=pI aB uQ JU hlen;clear aB uQ JU hlen;go_wp2;obtain⟨g0,g1,g2,g3⟩:=KB.out;refine⟨⟨l,b+1,rfl,by simp,by omega,by omega,g0,?_,fun j h1 h2 h3=>?_⟩,by simp[intOf];omega⟩
     ·rcases g1 with g1|g1
      ·exact .inl g1
      ·exact .inr ⟨g1.1,by omega,g1.2.2.1,g1.2.2.2⟩
     ·exact g2 j h1 (by omega) h3
   ·have db:decide ((b:Int)<=2*(d:Int)+2)=false:=by simp;omega
    have KB:Hid (Below W0.1.size W0 wr/\(l=d\/(2*d+1<=l/\l<=2*d+2/\l<ys.length/\jR ys l<jR ys d))/\(∀j,2*d+1<=j->j<=2*d+2->j<ys.length->jR ys l<=jR ys j)):=⟨aB,by
     rcases uQ with g|g
     ·exact .inl g
     ·exact .inr ⟨g.1,by omega,g.2.2.1,g.2.2.2⟩,fun j h1 h2 h3=>JU j h1 (by omega) h3⟩
    clear uQ JU aB DW kU Wx;by_cases QJ:l=d
    ·have ql:((l:Int)==(d:Int))=true:=by simp;omega
     have KE:Hid (dF.Hp (jR ys) ys.length):=KA.out.2.2.1.done (fun h1=>by have:=KB.out.2.2 (2*d+1) (by omega) (by omega) h1;rwa[QJ]at this) (fun h1=>by have:=KB.out.2.2 (2*d+2) (by omega) (by omega) h1;rwa[QJ]at this);have HD:=af (hd);clear QJ hlen hd;go_wp2;obtain⟨f1,f2,f3,f4,f5⟩:=KA.out;have f6:=HD.out;refine bodyPost_ret (v:=.tuple #[]) (by simp[results,results278,go_sem]) rfl ⟨rfl,n',ys,by omega,f1.later KB.out.1,f2,KE.out,f4.trans (aG.bN KB.out.1)⟩
    ·have ql:((l:Int)==(d:Int))=false:=by simp;omega
     have Va:=KB.out.2.1.resolve_left QJ;obtain⟨x,hx⟩:∃x,ys[d]?=some x:=⟨_,List.getElem?_eq_getElem (by omega)⟩
     obtain⟨y,hy⟩:∃y,ys[l]?=some y:=⟨_,List.getElem?_eq_getElem Va.2.2.1⟩
     have c2:=vX wr base p q mb n' cap ys d l x y (KA.out.1.later KB.out.1) (by omega) (by omega) hx hy;have KX:=fP hx hy Va;clear hx hy Va QJ hlen;go_wp2_with fail;refine c2.mono ?_;clear c2;rintro e' w2 ⟨rfl,p2,k2⟩;have KE:=dw p2 ((KA.out.2.2.2.1.trans (aG.bN KB.out.1)).trans k2);clear p2 k2;go_wp2;obtain⟨f1,f2,f3,f4,f5⟩:=KA.out;obtain⟨g1,g2,g3,g4,g5,g6⟩:=KX.out;refine⟨⟨l,n'+1+1,(ys.set d y).set l x,rfl,.inl (by omega),by omega,by simpa using f5,KE.out.1,(dF.set_set_perm ys d l x y g1 g2).trans f2,?_,KE.out.2⟩,by simp[intOf];omega⟩;have fq:=f3.step (l:=l) (by omega) g5 g6 (fun h1=>KB.out.2.2 _ (by omega) (by omega) h1) (fun h1=>KB.out.2.2 _ (by omega) (by omega) h1);have BZ:jR ((ys.set d y).set l x)=dF.G6 (jR ys) d l:=funext fun k=>Dc g1 g2 k
     rw[BZ];simpa using fq
end tx
namespace tx
open Go.Proofs.Tryz
variable {W:World}{xs:List N5}
theorem aP.jY{V:World}{b o:Nat}{s:N5}(h:aP W b o s)(e:V.1[b]?=W.1[b]?):aP V b o s:=
 ⟨(World.cell?_of_block (a:=⟨b,o,none⟩) e).trans h.c0,(World.cell?_of_block (a:=⟨b,o+1,none⟩) e).trans h.c1,(World.cell?_of_block (a:=⟨b,o+2,none⟩) e).trans h.c2,(World.cell?_of_block (a:=⟨b,o+3,none⟩) e).trans h.c3,(World.cell?_of_block (a:=⟨b,o+4,none⟩) e).trans h.c4⟩
theorem qF.trunc{base p q mb n cap:Nat}(h:qF W base p q mb n cap xs)(m:Nat)(hm:m<=xs.length):qF (W.setCell ⟨p,0,none⟩ (.slice (some ⟨q,0,none⟩) m cap)) base p q mb n cap (xs.take m):=by
 have JV:(xs.take m).length=m:=by rw[List.length_take];omega
 have hq:(W.setCell ⟨p,0,none⟩ (.slice (some ⟨q,0,none⟩) m cap)).1[q]?=W.1[q]?:=Below.heap_setCell _ _ _ _ (fun e=>h.pq e.symm);refine⟨by rw[JV];exact ay h.c0,(ae (by omega)).trans h.c1,fun j=>by rw[World.frozen?_setCell];exact h.fz j,fun i s e=>?_,fun j hj=>?_,by have:=h.cp;omega,h.mp.aj (Below.heap_setCell _ _ _ _ (fun e=>h.pm e.symm)),fun s hs=>h.ok s (List.mem_of_mem_take hs),h.pq,h.pm,h.qm,h.bp,h.bq,h.bm,by simpa[World.setCell]using h.lp,by simpa[World.setCell]using h.lq⟩
 ·rw[List.getElem?_take]at e;split at e
  ·exact(h.at_.aj hq) i s e
  ·cases e
 ·exact(h.rm.aj hq) j (by rw[JV]at hj;have:m*5<=xs.length*5:=Nat.mul_le_mul_right 5 hm;omega)
theorem XA{m:Nat}{x y:N5}(hl:xs.length=m+1)(hx:xs[0]?=some x)(hy:xs[m]?=some y):((xs.set 0 y).set m x)[m]?=some x/\xs.Perm (x::((xs.set 0 y).set m x).take m):=by
 have h1:((xs.set 0 y).set m x)[m]?=some x:=by rw[List.getElem?_set_self (by simp;omega)]
 have h2:=dF.set_set_perm xs 0 m x y hx hy;have wq:((xs.set 0 y).set m x).length=m+1:=by simpa using hl
 refine⟨h1,h2.symm.trans ?_⟩;generalize (xs.set 0 y).set m x=zs at *
 have h3:zs=zs.take m++[x]:=by
  have e:zs.take (m+1)=zs:=List.take_of_length_le (by omega);have:=List.take_add_one (l:=zs) (i:=m);rw[h1,e]at this;simpa using this
 exact(List.Perm.of_eq h3).trans List.perm_append_comm
theorem Lu(w:World)(base p q mb n cap m:Nat)(xs:List N5)(x:N5)(h:qF w base p q mb n cap xs)(hn:n<=9000)(hl:xs.length=m+1)(JU:m<=100)(hx:xs[0]?=some x)(hu:dF.Hp (jR xs) xs.length):
  Calls prog 272 #[.pointer (some ⟨p,0,none⟩)] w fun e w'=>e=.returned (.agg #[vI x.b,vI x.e,vI x.i,vI x.g,.bool x.j])/\∃n' ys,n'<=n+2+2*m/\qF w' base p q mb n' cap ys/\xs.Perm (x::ys)/\dF.Hp (jR ys) ys.length/\aG (qE p q mb) w w':=by
 obtain⟨y,hy⟩:∃y,xs[m]?=some y:=⟨_,List.getElem?_eq_getElem (by omega)⟩
 obtain⟨W0,dO⟩:=bO (w.alloc (.cells #[vI 0,vI 0,vI 0,vI 0,.bool false] 99));have b0:Below w.1.size w W0:=by rw[dO];exact aK.alloc aU _
 have h0:=h.later b0;have zr:W0.1[w.1.size]?=some (.cells #[vI 0,vI 0,vI 0,vI 0,.bool false] 99 (0,0)):=by rw[dO];exact heap_alloc_new w _
 have p0:=h0.c0;rw[hl,dO]at p0;have wa:IntKind.i64.wrap (((m+1:Nat):Int)-1)=(m:Int):=by simp[IntKind.wrap,IntKind.bits,IntKind.signed];omega
 have c1:=vX W0 base p q mb n cap xs 0 m x y h0 (by omega) (by omega) hx hy;obtain⟨mi,oP⟩:=XA hl hx hy
 have DX:dF.su (jR (((xs.set 0 y).set m x).take m)) m 0:=by
  rw[hl]at hu;have hd:=dF.su.Ry hu;have BZ:jR ((xs.set 0 y).set m x)=dF.G6 (jR xs) 0 m:=funext fun k=>Dc hx hy k
  rw[<-BZ]at hd;refine hd.congr (fun i hi=>?_);unfold jR aH;rw[List.getElem?_take,if_pos hi]
 have H:=xZ b0 (show w.1.size<W0.1.size by rw[dO];simp) zr mi oP DX (h.ok x (List.mem_of_getElem? hx)) (nH (show p≠w.1.size by have:=h.lp;omega) (show q≠w.1.size by have:=h.lq;omega) (show mb≠w.1.size by have:=h.mp.lt;omega));have vT:((xs.set 0 y).set m x).length=m+1:=by simpa using hl
 clear h h0 b0 zr mi oP DX hu hx hy;generalize (xs.set 0 y).set m x=zs at *;go_enter func272,ntmps272;go_wp2_with fail;rw[<-dO];clear dO;refine c1.mono ?_;clear c1 p0;rintro e w1 ⟨rfl,p1,k1⟩;have e0:=p1.c0;rw[vT]at e0;obtain⟨t0,t1,t2,t3,t4⟩:=(show aP w1 q (m*5) x by simpa using p1.at_ m x H.out.2.2.2.1)
 have mx:(m:Int)<((m+1:Nat):Int):=by omega
 obtain⟨W1,fA⟩:=bO (w1.alloc (.cells #[vI x.b,vI x.e,vI x.i,vI x.g,.bool x.j] 99));have b1:Below w1.1.size w1 W1:=by rw[fA];exact aK.alloc aU _
 have z1:W1.1.size=w1.1.size+1:=by rw[fA];simp
 have e1:=(b1.cell (p:=⟨p,0,none⟩) p1.lp).trans e0;have f1:=(p1.later b1).fz 0;have xS:=p1.cp;rw[vT]at xS;have bx1:aP W1 w1.1.size 0 x:=by rw[fA];exact aP.box w1 x _
 have pt:=(p1.later b1).trunc m (by omega);obtain⟨W2,AU⟩:=bO (W1.setCell ⟨p,0,none⟩ (.slice (some ⟨q,0,none⟩) m cap));rw[<-AU]at pt;have yS:p≠w1.1.size:=by have:=p1.lp;omega
 have YR:aP W2 w1.1.size 0 x:=by
  rw[AU];exact aP.jY bx1 (Below.heap_setCell _ _ _ _ (fun e=>yS e.symm))
 have K2:Hid (qF W2 base p q mb (n+1+1) cap (zs.take m)/\aP W2 w1.1.size 0 x/\aG (qE p q mb) w W2/\w1.1.size<W2.1.size/\W2.1[w.1.size]?=some (.cells #[vI 0,vI 0,vI 0,vI 0,.bool false] 99 (0,0))/\w.1.size<w1.1.size/\p≠w1.1.size/\q≠w1.1.size/\mb≠w1.1.size):=by
  have kk:aG (qE p q mb) w1 W2:=by
   rw[AU];exact(aG.bN b1).trans (aG.uj _ _ (.inl rfl))
  have E5:¬qE p q mb w.1.size:=by
   rintro (e|e|e)
   ·exact H.out.2.2.2.2.2.2.2.1 e.symm
   ·exact H.out.2.2.2.2.2.2.2.2.1 e.symm
   ·exact H.out.2.2.2.2.2.2.2.2.2 e.symm
  have ZX:=k1.trans kk;exact⟨pt,YR,(aG.bN H.out.1).trans ZX,by rw[AU];simp[World.setCell,z1],(ZX.block _ H.out.2.1 E5).trans H.out.2.2.1,Nat.lt_of_lt_of_le H.out.2.1 k1.size,yS,by have:=p1.lq;omega,by have:=p1.mp.lt;omega⟩
 clear p1 k1 b1 z1 bx1 YR pt yS;rw[fA]at AU e1 f1;have km:(m:Int)<=(cap:Int):=by omega
 go_upto_region 5 with fail
 rw[<-AU];clear AU fA e0 e1 f1 t0 t1 t2 t3 t4 W1;have hk:=gI H.out.2.2.2.2.2.2.1;obtain⟨lb,GX⟩:=bO w1.1.size;rw[<-GX]at K2 ⊢;have s7:=af (GX);clear GX;have hS:(fun X:World=>X.cell? ⟨p,1,none⟩=some (.map (some mb))/\aP X lb 0 x) W2.drew:=⟨K2.out.1.c1,K2.out.2.1.below ((Below.refl W2.1.size W2).drew) K2.out.2.2.2.1⟩
 have hm:∀w:World,(method 458 99 (.agg #[vI x.b,vI x.e,vI x.i,vI x.g,.bool x.j]) "loop.example/g00153/impl.cell").run prog w=.ok (249,.agg #[vI x.b,vI x.e,vI x.i,vI x.g,.bool x.j]) w:=fun _=>by kernel_rfl
 refine aT (fun _=>false) (fun X:World=>X.cell? ⟨p,1,none⟩=some (.map (some mb))/\aP X lb 0 x) (by kernel_rfl) ?_;have KD:Hid (Below W2.1.size W2 W2.drew):=aK.drew;generalize W2.drew=Wd at *;refine bf 0 rfl hS ?_;simp only[Act.put];refine bf 1 rfl hS ?_;simp only[Act.put];refine bf 2 rfl hS ?_;simp only[Act.put];refine fU 3 ?_ rfl ?_ hS ?_;rotate_left
 ·(intro w aA;obtain⟨s1,⟨a0,a1,a2,a3,a4⟩⟩:=aA;go_simp;first|done|with_reducible rfl)
 simp only[Act.put];refine fU 4 ?_ rfl ?_ hS ?_;rotate_left
 ·(intro w aA;obtain⟨s1,⟨a0,a1,a2,a3,a4⟩⟩:=aA;go_simp;first|done|with_reducible rfl)
 simp only[Act.put];refine bf 5 rfl hS ?_;simp only[Act.put];refine bG 6 rfl (fun K hK=>?_);go_simp;refine(gY Wd x).mono ?_;rintro e X2 ⟨rfl,b2⟩;have bX:=KD.out.trans (b2.mono KD.out.size);have P2:=K2.out.1.later bX;obtain⟨Y,fq,uR,ng,vR⟩:=P2.mp.drop hk.1 hk.2 0;have P3:=P2.DI ng uR vR;have gN:=And.intro P2.c1 (K2.out.2.1.below bX K2.out.2.2.2.1)
 have K3:Hid (qF Y base p q mb (n+1+1) cap (zs.take m)/\aP Y lb 0 x/\aG (qE p q mb) w Y/\lb<Y.1.size/\Y.1[w.1.size]?=some (.cells #[vI 0,vI 0,vI 0,vI 0,.bool false] 99 (0,0))/\w.1.size<lb/\p≠lb/\q≠lb/\mb≠lb):=by
  obtain⟨_,g1,g2,g3,g4,g5,g6,g7,g8⟩:=K2.out;have bL:=bX.size;refine⟨P3,aP.jY (gN.2) (ng.block lb (by omega) (Ne.symm g8)),(g2.trans (aG.bN bX)).trans (aG.mJ ng (.inr (.inr rfl))),by rw[vR];omega,?_,g5,g6,g7,g8⟩;exact(ng.block _ (by omega) (fun e=>H.out.2.2.2.2.2.2.2.2.2 e.symm)).trans ((bX.block _ (by omega)).trans g4)
 simp only[jI]at fq;refine hK.out _ _ (fun _=>gN) ?_;have jN:=And.intro K3.out.1.c1 K3.out.2.1;clear hK K gN hS P2 P3 bX KD uR ng vR hm hk b2 K2;refine bG 7 rfl (fun K hK=>?_);go_simp;refine hK.out _ _ (fun _=>jN) ?_;clear hK K fq jN;refine bH (by kernel_rfl) ?_ _;have aN:(zs.take m).length=m:=by rw[List.length_take];omega
 have c3:=Lt Y base p q mb (n+1+1) cap (zs.take m) K3.out.1 (by omega) (by omega) (by rw[aN];exact H.out.2.2.2.2.2.1);rw[aN]at c3;have J3:=af aN;clear aN;go_wp2_with fail;refine c3.mono ?_;clear c3;rintro e w5 ⟨rfl,n5,ys,kt,p5,aE,uS,k5⟩;have Xz:∀b,b≠p->b≠q->b≠mb->¬qE p q mb b:=fun b h1 h2 h3 h=>by rcases h with h|h|h;exact h1 h;exact h2 h;exact h3 h
 obtain⟨_,g1,g2,g3,g4,g5,g6,g7,g8⟩:=K3.out;obtain⟨t0,t1,t2,t3,t4⟩:=aP.jY g1 (k5.block lb g3 (Xz lb (Ne.symm g6) (Ne.symm g7) (Ne.symm g8)));have DN:=(k5.block w.1.size (by omega) (Xz _ (Ne.symm H.out.2.2.2.2.2.2.2.1) (Ne.symm H.out.2.2.2.2.2.2.2.2.1) (Ne.symm H.out.2.2.2.2.2.2.2.2.2))).trans g4;have r0:w5.cell? ⟨w.1.size,0,none⟩=some (vI 0):=by rw[cell_of_row w5 _ 0 _ _ _ DN];rfl
 have r1:w5.cell? ⟨w.1.size,1,none⟩=some (vI 0):=by rw[cell_of_row w5 _ 1 _ _ _ DN];rfl
 have r2:w5.cell? ⟨w.1.size,2,none⟩=some (vI 0):=by rw[cell_of_row w5 _ 2 _ _ _ DN];rfl
 have r3:w5.cell? ⟨w.1.size,3,none⟩=some (vI 0):=by rw[cell_of_row w5 _ 3 _ _ _ DN];rfl
 have r4:w5.cell? ⟨w.1.size,4,none⟩=some (.bool false):=by rw[cell_of_row w5 _ 4 _ _ _ DN];rfl
 have q0:=frozen_of_row w5 _ 0 _ _ DN;have q1:=frozen_of_row w5 _ 1 _ _ DN;have q2:=frozen_of_row w5 _ 2 _ _ DN;have q3:=frozen_of_row w5 _ 3 _ _ DN;have q4:=frozen_of_row w5 _ 4 _ _ DN;have KE:=nE (show n5<=n+2+2*m by omega) p5 (H.out.2.2.2.2.1.trans (List.Perm.cons x aE.symm)) uS (g2.trans k5);have HP:=af (H.out.2.2.2.2.2.2.2);simp only[Nat.zero_add]at t0 t1 t2 t3 t4;clear g1 g2 g3 g4 g5 g6 g7 g8 DN Xz p5 aE uS k5 kt H K3 vT J3 xS;go_wp2;refine bodyPost_ret (v:=.agg #[vI x.b,vI x.e,vI x.i,vI x.g,.bool x.j]) (by simp[results,results272,go_sem,r0,r1,r2,r3,r4]) rfl ⟨rfl,n5,ys,KE.out.1,?_,KE.out.2.2.1,KE.out.2.2.2.1,?_⟩
 ·refine KE.out.2.1.aM (by simp[World.setCell]) (fun b hb=>?_)
  have Aj:b≠w.1.size:=by
   rcases hb with rfl|rfl|rfl
   ·exact HP.out.1
   ·exact HP.out.2.1
   ·exact HP.out.2.2
  exact(Below.heap_setCell _ _ _ _ Aj).trans ((Below.heap_setCell _ _ _ _ Aj).trans ((Below.heap_setCell _ _ _ _ Aj).trans ((Below.heap_setCell _ _ _ _ Aj).trans (Below.heap_setCell _ _ _ _ Aj))))
 ·have kk:=KE.out.2.2.2.2;refine⟨kk.os,kk.tape,kk.output,by simpa[World.setCell]using kk.size,fun b hb Aa=>?_⟩;have Aj:b≠w.1.size:=by omega
  exact((Below.heap_setCell _ _ _ _ Aj).trans ((Below.heap_setCell _ _ _ _ Aj).trans ((Below.heap_setCell _ _ _ _ Aj).trans ((Below.heap_setCell _ _ _ _ Aj).trans (Below.heap_setCell _ _ _ _ Aj))))).trans (kk.block b hb Aa)
end tx
namespace tx
open Go.Proofs.Tryz
variable {x:N5}
def oK(s:N5):Int:=rk s.b s.e
def Vx:Value->Nat
 | .slice _ n _=>n
 | _=>0
theorem Fp{xs:List N5}{i:Nat}(h:xs[i]?=some x):jR xs i=oK x:=lg h
theorem ao{ys:List N5}(h:dF.Hp (jR ys) ys.length)(hx:ys[0]?=some x):∀b∈ys,oK x<=oK b:=fun b hb=>by
 obtain⟨i,hi,rfl⟩:=List.getElem_of_mem hb;have:=h.top i hi;rwa[Fp hx,Fp (List.getElem?_eq_getElem hi)]at this
theorem Es(w:World)(base p q mb n cap:Nat)(xs:List N5)(h:qF w base p q mb n cap xs)(hn:n<=5000)(hl:xs.length<=13)(hu:dF.Hp (jR xs) xs.length)(hd:xs.Pairwise (fun a b=>oK a≠oK b)):
  Calls prog 251 #[.pointer (some ⟨p,0,none⟩)] w fun e w'=>∃v out,e=.returned v/\gZ w' w.1.size v out/\out.Perm xs/\out.Pairwise (fun a b=>oK a<oK b)/\aG (qE p q mb) w w':=by
 have Gd:=nH h.lp h.lq h.mp.lt;have H:=pI h hu hd Gd;clear h hu hd Gd;go_enter func251,ntmps251;go_wp2;go_loopw[3] (fun v wr=>∃(n':Nat) (ys out:List N5),gZ wr w.1.size v out/\qF wr base p q mb n' cap ys/\dF.Hp (jR ys) ys.length/\(out++ys).Perm xs/\out.Pairwise (fun a b=>oK a<oK b)/\(∀a∈out,∀b∈ys,oK a<oK b)/\n'+60*ys.length<=n+60*xs.length/\aG (qE p q mb) w wr) (fun v _=>100-Vx v)
 case atStart=>exact⟨n,xs,[],gZ.nil _ _,H.out.1,H.out.2.1,by simp,by simp,by simp,Nat.le_refl _,aG.refl _ _⟩
 case round=>
  obtain⟨n',ys,out,iV,hp,hu,jQ,TK,aN,IG,hk⟩:=hrel;obtain⟨a3,k3,rfl,-⟩:=iV.form;have hlen:out.length+ys.length=xs.length:=by have:=jQ.length_eq;simpa using this
  have p0:=hp.c0
  cases Oo:ys with
  | nil=>
   subst Oo;have KE:=pI iV (show out.Perm xs by simpa using jQ) TK hk;simp only[List.length_nil]at p0;clear iV hp hu jQ TK aN hk hlen IG;go_wp2;go_ret;exact⟨_,out,rfl,KE.out.1,KE.out.2.1,KE.out.2.2.1,KE.out.2.2.2⟩
  | cons x r=>
   have hx:ys[0]?=some x:=by rw[Oo];rfl
   have QY:ys.length=r.length+1:=by rw[Oo];rfl
   have c1:=Lu wr base p q mb n' cap r.length ys x hp (by omega) QY (by omega) hx hu;rw[QY]at p0;have d0:decide ((0:Int)<((r.length+1:Nat):Int))=true:=by simp
   have Iw:=(jQ.symm.pairwise_iff (fun {a b} (h:oK a≠oK b)=>h.symm)).1 H.out.2.2.1;have KA:=xZ iV jQ TK aN hk (ao hu hx) (List.mem_of_getElem? hx) (And.intro Iw QY);clear iV hp hu jQ TK aN hk hx Iw Oo;go_wp2_with fail;refine c1.mono ?_;clear c1 p0;rintro e w1 ⟨rfl,n1,zs,JW,p1,O7,Oi,k1⟩;obtain⟨g1,g2,g3,g4,g5,g6,g7,g8,g9⟩:=KA.out
   have KI:∀b,w.1.size<=b->¬qE p q mb b:=fun b hb h=>by
    obtain⟨_,_,_,l1,l2,l3⟩:=H.out;rcases h with h|h|h<;>omega
   have jG:=g1.aM (fun b hb aN _=>k1.block b aN (KI b hb));obtain⟨V,hV⟩:=bO (w1.alloc (.cells #[vI x.b,vI x.e,vI x.i,vI x.g,.bool x.j] 99));have bV:Below w1.1.size w1 V:=by rw[hV];exact aK.alloc aU _
   have jE:dK V w1.1.size 0 [x]:=by rw[hV];exact(aP.box w1 _ _).one
   have Xb:=Nat.le_trans g5.size k1.size;obtain⟨v',Y,hr,pM,gP,iD⟩:=vZ (jG.later bV) [x] (by simp;omega) 88 w1.1.size 0 1 jE (by have:=bV.size;omega);have vT:zs.length=r.length:=by have:=O7.length_eq;simp at this;omega
   have ZP:∀b∈zs,oK x<oK b:=fun b hb=>by
    have h1:=g6 b (O7.mem_iff.2 (by simp[hb]));have h2:=(O7.pairwise_iff (fun {a b} (h:oK a≠oK b)=>h.symm)).1 ((List.pairwise_append.1 g8).2.1);have h3:=(List.pairwise_cons.1 h2).1 b hb;omega
   have kY:aG (qE p q mb) w Y:=by
    have k0:=(g5.trans k1).trans (aG.bN bV);exact⟨gP.os.trans k0.os,gP.tape.trans k0.tape,gP.output.trans k0.output,Nat.le_trans k0.size gP.size,fun b hb Aa=>(gP.block b (Nat.lt_of_lt_of_le hb k0.size) (fun e=>by have:=(jG.lt e.symm).1;omega)).trans (k0.block b hb Aa)⟩
   have KE:Hid (gZ Y w.1.size v' (out++[x])/\qF Y base p q mb n1 cap zs/\dF.Hp (jR zs) zs.length/\((out++[x])++zs).Perm xs/\(out++[x]).Pairwise (fun a b=>oK a<oK b)/\(∀a∈out++[x],∀b∈zs,oK a<oK b)/\n1+60*zs.length<=n+60*xs.length/\aG (qE p q mb) w Y):=by
    refine⟨pM,?_,Oi,?_,?_,?_,by omega,kY⟩
    ·refine(p1.later bV).aM gP.size (fun b hb=>gP.block b ?_ (fun e=>?_))
     ·have:=bV.size;rcases hb with rfl|rfl|rfl
      ·have:=p1.lp;omega
      ·have:=p1.lq;omega
      ·have:=p1.mp.lt;omega
     ·exact KI b (jG.lt e.symm).1 hb
    ·rw[List.append_assoc];exact((List.Perm.refl out).append (O7.symm:(x::zs).Perm ys)).trans g2
    ·rw[List.pairwise_append];exact⟨g3,by simp,fun a ha b hb=>by simp at hb;subst hb;exact g4 a ha b g7⟩
    ·intro a ha b hb;rcases List.mem_append.1 ha with ha|ha
     ·exact g4 a ha b (O7.mem_iff.2 (by simp[hb]))
     ·simp at ha;subst ha;exact ZP b hb
   have HL:=dw (show out.length<13 by omega) (show ∃a c,v'=.slice a (out++[x]).length c by obtain⟨a,c,e,_⟩:=pM.form;exact⟨a,c,e⟩);rw[hV]at hr;clear hV bV jE pM gP iD jG KI vT ZP kY g1 g2 g3 g4 g5 g6 g7 g8 g9 p1 O7 Oi k1 Xb;simp only[List.length_cons,List.length_nil,Nat.zero_add]at hr;go_wp2_with (at_builtin;refine eD _ rfl (.tmp 10) (.tmp 13) 88 rfl _ _ _ _ rfl rfl hr ?_);obtain⟨g1,a,c,rfl⟩:=HL.out;exact⟨⟨n1,zs,out++[x],KE.out⟩,by simp[Vx];omega⟩
end tx
namespace tx
open Go.Proofs.Tryz
variable {xs:List N5}
def kS(xs:List N5)(r s:Int):Option Nat:=xs.findIdx? fun x=>decide (x.b=r)&&decide (x.e=s)
theorem Jh{x:N5}(h:kS xs x.b x.e=none):kS (xs++[x])=Gw (kS xs) x.b x.e xs.length:=by
 funext r s;unfold kS Gw;rw[List.findIdx?_append];by_cases e:r=x.b/\s=x.e
 ·obtain⟨rfl,rfl⟩:=e;unfold kS at h;rw[h];simp[List.findIdx?_cons]
 ·rw[if_neg e]
  have:[x].findIdx? (fun x=>decide (x.b=r)&&decide (x.e=s))=none:=by
   simp[List.findIdx?_cons];intro h1 h2;exact e ⟨h1.symm,h2.symm⟩
  rw[this];simp
theorem ui{r s:Int}:kS xs r s=none↔∀x∈xs,¬(x.b=r/\x.e=s):=by
 unfold kS;rw[List.findIdx?_eq_none_iff];constructor
 ·intro h x hx e;have:=h x hx;simp[e.1,e.2]at this
 ·intro h x hx;have:=h x hx;simp only[Bool.and_eq_false_iff,decide_eq_false_iff_not];by_cases e:x.b=r
  ·exact .inr (fun e'=>this ⟨e,e'⟩)
  ·exact .inl e
structure sw(W:World)(base p mb n:Nat)(v:Value)(xs:List N5):Prop where
 c0:W.cell? ⟨p,0,none⟩=some v
 c1:W.cell? ⟨p,1,none⟩=some (.map (some mb))
 fz:∀j,W.frozen? ⟨p,j,none⟩=false
 row:gZ W base v xs
 mp:kE W mb n (kS xs)
 ok:∀s∈xs,bS s=true
 vp:v.ownBlock≠some p
 vm:v.ownBlock≠some mb
 pm:p≠mb
 bp:base<=p
 bm:base<=mb
 lp:p<W.1.size
theorem sw.later{W V:World}{base p mb n:Nat}{v:Value}{xs:List N5}(h:sw W base p mb n v xs)(hb:Below W.1.size W V):sw V base p mb n v xs:=
 ⟨(hb.cell (p:=⟨p,0,none⟩) h.lp).trans h.c0,(hb.cell (p:=⟨p,1,none⟩) h.lp).trans h.c1,fun j=>(hb.frozen (p:=⟨p,j,none⟩) h.lp).trans (h.fz j),h.row.later hb,h.mp.later hb,h.ok,h.vp,h.vm,h.pm,h.bp,h.bm,Nat.lt_of_lt_of_le h.lp hb.size⟩
theorem sw.Yq{W:World}{base p mb n:Nat}{v:Value}(h:sw W base p mb n v xs)(hx:xs≠[]):∃q cap,v=.slice (some ⟨q,0,none⟩) xs.length cap/\qF W base p q mb n cap xs:=by
 obtain⟨a,c,e,ho⟩:=h.row.form;rcases ho with ho|⟨q,rfl,hq,hl,ha,hr⟩
 ·exact absurd ho hx
 ·refine⟨q,c,e,⟨by rw[<-e];exact h.c0,h.c1,h.fz,ha,hr,?_,h.mp.any,h.ok,fun e'=>h.vp (by rw[hq,e']),h.pm,fun e'=>h.vm (by rw[hq,e']),h.bp,(h.row.lt hq).1,h.bm,h.lp,hl⟩⟩;rcases h.row.2 with ⟨h0,_⟩|⟨q',aZ,cur,h0,_,_,hc,_⟩
  ·rw[h0]at e;cases e
  ·rw[h0]at e;cases e;exact hc
theorem Lr(w:World)(base p q mb n cap:Nat)(xs:List N5)(c:Nat)(h:qF w base p q mb n cap xs)(hl:xs.length<=1000)(hc:c<xs.length)(hs:c=0\/jR xs ((c-1)/2)<=jR xs c):
  Calls prog 154 #[.pointer (some ⟨p,0,none⟩),vI (c:Int)] w fun e w'=>e=.returned (.tuple #[])/\Below w.1.size w w':=by
 have H:=af h;clear h;go_enter func154,ntmps154;go_wp2;go_loopw[1] (fun v wr=>v=vI (c:Int)/\wr=w) (fun _ _=>0)
 case atStart=>exact⟨rfl,rfl⟩
 case round=>
  obtain⟨rfl,rfl⟩:=hrel;rcases c with _|e
  ·have d0:decide ((0:Int)<((0:Nat):Int))=false:=by simp
   go_wp2;refine bodyPost_end (v:=.tuple #[]) (by simp[results,results154,go_sem]) rfl ⟨rfl,aK⟩
  ·have d0:decide ((0:Int)<((e+1:Nat):Int))=true:=by simp
   obtain⟨x,hx⟩:∃x,xs[e+1]?=some x:=⟨_,List.getElem?_eq_getElem (by omega)⟩
   obtain⟨y,hy⟩:∃y,xs[e/2]?=some y:=⟨_,List.getElem?_eq_getElem (by omega)⟩
   have c1:=vW wr base p q mb n cap xs (e+1) (e/2) x y H.out hx hy;rw[(lg hx).symm,(lg hy).symm]at c1
   have dl:decide (jR xs (e+1)<jR xs (e/2))=false:=by
    have:=hs.resolve_left (by omega);rw[show(e+1-1)/2=e/2 by omega]at this;simpa using this
   rw[dl]at c1;have ea:((e+1:Nat):Int)=(e:Int)+1:=by omega
   have eb:((e/2:Nat):Int)=(e:Int)/2:=by omega
   rw[ea,eb]at c1;clear dl ea eb hx hy hs;go_wp2_with fail;refine c1.mono ?_;clear c1;rintro e' w1 ⟨rfl,b1⟩;have KB:=af b1;clear b1;go_wp2;refine bodyPost_ret (v:=.tuple #[]) (by simp[results,results154,go_sem]) rfl ⟨rfl,KB.out⟩
theorem OJ(w:World)(base p mb n:Nat)(v:Value)(xs:List N5)(x:N5)(h:sw w base p mb n v xs)(hn:n<=1000)(hl:xs.length<=100)(il:bS x=true)(jD:kS xs x.b x.e=none)(Iu:base<=w.1.size)(hs:xs=[]\/jR (xs++[x]) ((xs.length-1)/2)<=jR (xs++[x]) xs.length):
  Calls prog 113 #[.pointer (some ⟨p,0,none⟩),.agg #[vI x.b,vI x.e,vI x.i,vI x.g,.bool x.j]] w fun e w'=>e=.returned (.tuple #[])/\∃v',sw w' base p mb (n+1) v' (xs++[x])/\Below base w w':=by
 obtain⟨W0,dO⟩:=bO (w.alloc (.cells #[vI x.b,vI x.e,vI x.i,vI x.g,.bool x.j] 99));have b0:Below w.1.size w W0:=by rw[dO];exact aK.alloc aU _
 have z0:W0.1.size=w.1.size+1:=by rw[dO];simp
 have x0:aP W0 w.1.size 0 x:=by rw[dO];exact aP.box w x _
 have h0:=h.later b0;have hk:=gI il;have yS:=h.lp;have et:=h.mp.lt
 have lk:∀d os,(Instr.lookup 170 (.map (some mb)) (jI x.b x.e) true).run prog (grow (redrawn W0 d) os)=.ok (.tuple #[vI 0,.bool false]) (grow (redrawn W0 d) os):=fun d os=>by
  have hu:=((h0.mp).later (below_regrown W0 d os)).look hk.1 hk.2;rw[jD]at hu;exact hu
 have lift:∀{b o:Nat}{u:Value},b<W0.1.size->W0.cell? ⟨b,o,none⟩=some u->∀d os,(grow (redrawn W0 d) os).cell? ⟨b,o,none⟩=some u:=fun {b o u} hb hh d os=>((below_regrown W0 d os).cell (p:=⟨b,o,none⟩) hb).trans hh
 have m1:=lift (by omega) h0.c1;have t0:=lift (by omega) x0.c0;have t1:=lift (by omega) x0.c1;have t2:=lift (by omega) x0.c2;have t3:=lift (by omega) x0.c3;have t4:=lift (by omega) x0.c4;have cC:∀d os,Calls prog 249 #[.agg #[vI x.b,vI x.e,vI x.i,vI x.g,.bool x.j]] (grow (redrawn W0 d) os) fun e gH=>e=.returned (.agg #[vI x.b,vI x.e])/\∃p:Regrown,gH=grow (redrawn W0 p.d) p.os:=fun d os=>Calls.regrown_of (gY _ _)
 have hm:∀w:World,(method 458 99 (.agg #[vI x.b,vI x.e,vI x.i,vI x.g,.bool x.j]) "loop.example/g00153/impl.cell").run prog w=.ok (249,.agg #[vI x.b,vI x.e,vI x.i,vI x.g,.bool x.j]) w:=fun _=>by kernel_rfl
 have H:=xZ h0 x0 b0 z0 Iu jD il (show v.ownBlock≠some w.1.size from fun e=>by have:=(h.row.lt e).2;omega);have HS:=af hs;clear h h0 x0 b0 z0 Iu jD il hs lift;simp only[jI,Nat.zero_add]at lk t0 t1 t2 t3 t4;go_enter func113,ntmps113;go_wp2_with fail;rw[<-dO];clear dO;refine gy ?_;repeat (go_big_quiet_step (exact cC _ _))
 refine wpQuiet_nil ?_;intro _ tL;obtain⟨⟨jH,bu⟩,jF⟩:=tL;subst jF;have bq:=below_regrown W0 jH bu
 have K1:Hid (sw (grow (redrawn W0 jH) bu) base p mb n v xs/\aP (grow (redrawn W0 jH) bu) w.1.size 0 x/\Below w.1.size w (grow (redrawn W0 jH) bu)/\w.1.size<(grow (redrawn W0 jH) bu).1.size):=by
  obtain⟨g1,g2,g3,g4,_⟩:=H.out;have:=bq.size;exact⟨g1.later bq,g2.below bq (by omega),g3.trans (bq.mono g3.size),by omega⟩
 clear bq m1 t0 t1 t2 t3 t4 cC lk;obtain⟨av,ac,Kq,-⟩:=K1.out.1.row.form;have m0:=K1.out.1.c0;rw[Kq]at m0;have HV:=af Kq;clear Kq;go_upto_region 5 with fail
 clear m0;generalize grow (redrawn W0 jH) bu=W1 at *;have hS:(fun X:World=>X.cell? ⟨p,0,none⟩=some v/\aP X w.1.size 0 x) W1.drew:=⟨K1.out.1.c0,K1.out.2.1.below ((Below.refl W1.1.size W1).drew) K1.out.2.2.2⟩
 refine aT (fun z=>z==10) (fun X:World=>X.cell? ⟨p,0,none⟩=some v/\aP X w.1.size 0 x) (by kernel_rfl) ?_;have KD:Hid (Below W1.1.size W1 W1.drew):=aK.drew;generalize W1.drew=Wd at *;refine bf 0 rfl hS ?_;simp only[Act.put];refine bf 1 rfl hS ?_;simp only[Act.put];refine bf 2 rfl hS ?_;simp only[Act.put];refine bf 3 rfl hS ?_;simp only[Act.put];refine fU 4 ?_ rfl ?_ hS ?_;rotate_left
 ·(intro w aA;obtain⟨s0,⟨a0,a1,a2,a3,a4⟩⟩:=aA;go_simp;first|done|with_reducible rfl)
 simp only[Act.put];refine fU 5 ?_ rfl ?_ hS ?_;rotate_left
 ·(intro w aA;obtain⟨s0,⟨a0,a1,a2,a3,a4⟩⟩:=aA;go_simp;first|done|with_reducible rfl)
 simp only[Act.put];obtain⟨V,hV⟩:=bO (Wd.alloc (.cells #[vI x.b,vI x.e,vI x.i,vI x.g,.bool x.j] 99));have bV:Below Wd.1.size Wd V:=by rw[hV];exact aK.alloc aU _
 have Bt:=KD.out.trans (bV.mono KD.out.size);have jE:dK V Wd.1.size 0 [x]:=by rw[hV];exact(aP.box Wd _ _).one
 have fJ:=(K1.out.1.later Bt)
 obtain⟨v5,Y5,hr,mY,gP,iD⟩:=vZ fJ.row [x] (by simp;omega) 88 Wd.1.size 0 1 jE (by have:=fJ.bp;have:=fJ.lp;omega)
 obtain⟨a5,k5,rfl⟩:∃a5 k5,v5=Value.slice a5 (xs.length+1) k5:=by
  obtain⟨a5,k5,e5,-⟩:=mY.form;exact⟨a5,k5,by simpa using e5⟩
 have qR:=Nat.lt_of_lt_of_le K1.out.2.2.2 Bt.size;have Kn:=And.intro fJ.c0 (K1.out.2.1.below Bt K1.out.2.2.2);have kb:∀b,b<V.1.size->v.ownBlock≠some b->Y5.1[b]?=V.1[b]?:=fun b hb eO=>gP.block b hb (fun e=>eO e.symm)
 have xP:(fun X:World=>X.cell? ⟨p,0,none⟩=some v/\aP X w.1.size 0 x) Y5:=⟨(World.cell?_of_block (a:=⟨p,0,none⟩) (kb p fJ.lp fJ.vp)).trans fJ.c0,aP.jY Kn.2 (kb _ qR H.out.2.2.2.2.2.2.2)⟩
 have ru:∀b,b<V.1.size->v.ownBlock≠some b->(Value.slice a5 (xs.length+1) k5).ownBlock≠some b:=fun b hb eO e=>by
  rcases iD with h|h
  ·rw[h]at e;exact eO e
  ·rw[h]at e;cases e;omega
 have K5:Hid (gZ Y5 base (Value.slice a5 (xs.length+1) k5) (xs++[x])/\Y5.cell? ⟨p,0,none⟩=some v/\Y5.cell? ⟨p,1,none⟩=some (.map (some mb))/\(∀j,Y5.frozen? ⟨p,j,none⟩=false)/\kE Y5 mb n (kS xs)/\(Value.slice a5 (xs.length+1) k5).ownBlock≠some p/\(Value.slice a5 (xs.length+1) k5).ownBlock≠some mb/\p<Y5.1.size/\Below base w Y5/\aP Y5 w.1.size 0 x/\w.1.size<Y5.1.size/\(Value.slice a5 (xs.length+1) k5).ownBlock≠some w.1.size/\mb<V.1.size):=by
  have uS:=kb p fJ.lp fJ.vp;have WS:=kb mb fJ.mp.lt fJ.vm;have V8:Below base w V:=(K1.out.2.2.1.mono H.out.2.2.2.2.1).trans (Bt.mono (by have:=K1.out.1.bp;have:=K1.out.1.lp;omega));refine⟨mY,xP.1,(World.cell?_of_block (a:=⟨p,1,none⟩) uS).trans fJ.c1,fun j=>(World.frozen?_of_block (a:=⟨p,j,none⟩) uS).trans (fJ.fz j),fJ.mp.aj WS,ru p fJ.lp fJ.vp,ru mb fJ.mp.lt fJ.vm,Nat.lt_of_lt_of_le fJ.lp gP.size,?_,xP.2,Nat.lt_of_lt_of_le qR gP.size,ru _ qR H.out.2.2.2.2.2.2.2,fJ.mp.lt⟩;exact V8.grown gP (by have:=fJ.bp;have:=fJ.lp;omega) (fun b e=>(fJ.row.lt e).1)
 rw[hV]at hr;have f0:=K5.out.2.2.2.1 0;have e0:=K5.out.2.1;simp only[List.length_cons,List.length_nil,Nat.zero_add]at hr;refine bG 6 rfl (fun K hK=>?_);go_simp;refine hK.out _ _ (fun _=>by rw[<-hV];exact Kn) ?_;clear hK K;refine bG 7 rfl (fun K hK=>?_);refine bJ _ rfl (.tmp 34) (.tmp 36) 88 rfl _ _ _ _ (by first|rfl|simp[Act.eval,Act.put]) (by first|rfl|simp[Act.eval,Act.put]) hr ?_;refine hK.out _ _ (fun _=>xP) ?_;clear hK K hr;simp only[Act.put];refine bf 8 rfl xP ?_;simp only[Act.put];refine bf 9 rfl xP ?_;simp only[Act.put];refine bG 10 rfl (fun K hK=>?_);go_simp;refine hK.out _ _ (fun h=>absurd (show false=true from h.symm.trans (by kernel_rfl)) (by decide)) ?_;clear hK K;refine bH (by kernel_rfl) ?_ _
 have KU:Hid (aP (Y5.setCell ⟨p,0,none⟩ (Value.slice a5 (xs.length+1) k5)) w.1.size 0 x/\gZ (Y5.setCell ⟨p,0,none⟩ (Value.slice a5 (xs.length+1) k5)) base (Value.slice a5 (xs.length+1) k5) (xs++[x])/\(Y5.setCell ⟨p,0,none⟩ (Value.slice a5 (xs.length+1) k5)).cell? ⟨p,0,none⟩=some (Value.slice a5 (xs.length+1) k5)/\(Y5.setCell ⟨p,0,none⟩ (Value.slice a5 (xs.length+1) k5)).cell? ⟨p,1,none⟩=some (.map (some mb))/\(∀j,(Y5.setCell ⟨p,0,none⟩ (Value.slice a5 (xs.length+1) k5)).frozen? ⟨p,j,none⟩=false)/\kE (Y5.setCell ⟨p,0,none⟩ (Value.slice a5 (xs.length+1) k5)) mb n (kS xs)/\(Value.slice a5 (xs.length+1) k5).ownBlock≠some p/\(Value.slice a5 (xs.length+1) k5).ownBlock≠some mb/\p<(Y5.setCell ⟨p,0,none⟩ (Value.slice a5 (xs.length+1) k5)).1.size/\Below base w (Y5.setCell ⟨p,0,none⟩ (Value.slice a5 (xs.length+1) k5))/\w.1.size<(Y5.setCell ⟨p,0,none⟩ (Value.slice a5 (xs.length+1) k5)).1.size/\(Value.slice a5 (xs.length+1) k5).ownBlock≠some w.1.size):=by
  obtain⟨g1,g2,g3,g4,g5,g6,g7,g8,g9,F8,F9,Kl,g13⟩:=K5.out;have bp:=K1.out.1.bp;have dS:∀b,b≠p->(Y5.setCell ⟨p,0,none⟩ (Value.slice a5 (xs.length+1) k5)).1[b]?=Y5.1[b]?:=fun b hb=>Below.heap_setCell _ _ _ _ hb
  refine⟨aP.jY F8 (dS _ (by omega)),g1.aM (fun b _ _ e=>dS b (fun e'=>g6 (by rw[e,e']))),ay g2,(ae (by omega)).trans g3,fun j=>by rw[World.frozen?_setCell];exact g4 j,g5.aj (dS mb (fun e=>K1.out.1.pm e.symm)),g6,g7,by simpa[World.setCell]using g8,g9.setCell (p:=⟨p,0,none⟩) bp _,by simpa[World.setCell]using F9,Kl⟩
 clear K5 hS Kn xP kb ru gP iD mY fJ jE Bt bV hV V qR f0 e0 KD;generalize Y5.setCell ⟨p,0,none⟩ (Value.slice a5 (xs.length+1) k5)=W5 at *;clear Y5;have hS:(fun X:World=>X.cell? ⟨p,1,none⟩=some (.map (some mb))/\aP X w.1.size 0 x) W5.drew:=⟨KU.out.2.2.2.1,KU.out.1.below ((Below.refl W5.1.size W5).drew) KU.out.2.2.2.2.2.2.2.2.2.2.1⟩
 go_upto_region 6 with fail
 refine aT (fun z=>z==8) (fun X:World=>X.cell? ⟨p,1,none⟩=some (.map (some mb))/\aP X w.1.size 0 x) (by kernel_rfl) ?_;have KD:Hid (Below W5.1.size W5 W5.drew):=aK.drew;generalize W5.drew=We at *;refine bf 0 rfl hS ?_;simp only[Act.put];refine bf 1 rfl hS ?_;simp only[Act.put];refine bf 2 rfl hS ?_;simp only[Act.put];refine fU 3 ?_ rfl ?_ hS ?_;rotate_left
 ·(intro w aA;obtain⟨s0,⟨a0,a1,a2,a3,a4⟩⟩:=aA;go_simp;first|done|with_reducible rfl)
 simp only[Act.put];refine fU 4 ?_ rfl ?_ hS ?_;rotate_left
 ·(intro w aA;obtain⟨s0,⟨a0,a1,a2,a3,a4⟩⟩:=aA;go_simp;first|done|with_reducible rfl)
 simp only[Act.put];refine bf 5 rfl hS ?_;simp only[Act.put];refine bf 7 rfl hS ?_;simp only[Act.put];refine bG 6 rfl (fun K hK=>?_);go_simp;refine(gY We x).mono ?_;rintro e X2 ⟨rfl,b2⟩;have bX:=KD.out.trans (b2.mono KD.out.size);obtain⟨Y,fq,uR,ng,vR⟩:=(KU.out.2.2.2.2.2.1.later bX).store (by omega) hk.1 hk.2 xs.length (by omega);rw[<-Jh H.out.2.2.2.2.2.1]at uR
 have gN:(fun X:World=>X.cell? ⟨p,1,none⟩=some (.map (some mb))/\aP X w.1.size 0 x) X2:=by
  obtain⟨g1,g2,g3,g4,g5,g6,g7,g8,g9,F8,F9,Kl⟩:=KU.out;exact⟨(bX.cell (p:=⟨p,1,none⟩) g9).trans g4,g1.below bX F9⟩
 have K7:Hid (sw Y base p mb (n+1) (Value.slice a5 (xs.length+1) k5) (xs++[x])/\Below base w Y):=by
  obtain⟨g1,g2,g3,g4,g5,g6,g7,g8,g9,F8,F9,Kl⟩:=KU.out;have jQ:=K1.out.1.pm;have uS:=(ng.block p (Nat.lt_of_lt_of_le g9 bX.size) jQ).trans (bX.block p g9);refine⟨⟨(World.cell?_of_block (a:=⟨p,0,none⟩) uS).trans g3,(World.cell?_of_block (a:=⟨p,1,none⟩) uS).trans g4,fun j=>(World.frozen?_of_block (a:=⟨p,j,none⟩) uS).trans (g5 j),g2.aM (fun b _ hb e=>(ng.block b (Nat.lt_of_lt_of_le hb bX.size) (fun e'=>g8 (by rw[e,e']))).trans (bX.block b hb)),uR,fun s hs=>?_,g7,g8,jQ,K1.out.1.bp,K1.out.1.bm,by rw[vR];exact Nat.lt_of_lt_of_le g9 bX.size⟩,?_⟩
  ·rcases List.mem_append.1 hs with hs|hs
   ·exact K1.out.1.ok s hs
   ·simp at hs;subst hs;exact H.out.2.2.2.2.2.2.1
  ·have sI:base<=W5.1.size:=by have:=K1.out.1.bp;omega
   exact(F8.trans (bX.mono sI)).trans (ng.below K1.out.1.bm (Nat.le_trans sI bX.size))
 simp only[jI]at fq;refine hK.out _ _ (fun _=>gN) ?_;clear hK K gN hS bX KD uR ng vR hm hk b2;refine bG 8 rfl (fun K hK=>?_);go_simp;refine hK.out _ _ (fun h=>absurd (show false=true from h.symm.trans (by kernel_rfl)) (by decide)) ?_;clear hK K fq;refine bH (by kernel_rfl) ?_ _;obtain⟨q5,cap5,my,P7⟩:=K7.out.1.Yq (by simp)
 have c7:=Lr Y base p q5 mb (n+1) cap5 (xs++[x]) xs.length P7 (by simp;omega) (by simp) (by
  rcases HS.out with h|h
  ·exact .inl (by rw[h];rfl)
  ·exact .inr h)
 go_wp2_with fail;refine c7.mono ?_;clear c7;rintro e w8 ⟨rfl,b8⟩;have KE:=dw (K7.out.1.later b8) (show Below base w w8 from K7.out.2.trans (b8.mono (by have:=K7.out.1.bp;have:=K7.out.1.lp;omega)));clear b8;go_wp2;refine bodyPost_end (v:=.tuple #[]) (by simp[results,results113,go_sem]) rfl ⟨rfl,(Value.slice a5 (xs.length+1) k5),KE.out.1,KE.out.2⟩
theorem Rq(w:World)(base p mb n:Nat)(v:Value)(xs:List N5)(x:N5)(h:sw w base p mb n v xs)(hn:n<=1000)(hl:xs.length<=100)(il:bS x=true)(jD:kS xs x.b x.e=none)(Iu:base<=w.1.size)(hs:dF.Hp (jR xs) xs.length):
  Calls prog 113 #[.pointer (some ⟨p,0,none⟩),.agg #[vI x.b,vI x.e,vI x.i,vI x.g,.bool x.j]] w fun e w'=>e=.returned (.tuple #[])/\∃q cap n' ys,n'<=n+1+2*xs.length/\qF w' base p q mb n' cap ys/\ys.Perm (xs++[x])/\dF.Hp (jR ys) ys.length/\Below base w w':=by
 obtain⟨W0,dO⟩:=bO (w.alloc (.cells #[vI x.b,vI x.e,vI x.i,vI x.g,.bool x.j] 99));have b0:Below w.1.size w W0:=by rw[dO];exact aK.alloc aU _
 have z0:W0.1.size=w.1.size+1:=by rw[dO];simp
 have x0:aP W0 w.1.size 0 x:=by rw[dO];exact aP.box w x _
 have h0:=h.later b0;have hk:=gI il;have yS:=h.lp;have et:=h.mp.lt
 have lk:∀d os,(Instr.lookup 170 (.map (some mb)) (jI x.b x.e) true).run prog (grow (redrawn W0 d) os)=.ok (.tuple #[vI 0,.bool false]) (grow (redrawn W0 d) os):=fun d os=>by
  have hu:=((h0.mp).later (below_regrown W0 d os)).look hk.1 hk.2;rw[jD]at hu;exact hu
 have lift:∀{b o:Nat}{u:Value},b<W0.1.size->W0.cell? ⟨b,o,none⟩=some u->∀d os,(grow (redrawn W0 d) os).cell? ⟨b,o,none⟩=some u:=fun {b o u} hb hh d os=>((below_regrown W0 d os).cell (p:=⟨b,o,none⟩) hb).trans hh
 have m1:=lift (by omega) h0.c1;have t0:=lift (by omega) x0.c0;have t1:=lift (by omega) x0.c1;have t2:=lift (by omega) x0.c2;have t3:=lift (by omega) x0.c3;have t4:=lift (by omega) x0.c4;have cC:∀d os,Calls prog 249 #[.agg #[vI x.b,vI x.e,vI x.i,vI x.g,.bool x.j]] (grow (redrawn W0 d) os) fun e gH=>e=.returned (.agg #[vI x.b,vI x.e])/\∃p:Regrown,gH=grow (redrawn W0 p.d) p.os:=fun d os=>Calls.regrown_of (gY _ _)
 have hm:∀w:World,(method 458 99 (.agg #[vI x.b,vI x.e,vI x.i,vI x.g,.bool x.j]) "loop.example/g00153/impl.cell").run prog w=.ok (249,.agg #[vI x.b,vI x.e,vI x.i,vI x.g,.bool x.j]) w:=fun _=>by kernel_rfl
 have H:=xZ h0 x0 b0 z0 Iu jD il (show v.ownBlock≠some w.1.size from fun e=>by have:=(h.row.lt e).2;omega);have HS:=af hs;clear h h0 x0 b0 z0 Iu jD il hs lift;simp only[jI,Nat.zero_add]at lk t0 t1 t2 t3 t4;go_enter func113,ntmps113;go_wp2_with fail;rw[<-dO];clear dO;refine gy ?_;repeat (go_big_quiet_step (exact cC _ _))
 refine wpQuiet_nil ?_;intro _ tL;obtain⟨⟨jH,bu⟩,jF⟩:=tL;subst jF;have bq:=below_regrown W0 jH bu
 have K1:Hid (sw (grow (redrawn W0 jH) bu) base p mb n v xs/\aP (grow (redrawn W0 jH) bu) w.1.size 0 x/\Below w.1.size w (grow (redrawn W0 jH) bu)/\w.1.size<(grow (redrawn W0 jH) bu).1.size):=by
  obtain⟨g1,g2,g3,g4,_⟩:=H.out;have:=bq.size;exact⟨g1.later bq,g2.below bq (by omega),g3.trans (bq.mono g3.size),by omega⟩
 clear bq m1 t0 t1 t2 t3 t4 cC lk;obtain⟨av,ac,Kq,-⟩:=K1.out.1.row.form;have m0:=K1.out.1.c0;rw[Kq]at m0;have HV:=af Kq;clear Kq;go_upto_region 5 with fail
 clear m0;generalize grow (redrawn W0 jH) bu=W1 at *;have hS:(fun X:World=>X.cell? ⟨p,0,none⟩=some v/\aP X w.1.size 0 x) W1.drew:=⟨K1.out.1.c0,K1.out.2.1.below ((Below.refl W1.1.size W1).drew) K1.out.2.2.2⟩
 refine aT (fun z=>z==10) (fun X:World=>X.cell? ⟨p,0,none⟩=some v/\aP X w.1.size 0 x) (by kernel_rfl) ?_;have KD:Hid (Below W1.1.size W1 W1.drew):=aK.drew;generalize W1.drew=Wd at *;refine bf 0 rfl hS ?_;simp only[Act.put];refine bf 1 rfl hS ?_;simp only[Act.put];refine bf 2 rfl hS ?_;simp only[Act.put];refine bf 3 rfl hS ?_;simp only[Act.put];refine fU 4 ?_ rfl ?_ hS ?_;rotate_left
 ·(intro w aA;obtain⟨s0,⟨a0,a1,a2,a3,a4⟩⟩:=aA;go_simp;first|done|with_reducible rfl)
 simp only[Act.put];refine fU 5 ?_ rfl ?_ hS ?_;rotate_left
 ·(intro w aA;obtain⟨s0,⟨a0,a1,a2,a3,a4⟩⟩:=aA;go_simp;first|done|with_reducible rfl)
 simp only[Act.put];obtain⟨V,hV⟩:=bO (Wd.alloc (.cells #[vI x.b,vI x.e,vI x.i,vI x.g,.bool x.j] 99));have bV:Below Wd.1.size Wd V:=by rw[hV];exact aK.alloc aU _
 have Bt:=KD.out.trans (bV.mono KD.out.size);have jE:dK V Wd.1.size 0 [x]:=by rw[hV];exact(aP.box Wd _ _).one
 have fJ:=(K1.out.1.later Bt)
 obtain⟨v5,Y5,hr,mY,gP,iD⟩:=vZ fJ.row [x] (by simp;omega) 88 Wd.1.size 0 1 jE (by have:=fJ.bp;have:=fJ.lp;omega)
 obtain⟨a5,k5,rfl⟩:∃a5 k5,v5=Value.slice a5 (xs.length+1) k5:=by
  obtain⟨a5,k5,e5,-⟩:=mY.form;exact⟨a5,k5,by simpa using e5⟩
 have qR:=Nat.lt_of_lt_of_le K1.out.2.2.2 Bt.size;have Kn:=And.intro fJ.c0 (K1.out.2.1.below Bt K1.out.2.2.2);have kb:∀b,b<V.1.size->v.ownBlock≠some b->Y5.1[b]?=V.1[b]?:=fun b hb eO=>gP.block b hb (fun e=>eO e.symm)
 have xP:(fun X:World=>X.cell? ⟨p,0,none⟩=some v/\aP X w.1.size 0 x) Y5:=⟨(World.cell?_of_block (a:=⟨p,0,none⟩) (kb p fJ.lp fJ.vp)).trans fJ.c0,aP.jY Kn.2 (kb _ qR H.out.2.2.2.2.2.2.2)⟩
 have ru:∀b,b<V.1.size->v.ownBlock≠some b->(Value.slice a5 (xs.length+1) k5).ownBlock≠some b:=fun b hb eO e=>by
  rcases iD with h|h
  ·rw[h]at e;exact eO e
  ·rw[h]at e;cases e;omega
 have K5:Hid (gZ Y5 base (Value.slice a5 (xs.length+1) k5) (xs++[x])/\Y5.cell? ⟨p,0,none⟩=some v/\Y5.cell? ⟨p,1,none⟩=some (.map (some mb))/\(∀j,Y5.frozen? ⟨p,j,none⟩=false)/\kE Y5 mb n (kS xs)/\(Value.slice a5 (xs.length+1) k5).ownBlock≠some p/\(Value.slice a5 (xs.length+1) k5).ownBlock≠some mb/\p<Y5.1.size/\Below base w Y5/\aP Y5 w.1.size 0 x/\w.1.size<Y5.1.size/\(Value.slice a5 (xs.length+1) k5).ownBlock≠some w.1.size/\mb<V.1.size):=by
  have uS:=kb p fJ.lp fJ.vp;have WS:=kb mb fJ.mp.lt fJ.vm;have V8:Below base w V:=(K1.out.2.2.1.mono H.out.2.2.2.2.1).trans (Bt.mono (by have:=K1.out.1.bp;have:=K1.out.1.lp;omega));refine⟨mY,xP.1,(World.cell?_of_block (a:=⟨p,1,none⟩) uS).trans fJ.c1,fun j=>(World.frozen?_of_block (a:=⟨p,j,none⟩) uS).trans (fJ.fz j),fJ.mp.aj WS,ru p fJ.lp fJ.vp,ru mb fJ.mp.lt fJ.vm,Nat.lt_of_lt_of_le fJ.lp gP.size,?_,xP.2,Nat.lt_of_lt_of_le qR gP.size,ru _ qR H.out.2.2.2.2.2.2.2,fJ.mp.lt⟩;exact V8.grown gP (by have:=fJ.bp;have:=fJ.lp;omega) (fun b e=>(fJ.row.lt e).1)
 rw[hV]at hr;have f0:=K5.out.2.2.2.1 0;have e0:=K5.out.2.1;simp only[List.length_cons,List.length_nil,Nat.zero_add]at hr;refine bG 6 rfl (fun K hK=>?_);go_simp;refine hK.out _ _ (fun _=>by rw[<-hV];exact Kn) ?_;clear hK K;refine bG 7 rfl (fun K hK=>?_);refine bJ _ rfl (.tmp 34) (.tmp 36) 88 rfl _ _ _ _ (by first|rfl|simp[Act.eval,Act.put]) (by first|rfl|simp[Act.eval,Act.put]) hr ?_;refine hK.out _ _ (fun _=>xP) ?_;clear hK K hr;simp only[Act.put];refine bf 8 rfl xP ?_;simp only[Act.put];refine bf 9 rfl xP ?_;simp only[Act.put];refine bG 10 rfl (fun K hK=>?_);go_simp;refine hK.out _ _ (fun h=>absurd (show false=true from h.symm.trans (by kernel_rfl)) (by decide)) ?_;clear hK K;refine bH (by kernel_rfl) ?_ _
 have KU:Hid (aP (Y5.setCell ⟨p,0,none⟩ (Value.slice a5 (xs.length+1) k5)) w.1.size 0 x/\gZ (Y5.setCell ⟨p,0,none⟩ (Value.slice a5 (xs.length+1) k5)) base (Value.slice a5 (xs.length+1) k5) (xs++[x])/\(Y5.setCell ⟨p,0,none⟩ (Value.slice a5 (xs.length+1) k5)).cell? ⟨p,0,none⟩=some (Value.slice a5 (xs.length+1) k5)/\(Y5.setCell ⟨p,0,none⟩ (Value.slice a5 (xs.length+1) k5)).cell? ⟨p,1,none⟩=some (.map (some mb))/\(∀j,(Y5.setCell ⟨p,0,none⟩ (Value.slice a5 (xs.length+1) k5)).frozen? ⟨p,j,none⟩=false)/\kE (Y5.setCell ⟨p,0,none⟩ (Value.slice a5 (xs.length+1) k5)) mb n (kS xs)/\(Value.slice a5 (xs.length+1) k5).ownBlock≠some p/\(Value.slice a5 (xs.length+1) k5).ownBlock≠some mb/\p<(Y5.setCell ⟨p,0,none⟩ (Value.slice a5 (xs.length+1) k5)).1.size/\Below base w (Y5.setCell ⟨p,0,none⟩ (Value.slice a5 (xs.length+1) k5))/\w.1.size<(Y5.setCell ⟨p,0,none⟩ (Value.slice a5 (xs.length+1) k5)).1.size/\(Value.slice a5 (xs.length+1) k5).ownBlock≠some w.1.size):=by
  obtain⟨g1,g2,g3,g4,g5,g6,g7,g8,g9,F8,F9,Kl,g13⟩:=K5.out;have bp:=K1.out.1.bp;have dS:∀b,b≠p->(Y5.setCell ⟨p,0,none⟩ (Value.slice a5 (xs.length+1) k5)).1[b]?=Y5.1[b]?:=fun b hb=>Below.heap_setCell _ _ _ _ hb
  refine⟨aP.jY F8 (dS _ (by omega)),g1.aM (fun b _ _ e=>dS b (fun e'=>g6 (by rw[e,e']))),ay g2,(ae (by omega)).trans g3,fun j=>by rw[World.frozen?_setCell];exact g4 j,g5.aj (dS mb (fun e=>K1.out.1.pm e.symm)),g6,g7,by simpa[World.setCell]using g8,g9.setCell (p:=⟨p,0,none⟩) bp _,by simpa[World.setCell]using F9,Kl⟩
 clear K5 hS Kn xP kb ru gP iD mY fJ jE Bt bV hV V qR f0 e0 KD;generalize Y5.setCell ⟨p,0,none⟩ (Value.slice a5 (xs.length+1) k5)=W5 at *;clear Y5;have hS:(fun X:World=>X.cell? ⟨p,1,none⟩=some (.map (some mb))/\aP X w.1.size 0 x) W5.drew:=⟨KU.out.2.2.2.1,KU.out.1.below ((Below.refl W5.1.size W5).drew) KU.out.2.2.2.2.2.2.2.2.2.2.1⟩
 go_upto_region 6 with fail
 refine aT (fun z=>z==8) (fun X:World=>X.cell? ⟨p,1,none⟩=some (.map (some mb))/\aP X w.1.size 0 x) (by kernel_rfl) ?_;have KD:Hid (Below W5.1.size W5 W5.drew):=aK.drew;generalize W5.drew=We at *;refine bf 0 rfl hS ?_;simp only[Act.put];refine bf 1 rfl hS ?_;simp only[Act.put];refine bf 2 rfl hS ?_;simp only[Act.put];refine fU 3 ?_ rfl ?_ hS ?_;rotate_left
 ·(intro w aA;obtain⟨s0,⟨a0,a1,a2,a3,a4⟩⟩:=aA;go_simp;first|done|with_reducible rfl)
 simp only[Act.put];refine fU 4 ?_ rfl ?_ hS ?_;rotate_left
 ·(intro w aA;obtain⟨s0,⟨a0,a1,a2,a3,a4⟩⟩:=aA;go_simp;first|done|with_reducible rfl)
 simp only[Act.put];refine bf 5 rfl hS ?_;simp only[Act.put];refine bf 7 rfl hS ?_;simp only[Act.put];refine bG 6 rfl (fun K hK=>?_);go_simp;refine(gY We x).mono ?_;rintro e X2 ⟨rfl,b2⟩;have bX:=KD.out.trans (b2.mono KD.out.size);obtain⟨Y,fq,uR,ng,vR⟩:=(KU.out.2.2.2.2.2.1.later bX).store (by omega) hk.1 hk.2 xs.length (by omega);rw[<-Jh H.out.2.2.2.2.2.1]at uR
 have gN:(fun X:World=>X.cell? ⟨p,1,none⟩=some (.map (some mb))/\aP X w.1.size 0 x) X2:=by
  obtain⟨g1,g2,g3,g4,g5,g6,g7,g8,g9,F8,F9,Kl⟩:=KU.out;exact⟨(bX.cell (p:=⟨p,1,none⟩) g9).trans g4,g1.below bX F9⟩
 have K7:Hid (sw Y base p mb (n+1) (Value.slice a5 (xs.length+1) k5) (xs++[x])/\Below base w Y):=by
  obtain⟨g1,g2,g3,g4,g5,g6,g7,g8,g9,F8,F9,Kl⟩:=KU.out;have jQ:=K1.out.1.pm;have uS:=(ng.block p (Nat.lt_of_lt_of_le g9 bX.size) jQ).trans (bX.block p g9);refine⟨⟨(World.cell?_of_block (a:=⟨p,0,none⟩) uS).trans g3,(World.cell?_of_block (a:=⟨p,1,none⟩) uS).trans g4,fun j=>(World.frozen?_of_block (a:=⟨p,j,none⟩) uS).trans (g5 j),g2.aM (fun b _ hb e=>(ng.block b (Nat.lt_of_lt_of_le hb bX.size) (fun e'=>g8 (by rw[e,e']))).trans (bX.block b hb)),uR,fun s hs=>?_,g7,g8,jQ,K1.out.1.bp,K1.out.1.bm,by rw[vR];exact Nat.lt_of_lt_of_le g9 bX.size⟩,?_⟩
  ·rcases List.mem_append.1 hs with hs|hs
   ·exact K1.out.1.ok s hs
   ·simp at hs;subst hs;exact H.out.2.2.2.2.2.2.1
  ·have sI:base<=W5.1.size:=by have:=K1.out.1.bp;omega
   exact(F8.trans (bX.mono sI)).trans (ng.below K1.out.1.bm (Nat.le_trans sI bX.size))
 simp only[jI]at fq;refine hK.out _ _ (fun _=>gN) ?_;clear hK K gN hS bX KD uR ng vR hm hk b2;refine bG 8 rfl (fun K hK=>?_);go_simp;refine hK.out _ _ (fun h=>absurd (show false=true from h.symm.trans (by kernel_rfl)) (by decide)) ?_;clear hK K fq;refine bH (by kernel_rfl) ?_ _;obtain⟨q5,cap5,my,P7⟩:=K7.out.1.Yq (by simp)
 have c7:=Ls Y base p q5 mb (n+1) cap5 (xs++[x]) xs.length P7 (by omega) (by simp;omega) (by simp) (by
  have:=dF.yX.Nb (n:=xs.length) (k:=jR (xs++[x])) (fun i h0 hi=>by
   have e1:jR (xs++[x]) i=jR xs i:=by unfold jR aH;rw[List.getElem?_append_left hi]
   have e2:jR (xs++[x]) ((i-1)/2)=jR xs ((i-1)/2):=by unfold jR aH;rw[List.getElem?_append_left (by omega)]
   rw[e1,e2];exact HS.out i h0 hi)
  simpa using this)
 go_wp2_with fail;refine c7.mono ?_;clear c7;rintro e w8 ⟨rfl,n8,ys,kx,p8,Ng,Zy,k8⟩;have KE:=nE (show n8<=n+1+2*xs.length by omega) p8 Ng Zy (show Below base w w8 from K7.out.2.trans (k8.below (fun b hb=>by rcases hb with rfl|rfl|rfl;exact p8.bp;exact p8.bq;exact p8.bm) (by have:=K7.out.1.bp;have:=K7.out.1.lp;omega)));clear p8 Ng Zy k8 kx;go_wp2;refine bodyPost_end (v:=.tuple #[]) (by simp[results,results113,go_sem]) rfl ⟨rfl,q5,cap5,n8,ys,KE.out⟩
end tx
end Go.Proofs.YtbiigfbhhkiodaaGreatDoor
