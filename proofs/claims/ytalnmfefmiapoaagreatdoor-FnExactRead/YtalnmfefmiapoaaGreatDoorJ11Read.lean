import Derived.Test.YtalnmfefmiapoaaGreatDoorJ10Read
import Derived.Test.YtalnmfefmiapoaaGreatDoorTie
import Derived.Test.YtalnmfefmiapoaaGreatDoorCards
set_option maxHeartbeats 16000000
set_option maxRecDepth 100000
namespace Go.Proofs.YtalnmfefmiapoaaGreatDoor
open Go.RowKit
open Go.Sort (grow)
section
variable {i:Nat}
def nZ(aO:List (List Int))(k:Int)(i:Nat):List Int:=marks (dR aO i).length (k+lens (aO.take i))
def ko(aO:List (List Int))(k:Int):List (List Int):=(List.range aO.length).map (nZ aO k)
theorem lQ(aO:List (List Int))(k:Int):(ko aO k).length=aO.length:=by simp[ko]
theorem vP{aO:List (List Int)}{k:Int}{zs:List Int}(h:(ko aO k)[i]?=some zs):i<aO.length/\zs=nZ aO k i:=by
 have hi:i<aO.length:=by have:=(List.getElem?_eq_some_iff.1 h).1;rw[lQ]at this;exact this
 refine⟨hi,?_⟩;simp[ko,hi]at h;exact h.symm
theorem oo(aO:List (List Int))(k:Int)(i:Nat):(nZ aO k i).length=(dR aO i).length:=by rw[nZ,lv]
structure Kept(g:Nat->Nat)(n:Nat)(w w':World):Prop where
 os:w'.os=w.os
 tape:w'.tape=w.tape
 output:w'.output=w.output
 size:w'.1.size=w.1.size
 block:∀q,(∀i,i<n->q≠g i)->w'.1[q]?=w.1[q]?
theorem Kept.refl(g:Nat->Nat)(n:Nat)(w:World):Kept g n w w:=⟨rfl,rfl,rfl,rfl,fun _ _=>rfl⟩
theorem Kept.only{g:Nat->Nat}{n:Nat}{a w w':World}(h:Kept g n a w)(hi:i<n)(ho:aW (g i) w w'):Kept g n a w':=
 ⟨ho.os.trans h.os,ho.tape.trans h.tape,ho.output.trans h.output,ho.size.trans h.size,fun q hq=>(ho.block q (hq i hi)).trans (h.block q hq)⟩
theorem zq(w:World)(base b n cap:Nat)(aO:List (List Int))(g:Nat->Nat)(k:Int)(hn:n<=1048576)(hl:lens aO<=1048576)(hk:0<=k)(ni:k<=100000000)(h:kE w base b n aO g):
  Calls Tryz.prog 31 #[.slice (some ⟨b,0,none⟩) n cap,vI k] w fun e w'=>e=.returned (vI (k+lens aO))/\Kept g n w w'/\kE w' base b n (ko aO k) g:=by
 have hlen:=h.len;have HO:Hid (kE w base b n aO g):=h;clear h;go_enter Tryz.func31,Tryz.ntmps31;go_wp2;go_loopw[1,5] (fun v1 v5 wr=>∃j:Nat,j<=n/\v5=vI j/\v1=vI (k+lens (aO.take j))/\Kept g n w wr/\(∀i,i<j->dV wr (g i) 0 (nZ aO k i))/\(∀i,i<n->Room wr (g i) (dR aO i).length)) (fun _ v5 _=>n-(intOf v5).toNat)
 case atStart=>exact⟨0,Nat.zero_le _,rfl,by simp[lens],Kept.refl _ _ _,fun i hi=>by omega,fun i hi=>HO.out.room i _ (fI (by omega))⟩
 case round=>
  obtain⟨j,hj,rfl,rfl,j5,CU,ed⟩:=hrel;have hle:=lens_take_le aO j;by_cases aN:j<n
  ·obtain⟨cp,hc,_⟩:=HO.out.cell j _ (fI (by omega));have c:=(World.cell?_of_block (a:=⟨b,j,none⟩) (j5.block b (fun i hi e=>HO.out.ne i hi e.symm))).trans hc;have fO:=lens_take_succ (aO:=aO) (j:=j) (by omega);have Ze:=lens_take_le aO (j+1);have iM:=qd wr (g j) (dR aO j).length cp (k+lens (aO.take j)) (by omega) (by omega) (by omega) (ed j aN);have K:Hid (Kept g n w wr/\(∀i,i<j->dV wr (g i) 0 (nZ aO k i))/\(∀i,i<n->Room wr (g i) (dR aO i).length)):=⟨j5,CU,ed⟩
   clear j5 CU ed hc;go_wp2_with fail;refine iM.mono ?_;clear iM;rintro e w1 ⟨rfl,ho,QW,wR⟩;have K1:Hid (aW (g j) wr w1/\dV w1 (g j) 0 (nZ aO k j)/\Room w1 (g j) (dR aO j).length):=⟨ho,QW,wR⟩
   clear ho QW wR;go_wp2;obtain⟨j5,CU,ed⟩:=K.out;obtain⟨ho,QW,wR⟩:=K1.out;refine⟨⟨j+1,by omega,by simp,by rw[fO];simp;omega,j5.only aN ho,fun i hi=>?_,fun i hi=>?_⟩,by simp[intOf];omega⟩
   ·by_cases e:i=j
    ·subst e;exact QW
    ·exact(CU i (by omega)).aj (ho.block _ (fun e'=>e (HO.out.inj i j (by omega) aN e')))
   ·by_cases e:i=j
    ·subst e;exact wR
    ·exact(ed i hi).aj (ho.block _ (fun e'=>e (HO.out.inj i j hi aN e')))
  ·have:j=n:=by omega
   subst this;have hd:decide ((j:Int)<(j:Int))=false:=by simp
   rw[show aO.take j=aO from List.take_of_length_le (by omega)];have K:Hid (Kept g j w wr/\(∀i,i<j->dV wr (g i) 0 (nZ aO k i))/\(∀i,i<j->Room wr (g i) (dR aO i).length)):=⟨j5,CU,ed⟩
   clear j5 CU ed hle;go_wp2;go_ret;obtain⟨j5,CU,ed⟩:=K.out;refine⟨rfl,j5,⟨by rw[lQ];exact hlen,fun i zs e=>?_,HO.out.low,fun i hi=>by rw[j5.size];exact HO.out.lt i hi,HO.out.ne,fun i zs e=>?_,fun i zs e=>?_,HO.out.inj⟩⟩
   ·obtain⟨hi,rfl⟩:=vP e;obtain⟨cp,hc,jJ⟩:=HO.out.cell i _ (fI hi);exact⟨cp,by rw[oo];exact(World.cell?_of_block (a:=⟨b,i,none⟩) (j5.block b (fun i hi e=>HO.out.ne i hi e.symm))).trans hc,by rw[oo];exact jJ⟩
   ·obtain⟨hi,rfl⟩:=vP e;exact CU i (by omega)
   ·obtain⟨hi,rfl⟩:=vP e;rw[oo];exact ed i (by omega)
end
theorem zn(w:World)(cap:Nat)(k:Int):Calls Tryz.prog 31 #[.slice none 0 cap,vI k] w fun e w'=>e=.returned (vI k)/\w'=w:=by
 go_enter Tryz.func31,Tryz.ntmps31;go_wp2;go_loop[1,5] (fun v1 v5=>v5=vI 0/\v1=vI k) (fun _ _=>0)
 case atStart=>exact⟨rfl,rfl⟩
 case round=>
  obtain⟨rfl,rfl⟩:=hrel;go_wp2;go_ret;exact⟨rfl,rfl⟩
theorem uj(w:World)(base:Nat)(a:Option Addr)(n cap:Nat)(aO:List (List Int))(g:Nat->Nat)(k:Int)(hn:n<=1048576)(hl:lens aO<=1048576)(hk:0<=k)(ni:k<=100000000)(h:mF w base a n aO g):
  Calls Tryz.prog 31 #[.slice a n cap,vI k] w fun e w'=>e=.returned (vI (k+lens aO))/\Kept g n w w'/\mF w' base a n (ko aO k) g:=by
 rcases h with ⟨rfl,rfl,rfl⟩|⟨b,rfl,Ep,ky,ho⟩
 ·refine(zn w cap k).mono ?_;rintro e w' ⟨rfl,rfl⟩;exact⟨by simp[lens],Kept.refl _ _ _,.inl ⟨rfl,rfl,rfl⟩⟩
 ·refine(zq w base b n cap aO g k hn hl hk ni ho).mono ?_;rintro e w' ⟨rfl,kp,o⟩;exact⟨rfl,kp,.inr ⟨b,rfl,Ep,by rw[kp.size];exact ky,o⟩⟩
theorem yN(w:World)(a:Option Addr)(n cap:Nat)(aO:List (List Int))(k:Int)(hn:n<=1048576)(hl:lens aO<=1048576)(hk:0<=k)(ni:k<=100000000)(hs:uS w w.1.size a n (ko aO k)):
  Calls Tryz.prog 34 #[.slice a n cap,vI k] w fun e w'=>e=.returned (vI (k+lens aO))/\w'=w:=by
 obtain⟨hx,hs⟩:=hs;rw[lQ]at hx;go_enter Tryz.func34,Tryz.ntmps34;go_wp2;go_loop[1,5] (fun v1 v5=>∃j:Nat,j<=n/\v5=vI j/\v1=vI (k+lens (aO.take j))) (fun _ v5=>n-(intOf v5).toNat)
 case atStart=>exact⟨0,Nat.zero_le _,rfl,by simp[lens]⟩
 case round=>
  obtain⟨j,hj,rfl,rfl⟩:=hrel;have hle:=lens_take_le aO j;by_cases aN:j<n
  ·rcases hs with hs|⟨b,off,rfl,hb,h1⟩
   ·omega
   ·have hm:(ko aO k)[j]?=some (nZ aO k j):=by simp[ko,show j<aO.length by omega]
    obtain⟨a',cp,c,gy,_⟩:=h1 j _ hm;rw[oo]at c gy;have fO:=lens_take_succ (aO:=aO) (j:=j) (by omega);have Ze:=lens_take_le aO (j+1);have iM:=pR w a' (dR aO j).length cp (k+lens (aO.take j)) (by omega) (by omega) (by omega) gy;have d0:decide (k+(lens (aO.take j):Int)+((dR aO j).length:Int)<0)=false:=by simp;omega
    clear h1 hm gy;go_wp2_with fail;refine iM.mono ?_;clear iM;rintro e w1 ⟨rfl,rfl⟩;go_wp2;exact⟨⟨j+1,by omega,by simp,by rw[fO];simp;omega⟩,by simp[intOf];omega⟩
  ·have:j=n:=by omega
   subst this;have hd:decide ((j:Int)<(j:Int))=false:=by simp
   rw[show aO.take j=aO from List.take_of_length_le (by omega)];clear hs hle;go_wp2;go_ret;exact⟨rfl,rfl⟩
theorem zm(w:World)(a:Option Addr)(cap:Nat)(k:Int):Calls Tryz.prog 32 #[.slice a 0 cap,vI k] w fun e w'=>e=.returned (vI k)/\w'=w:=by
 go_enter Tryz.func32,Tryz.ntmps32;go_wp2;go_loop[1,5] (fun v1 v5=>v1=vI k/\v5=vI 0) (fun _ _=>0)
 case atStart=>exact⟨rfl,rfl⟩
 case round=>
  obtain⟨rfl,rfl⟩:=hrel;go_wp2;go_ret;exact⟨rfl,rfl⟩
theorem GQ(w:World)(B:Nat)(a:Option Addr)(cap:Nat)(xs:List M4)(P:Nat->Prop)(k:Int)(hk:0<=k)(ni:k+(aK cM xs xs.length:Int)<=100000000)(hn:xs.length<=1048576)(ht:∀m∈xs,MT m)(h:fZ.nP w B a xs P):
  Calls Tryz.prog 32 #[.slice a xs.length cap,vI k] w fun e w'=>e=.returned (vI (k+(aK cM xs xs.length:Int)))/\aH P w w':=by
 obtain⟨h,hP⟩:=h;rcases h with rfl|⟨b,g,rfl,hp,vE,hg⟩
 ·refine(zm w a cap k).mono ?_;rintro e w' ⟨rfl,rfl⟩;exact⟨by simp[aK],aH.refl _ _⟩
 ·exact Tu w B b cap xs g P k hk ni hn ht (hP b hp).2 hp hg vE
theorem zu(w:World)(a:Option Addr)(cap:Nat)(k:Int):Calls Tryz.prog 33 #[.slice a 0 cap,vI k] w fun e w'=>e=.returned (vI k)/\w'=w:=by
 go_enter Tryz.func33,Tryz.ntmps33;go_wp2;go_loop[1,5] (fun v1 v5=>v1=vI k/\v5=vI 0) (fun _ _=>0)
 case atStart=>exact⟨rfl,rfl⟩
 case round=>
  obtain⟨rfl,rfl⟩:=hrel;go_wp2;go_ret;exact⟨rfl,rfl⟩
theorem GR(w:World)(B:Nat)(a:Option Addr)(cap:Nat)(xs:List tx.T7)(P:Nat->Prop)(k:Int)(hk:0<=k)(ni:k+(aK cT xs xs.length:Int)<=100000000)(hn:xs.length<=1048576)(ht:∀m∈xs,KT.S m)(h:fQ.nP w B a xs P):
  Calls Tryz.prog 33 #[.slice a xs.length cap,vI k] w fun e w'=>e=.returned (vI (k+(aK cT xs xs.length:Int)))/\aH P w w':=by
 obtain⟨h,hP⟩:=h;rcases h with rfl|⟨b,g,rfl,hp,vE,hg⟩
 ·refine(zu w a cap k).mono ?_;rintro e w' ⟨rfl,rfl⟩;exact⟨by simp[aK],aH.refl _ _⟩
 ·exact Tw w B b cap xs g P k hk ni hn ht (hP b hp).2 hp hg vE
theorem Ff{α:Type}(c l:α->Nat)(a:Nat)(h:∀r,c r<=a+5*l r)(rs:List α):aK c rs rs.length<=a*rs.length+5*(rs.map l).sum:=by
 unfold aK;rw[List.take_of_length_le (by simp)]
 induction rs with
 | nil=>simp
 | cons r rs ih=>
  have:=h r;simp only[List.map_cons,List.sum_cons,List.length_cons,Nat.mul_add,Nat.mul_one];omega
def cC(k:C6):Nat:=lens k.f+aK cM k.aa k.aa.length+aK cT k.c k.c.length
theorem I1(k:C6):cC k<=5*Bg k:=by
 have h1:=Ff cM (fun d=>Ii d) 1 (fun m=>by
  show cM m<=1+5*Ii m
  have e1:=yj cK (fun k=>k.cells.length) 1 2 (fun r=>rfl) m.af;have e2:=yj cR (fun k=>k.ag.length) 3 5 (fun r=>rfl) m.h;unfold cM Ii jv jF
  omega) k.aa
 have h2:=Ff cT (fun d=>tx.yn d) 5 (fun t=>by show cT t<=5+5*tx.yn t;unfold cT tx.yn;omega) k.c;unfold cC Bg uQ.l9 uR.l9;omega
def pK(k:C6)(x:Int):Int:=x+(cC k:Int)
theorem bK.mark(X:World)(B:Nat)(a1:Option Addr)(c1:Nat)(a2:Option Addr)(c2:Nat)(a3:Option Addr)(c3:Nat)(k:C6)(P:Nat->Prop)(x:Int)(hx:0<=x)(F9:x<=1000)(hz:Bg k<=1048576)(ht:bK.S k)(h:bK.Ow X B a1 c1 a2 c2 a3 c3 k P):
  Calls Tryz.prog 9 #[.agg #[vI k.u,vI k.l,.slice a1 k.f.length c1,.slice a2 k.aa.length c2,.slice a3 k.c.length c3,.bool k.w],vI x] X fun r w'=>r=.returned (vI (pK k x))/\aH P X w':=by
 obtain⟨⟨P1,P2,P3,⟨⟨g,oq,ob,og⟩,oB⟩,om,ot,s1,s2,s3,d12,d13,d23⟩,hP⟩:=h;have Su:=I1 k;have hC:pK k x=x+(lens k.f:Int)+(aK cM k.aa k.aa.length:Int)+(aK cT k.c k.c.length:Int):=by unfold pK cC;push_cast;omega
 have Ao:lens k.f<=1048576:=by unfold Bg at hz;omega
 obtain⟨W,hW⟩:∃Y,Y=X.alloc (.cells #[vI k.u,vI k.l,.slice a1 k.f.length c1,.slice a2 k.aa.length c2,.slice a3 k.c.length c3,.bool k.w] 32):=⟨_,rfl⟩
 have bW:Below X.1.size X W:=by rw[hW];exact aJ.alloc aR _
 have FA:Hid (Bx W X.1.size (dJ a1 c1 a2 c2 a3 c3 k)):=by unfold Hid;rw[hW];exact Bx.made X (dJ a1 c1 a2 c2 a3 c3 k) _
 have hc:=uj W B a1 k.f.length c1 k.f g x ht.p Ao hx (by omega) (oq.later bW);have H:Hid (fZ.nP W B a2 k.aa P2/\fQ.nP W B a3 k.c P3/\(∀q,P1 q->P q)/\(∀q,P2 q->P q)/\(∀q,P3 q->P q)/\(∀q,P1 q->¬P2 q)/\(∀q,P1 q->¬P3 q)/\(∀q,P2 q->¬P3 q)/\(∀q,P q->q<X.1.size)/\(∀i,i<k.f.length->P1 (g i))/\Below X.1.size X W/\bK.S k):=⟨om.later bW,ot.later bW,s1,s2,s3,d12,d13,d23,fun q hq=>(hP q hq).2,og,bW,ht⟩
 have HE:=aB hC;have HL:Hid (x+(lens k.f:Int)+(aK cM k.aa k.aa.length:Int)+(aK cT k.c k.c.length:Int)<=100000000):=by unfold Hid;rw[<-hC];unfold pK;omega
 clear oq ob og oB om ot s1 s2 s3 d12 d13 d23 hP Su hC hz ht bW Ao;go_enter Tryz.func9,Tryz.ntmps9;go_wp2_with fail;rw[<-hW];clear hW;refine hc.mono ?_;clear hc;rintro e w1 ⟨rfl,kp,-⟩;obtain⟨om,ot,s1,s2,s3,d12,d13,d23,hP,og,bW,ht⟩:=H.out;have k1:aH P1 W w1:=⟨kp.os,kp.tape,kp.output,Nat.le_of_eq kp.size.symm,fun q _ hn=>kp.block q (fun i hi e=>hn (e▸og i hi))⟩
 have F1:Hid (Bx w1 X.1.size (dJ a1 c1 a2 c2 a3 c3 k)):=FA.out.aj (k1.block _ FA.out.2.2 (fun e=>by have:=hP _ (s1 _ e);omega)) k1.size;have M1:Hid (fZ.nP w1 B a2 k.aa P2/\fQ.nP w1 B a3 k.c P3/\aH P X w1):=⟨om.aQ k1.size (fun q hq=>k1.block q (om.of hq).2 (fun e=>d12 q e hq)),ot.aQ k1.size (fun q hq=>k1.block q (ot.of hq).2 (fun e=>d13 q e hq)),(aH.dK bW).trans (k1.mono s1)⟩
 clear om ot s1 s2 s3 d12 d13 d23 hP og bW k1 kp ht;have p3:=F1.out.1 3 _ rfl;have l1:=HL.out;generalize hy:x+(lens k.f:Int)=y at *;have WC:0<=y:=by omega
 go_wp2_with fail;refine(GQ w1 B a2 c2 k.aa P2 y WC (by omega) H.out.2.2.2.2.2.2.2.2.2.2.2.m H.out.2.2.2.2.2.2.2.2.2.2.2.ms M1.out.1).mono ?_;rintro e w2 ⟨rfl,k2⟩;obtain⟨om,ot,s1,s2,s3,d12,d13,d23,hP,og,bW,ht⟩:=H.out;have F2:Hid (Bx w2 X.1.size (dJ a1 c1 a2 c2 a3 c3 k)):=F1.out.aj (k2.block _ F1.out.2.2 (fun e=>by have:=hP _ (s2 _ e);omega)) k2.size;have M2:Hid (fQ.nP w2 B a3 k.c P3/\aH P X w2):=⟨M1.out.2.1.aQ k2.size (fun q hq=>k2.block q (M1.out.2.1.of hq).2 (fun e=>d23 q e hq)),M1.out.2.2.trans (k2.mono s2)⟩
 clear om ot s1 s2 s3 d12 d13 d23 hP og bW k2 ht p3;have p4:=F2.out.1 4 _ rfl;generalize hz:y+(aK cM k.aa k.aa.length:Int)=z at *;have rH:0<=z:=by omega
 go_wp2_with fail;refine(GR w2 B a3 c3 k.c P3 z rH (by omega) H.out.2.2.2.2.2.2.2.2.2.2.2.t H.out.2.2.2.2.2.2.2.2.2.2.2.ts M2.out.1).mono ?_;rintro e w3 ⟨rfl,k3⟩;have M3:Hid (aH P X w3):=M2.out.2.trans (k3.mono H.out.2.2.2.2.1);clear k3 p4;go_wp2;go_ret;exact⟨by rw[HE.out];rfl,M3.out⟩
theorem ES(w:World)(B:Nat)(a:Option Addr)(cap:Nat)(xs:List M4)(P:Nat->Prop)(k:Int)(hk:0<=k)(ni:k+(aK cM xs xs.length:Int)<=100000000)(hn:xs.length<=1048576)(ht:∀m∈xs,MT m)(h:fZ.nP w B a xs P):
  Calls Tryz.prog 32 #[.slice a xs.length cap,vI k] w fun e w'=>e=.returned (vI (k+(aK cM xs xs.length:Int)))/\aH P w w'/\fZ.nP w' B a (vR xs k) P:=by
 obtain⟨h,hP⟩:=h;rcases h with rfl|⟨b,g,rfl,hp,vE,hg⟩
 ·refine(zm w a cap k).mono ?_;rintro e w' ⟨rfl,rfl⟩;exact⟨by simp[aK],aH.refl _ _,.inl rfl,hP⟩
 ·refine(Tt w B b cap xs g P k hk ni hn ht (hP b hp).2 hp hg vE).mono ?_;rintro e w' ⟨rfl,kp,o⟩;exact⟨rfl,kp,.inr ⟨b,g,rfl,hp,by rw[zD];exact o,by rw[zD];exact hg⟩,fun q hq=>⟨(hP q hq).1,Nat.lt_of_lt_of_le (hP q hq).2 kp.size⟩⟩
theorem EW(w:World)(B:Nat)(a:Option Addr)(cap:Nat)(xs:List tx.T7)(P:Nat->Prop)(k:Int)(hk:0<=k)(ni:k+(aK cT xs xs.length:Int)<=100000000)(hn:xs.length<=1048576)(ht:∀m∈xs,KT.S m)(h:fQ.nP w B a xs P):
  Calls Tryz.prog 33 #[.slice a xs.length cap,vI k] w fun e w'=>e=.returned (vI (k+(aK cT xs xs.length:Int)))/\aH P w w'/\fQ.nP w' B a (vT xs k) P:=by
 obtain⟨h,hP⟩:=h;rcases h with rfl|⟨b,g,rfl,hp,vE,hg⟩
 ·refine(zu w a cap k).mono ?_;rintro e w' ⟨rfl,rfl⟩;exact⟨by simp[aK],aH.refl _ _,.inl rfl,hP⟩
 ·refine(Tv w B b cap xs g P k hk ni hn ht (hP b hp).2 hp hg vE).mono ?_;rintro e w' ⟨rfl,kp,o⟩;exact⟨rfl,kp,.inr ⟨b,g,rfl,hp,by rw[zH];exact o,by rw[zH];exact hg⟩,fun q hq=>⟨(hP q hq).1,Nat.lt_of_lt_of_le (hP q hq).2 kp.size⟩⟩
def Rn(k:C6)(x:Int):C6:=⟨k.u,k.l,ko k.f x,vR k.aa (x+(lens k.f:Int)),vT k.c (x+(lens k.f:Int)+(aK cM k.aa k.aa.length:Int)),k.w⟩
theorem bK.WJ(X:World)(B:Nat)(a1:Option Addr)(c1:Nat)(a2:Option Addr)(c2:Nat)(a3:Option Addr)(c3:Nat)(k:C6)(P:Nat->Prop)(x:Int)(hx:0<=x)(F9:x<=1000)(hz:Bg k<=1048576)(ht:bK.S k)(h:bK.Ow X B a1 c1 a2 c2 a3 c3 k P):
  Calls Tryz.prog 9 #[.agg #[vI k.u,vI k.l,.slice a1 k.f.length c1,.slice a2 k.aa.length c2,.slice a3 k.c.length c3,.bool k.w],vI x] X fun r w'=>r=.returned (vI (pK k x))/\aH P X w'/\bK.Rd w' a1 c1 a2 c2 a3 c3 (Rn k x):=by
 obtain⟨⟨P1,P2,P3,⟨⟨g,oq,ob,og⟩,oB⟩,om,ot,s1,s2,s3,d12,d13,d23⟩,hP⟩:=h;have Su:=I1 k;have hC:pK k x=x+(lens k.f:Int)+(aK cM k.aa k.aa.length:Int)+(aK cT k.c k.c.length:Int):=by unfold pK cC;push_cast;omega
 have Ao:lens k.f<=1048576:=by unfold Bg at hz;omega
 obtain⟨W,hW⟩:∃Y,Y=X.alloc (.cells #[vI k.u,vI k.l,.slice a1 k.f.length c1,.slice a2 k.aa.length c2,.slice a3 k.c.length c3,.bool k.w] 32):=⟨_,rfl⟩
 have bW:Below X.1.size X W:=by rw[hW];exact aJ.alloc aR _
 have FA:Hid (Bx W X.1.size (dJ a1 c1 a2 c2 a3 c3 k)):=by unfold Hid;rw[hW];exact Bx.made X (dJ a1 c1 a2 c2 a3 c3 k) _
 have hc:=uj W B a1 k.f.length c1 k.f g x ht.p Ao hx (by omega) (oq.later bW);have H:Hid (fZ.nP W B a2 k.aa P2/\fQ.nP W B a3 k.c P3/\(∀q,P1 q->P q)/\(∀q,P2 q->P q)/\(∀q,P3 q->P q)/\(∀q,P1 q->¬P2 q)/\(∀q,P1 q->¬P3 q)/\(∀q,P2 q->¬P3 q)/\(∀q,P q->q<X.1.size)/\(∀i,i<k.f.length->P1 (g i))/\Below X.1.size X W/\bK.S k):=⟨om.later bW,ot.later bW,s1,s2,s3,d12,d13,d23,fun q hq=>(hP q hq).2,og,bW,ht⟩
 have HB:Hid (∀b,a1=some ⟨b,0,none⟩->P1 b):=ob;have HE:=aB hC;have HL:Hid (x+(lens k.f:Int)+(aK cM k.aa k.aa.length:Int)+(aK cT k.c k.c.length:Int)<=100000000):=by unfold Hid;rw[<-hC];unfold pK;omega
 clear oq ob og oB om ot s1 s2 s3 d12 d13 d23 hP Su hC hz ht bW Ao;go_enter Tryz.func9,Tryz.ntmps9;go_wp2_with fail;rw[<-hW];clear hW;refine hc.mono ?_;clear hc;rintro e w1 ⟨rfl,kp,oq⟩;obtain⟨om,ot,s1,s2,s3,d12,d13,d23,hP,og,bW,ht⟩:=H.out;have k1:aH P1 W w1:=⟨kp.os,kp.tape,kp.output,Nat.le_of_eq kp.size.symm,fun q _ hn=>kp.block q (fun i hi e=>hn (e▸og i hi))⟩
 have F1:Hid (Bx w1 X.1.size (dJ a1 c1 a2 c2 a3 c3 k)):=FA.out.aj (k1.block _ FA.out.2.2 (fun e=>by have:=hP _ (s1 _ e);omega)) k1.size;have O1:Hid (mF w1 B a1 k.f.length (ko k.f x) g/\X.1.size<=w1.1.size):=⟨oq,Nat.le_trans bW.size k1.size⟩
 have M1:Hid (fZ.nP w1 B a2 k.aa P2/\fQ.nP w1 B a3 k.c P3/\aH P X w1):=⟨om.aQ k1.size (fun q hq=>k1.block q (om.of hq).2 (fun e=>d12 q e hq)),ot.aQ k1.size (fun q hq=>k1.block q (ot.of hq).2 (fun e=>d13 q e hq)),(aH.dK bW).trans (k1.mono s1)⟩
 clear om ot s1 s2 s3 d12 d13 d23 hP og bW k1 kp ht oq;have p3:=F1.out.1 3 _ rfl;have l1:=HL.out;have HM:Hid (Rn k x=⟨k.u,k.l,ko k.f x,vR k.aa (x+(lens k.f:Int)),vT k.c (x+(lens k.f:Int)+(aK cM k.aa k.aa.length:Int)),k.w⟩):=rfl;generalize hy:x+(lens k.f:Int)=y at *;have WC:0<=y:=by omega
 go_wp2_with fail;refine(ES w1 B a2 c2 k.aa P2 y WC (by omega) H.out.2.2.2.2.2.2.2.2.2.2.2.m H.out.2.2.2.2.2.2.2.2.2.2.2.ms M1.out.1).mono ?_;rintro e w2 ⟨rfl,k2,e8⟩;obtain⟨om,ot,s1,s2,s3,d12,d13,d23,hP,og,bW,ht⟩:=H.out;have F2:Hid (Bx w2 X.1.size (dJ a1 c1 a2 c2 a3 c3 k)):=F1.out.aj (k2.block _ F1.out.2.2 (fun e=>by have:=hP _ (s2 _ e);omega)) k2.size;have O2:Hid (mF w2 B a1 k.f.length (ko k.f x) g/\X.1.size<=w2.1.size):=⟨O1.out.1.kept k2.size (fun b e=>k2.block b (by have:=hP _ (s1 _ (HB.out b e));have:=O1.out.2;omega) (d12 b (HB.out b e))) (fun i hi=>k2.block _ (by have:=hP _ (s1 _ (og i hi));have:=O1.out.2;omega) (d12 _ (og i hi))),Nat.le_trans O1.out.2 k2.size⟩
 have M2:Hid (fQ.nP w2 B a3 k.c P3/\aH P X w2/\fZ.nP w2 B a2 (vR k.aa y) P2):=⟨M1.out.2.1.aQ k2.size (fun q hq=>k2.block q (M1.out.2.1.of hq).2 (fun e=>d23 q e hq)),M1.out.2.2.trans (k2.mono s2),e8⟩
 clear om ot s1 s2 s3 d12 d13 d23 hP og bW k2 ht p3 e8 O1;have p4:=F2.out.1 4 _ rfl;generalize hz:y+(aK cM k.aa k.aa.length:Int)=z at *;have rH:0<=z:=by omega
 go_wp2_with fail;refine(EW w2 B a3 c3 k.c P3 z rH (by omega) H.out.2.2.2.2.2.2.2.2.2.2.2.t H.out.2.2.2.2.2.2.2.2.2.2.2.ts M2.out.1).mono ?_;rintro e w3 ⟨rfl,k3,e9⟩
 have M3:Hid (aH P X w3/\bK.Rd w3 a1 c1 a2 c2 a3 c3 (Rn k x)):=by
  obtain⟨om,ot,s1,s2,s3,d12,d13,d23,hP,og,bW,ht⟩:=H.out;have o3:=O2.out.1.kept k3.size (fun b e=>k3.block b (by have:=hP _ (s1 _ (HB.out b e));have:=O2.out.2;omega) (d13 b (HB.out b e))) (fun i hi=>k3.block _ (by have:=hP _ (s1 _ (og i hi));have:=O2.out.2;omega) (d13 _ (og i hi)));have m3:=M2.out.2.2.aQ k3.size (fun q hq=>k3.block q (M2.out.2.2.of hq).2 (d23 q hq));refine⟨M2.out.2.1.trans (k3.mono s3),?_⟩;rw[HM.out];exact⟨by rw[lQ];exact o3.sl,m3.sl,e9.sl⟩
 clear k3 p4 e9;go_wp2;go_ret;exact⟨by rw[HE.out];rfl,M3.out.1,M3.out.2⟩
theorem bK.held(X:World)(a1:Option Addr)(c1:Nat)(a2:Option Addr)(c2:Nat)(a3:Option Addr)(c3:Nat)(k:C6)(x:Int)(hx:0<=x)(F9:x<=1000)(hz:Bg k<=1048576)(ht:bK.S k)(h:bK.Rd X a1 c1 a2 c2 a3 c3 (Rn k x)):
  Calls Tryz.prog 10 #[.agg #[vI k.u,vI k.l,.slice a1 k.f.length c1,.slice a2 k.aa.length c2,.slice a3 k.c.length c3,.bool k.w],vI x] X fun r w'=>r=.returned (vI (pK k x))/\Below X.1.size X w':=by
 have Su:=I1 k;have hC:pK k x=x+(lens k.f:Int)+(aK cM k.aa k.aa.length:Int)+(aK cT k.c k.c.length:Int):=by unfold pK cC;push_cast;omega
 have Ao:lens k.f<=1048576:=by unfold Bg at hz;omega
 obtain⟨W,hW⟩:∃Y,Y=X.alloc (.cells #[vI k.u,vI k.l,.slice a1 k.f.length c1,.slice a2 k.aa.length c2,.slice a3 k.c.length c3,.bool k.w] 32):=⟨_,rfl⟩
 have bW:Below X.1.size X W:=by rw[hW];exact aJ.alloc aR _
 have FA:Bx W X.1.size (dJ a1 c1 a2 c2 a3 c3 k):=by rw[hW];exact Bx.made X (dJ a1 c1 a2 c2 a3 c3 k) _
 have h0:=h.later bW;have hp:=h0.p;simp only[Rn,lQ]at hp;have hc:=yN W a1 k.f.length c1 k.f x ht.p Ao hx (by omega) hp;have HL:Hid (x+(lens k.f:Int)+(aK cM k.aa k.aa.length:Int)+(aK cT k.c k.c.length:Int)<=100000000):=by unfold Hid;rw[<-hC];unfold pK;omega
 have H:Hid (fZ.qM W a2 (vR k.aa (x+(lens k.f:Int)))/\fQ.qM W a3 (vT k.c (x+(lens k.f:Int)+(aK cM k.aa k.aa.length:Int)))/\Below X.1.size X W/\bK.S k/\Bx W X.1.size (dJ a1 c1 a2 c2 a3 c3 k)):=⟨h0.m,h0.t,bW,ht,FA⟩
 have HE:=aB hC;have p3:=FA.1 3 _ rfl;have p4:=FA.1 4 _ rfl;have d1:decide (x+(lens k.f:Int)<0)=false:=by simp;omega
 have d2:decide (x+(lens k.f:Int)+(aK cM k.aa k.aa.length:Int)<0)=false:=by simp;omega
 have d3:decide (x+(lens k.f:Int)+(aK cM k.aa k.aa.length:Int)+(aK cT k.c k.c.length:Int)<0)=false:=by simp;omega
 clear h h0 hp Su hC hz ht bW Ao FA;rw[hW]at p3 p4;go_enter Tryz.func10,Tryz.ntmps10;go_wp2_with fail;rw[<-hW];refine hc.mono ?_;clear hc;rintro e w1 ⟨rfl,rfl⟩;rw[<-hW]at p3 p4;clear hW;have l1:=HL.out;generalize hy:x+(lens k.f:Int)=y at *;have WC:0<=y:=by omega
 go_wp2_with fail;refine(Sz w1 a2 c2 k.aa y WC (by omega) H.out.2.2.2.1.m H.out.2.2.2.1.ms H.out.1).mono ?_;rintro e w2 ⟨rfl,b2⟩;have H2:Hid (fQ.qM w2 a3 (vT k.c (y+(aK cM k.aa k.aa.length:Int)))/\Below X.1.size X w2/\Bx w2 X.1.size (dJ a1 c1 a2 c2 a3 c3 k)):=⟨H.out.2.1.later b2,ay H.out.2.2.1 b2,H.out.2.2.2.2.later b2⟩
 clear b2 p3 p4;have p4:=H2.out.2.2.1 4 _ rfl;generalize hz:y+(aK cM k.aa k.aa.length:Int)=z at *;have rH:0<=z:=by omega
 go_wp2_with fail;refine(SA w2 a3 c3 k.c z rH (by omega) H.out.2.2.2.1.t H.out.2.2.2.1.ts H2.out.1).mono ?_;rintro e w3 ⟨rfl,b3⟩;have H3:Hid (Below X.1.size X w3):=ay H2.out.2.1 b3;clear b3 p4;go_wp2;go_ret;exact⟨by rw[HE.out];rfl,H3.out⟩
theorem qH{α:Type}(f:α->Nat)(c:Nat):∀{l:List α},(∀x∈l,f x<=c)->(l.map f).sum<=l.length*c
 | [],_=>by simp
 | a::l,h=>by
  have h1:=h a (by simp);have h2:=qH f c (l:=l) (fun x hx=>h x (by simp[hx]));simp only[List.map_cons,List.sum_cons,List.length_cons,Nat.succ_mul];omega
theorem Ij{m:M4}(h:O4 m):Ii m<=3000:=by
 have h1:=qH (fun c:K2=>c.cells.length) 6 (l:=m.af) (fun c hc=>by rw[h.ks c hc];exact Nat.le_refl _);have h2:=qH (fun r:R4=>r.ag.length) 12 (l:=m.h) (fun c hc=>(h.rs c hc).2);have:=h.k;have:=h.r;have:=h.n;unfold Ii jv jF;omega
theorem Qn(t:tx.T7)(n:tx.N5):tx.yn (tx.dO t n)<=tx.yn t+1:=by
 unfold tx.dO;split
 ·split
  ·omega
  ·split
   ·simp[tx.yn,tx.rU]
   ·simp only[tx.yn,tx.nD,List.length_append,List.length_take,List.length_drop,List.length_singleton];omega
 ·simp[tx.yn,tx.rU]
theorem Uk(k:C6)(t:tx.T7)(r s:Int):tx.yn (qx k t r s)<=tx.yn t+1:=by
 unfold qx Fe;split
 ·omega
 ·split
  ·omega
  ·exact Qn _ _
theorem NP(k:C6)(y r s:Int)(hz:Bg k<=1048576):Bg (sI k y r s)<=1048576:=by
 unfold sI;split
 ·rename_i h0;obtain⟨hk,hi,-,-⟩:=si h0;split
  ·split
   ·have h:=Ot.of hk;have h1:=qH List.length 3 (l:=k.f) (fun z hz=>(h.ps z hz).2);have h2:=qH (fun m=>Ii m) 3000 (l:=k.aa) (fun m hm=>Ij (h.ms m hm))
    have h3:=qH (fun t=>tx.yn t) 25 (l:=k.c.set (fT k.c y) (qx k (dF k y) r s)) (fun t ht=>by
     have e:∀t∈k.c,tx.yn t<=24:=fun t ht=>by have:=h.ts t ht;unfold tx.yn;omega
     rcases List.mem_or_eq_of_mem_set ht with h5|h5
     ·have:=e t h5;omega
     ·rw[h5];have h6:=Uk k (dF k y) r s;have h7:=e (dF k y) (List.mem_of_getElem? (fV hi))
      omega)
    have:=h.p;have:=h.m;have:=h.t;unfold Bg lens uQ.l9 uR.l9 jw;rw[List.length_set]at h3;simp only[List.length_set];omega
   ·exact hz
  ·exact hz
 ·unfold jY;split
  ·exact hz
  ·simp[Bg,zC,lens,uQ.l9,uR.l9]
namespace fnExactRead
open Go.ChangeShapes Go.WideShapes Go.ChangeAt Go.RowKit
theorem own:ownKnob Tryz.prog.godebug=none:=by kernel_rfl
theorem laidOut:laidOutB Tryz.prog=true:=by kernel_rfl
def Z4(X:World)(N:C6)(o0:Int)(o1:Int)(e:Ending)(w':World):Prop:=∃(ra:Option Addr) (rb:Nat) (rc:Option Addr) (rd:Nat) (re:Option Addr) (rf:Nat) (P:Nat->Prop),e=.returned (.tuple #[.agg #[vI N.u,vI N.l,.slice ra N.f.length rb,.slice rc N.aa.length rd,.slice re N.c.length rf,.bool N.w],vI o0,vI o1])/\bK.Ow w' X.1.size ra rb rc rd re rf N P/\Below X.1.size X w'
theorem Iu(w:World)(uX:Option Addr)(uY:Nat)(uZ:Option Addr)(u7:Nat)(ve:Option Addr)(vo:Nat)(k:C6)(y:Int)(r:Int)(s:Int)(lk:bK.L k)(hk:bK.Rd w uX uY uZ u7 ve vo k)(Vw:HG w)(hg:Bg k<=1048576):
  Calls Tryz.prog 3 #[.agg #[vI k.u,vI k.l,.slice uX k.f.length uY,.slice uZ k.aa.length u7,.slice ve k.c.length vo,.bool k.w],vI y,vI r,vI s] w fun e w'=>e=.returned (.bool true)/\Below w.1.size w w':=by
 have tk:Hid (bK.S k):=bK.S.of (by omega);obtain⟨N,hN⟩:∃N,N=sI k y r s:=⟨_,rfl⟩
 obtain⟨o0,UU⟩:∃z,z=uW k y r s:=⟨_,rfl⟩
 obtain⟨o1,SQ⟩:∃z,z=qU k y r s:=⟨_,rfl⟩
 have A1:Hid (∀(X:World) (Dv:Option Addr) (Dw:Nat) (Dx:Option Addr) (Dy:Nat) (Dz:Option Addr) (DC:Nat),bK.Rd X Dv Dw Dx Dy Dz DC k->HG X->Calls Tryz.prog 5 #[.agg #[vI k.u,vI k.l,.slice Dv k.f.length Dw,.slice Dx k.aa.length Dy,.slice Dz k.c.length DC,.bool k.w],vI y,vI r,vI s] X (Z4 X N o0 o1)):=by
  rw[hN,UU,SQ];intro X Dv Dw Dx Dy Dz DC h1 _;exact Dh X Dv Dw Dx Dy Dz DC k y r s lk h1
 have A2:Hid (∀(X:World) (Dv:Option Addr) (Dw:Nat) (Dx:Option Addr) (Dy:Nat) (Dz:Option Addr) (DC:Nat),bK.Rd X Dv Dw Dx Dy Dz DC k->HG X->Calls Tryz.prog 7 #[.agg #[vI k.u,vI k.l,.slice Dv k.f.length Dw,.slice Dx k.aa.length Dy,.slice Dz k.c.length DC,.bool k.w],vI y,vI r,vI s] X (Z4 X N o0 o1)):=by
  rw[hN,UU,SQ];intro X Dv Dw Dx Dy Dz DC h1 hX;exact CX X Dv Dw Dx Dy Dz DC k y r s lk h1 hX
 have tN:Hid (bK.S N):=by
  rw[hN];exact bK.S.of (NP k y r s (by omega))
 have zN:Hid (Bg N<=1048576):=by
  rw[hN];exact NP k y r s (by omega)
 clear hN UU SQ;have n7:(o0 != o0)=false:=by simp
 have n9:(o1 != o1)=false:=by simp
 obtain⟨U0,iQ⟩:∃X,X=w.alloc (.cells #[vI k.u,vI k.l,.slice uX k.f.length uY,.slice uZ k.aa.length u7,.slice ve k.c.length vo,.bool k.w] 26):=⟨_,rfl⟩
 have sG:Below w.1.size w U0:=by rw[iQ];exact aJ.alloc aR _
 have wY:Bx U0 w.1.size (dJ uX uY uZ u7 ve vo k):=by rw[iQ];exact Bx.made w (dJ uX uY uZ u7 ve vo k) _
 have ZT:U0.1.size=w.1.size+1:=by rw[iQ];simp
 have Fk:Hid (Bx U0 w.1.size (dJ uX uY uZ u7 ve vo k)):=wY;have Rk:Hid (bK.Rd U0 uX uY uZ u7 ve vo k):=(hk).later sG;have Bw:Hid (Below w.1.size w U0):=sG;have Yk:Hid (HG w):=Vw;clear Vw;have ZU:Hid (U0.1.size=w.1.size+1):=by unfold Hid;omega
 clear sG wY ZT hk;have sJ:Hid (Below U0.1.size U0 U0):=aJ;go_enter Tryz.func3,Tryz.ntmps3;have bC:=(Fk.out.later sJ.out)
 have p0:=bC.1 0 _ rfl;have p1:=bC.1 1 _ rfl;have p2:=bC.1 2 _ rfl;have p3:=bC.1 3 _ rfl;have p4:=bC.1 4 _ rfl;have p5:=bC.1 5 _ rfl;clear bC;rw[iQ]at p0 p1 p2 p3 p4 p5;go_wp2_with fail;rw[<-iQ];clear iQ;refine(bK.sz U0 uX uY uZ u7 ve vo k lk (Rk.out.later sJ.out)).mono ?_;rw[bO (by omega)];rintro e s1 ⟨rfl,RY⟩;clear p0 p1 p2 p3 p4 p5;have Br:Hid (Below U0.1.size U0 s1):=ay sJ.out RY;have RQ:Hid (U0.1.size<=s1.1.size):=RY.size;clear sJ RY;have g0:decide ((((1048576-Bg k):Nat):Int)<0)=false:=by simp
 have bC:=(Fk.out.later Br.out)
 have p0:=bC.1 0 _ rfl;have p1:=bC.1 1 _ rfl;have p2:=bC.1 2 _ rfl;have p3:=bC.1 3 _ rfl;have p4:=bC.1 4 _ rfl;have p5:=bC.1 5 _ rfl;clear bC;go_wp2_with fail;refine(bK.to s1 uX uY uZ u7 ve vo k tk.out (Rk.out.later Br.out)).mono ?_;rintro e t2 ⟨Ut,Uu,Uv,Uw,Ux,Uy,_,rfl,oT,Yy⟩;have Xc:=aB oT.sl;clear oT p0 p1 p2 p3 p4 p5;have LF:Hid (Below U0.1.size U0 t2):=ay Br.out Yy;have UF:Hid (s1.1.size<=t2.1.size):=Yy.size;clear Br Yy;go_wp2_with fail;refine(A1.out t2 Ut Uu Uv Uw Ux Uy Xc.out ((Yk.out.later Bw.out).later LF.out)).mono ?_;rintro e t3 ⟨TE,TF,TG,TH,TI,TJ,Pw,rfl,ow,Yz⟩;clear Xc;obtain⟨vw,Ww⟩:∃X,X=t3.alloc (.cells #[vI N.u,vI N.l,.slice TE N.f.length TF,.slice TG N.aa.length TH,.slice TI N.c.length TJ,.bool N.w] 32):=⟨_,rfl⟩
 have YE:Below t3.1.size t3 vw:=by rw[Ww];exact aJ.alloc aR _
 have Fw:Hid (Bx vw t3.1.size (dJ TE TF TG TH TI TJ N)):=by rw[Ww];exact Bx.made t3 (dJ TE TF TG TH TI TJ N) _
 have Ow:Hid (bK.Ow vw t2.1.size TE TF TG TH TI TJ N Pw):=ow.later YE;have nB:Hid (∀x,Pw x->x≠t3.1.size):=fun x hx=>by have:=(ow.of hx).2;omega
 obtain⟨qw,mn⟩:∃q,q=t3.1.size:=⟨_,rfl⟩
 have bb:Below t2.1.size t2 vw:=ay Yz YE;have Lw:Hid (t2.1.size<=t3.1.size):=Yz.size;clear ow Yz YE mn qw;have IC:Hid (Below U0.1.size U0 vw):=ay LF.out bb;have UJ:Hid (t2.1.size<=vw.1.size):=bb.size;clear LF bb;have Qy:Hid (Below vw.1.size vw vw):=aJ;have bC:=(Fk.out.later IC.out)
 have p0:=bC.1 0 _ rfl;have p1:=bC.1 1 _ rfl;have p2:=bC.1 2 _ rfl;have p3:=bC.1 3 _ rfl;have p4:=bC.1 4 _ rfl;have p5:=bC.1 5 _ rfl;clear bC;rw[Ww]at p0 p1 p2 p3 p4 p5;go_wp2_with fail;rw[<-Ww];clear Ww;refine(bK.to vw uX uY uZ u7 ve vo k tk.out (Rk.out.later IC.out)).mono ?_;rintro e t4 ⟨uK,uL,uM,uN,uO,uP,Xk,rfl,ox,YA⟩;clear p0 p1 p2 p3 p4 p5;obtain⟨xk,BJ⟩:∃X,X=t4.alloc (.cells #[vI k.u,vI k.l,.slice uK k.f.length uL,.slice uM k.aa.length uN,.slice uO k.c.length uP,.bool k.w] 32):=⟨_,rfl⟩
 have YF:Below t4.1.size t4 xk:=by rw[BJ];exact aJ.alloc aR _
 have fY:Hid (Bx xk t4.1.size (dJ uK uL uM uN uO uP k)):=by rw[BJ];exact Bx.made t4 (dJ uK uL uM uN uO uP k) _
 have Xy:Hid (bK.Ow xk vw.1.size uK uL uM uN uO uP k Xk):=ox.later YF;have Xz:Hid (∀q,Xk q->vw.1.size<=q/\q<t4.1.size):=fun q hq=>ox.of hq
 have bb:Below vw.1.size vw xk:=ay YA YF;have UC:Hid (vw.1.size<=t4.1.size):=YA.size;have UE:Hid (xk.1.size=t4.1.size+1):=by rw[Hid,BJ];simp
 clear ox YA YF;have LG:Hid (Below U0.1.size U0 xk):=ay IC.out bb;have Qz:Hid (Below vw.1.size vw xk):=ay Qy.out bb;have UK:Hid (vw.1.size<=xk.1.size):=bb.size;clear IC Qy bb;have Cq:Hid (Below xk.1.size xk xk):=aJ;have IM:Hid (Below xk.1.size xk xk):=aJ;have aw:Hid (bK.Rd xk uK uL uM uN uO uP k):=(Xy.out.later Cq.out).sl;have Uz:Hid (Bx xk t4.1.size (dJ uK uL uM uN uO uP k)):=fY.out.later Cq.out;have bC:=(Uz.out.later IM.out)
 have fa:=bC.1 0 _ rfl;have fb:=bC.1 1 _ rfl;have fc:=bC.1 2 _ rfl;have ff:=bC.1 3 _ rfl;have fg:=bC.1 4 _ rfl;have fh:=bC.1 5 _ rfl;clear bC;rw[BJ]at fa fb fc ff fg fh;go_wp2_with fail;rw[<-BJ];clear BJ;refine(A2.out xk uK uL uM uN uO uP (aw.out.later IM.out) ((Yk.out.later Bw.out).later LG.out)).mono ?_;rintro e t5 ⟨GV,GX,GY,GZ,G5,G6,Pg,rfl,og,YB⟩;clear fa fb fc ff fg fh;obtain⟨vg,Wu⟩:∃X,X=t5.alloc (.cells #[vI N.u,vI N.l,.slice GV N.f.length GX,.slice GY N.aa.length GZ,.slice G5 N.c.length G6,.bool N.w] 32):=⟨_,rfl⟩
 have YC:Below t5.1.size t5 vg:=by rw[Wu];exact aJ.alloc aR _
 have Fg:Hid (Bx vg t5.1.size (dJ GV GX GY GZ G5 G6 N)):=by rw[Wu];exact Bx.made t5 (dJ GV GX GY GZ G5 G6 N) _
 have Og:Hid (bK.Ow vg xk.1.size GV GX GY GZ G5 G6 N Pg):=og.later YC;have gv:Hid (∀x,Pg x->x≠t5.1.size):=fun x hx=>by have:=(og.of hx).2;omega
 obtain⟨qg,mj⟩:∃q,q=t5.1.size:=⟨_,rfl⟩
 have bb:Below xk.1.size xk vg:=ay YB YC;have Lg:Hid (xk.1.size<=t5.1.size):=YB.size;clear og YB YC mj qg;have Qv:Hid (Below U0.1.size U0 vg):=ay LG.out bb;have IK:Hid (Below vw.1.size vw vg):=ay Qz.out bb;have LU:Hid (Below xk.1.size xk vg):=ay Cq.out bb;have QA:Hid (Below xk.1.size xk vg):=ay IM.out bb;have UI:Hid (xk.1.size<=vg.1.size):=bb.size;clear LG Qz Cq IM bb;have IP:Hid (Below vg.1.size vg vg):=aJ;have bC:=(Fg.out.later IP.out)
 have g0:=bC.1 0 _ rfl;have g1:=bC.1 1 _ rfl;have g2:=bC.1 2 _ rfl;have g3:=bC.1 3 _ rfl;have g4:=bC.1 4 _ rfl;have g5:=bC.1 5 _ rfl;clear bC;have bC:=(Fw.out.later IK.out)
 have y0:=bC.1 0 _ rfl;have y1:=bC.1 1 _ rfl;have y2:=bC.1 2 _ rfl;have y3:=bC.1 3 _ rfl;have y4:=bC.1 4 _ rfl;have y5:=bC.1 5 _ rfl;clear bC;rw[Wu]at g0 g1 g2 g3 g4 g5 y0 y1 y2 y3 y4 y5;go_wp2_with fail;rw[<-Wu];clear Wu;refine(bK.eq vg GV GX GY GZ G5 G6 TE TF TG TH TI TJ N tN.out (Og.out.sl.later IP.out) (Ow.out.sl.later IK.out)).mono ?_;rintro e t6 ⟨rfl,R5⟩;clear g0 g1 g2 g3 g4 g5 y0 y1 y2 y3 y4 y5;have IB:Hid (Below U0.1.size U0 t6):=ay Qv.out R5;have Qx:Hid (Below vw.1.size vw t6):=ay IK.out R5;have LQ:Hid (Below xk.1.size xk t6):=ay LU.out R5;have DU:Hid (Below xk.1.size xk t6):=ay QA.out R5;have QB:Hid (Below vg.1.size vg t6):=ay IP.out R5;have UG:Hid (vg.1.size<=t6.1.size):=R5.size;clear Qv IK LU QA IP R5;go_upto_region 10 with fail
 go_cut[67]from 63 to 67 (fun s0 wx=>s0=.bool false/\Below t6.1.size t6 wx)
 case first=>
  have bd:Below t6.1.size t6 t6.drew:=aJ.drew;have bC:=(Fk.out.later (ay IB.out bd))
  have p0:=bC.1 0 _ rfl;have p1:=bC.1 1 _ rfl;have p2:=bC.1 2 _ rfl;have p3:=bC.1 3 _ rfl;have p4:=bC.1 4 _ rfl;have p5:=bC.1 5 _ rfl;clear bC;have bC:=(Uz.out.later (ay DU.out bd))
  have e0:=bC.1 0 _ rfl;have e1:=bC.1 1 _ rfl;have e2:=bC.1 2 _ rfl;have e3:=bC.1 3 _ rfl;have e4:=bC.1 4 _ rfl;have e5:=bC.1 5 _ rfl;clear bC;have UO:t4.1.size<t6.drew.1.size:=(Uz.out.later (ay DU.out bd)).2.2;have sx:Hid (bK.Rd t6.drew uK uL uM uN uO uP k):=aw.out.later (ay DU.out bd);have KB:=aB bd;have ra:=Rk.out.later (ay IB.out bd);clear bd
  go_region_with (first
   | (go_at_call 6
      refine(bK.to t6.drew uX uY uZ u7 ve vo k tk.out ra).mono ?_;rintro e w8 ⟨Xn,Xo,Xp,Xq,Xr,Xt,_,rfl,o8,b8⟩;have od:w8.cell? ⟨t4.1.size,0,none⟩=some (vI k.u):=(b8.cell (p:=⟨t4.1.size,0,none⟩) UO).trans e0;have oe:w8.cell? ⟨t4.1.size,1,none⟩=some (vI k.l):=(b8.cell (p:=⟨t4.1.size,1,none⟩) UO).trans e1;have e2':w8.cell? ⟨t4.1.size,2,none⟩=some (.slice uK k.f.length uL):=(b8.cell (p:=⟨t4.1.size,2,none⟩) UO).trans e2;have e3':w8.cell? ⟨t4.1.size,3,none⟩=some (.slice uM k.aa.length uN):=(b8.cell (p:=⟨t4.1.size,3,none⟩) UO).trans e3;have e4':w8.cell? ⟨t4.1.size,4,none⟩=some (.slice uO k.c.length uP):=(b8.cell (p:=⟨t4.1.size,4,none⟩) UO).trans e4;have e5':w8.cell? ⟨t4.1.size,5,none⟩=some (.bool k.w):=(b8.cell (p:=⟨t4.1.size,5,none⟩) UO).trans e5;have S8:Hid (bK.Rd w8 uK uL uM uN uO uP k/\bK.Rd w8 Xn Xo Xp Xq Xr Xt k/\Below t6.1.size t6 w8):=⟨sx.out.later b8,o8.sl,ay KB.out b8⟩
      clear o8 b8)
   | (go_at_call 8
      refine(bK.eq w8 uK uL uM uN uO uP Xn Xo Xp Xq Xr Xt k tk.out S8.out.1 S8.out.2.1).mono ?_
      rintro e w9 ⟨rfl,b9⟩))
  all_goals (
   go_wp2_with fail;go_meet
   exact⟨rfl,ay S8.out.2.2 b9⟩)
 case rest=>
 obtain⟨rfl,bx⟩:=hcut;generalize wc=t7 at *;have U9:Hid (Below U0.1.size U0 t7):=ay IB.out bx;have Vb:Hid (Below vw.1.size vw t7):=ay Qx.out bx;have RB:Hid (Below xk.1.size xk t7):=ay LQ.out bx;have Ve:Hid (Below xk.1.size xk t7):=ay DU.out bx;have QC:Hid (Below vg.1.size vg t7):=ay QB.out bx;have UH:Hid (t6.1.size<=t7.1.size):=bx.size;clear IB Qx LQ DU QB bx;have Xy:Hid (bK.Ow t7 _ uK uL uM uN uO uP k Xk):=Xy.out.later RB.out;have Uz:Hid (Bx t7 t4.1.size (dJ uK uL uM uN uO uP k)):=Uz.out.later Ve.out;have Og:Hid (bK.Ow t7 xk.1.size GV GX GY GZ G5 G6 N Pg):=Og.out.later QC.out;have Fg:Hid (Bx t7 t5.1.size (dJ GV GX GY GZ G5 G6 N)):=Fg.out.later QC.out;have k0:Hid ((0:Int)<=1/\(1:Int)<=1):=by unfold Hid;omega
 have bC:=Uz.out;have e0:=bC.1 0 _ rfl;have e1:=bC.1 1 _ rfl;have e2:=bC.1 2 _ rfl;have e3:=bC.1 3 _ rfl;have e4:=bC.1 4 _ rfl;have e5:=bC.1 5 _ rfl;clear bC;have nX:=bK.mark t7 _ uK uL uM uN uO uP k Xk 1 (by have:=k0.out;omega) (by have:=k0.out;omega) (by omega) tk.out Xy.out;obtain⟨E0,YN⟩:∃z,z=(pK k 1):=⟨_,rfl⟩
 rw[<-YN]at nX
 have k1:Hid ((0:Int)<=E0/\E0<=300000000):=by
  rw[YN];have:=k0.out;have e1:=I1 k;unfold pK;refine⟨by omega,by omega⟩
 clear YN;have dE:decide (E0<0)=false:=by have:=k1.out;simp;omega
 go_wp2_with fail;refine nX.mono ?_;clear nX e0 e1 e2 e3 e4 e5;rintro e t8 ⟨rfl,kp⟩;have Qu:Hid (Below U0.1.size U0 t8):=IZ U9.out kp (fun q hq=>by have:=ZU.out;have:=RQ.out;have:=UF.out;have:=Lw.out;have:=UJ.out;have:=UC.out;have:=UE.out;have:=UK.out;have:=Lg.out;have:=UI.out;have:=UG.out;have:=UH.out;have:=(Xz.out q hq).1;omega);have IJ:Hid (Below vw.1.size vw t8):=IZ Vb.out kp (fun q hq=>by have:=ZU.out;have:=RQ.out;have:=UF.out;have:=Lw.out;have:=UJ.out;have:=UC.out;have:=UE.out;have:=UK.out;have:=Lg.out;have:=UI.out;have:=UG.out;have:=UH.out;have:=(Xz.out q hq).1;omega);have Og:Hid (bK.Ow t8 xk.1.size GV GX GY GZ G5 G6 N Pg):=Og.out.aQ kp.size (fun q hq=>kp.block q (Og.out.of hq).2 (fun e=>by have:=ZU.out;have:=RQ.out;have:=UF.out;have:=Lw.out;have:=UJ.out;have:=UC.out;have:=UE.out;have:=UK.out;have:=Lg.out;have:=UI.out;have:=UG.out;have:=UH.out;have:=(Xz.out q e).2;have:=(Og.out.of hq).1;omega));have Fg:Hid (Bx t8 t5.1.size (dJ GV GX GY GZ G5 G6 N)):=Fg.out.aj (kp.block _ Fg.out.2.2 (fun e=>by have:=ZU.out;have:=RQ.out;have:=UF.out;have:=Lw.out;have:=UJ.out;have:=UC.out;have:=UE.out;have:=UK.out;have:=Lg.out;have:=UI.out;have:=UG.out;have:=UH.out;have:=(Xz.out _ e).2;omega)) kp.size;have aE:Hid (t7.1.size<=t8.1.size):=kp.size;clear kp;have IQ:Hid (Below t8.1.size t8 t8):=aJ;have bC:=(Fg.out.later IQ.out)
 have g0:=bC.1 0 _ rfl;have g1:=bC.1 1 _ rfl;have g2:=bC.1 2 _ rfl;have g3:=bC.1 3 _ rfl;have g4:=bC.1 4 _ rfl;have g5:=bC.1 5 _ rfl;clear bC;have bC:=(Fw.out.later IJ.out)
 have y0:=bC.1 0 _ rfl;have y1:=bC.1 1 _ rfl;have y2:=bC.1 2 _ rfl;have y3:=bC.1 3 _ rfl;have y4:=bC.1 4 _ rfl;have y5:=bC.1 5 _ rfl;clear bC;go_wp2_with fail;refine(bK.eq t8 GV GX GY GZ G5 G6 TE TF TG TH TI TJ N tN.out (Og.out.sl.later IQ.out) (Ow.out.sl.later IJ.out)).mono ?_;rintro e t9 ⟨rfl,Vt⟩;clear g0 g1 g2 g3 g4 g5 y0 y1 y2 y3 y4 y5;have Va:Hid (Below U0.1.size U0 t9):=ay Qu.out Vt;have Vd:Hid (Below vw.1.size vw t9):=ay IJ.out Vt;have DV:Hid (Below t8.1.size t8 t9):=ay IQ.out Vt;have a9:Hid (t8.1.size<=t9.1.size):=Vt.size;clear Qu IJ IQ Vt;have nX:=bK.WJ t9 xk.1.size GV GX GY GZ G5 G6 N Pg 1 (by omega) (by omega) zN.out tN.out (Og.out.later DV.out);have HH:Hid (∀X,bK.Rd X GV GX GY GZ G5 G6 (Rn N 1)->Calls Tryz.prog 10 #[.agg #[vI N.u,vI N.l,.slice GV N.f.length GX,.slice GY N.aa.length GZ,.slice G5 N.c.length G6,.bool N.w],vI 1] X fun e w'=>e=.returned (vI (pK N 1))/\Below X.1.size X w'):=fun X hX=>bK.held X GV GX GY GZ G5 G6 N 1 (by omega) (by omega) zN.out tN.out hX
 obtain⟨G,hG⟩:∃z,z=(pK N 1):=⟨_,rfl⟩
 rw[<-hG]at nX HH
 have dG:decide (G<0)=false:=by
  rw[hG];unfold pK;simp;omega
 have dH:(G != G)=false:=by simp
 clear hG;have bC:=(Fg.out.later DV.out)
 have g0:=bC.1 0 _ rfl;have g1:=bC.1 1 _ rfl;have g2:=bC.1 2 _ rfl;have g3:=bC.1 3 _ rfl;have g4:=bC.1 4 _ rfl;have g5:=bC.1 5 _ rfl;clear bC;go_wp2_with fail;refine nX.mono ?_;clear nX g0 g1 g2 g3 g4 g5;rintro e t10 ⟨rfl,kp,om⟩;have LC:Hid (Below U0.1.size U0 t10):=IZ Va.out kp (fun q hq=>by have:=ZU.out;have:=RQ.out;have:=UF.out;have:=Lw.out;have:=UJ.out;have:=UC.out;have:=UE.out;have:=UK.out;have:=Lg.out;have:=UI.out;have:=UG.out;have:=UH.out;have:=aE.out;have:=a9.out;have:=(Og.out.of hq).1;omega);have LJ:Hid (Below vw.1.size vw t10):=IZ Vd.out kp (fun q hq=>by have:=ZU.out;have:=RQ.out;have:=UF.out;have:=Lw.out;have:=UJ.out;have:=UC.out;have:=UE.out;have:=UK.out;have:=Lg.out;have:=UI.out;have:=UG.out;have:=UH.out;have:=aE.out;have:=a9.out;have:=(Og.out.of hq).1;omega);have Fg:Hid (Bx t10 t5.1.size (dJ GV GX GY GZ G5 G6 N)):=(Fg.out.later DV.out).aj (kp.block _ (Fg.out.later DV.out).2.2 (fun e=>gv.out _ e rfl)) kp.size;have Om:=aB om;have gC:Hid (t9.1.size<=t10.1.size):=kp.size;clear kp om DV;have xS:Hid (Below t10.1.size t10 t10):=aJ;have bC:=(Fg.out.later xS.out)
 have g0:=bC.1 0 _ rfl;have g1:=bC.1 1 _ rfl;have g2:=bC.1 2 _ rfl;have g3:=bC.1 3 _ rfl;have g4:=bC.1 4 _ rfl;have g5:=bC.1 5 _ rfl;clear bC;go_wp2_with fail;refine(HH.out t10 (Om.out.later xS.out)).mono ?_;rintro e t11 ⟨rfl,Mc⟩;clear g0 g1 g2 g3 g4 g5;have Cm:Hid (Below U0.1.size U0 t11):=ay LC.out Mc;have LK:Hid (Below vw.1.size vw t11):=ay LJ.out Mc;have IE:Hid (Below t10.1.size t10 t11):=ay xS.out Mc;have gE:Hid (t10.1.size<=t11.1.size):=Mc.size;clear LC LJ xS Mc;have bC:=(Fk.out.later Cm.out)
 have p0:=bC.1 0 _ rfl;have p1:=bC.1 1 _ rfl;have p2:=bC.1 2 _ rfl;have p3:=bC.1 3 _ rfl;have p4:=bC.1 4 _ rfl;have p5:=bC.1 5 _ rfl;clear bC;go_wp2_with fail;refine(bK.to t11 uX uY uZ u7 ve vo k tk.out (Rk.out.later Cm.out)).mono ?_;rintro e t12 ⟨Ut,Uu,Uv,Uw,Ux,Uy,_,rfl,oT,Md⟩;have Xc:=aB oT.sl;clear oT p0 p1 p2 p3 p4 p5;have Gd:Hid (Below U0.1.size U0 t12):=ay Cm.out Md;have LM:Hid (Below vw.1.size vw t12):=ay LK.out Md;have IG:Hid (Below t10.1.size t10 t12):=ay IE.out Md;have gO:Hid (t11.1.size<=t12.1.size):=Md.size;clear Cm LK IE Md;go_wp2_with fail;refine(A2.out t12 Ut Uu Uv Uw Ux Uy Xc.out ((Yk.out.later Bw.out).later Gd.out)).mono ?_;rintro e t13 ⟨WN,WO,WQ,WR,WS,WT,Ph,rfl,oh,RZ⟩;clear Xc;obtain⟨vh,Wv⟩:∃X,X=t13.alloc (.cells #[vI N.u,vI N.l,.slice WN N.f.length WO,.slice WQ N.aa.length WR,.slice WS N.c.length WT,.bool N.w] 32):=⟨_,rfl⟩
 have YD:Below t13.1.size t13 vh:=by rw[Wv];exact aJ.alloc aR _
 have Fh:Hid (Bx vh t13.1.size (dJ WN WO WQ WR WS WT N)):=by rw[Wv];exact Bx.made t13 (dJ WN WO WQ WR WS WT N) _
 have Oh:Hid (bK.Ow vh t12.1.size WN WO WQ WR WS WT N Ph):=oh.later YD;have nx:Hid (∀x,Ph x->x≠t13.1.size):=fun x hx=>by have:=(oh.of hx).2;omega
 obtain⟨qh,mm⟩:∃q,q=t13.1.size:=⟨_,rfl⟩
 have bb:Below t12.1.size t12 vh:=ay RZ YD;have Lh:Hid (t12.1.size<=t13.1.size):=RZ.size;clear oh RZ YD mm qh;have Qw:Hid (Below U0.1.size U0 vh):=ay Gd.out bb;have IL:Hid (Below vw.1.size vw vh):=ay LM.out bb;have LH:Hid (Below t10.1.size t10 vh):=ay IG.out bb;have nF:Hid (t12.1.size<=vh.1.size):=bb.size;clear Gd LM IG bb;have Co:Hid (Below vh.1.size vh vh):=aJ;have bC:=(Fh.out.later Co.out)
 have g0:=bC.1 0 _ rfl;have g1:=bC.1 1 _ rfl;have g2:=bC.1 2 _ rfl;have g3:=bC.1 3 _ rfl;have g4:=bC.1 4 _ rfl;have g5:=bC.1 5 _ rfl;clear bC;have bC:=(Fw.out.later IL.out)
 have y0:=bC.1 0 _ rfl;have y1:=bC.1 1 _ rfl;have y2:=bC.1 2 _ rfl;have y3:=bC.1 3 _ rfl;have y4:=bC.1 4 _ rfl;have y5:=bC.1 5 _ rfl;clear bC;rw[Wv]at g0 g1 g2 g3 g4 g5 y0 y1 y2 y3 y4 y5;go_wp2_with fail;rw[<-Wv];clear Wv;refine(bK.eq vh WN WO WQ WR WS WT TE TF TG TH TI TJ N tN.out (Oh.out.sl.later Co.out) (Ow.out.sl.later IL.out)).mono ?_;rintro e t14 ⟨rfl,JF⟩;clear g0 g1 g2 g3 g4 g5 y0 y1 y2 y3 y4 y5;have LD:Hid (Below U0.1.size U0 t14):=ay Qw.out JF;have LP:Hid (Below vw.1.size vw t14):=ay IL.out JF;have xW:Hid (Below t10.1.size t10 t14):=ay LH.out JF;have II:Hid (Below vh.1.size vh t14):=ay Co.out JF;have gS:Hid (vh.1.size<=t14.1.size):=JF.size;clear Qw IL LH Co JF;have bC:=(Fg.out.later xW.out)
 have g0:=bC.1 0 _ rfl;have g1:=bC.1 1 _ rfl;have g2:=bC.1 2 _ rfl;have g3:=bC.1 3 _ rfl;have g4:=bC.1 4 _ rfl;have g5:=bC.1 5 _ rfl;clear bC;go_wp2_with fail;refine(HH.out t14 (Om.out.later xW.out)).mono ?_;rintro e t15 ⟨rfl,JG⟩;clear g0 g1 g2 g3 g4 g5;have RA:Hid (Below U0.1.size U0 t15):=ay LD.out JG;have Yh:Hid (Below vw.1.size vw t15):=ay LP.out JG;have Xu:Hid (Below t10.1.size t10 t15):=ay xW.out JG;have Xv:Hid (Below vh.1.size vh t15):=ay II.out JG;have hH:Hid (t14.1.size<=t15.1.size):=JG.size;clear LD LP xW II JG;go_wp2;go_ret;exact⟨rfl,ay Bw.out RA.out⟩
theorem F6(w:World)(uX:Option Addr)(uY:Nat)(uZ:Option Addr)(u7:Nat)(ve:Option Addr)(vo:Nat)(k:C6)(y:Int)(r:Int)(s:Int)(lk:bK.L k)(hk:bK.Rd w uX uY uZ u7 ve vo k)(_:HG w)(hg:¬Bg k<=1048576):
  Calls Tryz.prog 3 #[.agg #[vI k.u,vI k.l,.slice uX k.f.length uY,.slice uZ k.aa.length u7,.slice ve k.c.length vo,.bool k.w],vI y,vI r,vI s] w fun e w'=>e=.returned (.bool true)/\Below w.1.size w w':=by
 obtain⟨U0,iQ⟩:∃X,X=w.alloc (.cells #[vI k.u,vI k.l,.slice uX k.f.length uY,.slice uZ k.aa.length u7,.slice ve k.c.length vo,.bool k.w] 26):=⟨_,rfl⟩
 have sG:Below w.1.size w U0:=by rw[iQ];exact aJ.alloc aR _
 have wY:Bx U0 w.1.size (dJ uX uY uZ u7 ve vo k):=by rw[iQ];exact Bx.made w (dJ uX uY uZ u7 ve vo k) _
 have ZT:U0.1.size=w.1.size+1:=by rw[iQ];simp
 have Fk:Hid (Bx U0 w.1.size (dJ uX uY uZ u7 ve vo k)):=wY;have Rk:Hid (bK.Rd U0 uX uY uZ u7 ve vo k):=(hk).later sG;have Bw:Hid (Below w.1.size w U0):=sG;have ZU:Hid (U0.1.size=w.1.size+1):=by unfold Hid;omega
 clear sG wY ZT hk;have sJ:Hid (Below U0.1.size U0 U0):=aJ;go_enter Tryz.func3,Tryz.ntmps3;have bC:=(Fk.out.later sJ.out)
 have p0:=bC.1 0 _ rfl;have p1:=bC.1 1 _ rfl;have p2:=bC.1 2 _ rfl;have p3:=bC.1 3 _ rfl;have p4:=bC.1 4 _ rfl;have p5:=bC.1 5 _ rfl;clear bC;rw[iQ]at p0 p1 p2 p3 p4 p5;go_wp2_with fail;rw[<-iQ];clear iQ;refine(bK.sz U0 uX uY uZ u7 ve vo k lk (Rk.out.later sJ.out)).mono ?_;rw[bH (by omega)];rintro e s1 ⟨rfl,RY⟩;clear p0 p1 p2 p3 p4 p5;have Br:Hid (Below U0.1.size U0 s1):=ay sJ.out RY;have RQ:Hid (U0.1.size<=s1.1.size):=RY.size;clear sJ RY;go_wp2;go_ret;exact⟨rfl,ay Bw.out Br.out⟩
theorem walk(w:World)(uX:Option Addr)(uY:Nat)(uZ:Option Addr)(u7:Nat)(ve:Option Addr)(vo:Nat)(k:C6)(y:Int)(r:Int)(s:Int)(lk:bK.L k)(hk:bK.Rd w uX uY uZ u7 ve vo k)(Vw:HG w):
  Calls Tryz.prog 3 #[.agg #[vI k.u,vI k.l,.slice uX k.f.length uY,.slice uZ k.aa.length u7,.slice ve k.c.length vo,.bool k.w],vI y,vI r,vI s] w fun e w'=>e=.returned (.bool true)/\Below w.1.size w w':=by
 by_cases g0:Bg k<=1048576
 case neg=>exact F6 w uX uY uZ u7 ve vo k y r s lk hk Vw g0
 exact Iu w uX uY uZ u7 ve vo k y r s lk hk Vw g0
end fnExactRead
namespace fnExactRead
open Go.ChangeShapes Go.WideShapes Go.ChangeAt Go.RowKit
theorem ie:Tryz.prog.globalNamed "errors.errorType"=some 0:=by kernel_rfl
theorem mS:(Tryz.prog.cutTypes.find? (·.1 == "internal/reflectlite.rtype")).map (·.2)=some 244:=by kernel_rfl
theorem TN:((List.range 354).filter fun t=>Tryz.prog.rowNamed t [101,114,114,111,114])=[127]:=by kernel_rfl
theorem Xm:Tryz.prog.types.size=354:=by kernel_rfl
theorem yL{W:World}(h:laidMetH Tryz.prog Rows.fnExactReadRow.laid W):HG W:=by
 have h':laidMet Tryz.prog [] W/\handlesMet Tryz.prog Rows.fnExactReadRow.laid W:=h;obtain⟨name,u,ty,e1,e2,e3,e4,e5⟩:=h'.2 _ (List.mem_singleton.2 rfl);have en:name=[101,114,114,111,114]:=(Option.some.inj e1).symm;subst en;obtain rfl:=Option.some.inj (mS.symm.trans e2);have hm:ty∈(List.range 354).filter fun t=>Tryz.prog.rowNamed t [101,114,114,111,114]:=List.mem_filter.2 ⟨List.mem_range.2 (by rw[<-Xm];exact e3),e4⟩
 rw[TN]at hm;obtain rfl:=List.mem_singleton.1 hm;have hh:typeHandle Tryz.prog 127=.pointer (some ⟨1,127,none⟩):=by kernel_rfl
 rw[hh]at e5;simpa[HG]using World.var?_cell ie e5 0
noncomputable def BO(os:Os):World:=
 let w0:=World.holding Tryz.prog os ⟨#[],#[],[]⟩
 { w0 with heap:=w0.1.modify 0 fun
   | .cells _ t frozen=>.cells #[.iface 244 (.agg #[.pointer (some ⟨1,127,none⟩)])] t frozen
   | o=>o }
theorem AU(os:Os)(args:Array Value):laidMetH Tryz.prog Rows.fnExactReadRow.laid ((BO os).forCall (fun _ _=>0) ⟨#[],args,[]⟩).memory:=
 laidMetH_of_parts (laidMet_nil _ _) (by kernel_rfl)
theorem lifted(os:Os)(started:os.Started)(H:Type)(enc:TypeId×Value->H):
  ReturnsInHanded {} Tryz.checked os 3 .any (fun w args=>(Rows.fnExactReadSpec.pre enc Tryz.prog Tryz.f3 [] false w args/\laidMetH Tryz.prog Rows.fnExactReadRow.laid w)/\sizedMet enc Tryz.prog Tryz.f3 (OpenSpec.ofChange Rows.fnExactReadSpec) false w args)
   (Rows.fnExactReadSpec.post enc Tryz.prog Tryz.f3 false true false false):=by
 refine returnsInHanded_of_change_and (C:=Tryz.checked) (X:=fun w _=>laidMetH Tryz.prog Rows.fnExactReadRow.laid w) (fun _ _ _ hh h=>h.of_heap hh) own started (by kernel_rfl) Tryz.func3
  (ChangeSpec.witness_at (enc:=enc) (C:=Tryz.checked) (os:=os) (X:=fun w _=>laidMetH Tryz.prog Rows.fnExactReadRow.laid w) false (BO os) #[.agg #[vI 0,vI 0,.slice none 0 0,.slice none 0 0,.slice none 0 0,.bool false],vI 0,vI 0,vI 0] 8 rfl (by kernel_rfl) (by kernel_rfl) (by kernel_rfl) (by kernel_rfl) (by kernel_rfl) (AU os _)) ?_
 intro W base args ds gs before Q6 hW _ _ hL _;have vG:∀(j:Nat) t v,Tryz.f3.params[j]?=some t->args[j]?=some v->Value.okWide Tryz.prog W .any base t v:=Q6;have UQ:=hW;obtain⟨p,q,br,hV,rfl,oE,pc⟩:=hW;have hA:DataW.TrodAll enc Tryz.prog W 0 (fun _=>true) true Tryz.f3.params.toList args.toList ds p:=br;rw[Tryz.params3]at hA vG;obtain⟨v0,ph,d0,ds0,p0,q0,cm,rfl,rfl,h0,r0⟩:=trodAll_cons hA;obtain⟨v1,vs1,d1,ds1,p1,q1,rfl,rfl,rfl,h1,r1⟩:=trodAll_cons r0;obtain⟨v2,vs2,d2,oa,p2,q2,rfl,rfl,rfl,h2,r2⟩:=trodAll_cons r1;obtain⟨v3,vs3,d3,ds3,p3,q3,rfl,rfl,rfl,h3,r3⟩:=trodAll_cons r2;obtain⟨rfl,rfl,rfl⟩:=trodAll_nil r3;obtain rfl:args=#[v0,v1,v2,v3]:=by cases args;simp_all
 obtain⟨rfl,rfl⟩:=trodVars_none hV;obtain⟨cs0,rfl,kh⟩:=okWide_struct Tryz.underlying26 (vG 0 26 v0 rfl rfl);have k0:=h0;have my:∀x∈p0,x.block<W.1.size:=by obtain⟨n,hn⟩:=k0;exact DataW.trod_lt n _ _ _ hn
 obtain⟨uX,uY,uZ,u7,ve,vo,k,rfl,hk,lk⟩:∃(a1:Option Addr) (c1:Nat) (a2:Option Addr) (c2:Nat) (a3:Option Addr) (c3:Nat) (m:C6),cs0=#[vI m.u,vI m.l,.slice a1 m.f.length c1,.slice a2 m.aa.length c2,.slice a3 m.c.length c3,.bool m.w]/\bK.Rd W a1 c1 a2 c2 a3 c3 m/\bK.L m:=by
  obtain⟨fuel,hf⟩:=h0;obtain⟨a1,c1,a2,c2,a3,c3,m,e,hs,hl⟩:=oc.De hf;exact⟨a1,c1,a2,c2,a3,c3,m,by cases cs0;simpa[Value.cells]using e,hs,hl⟩
 obtain⟨y,rfl,rfl,rfl,w1⟩:=open_int Tryz.underlying2 (vG 1 2 v1 rfl rfl) h1;obtain⟨r,rfl,rfl,rfl,w2⟩:=open_int Tryz.underlying2 (vG 2 2 v2 rfl rfl) h2;obtain⟨s,rfl,rfl,rfl,w3⟩:=open_int Tryz.underlying2 (vG 3 2 v3 rfl rfl) h3;clear br Q6;refine(walk W uX uY uZ u7 ve vo k y r s lk hk (yL hL)).mono fun e W' ⟨he,sP⟩=>?_
 subst he;exact⟨_,rfl,_,_,_,[],_,[],UQ,trodAll_mk1 (shut_bool Tryz.underlying4 _),(trodAll_cons_mk (Below.trod laidOut (by kernel_rfl) (of_decide_eq_true (by kernel_rfl)) k0 sP my) (trodAll_cons_mk (shut_int Tryz.underlying2 w1) (trodAll_cons_mk (shut_int Tryz.underlying2 w2) (trodAll_cons_mk (shut_int Tryz.underlying2 w3) trodAll_mk0)))),rfl,sP.frame _,fun h=>by cases h⟩
end fnExactRead
end Go.Proofs.YtalnmfefmiapoaaGreatDoor
