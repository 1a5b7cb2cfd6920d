import Derived.Test.YtajmlpgodcfghaaGreatDoorJ0Alloc
set_option maxHeartbeats 16000000
set_option maxRecDepth 100000
namespace Go.Proofs.YtajmlpgodcfghaaGreatDoor
open Go.RowKit
open Go.Sort (grow)
section
open Go.Proofs.Tryz
variable {j n:Nat}{k:Int}
def AL(k:Int)(j:Nat):C2:=⟨k+2*(j:Int),k+2*(j:Int)+1⟩
def lv(k:Int)(n:Nat):List C2:=(List.range n).map (AL k)
theorem AO(h:j<n):(lv k n)[j]?=some (AL k j):=by simp[lv,h]
theorem nS(k:Int)(n:Nat):(lv k n).length=n:=by simp[lv]
theorem Gw(w:World)(b n cap:Nat)(k:Int)(hn:n<=1048576)(hk:0<=k)(oN:k<=1000000000)(hr:Room w b (n*2)):
  Calls prog 132 #[.slice (some ⟨b,0,none⟩) n cap,vI k] w fun e w'=>e=.returned (vI (k+2*(n:Int)))/\aQ b w w'/\bK w' b 0 (lv k n)/\Room w' b (n*2):=by
 go_enter func132,ntmps132;go_wp2;go_loopw[1,5] (fun v1 v5 wr=>∃j:Nat,j<=n/\v5=vI j/\v1=vI (k+2*(j:Int))/\aQ b w wr/\Room wr b (n*2)/\bK wr b 0 ((lv k n).take j)) (fun _ v5 _=>n-(intOf v5).toNat)
 case atStart=>exact⟨0,Nat.zero_le _,rfl,by simp,aQ.refl _ _,hr,fun i s e=>by simp at e⟩
 case round=>
  obtain⟨j,hj,rfl,rfl,kM,eB,uq⟩:=hrel;by_cases aK:j<n
  ·obtain⟨v0,d0,f0⟩:=eB (j*2) (by omega);obtain⟨v1,d1,f1⟩:=eB (j*2+1) (by omega);have K:Hid (aQ b w wr/\Room wr b (n*2)/\bK wr b 0 ((lv k n).take j)):=⟨kM,eB,uq⟩
   clear kM eB uq hr;go_wp2;obtain⟨kM,eB,uq⟩:=K.out;refine⟨⟨j+1,by omega,by simp,by congr 1;push_cast;omega,(kM.setCell _ _).setCell _ _,(eB.set _).set _,uq.put (s:=AL k j) (AO aK) eB (by omega)⟩,by simp[intOf];omega⟩
  ·have:j=n:=by omega
   subst this;have hd:decide ((j:Int)<(j:Int))=false:=by simp
   rw[List.take_of_length_le (by rw[nS];omega)]at uq;have K:Hid (aQ b w wr/\bK wr b 0 (lv k j)/\Room wr b (j*2)):=⟨kM,uq,eB⟩
   clear kM eB uq hr;go_wp2;go_ret;exact⟨rfl,K.out.1,K.out.2.1,K.out.2.2⟩
theorem F7(w:World)(a:OA)(n cap:Nat)(k:Int)(hn:n<=1048576)(hk:0<=k)(oN:k<=1000000000)(hs:nN w w.1.size a n (lv k n)):
  Calls prog 133 #[.slice a n cap,vI k] w fun e w'=>e=.returned (vI (k+2*(n:Int)))/\w'=w:=by
 obtain⟨_,hs⟩:=hs;go_enter func133,ntmps133;go_wp2;go_loop[1,5] (fun v1 v5=>∃j:Nat,j<=n/\v5=vI j/\v1=vI (k+2*(j:Int))) (fun _ v5=>n-(intOf v5).toNat)
 case atStart=>exact⟨0,Nat.zero_le _,rfl,by simp⟩
 case round=>
  obtain⟨j,hj,rfl,rfl⟩:=hrel;by_cases aK:j<n
  ·rcases hs with hs|⟨b,off,rfl,hb,h1⟩
   ·omega
   ·obtain⟨c0,c1⟩:=h1 j (AL k j) (AO aK);simp only[AL]at c0 c1;clear h1;go_wp2;exact⟨⟨j+1,by omega,by simp,by congr 1;push_cast;omega⟩,by simp[intOf];omega⟩
  ·have:j=n:=by omega
   subst this;have hd:decide ((j:Int)<(j:Int))=false:=by simp
   clear hs;go_wp2;go_ret;exact⟨rfl,rfl⟩
def mkSet(k:Int)(j:Nat):S5:=⟨k+5*(j:Int),k+5*(j:Int)+1,k+5*(j:Int)+1+1,(k+5*(j:Int)+1+1+1)%3==0,k+5*(j:Int)+1+1+1+1⟩
def fT(k:Int)(n:Nat):List S5:=(List.range n).map (mkSet k)
theorem pg(h:j<n):(fT k n)[j]?=some (mkSet k j):=by simp[fT,h]
theorem iQ(k:Int)(n:Nat):(fT k n).length=n:=by simp[fT]
theorem uy(w:World)(b n cap:Nat)(k:Int)(hn:n<=1048576)(hk:0<=k)(oN:k<=1000000000)(hr:Room w b (n*5)):
  Calls prog 80 #[.slice (some ⟨b,0,none⟩) n cap,vI k] w fun e w'=>e=.returned (vI (k+5*(n:Int)))/\aQ b w w'/\aV w' b 0 (fT k n)/\Room w' b (n*5):=by
 go_enter func80,ntmps80;go_wp2;go_loopw[1,5] (fun v1 v5 wr=>∃j:Nat,j<=n/\v5=vI j/\v1=vI (k+5*(j:Int))/\aQ b w wr/\Room wr b (n*5)/\aV wr b 0 ((fT k n).take j)) (fun _ v5 _=>n-(intOf v5).toNat)
 case atStart=>exact⟨0,Nat.zero_le _,rfl,by simp,aQ.refl _ _,hr,fun i s e=>by simp at e⟩
 case round=>
  obtain⟨j,hj,rfl,rfl,kM,eB,uq⟩:=hrel;by_cases aK:j<n
  ·obtain⟨v0,d0,f0⟩:=eB (j*5) (by omega);obtain⟨v1,d1,f1⟩:=eB (j*5+1) (by omega);obtain⟨v2,d2,f2⟩:=eB (j*5+2) (by omega);obtain⟨v3,d3,f3⟩:=eB (j*5+3) (by omega);obtain⟨v4,d4,f4⟩:=eB (j*5+4) (by omega);have K:Hid (aQ b w wr/\Room wr b (n*5)/\aV wr b 0 ((fT k n).take j)):=⟨kM,eB,uq⟩
   clear kM eB uq hr;go_wp2;obtain⟨kM,eB,uq⟩:=K.out;refine⟨⟨j+1,by omega,by simp,by congr 1;push_cast;omega,((((kM.setCell _ _).setCell _ _).setCell _ _).setCell _ _).setCell _ _,((((eB.set _).set _).set _).set _).set _,uq.put (s:=mkSet k j) (pg aK) eB (by omega)⟩,by simp[intOf];omega⟩
  ·have:j=n:=by omega
   subst this;have hd:decide ((j:Int)<(j:Int))=false:=by simp
   rw[List.take_of_length_le (by rw[iQ];omega)]at uq;have K:Hid (aQ b w wr/\aV wr b 0 (fT k j)/\Room wr b (j*5)):=⟨kM,uq,eB⟩
   clear kM eB uq hr;go_wp2;go_ret;exact⟨rfl,K.out.1,K.out.2.1,K.out.2.2⟩
theorem uk(w:World)(a:OA)(n cap:Nat)(k:Int)(hn:n<=1048576)(hk:0<=k)(oN:k<=1000000000)(hs:Sl w w.1.size a n (fT k n)):
  Calls prog 85 #[.slice a n cap,vI k] w fun e w'=>e=.returned (vI (k+5*(n:Int)))/\w'=w:=by
 obtain⟨_,hs⟩:=hs;go_enter func85,ntmps85;go_wp2;go_loop[1,5] (fun v1 v5=>∃j:Nat,j<=n/\v5=vI j/\v1=vI (k+5*(j:Int))) (fun _ v5=>n-(intOf v5).toNat)
 case atStart=>exact⟨0,Nat.zero_le _,rfl,by simp⟩
 case round=>
  obtain⟨j,hj,rfl,rfl⟩:=hrel;by_cases aK:j<n
  ·rcases hs with hs|⟨b,off,rfl,hb,h1⟩
   ·omega
   ·obtain⟨c0,c1,c2,c3,c4⟩:=h1 j (mkSet k j) (pg aK);simp only[mkSet]at c0 c1 c2 c3 c4;clear h1;go_wp2;exact⟨⟨j+1,by omega,by simp,by congr 1;push_cast;omega⟩,by simp[intOf];omega⟩
  ·have:j=n:=by omega
   subst this;have hd:decide ((j:Int)<(j:Int))=false:=by simp
   clear hs;go_wp2;go_ret;exact⟨rfl,rfl⟩
end
section
open Go.Proofs.Tryz
variable {P:Nat->Prop}{a b:World}{c:Nat}
structure aA(P:Nat->Prop)(w w':World):Prop where
 os:w'.os=w.os
 tape:w'.tape=w.tape
 output:w'.output=w.output
 size:w.1.size<=w'.1.size
 block:∀q,q<w.1.size->¬P q->w'.1[q]?=w.1[q]?
theorem aA.refl(P:Nat->Prop)(w:World):aA P w w:=⟨rfl,rfl,rfl,Nat.le_refl _,fun _ _ _=>rfl⟩
theorem aA.trans{P:Nat->Prop}{a b c:World}(h:aA P a b)(k:aA P b c):aA P a c:=
 ⟨k.os.trans h.os,k.tape.trans h.tape,k.output.trans h.output,Nat.le_trans h.size k.size,fun q hq hp=>(k.block q (Nat.lt_of_lt_of_le hq h.size) hp).trans (h.block q hq hp)⟩
theorem aA.mono{Q:Nat->Prop}(h:aA P a b)(hp:∀q,P q->Q q):aA Q a b:=⟨h.os,h.tape,h.output,h.size,fun q hq hn=>h.block q hq (fun e=>hn (hp q e))⟩
theorem aA.jW(h:aQ c a b)(hc:P c):aA P a b:=⟨h.os,h.tape,h.output,Nat.le_of_eq h.size.symm,fun q _ hn=>h.block q (fun e=>hn (e▸hc))⟩
theorem aA.bN(h:Below a.1.size a b):aA P a b:=⟨h.os,h.tape,h.output,h.size,fun q hq _=>h.block q hq⟩
theorem aA.rW(w:World){o:Nat}(v:Value)(hc:P c):aA P w (w.setCell ⟨c,o,none⟩ v):=.jW ((aQ.refl c w).setCell o v) hc
theorem aA.below{B:Nat}(h:aA P a b)(hp:∀q,P q->B<=q)(hB:B<=a.1.size):Below B a b:=⟨h.os,h.tape,h.output,h.size,fun q hq=>h.block q (by omega) (fun e=>by have:=hp q e;omega)⟩
theorem fB.set{α:Type}{sz:Nat}{hd:α->List Int}{ln:α->Nat}{At:World->Nat->α->Prop}(K9:∀(w w':World) (b:Nat) (r:α),w'.1[b]?=w.1[b]?->At w b r->At w' b r){w V:World}{base b n j:Nat}{rs:List α}{g:Nat->Nat}{r r':α}(h:fB sz hd ln At w base b n rs g)(hj:rs[j]?=some r)(hl:ln r'=ln r)(hz:0<sz)(hh:∀r:α,(hd r).length<sz)
  (hs:w.1.size<=V.1.size) (hb:∀x,x<w.1.size->x≠b->x≠g j->V.1[x]?=w.1[x]?) (hold:∀o,(o<j*sz\/j*sz+(sz-1)<=o)->V.cell? ⟨b,o,none⟩=w.cell? ⟨b,o,none⟩) (WN:∀t z,(hd r')[t]?=some z->V.cell? ⟨b,j*sz+t,none⟩=some (vI z)) (bg:At V (g j) r'):
  fB sz hd ln At V base b n (rs.set j r') g:=by
 have UN:=h.idx hj;have hlen:=h.len
 have split:∀i y,(rs.set j r')[i]?=some y->(i=j/\y=r')\/(i≠j/\rs[i]?=some y):=fun i y e=>by
  by_cases hi:i=j
  ·subst hi;rw[List.getElem?_set_self (by omega)]at e;exact .inl ⟨rfl,(Option.some.inj e).symm⟩
  ·rw[List.getElem?_set_ne (fun e=>hi e.symm)]at e;exact .inr ⟨hi,e⟩
 have dX:∀i t,i≠j->t<sz->(i*sz+t<j*sz\/j*sz+(sz-1)<=i*sz+t):=fun i t hi ht=>by
  rcases Nat.lt_or_gt_of_ne hi with hi|hi
  ·have:(i+1)*sz<=j*sz:=Nat.mul_le_mul_right sz (by omega);rw[Nat.add_mul]at this;omega
  ·have:(j+1)*sz<=i*sz:=Nat.mul_le_mul_right sz (by omega);rw[Nat.add_mul]at this;omega
 refine⟨by simp[hlen],fun i y e t z ht=>?_,fun i y e=>?_,h.low,fun i hi=>Nat.lt_of_lt_of_le (h.lt i hi) hs,h.ne,fun i y e=>?_,h.inj⟩
 ·rcases split i y e with ⟨rfl,rfl⟩|⟨hi,e⟩
  ·exact WN t z ht
  ·rw[hold _ (dX i t hi (Nat.lt_trans (List.getElem?_eq_some_iff.1 ht).1 (hh y)))];exact h.head i y e t z ht
 ·rcases split i y e with ⟨rfl,rfl⟩|⟨hi,e⟩
  ·rw[hold _ (.inr aU),hl];exact h.tail i r hj
  ·rw[hold _ (dX i _ hi (by omega))];exact h.tail i y e
 ·rcases split i y e with ⟨rfl,rfl⟩|⟨hi,e⟩
  ·exact bg
  ·have BJ:=h.idx e;exact K9 _ _ _ _ (hb _ (h.lt i BJ) (h.ne i BJ) (fun e'=>hi (h.inj i j BJ UN e'))) (h.sub i y e)
def mix{α:Type}(f:Nat->α)(rs:List α)(j:Nat):List α:=(List.range rs.length).map fun i=>if i<j then f i else rs[i]?.getD (f i)
theorem AJ{α:Type}(f:Nat->α)(rs:List α)(j i:Nat)(h:i<rs.length):(mix f rs j)[i]?=some (if i<j then f i else rs[i]?.getD (f i)):=by simp[mix,h]
theorem vE{α:Type}(f:Nat->α)(rs:List α)(j:Nat):(mix f rs j).length=rs.length:=by simp[mix]
theorem GD{α:Type}(f:Nat->α)(rs:List α):mix f rs 0=rs:=by
 apply List.ext_getElem?;intro i;by_cases h:i<rs.length
 ·rw[AJ f rs 0 i h];simp[h]
 ·rw[List.getElem?_eq_none (by rw[vE];omega),List.getElem?_eq_none (by omega)]
theorem Lu{α:Type}(f:Nat->α)(rs:List α):mix f rs rs.length=(List.range rs.length).map f:=by
 apply List.ext_getElem?;intro i;by_cases h:i<rs.length
 ·rw[AJ f rs _ i h];simp[h]
 ·rw[List.getElem?_eq_none (by rw[vE];omega),List.getElem?_eq_none (by simp;omega)]
theorem GA{α:Type}(f:Nat->α)(rs:List α)(j:Nat)(hj:j<rs.length):mix f rs (j+1)=(mix f rs j).set j (f j):=by
 apply List.ext_getElem?;intro i;by_cases h:i<rs.length
 ·rw[AJ f rs _ i h];by_cases e:i=j
  ·subst e;rw[List.getElem?_set_self (by rw[vE];exact h),if_pos (by omega)]
  ·rw[List.getElem?_set_ne (fun k=>e k.symm),AJ f rs _ i h];by_cases hi:i<j
   ·rw[if_pos hi,if_pos (by omega)]
   ·rw[if_neg hi,if_neg (by omega)]
 ·rw[List.getElem?_eq_none (by rw[vE];omega),List.getElem?_eq_none (by rw[List.length_set,vE];omega)]
theorem Lv{α:Type}(f:Nat->α)(rs:List α)(j:Nat){r:α}(h:rs[j]?=some r):(mix f rs j)[j]?=some r:=by
 have hj:=(List.getElem?_eq_some_iff.1 h).1;rw[AJ f rs j j hj,if_neg (by omega),h];rfl
def aI{α:Type}(c:α->Nat)(rs:List α)(i:Nat):Nat:=((rs.map c).take i).sum
theorem jd{α:Type}(c:α->Nat)(rs:List α):aI c rs 0=0:=by simp[aI]
theorem jb{α:Type}(c:α->Nat){rs:List α}{i:Nat}{r:α}(h:rs[i]?=some r):aI c rs (i+1)=aI c rs i+c r:=by
 unfold aI;exact jS (by rw[List.getElem?_map,h];rfl)
theorem iy{α:Type}(c:α->Nat)(rs:List α)(i:Nat):aI c rs i<=aI c rs rs.length:=by
 unfold aI;rw[List.take_of_length_le (i:=rs.length) (by simp)];exact lJ _ _
def cK(k:K2):Nat:=1+2*k.cells.length
def cR(r:R4):Nat:=3+5*r.ag.length
def mkK(ks:List K2)(k:Int)(i:Nat):K2:=⟨k+aI cK ks i,lv (k+aI cK ks i+1) (dD ks i).cells.length⟩
def Ip(rs:List R4)(k:Int)(i:Nat):R4:=⟨k+aI cR rs i,k+aI cR rs i+1,k+aI cR rs i+1+1,fT (k+aI cR rs i+1+1+1) (atR rs i).ag.length⟩
def wZ(ks:List K2)(k:Int):List K2:=(List.range ks.length).map (mkK ks k)
def yQ(rs:List R4)(k:Int):List R4:=(List.range rs.length).map (Ip rs k)
end
section
open Go.Proofs.Tryz
def xR(b n:Nat)(g:Nat->Nat)(q:Nat):Prop:=q=b\/∃i,i<n/\q=g i
theorem Cx(w:World)(b n cap:Nat)(ks:List K2)(g:Nat->Nat)(k:Int)(hk:0<=k)(oN:k<=500000000)(ht:aI cK ks ks.length<=100000000)(hn:n<=1048576)(hl:∀c∈ks,c.cells.length<=1048576)(qO:b<w.1.size)(hr:Room w b (n*2))(ho:fB 2 rF wW mO w 0 b n ks g):
  Calls prog 77 #[.slice (some ⟨b,0,none⟩) n cap,vI k] w fun e w'=>e=.returned (vI (k+aI cK ks ks.length))/\aA (xR b n g) w w'/\fB 2 rF wW mO w' 0 b n (wZ ks k) g/\Room w' b (n*2):=by
 have hlen:=ho.len;have HO:Hid (fB 2 rF wW mO w 0 b n ks g/\Room w b (n*2)/\b<w.1.size/\(∀c∈ks,c.cells.length<=1048576)/\ks.length=n):=⟨ho,hr,qO,hl,hlen⟩
 clear ho hr qO hl hlen;go_enter func77,ntmps77;go_wp2;go_loopw[1,5] (fun v1 v5 wr=>∃j:Nat,j<=n/\v5=vI j/\v1=vI (k+(aI cK ks j:Int))/\aA (xR b n g) w wr/\fB 2 rF wW mO wr 0 b n (mix (mkK ks k) ks j) g/\Room wr b (n*2)) (fun _ v5 _=>n-(intOf v5).toNat)
 case atStart=>exact⟨0,Nat.zero_le _,rfl,by rw[jd];simp,aA.refl _ _,by rw[GD];exact HO.out.1,HO.out.2.1⟩
 case round=>
  obtain⟨j,hj,rfl,rfl,kT,how,eB⟩:=hrel;have lu:=iy cK ks j;by_cases aK:j<n
  ·have zX:ks[j]?=some (dD ks j):=eY (by rw[HO.out.2.2.2.2];exact aK);have wN:=Lv (mkK ks k) ks j zX;obtain⟨v0,d0,f0⟩:=eB (j*2) (by omega);obtain⟨aW,c1,kL⟩:=how.tail j _ wN;have bg:=how.sub j _ wN;have UL:=how.ne j aK;have wH:=how.lt j aK;have mh:(dD ks j).cells.length<=1048576:=HO.out.2.2.2.1 _ (List.mem_of_getElem? zX);have lU:Hid (aI cK ks (j+1)=aI cK ks j+cK (dD ks j)):=jb cK zX;have K:Hid (aA (xR b n g) w wr/\fB 2 rF wW mO wr 0 b n (mix (mkK ks k) ks j) g/\Room wr b (n*2)/\(mix (mkK ks k) ks j)[j]?=some (dD ks j)):=⟨kT,how,eB,wN⟩
   have Pd:Room (wr.setCell ⟨b,j*2,none⟩ (vI (k+(aI cK ks j:Int)))) (g j) ((dD ks j).cells.length*2):=by
    refine bg.2.aj ?_;exact Below.heap_setCell _ _ _ _ UL
   have hm:=Gw (wr.setCell ⟨b,j*2,none⟩ (vI (k+(aI cK ks j:Int)))) (g j) (dD ks j).cells.length aW (k+(aI cK ks j:Int)+1) mh (by omega) (by omega) Pd;simp only[wW,Nat.reduceSub]at c1;clear kT how eB wN bg Pd kL zX;go_wp2_with fail;refine hm.mono ?_;clear hm;rintro e w1 ⟨rfl,kM,de,qH⟩;go_wp2;obtain⟨kT,how,eB,wN⟩:=K.out;have Im:(wr.setCell ⟨b,j*2,none⟩ (vI (k+(aI cK ks j:Int)))).1.size=wr.1.size:=by simp[World.setCell]
   have cb:∀o,w1.cell? ⟨b,o,none⟩=(wr.setCell ⟨b,j*2,none⟩ (vI (k+(aI cK ks j:Int)))).cell? ⟨b,o,none⟩:=fun o=>World.cell?_of_block (a:=⟨b,o,none⟩) (kM.block b (fun e=>UL e.symm))
   refine⟨⟨j+1,by omega,by simp,by rw[lU.out];simp[cK];omega,?_,?_,?_⟩,by simp[intOf];omega⟩
   ·exact(kT.trans (aA.rW wr _ (.inl rfl))).trans (aA.jW kM (.inr ⟨j,aK,rfl⟩))
   ·rw[GA _ _ _ (by rw[HO.out.2.2.2.2];exact aK)];refine how.set mO.aj wN (by simp[wW,mkK,nS]) (by omega) (by intro r;simp[rF]) (by rw[kM.size,Im];exact Nat.le_refl _) (fun x _ hx hg=>(kM.block x hg).trans (Below.heap_setCell _ _ _ _ hx)) (fun o ho=>?_) (fun t z hz=>?_) ⟨by rw[mkK];exact de,by simp only[mkK,nS];exact qH⟩
    ·rw[cb o,ae (by omega)]
    ·have fk:t=0:=by
      have:=(List.getElem?_eq_some_iff.1 hz).1;simp[rF]at this;exact this
     subst fk;simp[rF,mkK]at hz;subst hz;rw[Nat.add_zero,cb];exact ax d0
   ·exact(eB.set _).aj (kM.block b (fun e=>UL e.symm))
  ·have:j=n:=by omega
   subst this;have hd:decide ((j:Int)<(j:Int))=false:=by simp
   have Em:ks.length=j:=HO.out.2.2.2.2
   have K:Hid (aA (xR b j g) w wr/\fB 2 rF wW mO wr 0 b j (wZ ks k) g/\Room wr b (j*2)):=⟨kT,by
    have:=Lu (mkK ks k) ks;rw[Em]at this;rw[this,<-Em]at how
    rw[<-Em];exact how,eB⟩
   have H:Hid (ks.length=j):=Em;clear kT how eB Em;go_wp2;go_ret;exact⟨by rw[H.out];rfl,K.out.1,K.out.2.1,K.out.2.2⟩
theorem yP(w:World)(b n cap:Nat)(ks:List R4)(g:Nat->Nat)(k:Int)(hk:0<=k)(oN:k<=500000000)(ht:aI cR ks ks.length<=100000000)(hn:n<=1048576)(hl:∀c∈ks,c.ag.length<=1048576)(qO:b<w.1.size)(hr:Room w b (n*4))(ho:fB 4 qP yL AtR w 0 b n ks g):
  Calls prog 78 #[.slice (some ⟨b,0,none⟩) n cap,vI k] w fun e w'=>e=.returned (vI (k+aI cR ks ks.length))/\aA (xR b n g) w w'/\fB 4 qP yL AtR w' 0 b n (yQ ks k) g/\Room w' b (n*4):=by
 have hlen:=ho.len;have HO:Hid (fB 4 qP yL AtR w 0 b n ks g/\Room w b (n*4)/\b<w.1.size/\(∀c∈ks,c.ag.length<=1048576)/\ks.length=n):=⟨ho,hr,qO,hl,hlen⟩
 clear ho hr qO hl hlen;go_enter func78,ntmps78;go_wp2;go_loopw[1,5] (fun v1 v5 wr=>∃j:Nat,j<=n/\v5=vI j/\v1=vI (k+(aI cR ks j:Int))/\aA (xR b n g) w wr/\fB 4 qP yL AtR wr 0 b n (mix (Ip ks k) ks j) g/\Room wr b (n*4)) (fun _ v5 _=>n-(intOf v5).toNat)
 case atStart=>exact⟨0,Nat.zero_le _,rfl,by rw[jd];simp,aA.refl _ _,by rw[GD];exact HO.out.1,HO.out.2.1⟩
 case round=>
  obtain⟨j,hj,rfl,rfl,kT,how,eB⟩:=hrel;have lu:=iy cR ks j;by_cases aK:j<n
  ·have zX:ks[j]?=some (atR ks j):=jy (by rw[HO.out.2.2.2.2];exact aK);have wN:=Lv (Ip ks k) ks j zX;obtain⟨v0,d0,f0⟩:=eB (j*4) (by omega);obtain⟨v1,d1,f1⟩:=eB (j*4+1) (by omega);obtain⟨v2,d2,f2⟩:=eB (j*4+2) (by omega);obtain⟨aW,c1,kL⟩:=how.tail j _ wN;have bg:=how.sub j _ wN;have UL:=how.ne j aK;have wH:=how.lt j aK;have mh:(atR ks j).ag.length<=1048576:=HO.out.2.2.2.1 _ (List.mem_of_getElem? zX);have lU:Hid (aI cR ks (j+1)=aI cR ks j+cR (atR ks j)):=jb cR zX;have K:Hid (aA (xR b n g) w wr/\fB 4 qP yL AtR wr 0 b n (mix (Ip ks k) ks j) g/\Room wr b (n*4)/\(mix (Ip ks k) ks j)[j]?=some (atR ks j)):=⟨kT,how,eB,wN⟩
   obtain⟨X,hX⟩:∃X,X=((wr.setCell ⟨b,j*4,none⟩ (vI (k+(aI cR ks j:Int)))).setCell ⟨b,j*4+1,none⟩ (vI (k+(aI cR ks j:Int)+1))).setCell ⟨b,j*4+2,none⟩ (vI (k+(aI cR ks j:Int)+1+1)):=⟨_,rfl⟩
   have Uy:aQ b wr X:=by rw[hX];exact(((aQ.refl b wr).setCell _ _).setCell _ _).setCell _ _
   have e0:X.cell? ⟨b,j*4,none⟩=some (vI (k+(aI cR ks j:Int))):=by
    rw[hX,ae (by omega),ae (by omega)];exact ax d0
   have e1:X.cell? ⟨b,j*4+1,none⟩=some (vI (k+(aI cR ks j:Int)+1)):=by
    rw[hX,ae (by omega)];exact ax (by rw[ae (by omega)];exact d1)
   have e2:X.cell? ⟨b,j*4+2,none⟩=some (vI (k+(aI cR ks j:Int)+1+1)):=by
    rw[hX];exact ax (by rw[ae (by omega),ae (by omega)];exact d2)
   have eo:∀o,(o<j*4\/j*4+3<=o)->X.cell? ⟨b,o,none⟩=wr.cell? ⟨b,o,none⟩:=fun o ho=>by
    rw[hX,ae (by omega),ae (by omega),ae (by omega)]
   have er:Room X b (n*4):=by rw[hX];exact((eB.set _).set _).set _
   have Pd:Room X (g j) ((atR ks j).ag.length*5):=bg.2.aj (Uy.block _ UL);have hm:=uy X (g j) (atR ks j).ag.length aW (k+(aI cR ks j:Int)+1+1+1) mh (by omega) (by omega) Pd;have KX:Hid (aQ b wr X/\X.cell? ⟨b,j*4,none⟩=some (vI (k+(aI cR ks j:Int)))/\X.cell? ⟨b,j*4+1,none⟩=some (vI (k+(aI cR ks j:Int)+1))/\X.cell? ⟨b,j*4+2,none⟩=some (vI (k+(aI cR ks j:Int)+1+1))/\(∀o,(o<j*4\/j*4+3<=o)->X.cell? ⟨b,o,none⟩=wr.cell? ⟨b,o,none⟩)/\Room X b (n*4)):=⟨Uy,e0,e1,e2,eo,er⟩
   simp only[yL,Nat.reduceSub]at c1;clear kT how eB wN bg Pd kL zX Uy e0 e1 e2 eo er;subst hX;go_wp2_with fail;refine hm.mono ?_;clear hm;rintro e w1 ⟨rfl,kM,de,qH⟩;go_wp2;obtain⟨kT,how,eB,wN⟩:=K.out;obtain⟨Uy,e0,e1,e2,eo,er⟩:=KX.out;generalize ((wr.setCell ⟨b,j*4,none⟩ (vI (k+(aI cR ks j:Int)))).setCell ⟨b,j*4+1,none⟩ (vI (k+(aI cR ks j:Int)+1))).setCell ⟨b,j*4+2,none⟩ (vI (k+(aI cR ks j:Int)+1+1))=X at *;have cb:∀o,w1.cell? ⟨b,o,none⟩=X.cell? ⟨b,o,none⟩:=fun o=>World.cell?_of_block (a:=⟨b,o,none⟩) (kM.block b (fun e=>UL e.symm))
   refine⟨⟨j+1,by omega,by simp,by rw[lU.out];simp[cR];omega,?_,?_,?_⟩,by simp[intOf];omega⟩
   ·exact(kT.trans (aA.jW Uy (.inl rfl))).trans (aA.jW kM (.inr ⟨j,aK,rfl⟩))
   ·rw[GA _ _ _ (by rw[HO.out.2.2.2.2];exact aK)];refine how.set AtR.aj wN (by simp[yL,Ip,iQ]) (by omega) (by intro r;simp[qP]) (by rw[kM.size,Uy.size];exact Nat.le_refl _) (fun x _ hx hg=>(kM.block x hg).trans (Uy.block _ hx)) (fun o ho=>?_) (fun t z hz=>?_) ⟨by rw[Ip];exact de,by simp only[Ip,iQ];exact qH⟩
    ·rw[cb o,eo o (by omega)]
    ·have fk:=(List.getElem?_eq_some_iff.1 hz).1;simp[qP]at fk;rw[cb];rcases t with _|_|_|t
     ·simp[qP,Ip]at hz;subst hz;exact e0
     ·simp[qP,Ip]at hz;subst hz;exact e1
     ·simp[qP,Ip]at hz;subst hz;exact e2
     ·omega
   ·exact er.aj (kM.block b (fun e=>UL e.symm))
  ·have:j=n:=by omega
   subst this;have hd:decide ((j:Int)<(j:Int))=false:=by simp
   have Em:ks.length=j:=HO.out.2.2.2.2
   have K:Hid (aA (xR b j g) w wr/\fB 4 qP yL AtR wr 0 b j (yQ ks k) g/\Room wr b (j*4)):=⟨kT,by
    have:=Lu (Ip ks k) ks;rw[Em]at this;rw[this,<-Em]at how
    rw[<-Em];exact how,eB⟩
   have H:Hid (ks.length=j):=Em;clear kT how eB Em;go_wp2;go_ret;exact⟨by rw[H.out];rfl,K.out.1,K.out.2.1,K.out.2.2⟩
theorem Cw(w:World)(a:OA)(cap:Nat)(k:Int):Calls prog 77 #[.slice a 0 cap,vI k] w fun e w'=>e=.returned (vI k)/\w'=w:=by
 go_enter func77,ntmps77;go_wp2;go_loop[1,5] (fun v1 v5=>v1=vI k/\v5=vI 0) (fun _ _=>0)
 case atStart=>exact⟨rfl,rfl⟩
 case round=>
  obtain⟨rfl,rfl⟩:=hrel;go_wp2;go_ret;exact⟨rfl,rfl⟩
theorem yN(w:World)(a:OA)(cap:Nat)(k:Int):Calls prog 78 #[.slice a 0 cap,vI k] w fun e w'=>e=.returned (vI k)/\w'=w:=by
 go_enter func78,ntmps78;go_wp2;go_loop[1,5] (fun v1 v5=>v1=vI k/\v5=vI 0) (fun _ _=>0)
 case atStart=>exact⟨rfl,rfl⟩
 case round=>
  obtain⟨rfl,rfl⟩:=hrel;go_wp2;go_ret;exact⟨rfl,rfl⟩
end
section
open Go.Proofs.Tryz
variable {l t:Nat}
def gH(l t:Nat):Int:=if t<=l then((l-t:Nat):Int)else -1
theorem cz(h:t<=l):gH l t=((l-t:Nat):Int):=if_pos h
theorem bL(h:¬t<=l):gH l t=-1:=if_neg h
theorem Bu(w:World)(a:OA)(n cap:Nat)(l:Nat)(hn:n<=maxLen)(hl:l<=1048576):Calls prog 90 #[.slice a n cap,vI (l:Int)] w fun e w'=>e=.returned (vI (gH l n))/\w'=w:=by
 unfold maxLen at hn;by_cases h:n<=l
 ·rw[cz h];have d0:decide ((l:Int)-(n:Int)<0)=false:=by simp;omega
  go_enter func90,ntmps90;go_wp2;go_ret;have e:((l-n:Nat):Int)=(l:Int)-(n:Int):=by omega
  exact⟨by rw[e];rfl,rfl⟩
 ·rw[bL h];have d0:decide ((l:Int)-(n:Int)<0)=true:=by simp;omega
  go_enter func90,ntmps90;go_wp2;go_ret;exact⟨rfl,rfl⟩
theorem Ng(w:World)(a:OA)(n cap:Nat)(l:Nat)(hn:n<=maxLen)(hl:l<=1048576):Calls prog 178 #[.slice a n cap,vI (l:Int)] w fun e w'=>e=.returned (vI (gH l n))/\w'=w:=by
 unfold maxLen at hn;by_cases h:n<=l
 ·rw[cz h];have d0:decide ((l:Int)-(n:Int)<0)=false:=by simp;omega
  go_enter func178,ntmps178;go_wp2;go_ret;have e:((l-n:Nat):Int)=(l:Int)-(n:Int):=by omega
  exact⟨by rw[e];rfl,rfl⟩
 ·rw[bL h];have d0:decide ((l:Int)-(n:Int)<0)=true:=by simp;omega
  go_enter func178,ntmps178;go_wp2;go_ret;exact⟨rfl,rfl⟩
theorem JW(w:World)(a:OA)(n cap:Nat)(l:Nat)(hn:n<=maxLen)(hl:l<=1048576):Calls prog 86 #[.slice a n cap,vI (l:Int)] w fun e w'=>e=.returned (vI (gH l n))/\w'=w:=by
 unfold maxLen at hn;by_cases h:n<=l
 ·rw[cz h];have d0:decide ((l:Int)-(n:Int)<0)=false:=by simp;omega
  go_enter func86,ntmps86;go_wp2;go_ret;have e:((l-n:Nat):Int)=(l:Int)-(n:Int):=by omega
  exact⟨by rw[e];rfl,rfl⟩
 ·rw[bL h];have d0:decide ((l:Int)-(n:Int)<0)=true:=by simp;omega
  go_enter func86,ntmps86;go_wp2;go_ret;exact⟨rfl,rfl⟩
theorem JZ(w:World)(k t r:Int)(a:OA)(n cap:Nat)(l:Nat)(hn:n<=maxLen)(hl:l<=1048576):Calls prog 135 #[.agg #[vI k,vI t,vI r,.slice a n cap],vI (l:Int)] w fun e w'=>e=.returned (vI (gH l n))/\Below w.1.size w w':=by
 have hz:=fun W=>Bu W a n cap l hn hl
 by_cases h:n<=l
 ·rw[cz h]at *;have d0:decide (((l-n:Nat):Int)<0)=false:=by simp
  go_enter func135,ntmps135;go_wp2_with (go_at_call 90;refine(hz _).mono ?_;rintro e w' ⟨rfl,rfl⟩);go_ret;exact⟨rfl,aN.alloc aU _⟩
 ·rw[bL h]at *;go_enter func135,ntmps135;go_wp2_with (go_at_call 90;refine(hz _).mono ?_;rintro e w' ⟨rfl,rfl⟩);go_ret;exact⟨rfl,aN.alloc aU _⟩
theorem Qo(w:World)(r:Int)(a:OA)(n cap:Nat)(l:Nat)(hn:n<=maxLen)(hl:l<=1048576):Calls prog 134 #[.agg #[vI r,.slice a n cap],vI (l:Int)] w fun e w'=>e=.returned (vI (gH l n))/\Below w.1.size w w':=by
 have hz:=fun W=>Ng W a n cap l hn hl
 by_cases h:n<=l
 ·rw[cz h]at *;have d0:decide (((l-n:Nat):Int)<0)=false:=by simp
  go_enter func134,ntmps134;go_wp2_with (go_at_call 178;refine(hz _).mono ?_;rintro e w' ⟨rfl,rfl⟩);go_ret;exact⟨rfl,aN.alloc aU _⟩
 ·rw[bL h]at *;go_enter func134,ntmps134;go_wp2_with (go_at_call 178;refine(hz _).mono ?_;rintro e w' ⟨rfl,rfl⟩);go_ret;exact⟨rfl,aN.alloc aU _⟩
theorem Hz(w:World)(a:OA)(n cap:Nat)(rs:List R4)(l:Nat)(hn:n<=maxLen)(I7:l<=1048576)(hs:Iz w w.1.size a n rs)(hl:∀r∈rs,r.ag.length<=maxLen):
  Calls prog 88 #[.slice a n cap,vI (l:Int)] w fun e w'=>e=.returned (vI (gH l (n+ko rs)))/\Below w.1.size w w':=by
 obtain⟨hx,hs⟩:=hs;have BK:=hn;unfold maxLen at BK;by_cases h0:n<=l
 ·have d0:decide ((l:Int)-(n:Int)<0)=false:=by simp;omega
  have el:(l:Int)-(n:Int)=((l-n:Nat):Int):=by omega
  go_enter func88,ntmps88;go_wp2;go_loopw[1,5] (fun v1 v5 wr=>∃j:Nat,j<=n/\v5=vI j/\n+ko (rs.take j)<=l/\v1=vI ((l-(n+ko (rs.take j)):Nat):Int)/\Below w.1.size w wr) (fun _ v5 _=>n-(intOf v5).toNat)
  case atStart=>exact⟨0,Nat.zero_le _,rfl,by simpa[ko]using h0,by simp[ko];try omega,aN⟩
  case round=>
   obtain⟨j,hj,rfl,hle,rfl,aD⟩:=hrel;have KL:Hid (n+ko (rs.take j)<=l/\rs.length=n):=⟨hle,hx⟩
   clear el;by_cases aK:j<n
   ·rcases hs with hs|⟨b,off,rfl,hb,h1⟩
    ·omega
    ·have bg:=h1 j _ (jy (by omega));obtain⟨a',aW,hc,_,_⟩:=bg.c3;have e0:=(aD.cell (p:=⟨b,off+j*4,none⟩) hb).trans bg.c0;have e1:=(aD.cell (p:=⟨b,off+j*4+1,none⟩) hb).trans bg.c1;have e2:=(aD.cell (p:=⟨b,off+j*4+2,none⟩) hb).trans bg.c2;have e3:=(aD.cell (p:=⟨b,off+j*4+3,none⟩) hb).trans hc;have hz:=JZ wr (atR rs j).kind (atR rs j).tx (atR rs j).a a' (atR rs j).ag.length aW (l-(n+ko (rs.take j))) (hl _ (List.mem_of_getElem? (jy (by omega)))) (by omega)
     have DV:Hid (ko (rs.take (j+1))=ko (rs.take j)+(atR rs j).ag.length):=by
      unfold Hid ko;rw[List.map_take,List.map_take];exact jS (by rw[List.getElem?_map,jy (by omega)];rfl)
     have QV:Hid (ko (rs.take (j+1))<=ko rs):=by unfold Hid ko;rw[List.map_take];exact lJ _ _
     have KB:Hid (Below w.1.size w wr):=aD;generalize Zq:ko (rs.take j)=LL at *;generalize (atR rs j).ag.length=m at *;generalize (atR rs j).kind=rk at *;generalize (atR rs j).tx=rt at *;generalize (atR rs j).a=rr at *;clear h1 hc aD hl hx hle bg;by_cases vo:m<=l-(n+LL)
     ·rw[cz vo]at hz;have d1:decide (((l-(n+LL)-m:Nat):Int)<0)=false:=by simp
      go_wp2_with fail;refine hz.mono ?_;clear hz;rintro e w1 ⟨rfl,b1⟩;go_wp2;have h1:=KL.out.1;refine⟨⟨j+1,by omega,by simp,by rw[DV.out];omega,by rw[DV.out];congr 2;omega,KB.out.trans (b1.mono KB.out.size)⟩,by simp[intOf];omega⟩
     ·rw[bL vo]at hz;go_wp2_with fail;refine hz.mono ?_;clear hz;rintro e w1 ⟨rfl,b1⟩;go_wp2;go_ret;have h2:=DV.out;have h3:=QV.out;refine⟨by rw[bL (by omega)];rfl,KB.out.trans (b1.mono KB.out.size)⟩
   ·have:j=n:=by omega
    subst this;have hd:decide ((j:Int)<(j:Int))=false:=by simp
    have ht:rs.take j=rs:=List.take_of_length_le (by omega);rw[ht]at hle ⊢;clear hs hl KL ht;go_wp2;go_ret;exact⟨by rw[cz hle];rfl,aD⟩
 ·have d0:decide ((l:Int)-(n:Int)<0)=true:=by simp;omega
  go_enter func88,ntmps88;go_wp2;go_ret;exact⟨by rw[bL (by omega)];rfl,aN⟩
theorem Nh(w:World)(a:OA)(n cap:Nat)(rs:List K2)(l:Nat)(hn:n<=maxLen)(I7:l<=1048576)(hs:yt w w.1.size a n rs)(hl:∀r∈rs,r.cells.length<=maxLen):
  Calls prog 87 #[.slice a n cap,vI (l:Int)] w fun e w'=>e=.returned (vI (gH l (n+jR rs)))/\Below w.1.size w w':=by
 obtain⟨hx,hs⟩:=hs;have BK:=hn;unfold maxLen at BK;by_cases h0:n<=l
 ·have d0:decide ((l:Int)-(n:Int)<0)=false:=by simp;omega
  have el:(l:Int)-(n:Int)=((l-n:Nat):Int):=by omega
  go_enter func87,ntmps87;go_wp2;go_loopw[1,5] (fun v1 v5 wr=>∃j:Nat,j<=n/\v5=vI j/\n+jR (rs.take j)<=l/\v1=vI ((l-(n+jR (rs.take j)):Nat):Int)/\Below w.1.size w wr) (fun _ v5 _=>n-(intOf v5).toNat)
  case atStart=>exact⟨0,Nat.zero_le _,rfl,by simpa[jR]using h0,by simp[jR];try omega,aN⟩
  case round=>
   obtain⟨j,hj,rfl,hle,rfl,aD⟩:=hrel;have KL:Hid (n+jR (rs.take j)<=l/\rs.length=n):=⟨hle,hx⟩
   clear el;by_cases aK:j<n
   ·rcases hs with hs|⟨b,off,rfl,hb,h1⟩
    ·omega
    ·have bg:=h1 j _ (eY (by omega));obtain⟨a',aW,hc,_,_⟩:=bg.c1;have e0:=(aD.cell (p:=⟨b,off+j*2,none⟩) hb).trans bg.c0;have e1:=(aD.cell (p:=⟨b,off+j*2+1,none⟩) hb).trans hc;have hz:=Qo wr (dD rs j).a a' (dD rs j).cells.length aW (l-(n+jR (rs.take j))) (hl _ (List.mem_of_getElem? (eY (by omega)))) (by omega)
     have DV:Hid (jR (rs.take (j+1))=jR (rs.take j)+(dD rs j).cells.length):=by
      unfold Hid jR;rw[List.map_take,List.map_take];exact jS (by rw[List.getElem?_map,eY (by omega)];rfl)
     have QV:Hid (jR (rs.take (j+1))<=jR rs):=by unfold Hid jR;rw[List.map_take];exact lJ _ _
     have KB:Hid (Below w.1.size w wr):=aD;generalize Zq:jR (rs.take j)=LL at *;generalize (dD rs j).cells.length=m at *;generalize (dD rs j).a=rr at *;clear h1 hc aD hl hx hle bg;by_cases vo:m<=l-(n+LL)
     ·rw[cz vo]at hz;have d1:decide (((l-(n+LL)-m:Nat):Int)<0)=false:=by simp
      go_wp2_with fail;refine hz.mono ?_;clear hz;rintro e w1 ⟨rfl,b1⟩;go_wp2;have h1:=KL.out.1;refine⟨⟨j+1,by omega,by simp,by rw[DV.out];omega,by rw[DV.out];congr 2;omega,KB.out.trans (b1.mono KB.out.size)⟩,by simp[intOf];omega⟩
     ·rw[bL vo]at hz;go_wp2_with fail;refine hz.mono ?_;clear hz;rintro e w1 ⟨rfl,b1⟩;go_wp2;go_ret;have h2:=DV.out;have h3:=QV.out;refine⟨by rw[bL (by omega)];rfl,KB.out.trans (b1.mono KB.out.size)⟩
   ·have:j=n:=by omega
    subst this;have hd:decide ((j:Int)<(j:Int))=false:=by simp
    have ht:rs.take j=rs:=List.take_of_length_le (by omega);rw[ht]at hle ⊢;clear hs hl KL ht;go_wp2;go_ret;exact⟨by rw[cz hle];rfl,aD⟩
 ·have d0:decide ((l:Int)-(n:Int)<0)=true:=by simp;omega
  go_enter func87,ntmps87;go_wp2;go_ret;exact⟨by rw[bL (by omega)];rfl,aN⟩
end
section
open Go.Proofs.Tryz
theorem aR.iA{w:World}{b o:Nat}{s:S5}(h:aR w b o s)(d:Nat)(os:Array Obj):aR (grow (redrawn w d) os) b o s:=
 ⟨cell_regrown h.c0 d os,cell_regrown h.c1 d os,cell_regrown h.c2 d os,cell_regrown h.c3 d os,cell_regrown h.c4 d os⟩
theorem uj(w:World)(s:S5):Calls prog 177 #[.agg #[vI s.a,vI s.e,vI s.h,.bool s.j,vI s.i],.agg #[vI s.a,vI s.e,vI s.h,.bool s.j,vI s.i]] w fun e w'=>
  e=.returned (.bool true)/\Below w.1.size w w':=by
 obtain⟨r,l,v,u,x⟩:=s;go_enter func177,ntmps177;go_wp2;go_ret;exact⟨rfl,(aN.alloc aU _).alloc (by simp) _⟩
theorem rz(w:World)(b off cap b' bR aW n:Nat)(xs:List S5)(hx:xs.length=n)(hn:n<=maxLen)(h1:aV w b off xs)(hb:b<w.1.size)(h2:aV w b' bR xs)(gJ:b'<w.1.size):
  Calls prog 131 #[.slice (some ⟨b,off,none⟩) n cap,.slice (some ⟨b',bR,none⟩) n aW] w fun e w'=>e=.returned (.bool true)/\Below w.1.size w w':=by
 unfold maxLen at hn;go_enter func131,ntmps131;go_wp2;go_loopw[5] (fun i wr=>∃k:Nat,k<=n/\i=vI k/\Below w.1.size w wr) (fun i _=>n-(intOf i).toNat)
 case atStart=>exact⟨0,Nat.zero_le _,rfl,aN⟩
 case round=>
  obtain⟨k,hk,rfl,aD⟩:=hrel;by_cases aK:k<n
  ·obtain⟨s,gu⟩:∃s,xs[k]?=some s:=⟨xs[k]'(by omega),by simp⟩
   have t1:=(((h1 k s gu).below aD hb).iA)
   have t2:=(((h2 k s gu).below aD gJ).iA)
   have c0:=fun d os=>(t1 d os).c0
   have c1:=fun d os=>(t1 d os).c1
   have c2:=fun d os=>(t1 d os).c2
   have c3:=fun d os=>(t1 d os).c3
   have c4:=fun d os=>(t1 d os).c4
   have e0:=fun d os=>(t2 d os).c0
   have e1:=fun d os=>(t2 d os).c1
   have e2:=fun d os=>(t2 d os).c2
   have e3:=fun d os=>(t2 d os).c3
   have e4:=fun d os=>(t2 d os).c4
   have cQ:∀d os,Calls prog 177 #[.agg #[vI s.a,vI s.e,vI s.h,.bool s.j,vI s.i],.agg #[vI s.a,vI s.e,vI s.h,.bool s.j,vI s.i]] (grow (redrawn wr d) os) fun e eU=>e=.returned (.bool true)/\∃p:Regrown,eU=grow (redrawn wr p.d) p.os:=fun d os=>Calls.regrown_of (uj _ s)
   have K:Hid (Below w.1.size w wr):=aD;clear t1 t2 aD gu h1 h2;go_wp2_with fail;refine gP ?_;repeat (quiet_step (exact cQ _ _))
   refine iW fun dq aZ=>?_
   have bq:=below_regrown wr dq aZ;go_wp2;exact⟨⟨k+1,by omega,by simp,K.out.trans (bq.mono K.out.size)⟩,by simp[intOf];omega⟩
  ·have:k=n:=by omega
   subst this;have hd:decide (k<k)=false:=by simp
   go_wp2;go_ret;exact⟨rfl,aD⟩
theorem lH(w:World)(a a':OA)(cap aW:Nat):Calls prog 131 #[.slice a 0 cap,.slice a' 0 aW] w fun e w'=>e=.returned (.bool true)/\Below w.1.size w w':=by
 go_enter func131,ntmps131;go_wp2;go_loopw[5] (fun i wr=>i=vI 0/\Below w.1.size w wr) (fun _ _=>0)
 case atStart=>exact⟨rfl,aN⟩
 case round=>
  obtain⟨rfl,aD⟩:=hrel;go_wp2;go_ret;exact⟨rfl,aD⟩
theorem ui(w:World)(a a':OA)(n cap aW:Nat)(xs:List S5)(hn:n<=maxLen)(h1:Sl w w.1.size a n xs)(h2:Sl w w.1.size a' n xs):
  Calls prog 131 #[.slice a n cap,.slice a' n aW] w fun e w'=>e=.returned (.bool true)/\Below w.1.size w w':=by
 obtain⟨hx,h1⟩:=h1;obtain⟨_,h2⟩:=h2;rcases h1 with rfl|⟨b,off,rfl,hb,h1⟩
 ·exact lH w a a' cap aW
 ·rcases h2 with rfl|⟨b',bR,rfl,gJ,h2⟩
  ·exact lH w _ a' cap aW
  ·exact rz w b off cap b' bR aW n xs hx hn h1 hb h2 gJ
theorem Cb(w:World)(k t r:Int)(a a':OA)(n cap aW:Nat)(xs:List S5)(hn:n<=maxLen)(h1:Sl w w.1.size a n xs)(h2:Sl w w.1.size a' n xs):
  Calls prog 175 #[.agg #[vI k,vI t,vI r,.slice a n cap],.agg #[vI k,vI t,vI r,.slice a' n aW]] w fun e w'=>e=.returned (.bool true)/\Below w.1.size w w':=by
 go_enter func175,ntmps175;go_wp2_with fail;have b0:Below w.1.size w ((w.alloc (.cells #[vI k,vI t,vI r,.slice a n cap] 144)).alloc (.cells #[vI k,vI t,vI r,.slice a' n aW] 144)):=(aN.alloc aU _).alloc (by simp) _;refine(ui _ a a' n cap aW xs hn ((h1.below b0).mono b0.size) ((h2.below b0).mono b0.size)).mono ?_;rintro e w' ⟨rfl,b1⟩;go_wp2;go_ret;exact⟨rfl,b0.trans (b1.mono b0.size)⟩
end
section
open Go.Proofs.Tryz
theorem FP(w:World)(r:Int)(a a':OA)(n cap aW:Nat)(xs:List C2)(hn:n<=maxLen)(h1:nN w w.1.size a n xs)(h2:nN w w.1.size a' n xs):
  Calls prog 174 #[.agg #[vI r,.slice a n cap],.agg #[vI r,.slice a' n aW]] w fun e w'=>e=.returned (.bool true)/\Below w.1.size w w':=by
 go_enter func174,ntmps174;go_wp2_with fail;have b0:Below w.1.size w ((w.alloc (.cells #[vI r,.slice a n cap] 58)).alloc (.cells #[vI r,.slice a' n aW] 58)):=(aN.alloc aU _).alloc (by simp) _;refine(FM _ a a' n cap aW xs hn (h1.later b0) (h2.later b0)).mono ?_;rintro e w' ⟨rfl,b1⟩;go_wp2;go_ret;exact⟨rfl,b0.trans (b1.mono b0.size)⟩
theorem Ca(w:World)(a a':OA)(n cap aW:Nat)(rs:List R4)(hn:n<=maxLen)(hl:∀r∈rs,r.ag.length<=maxLen)(h1:Iz w w.1.size a n rs)(h2:Iz w w.1.size a' n rs):
  Calls prog 129 #[.slice a n cap,.slice a' n aW] w fun e w'=>e=.returned (.bool true)/\Below w.1.size w w':=by
 unfold maxLen at hn;obtain⟨hx,h1⟩:=h1;obtain⟨_,h2⟩:=h2;go_enter func129,ntmps129;go_wp2;go_loopw[5] (fun i wr=>∃k:Nat,k<=n/\i=vI k/\Below w.1.size w wr) (fun i _=>n-(intOf i).toNat)
 case atStart=>exact⟨0,Nat.zero_le _,rfl,aN⟩
 case round=>
  obtain⟨k,hk,rfl,aD⟩:=hrel;by_cases aK:k<n
  ·rcases h1 with h1|⟨b,off,rfl,hb,h1⟩
   ·omega
   ·rcases h2 with h2|⟨b',bR,rfl,gJ,h2⟩
    ·omega
    ·have t1:=((h1 k _ (jy (by omega))).below (aD.mono aU) hb).mono aD.size;have t2:=((h2 k _ (jy (by omega))).below (aD.mono aU) gJ).mono aD.size;have SY:=hl _ (List.mem_of_getElem? (jy (rs:=rs) (i:=k) (by omega)));have Cf:b<wr.1.size:=Nat.lt_of_lt_of_le hb aD.size;have XO:b'<wr.1.size:=Nat.lt_of_lt_of_le gJ aD.size;obtain⟨a1,k1,d1,s1,_⟩:=t1.c3;obtain⟨a2,k2,d2,s2,_⟩:=t2.c3;have x0:=@cell_regrown wr ⟨b,off+k*4,none⟩ (vI (atR rs k).kind) t1.c0;have x1:=@cell_regrown wr ⟨b,off+k*4+1,none⟩ (vI (atR rs k).tx) t1.c1;have x2:=@cell_regrown wr ⟨b,off+k*4+2,none⟩ (vI (atR rs k).a) t1.c2;have x3:=@cell_regrown wr ⟨b,off+k*4+3,none⟩ (.slice a1 (atR rs k).ag.length k1) d1;have y0:=@cell_regrown wr ⟨b',bR+k*4,none⟩ (vI (atR rs k).kind) t2.c0;have y1:=@cell_regrown wr ⟨b',bR+k*4+1,none⟩ (vI (atR rs k).tx) t2.c1;have y2:=@cell_regrown wr ⟨b',bR+k*4+2,none⟩ (vI (atR rs k).a) t2.c2;have y3:=@cell_regrown wr ⟨b',bR+k*4+3,none⟩ (.slice a2 (atR rs k).ag.length k2) d2
     have cQ:∀d os,Calls prog 175 #[.agg #[vI (atR rs k).kind,vI (atR rs k).tx,vI (atR rs k).a,.slice a1 (atR rs k).ag.length k1],.agg #[vI (atR rs k).kind,vI (atR rs k).tx,vI (atR rs k).a,.slice a2 (atR rs k).ag.length k2]] (grow (redrawn wr d) os) fun e eU=>e=.returned (.bool true)/\∃p:Regrown,eU=grow (redrawn wr p.d) p.os:=fun d os=>Calls.regrown_of (Cb _ (atR rs k).kind (atR rs k).tx (atR rs k).a a1 a2 _ k1 k2 (atR rs k).ag SY ((s1.below (below_regrown wr d os)).mono (below_regrown wr d os).size) ((s2.below (below_regrown wr d os)).mono (below_regrown wr d os).size))
     have K:Hid (Below w.1.size w wr):=aD;clear t1 t2 aD h1 h2 s1 s2 d1 d2 hl SY hx;go_wp2_with fail;refine gP ?_;repeat (go_big_quiet_step (exact cQ _ _))
     refine iW fun dq aZ=>?_
     have bq:=below_regrown wr dq aZ;go_wp2;exact⟨⟨k+1,by omega,by simp,K.out.trans (bq.mono K.out.size)⟩,by simp[intOf];omega⟩
  ·have:k=n:=by omega
   subst this;have hd:decide (k<k)=false:=by simp
   clear h1 h2;go_wp2;go_ret;exact⟨rfl,aD⟩
theorem FO(w:World)(a a':OA)(n cap aW:Nat)(rs:List K2)(hn:n<=maxLen)(hl:∀r∈rs,r.cells.length<=maxLen)(h1:yt w w.1.size a n rs)(h2:yt w w.1.size a' n rs):
  Calls prog 128 #[.slice a n cap,.slice a' n aW] w fun e w'=>e=.returned (.bool true)/\Below w.1.size w w':=by
 unfold maxLen at hn;obtain⟨hx,h1⟩:=h1;obtain⟨_,h2⟩:=h2;go_enter func128,ntmps128;go_wp2;go_loopw[5] (fun i wr=>∃k:Nat,k<=n/\i=vI k/\Below w.1.size w wr) (fun i _=>n-(intOf i).toNat)
 case atStart=>exact⟨0,Nat.zero_le _,rfl,aN⟩
 case round=>
  obtain⟨k,hk,rfl,aD⟩:=hrel;by_cases aK:k<n
  ·rcases h1 with h1|⟨b,off,rfl,hb,h1⟩
   ·omega
   ·rcases h2 with h2|⟨b',bR,rfl,gJ,h2⟩
    ·omega
    ·have t1:=((h1 k _ (eY (by omega))).below (aD.mono aU) hb).mono aD.size;have t2:=((h2 k _ (eY (by omega))).below (aD.mono aU) gJ).mono aD.size;have SY:=hl _ (List.mem_of_getElem? (eY (ks:=rs) (i:=k) (by omega)));have Cf:b<wr.1.size:=Nat.lt_of_lt_of_le hb aD.size;have XO:b'<wr.1.size:=Nat.lt_of_lt_of_le gJ aD.size;obtain⟨a1,k1,d1,s1,_⟩:=t1.c1;obtain⟨a2,k2,d2,s2,_⟩:=t2.c1;have x0:=@cell_regrown wr ⟨b,off+k*2,none⟩ (vI (dD rs k).a) t1.c0;have x1:=@cell_regrown wr ⟨b,off+k*2+1,none⟩ (.slice a1 (dD rs k).cells.length k1) d1;have y0:=@cell_regrown wr ⟨b',bR+k*2,none⟩ (vI (dD rs k).a) t2.c0;have y1:=@cell_regrown wr ⟨b',bR+k*2+1,none⟩ (.slice a2 (dD rs k).cells.length k2) d2;have cQ:∀d os,Calls prog 174 #[.agg #[vI (dD rs k).a,.slice a1 (dD rs k).cells.length k1],.agg #[vI (dD rs k).a,.slice a2 (dD rs k).cells.length k2]] (grow (redrawn wr d) os) fun e eU=>e=.returned (.bool true)/\∃p:Regrown,eU=grow (redrawn wr p.d) p.os:=fun d os=>Calls.regrown_of (FP _ (dD rs k).a a1 a2 _ k1 k2 (dD rs k).cells SY ((s1.below (below_regrown wr d os)).mono (below_regrown wr d os).size) ((s2.below (below_regrown wr d os)).mono (below_regrown wr d os).size))
     have K:Hid (Below w.1.size w wr):=aD;clear t1 t2 aD h1 h2 s1 s2 d1 d2 hl SY hx;go_wp2_with fail;refine gP ?_;repeat (go_big_quiet_step (exact cQ _ _))
     refine iW fun dq aZ=>?_
     have bq:=below_regrown wr dq aZ;go_wp2;exact⟨⟨k+1,by omega,by simp,K.out.trans (bq.mono K.out.size)⟩,by simp[intOf];omega⟩
  ·have:k=n:=by omega
   subst this;have hd:decide (k<k)=false:=by simp
   clear h1 h2;go_wp2;go_ret;exact⟨rfl,aD⟩
structure ML(m:M4):Prop where
 k:m.af.length<=maxLen
 ks:∀r∈m.af,r.cells.length<=maxLen
 r:m.g.length<=maxLen
 rs:∀r∈m.g,r.ag.length<=maxLen
 n:m.ai.length<=maxLen
theorem zM(w:World)(v v':MV)(m:M4)(hl:ML m)(h1:qY w v m)(h2:qY w v' m):Calls prog 74 #[v.val m,v'.val m] w fun e w'=>e=.returned (.bool true)/\Below w.1.size w w':=by
 obtain⟨ac,cc,al,cl,ad,cd⟩:=v;obtain⟨QZ,cc',al',cl',QC,QD⟩:=v';have H:Hid (qY w ⟨ac,cc,al,cl,ad,cd⟩ m/\qY w ⟨QZ,cc',al',cl',QC,QD⟩ m/\ML m):=⟨h1,h2,hl⟩
 clear h1 h2 hl;simp only[MV.val];have qa:(m.x != m.x)=false:=by cases m.x<;>rfl
 go_enter func74,ntmps74;go_wp2_with fail;have b0:Below w.1.size w ((w.alloc (.cells #[.bool m.x,.slice ac m.af.length cc,.slice al m.g.length cl,.slice ad m.ai.length cd] 62)).alloc (.cells #[.bool m.x,.slice QZ m.af.length cc',.slice al' m.g.length cl',.slice QC m.ai.length QD] 62)):=(aN.alloc aU _).alloc (by simp) _;have B0:Hid _:=b0;have u2:((w.alloc (.cells #[.bool m.x,.slice ac m.af.length cc,.slice al m.g.length cl,.slice ad m.ai.length cd] 62)).alloc (.cells #[.bool m.x,.slice QZ m.af.length cc',.slice al' m.g.length cl',.slice QC m.ai.length QD] 62)).cell? ⟨w.1.size,2,none⟩=some (.slice al m.g.length cl):=by go_simp
 have u3:((w.alloc (.cells #[.bool m.x,.slice ac m.af.length cc,.slice al m.g.length cl,.slice ad m.ai.length cd] 62)).alloc (.cells #[.bool m.x,.slice QZ m.af.length cc',.slice al' m.g.length cl',.slice QC m.ai.length QD] 62)).cell? ⟨w.1.size,3,none⟩=some (.slice ad m.ai.length cd):=by go_simp
 have v2:((w.alloc (.cells #[.bool m.x,.slice ac m.af.length cc,.slice al m.g.length cl,.slice ad m.ai.length cd] 62)).alloc (.cells #[.bool m.x,.slice QZ m.af.length cc',.slice al' m.g.length cl',.slice QC m.ai.length QD] 62)).cell? ⟨w.1.size+1,2,none⟩=some (.slice al' m.g.length cl'):=by go_simp
 have v3:((w.alloc (.cells #[.bool m.x,.slice ac m.af.length cc,.slice al m.g.length cl,.slice ad m.ai.length cd] 62)).alloc (.cells #[.bool m.x,.slice QZ m.af.length cc',.slice al' m.g.length cl',.slice QC m.ai.length QD] 62)).cell? ⟨w.1.size+1,3,none⟩=some (.slice QC m.ai.length QD):=by go_simp
 have sU:w.1.size+1<((w.alloc (.cells #[.bool m.x,.slice ac m.af.length cc,.slice al m.g.length cl,.slice ad m.ai.length cd] 62)).alloc (.cells #[.bool m.x,.slice QZ m.af.length cc',.slice al' m.g.length cl',.slice QC m.ai.length QD] 62)).1.size:=by simp
 generalize ((w.alloc (.cells #[.bool m.x,.slice ac m.af.length cc,.slice al m.g.length cl,.slice ad m.ai.length cd] 62)).alloc (.cells #[.bool m.x,.slice QZ m.af.length cc',.slice al' m.g.length cl',.slice QC m.ai.length QD] 62))=U at *;have SU:Hid (w.1.size+1<U.1.size/\Below w.1.size w U):=⟨sU,b0⟩
 refine(FO U ac QZ m.af.length cc cc' m.af H.out.2.2.k H.out.2.2.ks (H.out.1.later b0).k (H.out.2.1.later b0).k).mono ?_;clear b0 sU B0;rintro e w1 ⟨rfl,b1⟩;have l0:w.1.size<U.1.size:=by have:=SU.out.1;omega
 have c2:=(b1.cell (p:=⟨w.1.size,2,none⟩) l0).trans u2;have c3:=(b1.cell (p:=⟨w.1.size,3,none⟩) l0).trans u3;have d2:=(b1.cell (p:=⟨w.1.size+1,2,none⟩) SU.out.1).trans v2;have d3:=(b1.cell (p:=⟨w.1.size+1,3,none⟩) SU.out.1).trans v3;have B1:Hid (Below w.1.size w w1/\U.1.size<=w1.1.size):=⟨SU.out.2.trans (b1.mono SU.out.2.size),b1.size⟩
 clear u2 u3 v2 v3 b1 l0;go_wp2_with fail;refine(Ca w1 al al' m.g.length cl cl' m.g H.out.2.2.r H.out.2.2.rs (H.out.1.later B1.out.1).r (H.out.2.1.later B1.out.1).r).mono ?_;rintro e w2 ⟨rfl,b2⟩;have l1:w.1.size+1<w1.1.size:=by have:=SU.out.1;have:=B1.out.2;omega
 have x3:=(b2.cell (p:=⟨w.1.size,3,none⟩) (by show w.1.size<_;omega)).trans c3;have y3:=(b2.cell (p:=⟨w.1.size+1,3,none⟩) l1).trans d3;have B2:Hid (Below w.1.size w w2):=B1.out.1.trans (b2.mono B1.out.1.size);clear c2 c3 d2 d3 b2 l1;go_wp2_with fail;refine(uW w2 ad QC m.ai.length cd QD m.ai H.out.2.2.n (H.out.1.later B2.out).n (H.out.2.1.later B2.out).n).mono ?_;rintro e w3 ⟨rfl,b3⟩;go_wp2;go_ret;exact⟨rfl,B2.out.trans (b3.mono B2.out.size)⟩
def JX(m:M4):Nat:=(m.af.length+jR m.af)+(m.g.length+ko m.g)+m.ai.length
end
section
open Go.Proofs.Tryz
variable {P:Nat->Prop}{a:OA}{m:M4}{v:MV}{w w':World}
def tY{α:Type}(sz:Nat)(hd:α->List Int)(ln:α->Nat)(At:World->Nat->α->Prop)(w:World)(P:Nat->Prop)(a:OA)(rs:List α):Prop:=
 rs=[]\/∃b g,a=some ⟨b,0,none⟩/\P b/\(∀i,i<rs.length->P (g i))/\b<w.1.size/\Room w b (rs.length*sz)/\fB sz hd ln At w 0 b rs.length rs g
def BO(w:World)(P:Nat->Prop)(a:OA)(zs:List Int):Prop:=zs=[]\/∃b,a=some ⟨b,0,none⟩/\P b/\b<w.1.size/\dQ w b 0 zs/\Room w b zs.length
theorem tY.aL{α:Type}{sz:Nat}{hd:α->List Int}{ln:α->Nat}{At:World->Nat->α->Prop}(K9:∀(w w':World) (b:Nat) (r:α),w'.1[b]?=w.1[b]?->At w b r->At w' b r){rs:List α}(h:tY sz hd ln At w P a rs)(hs:w.1.size<=w'.1.size)(hk:∀q,q<w.1.size->P q->w'.1[q]?=w.1[q]?):tY sz hd ln At w' P a rs:=by
 rcases h with h|⟨b,g,ha,hp,hg,hl,hr,ho⟩
 ·exact .inl h
 ·exact .inr ⟨b,g,ha,hp,hg,Nat.lt_of_lt_of_le hl hs,hr.aj (hk b hl hp),ho.ja K9 hs (hk b hl hp) (fun i hi=>hk _ (ho.lt i hi) (hg i hi))⟩
theorem BO.aL{zs:List Int}(h:BO w P a zs)(hs:w.1.size<=w'.1.size)(hk:∀q,q<w.1.size->P q->w'.1[q]?=w.1[q]?):BO w' P a zs:=by
 rcases h with h|⟨b,ha,hp,hl,hn,hr⟩
 ·exact .inl h
 ·exact .inr ⟨b,ha,hp,Nat.lt_of_lt_of_le hl hs,hn.aj (hk b hl hp),hr.aj (hk b hl hp)⟩
structure OM(w:World)(B:Nat)(v:MV)(m:M4)(PK PR PD:Nat->Prop):Prop where
 k:tY 2 rF wW mO w PK v.ac m.af
 r:tY 4 qP yL AtR w PR v.al m.g
 n:BO w PD v.ad m.ai
 kr:∀q,PK q->¬PR q
 kd:∀q,PK q->¬PD q
 rd:∀q,PR q->¬PD q
 kB:∀q,PK q->B<=q
 rB:∀q,PR q->B<=q
 dB:∀q,PD q->B<=q
theorem OM.sl{B:Nat}{PK PR PD:Nat->Prop}(h:OM w B v m PK PR PD):qY w v m:=by
 refine⟨?_,?_,?_⟩
 ·rcases h.k with e|⟨b,g,ha,_,_,hl,_,ho⟩
  ·exact⟨rfl,.inl (by rw[e];rfl)⟩
  ·rw[ha];exact R7 ho hl
 ·rcases h.r with e|⟨b,g,ha,_,_,hl,_,ho⟩
  ·exact⟨rfl,.inl (by rw[e];rfl)⟩
  ·rw[ha];exact R8 ho hl
 ·rcases h.n with e|⟨b,ha,_,hl,hn,_⟩
  ·exact⟨rfl,.inl (by rw[e];rfl)⟩
  ·exact⟨rfl,.inr ⟨b,0,ha,hl,hn⟩⟩
def Xp(PK PR PD:Nat->Prop)(q:Nat):Prop:=PK q\/PR q\/PD q
theorem OM.aL{w w':World}{B:Nat}{v:MV}{m:M4}{PK PR PD:Nat->Prop}(h:OM w B v m PK PR PD)(hs:w.1.size<=w'.1.size)(hk:∀q,q<w.1.size->Xp PK PR PD q->w'.1[q]?=w.1[q]?):OM w' B v m PK PR PD:=
 ⟨h.k.aL mO.aj hs (fun q hq hp=>hk q hq (.inl hp)),h.r.aL AtR.aj hs (fun q hq hp=>hk q hq (.inr (.inl hp))),h.n.aL hs (fun q hq hp=>hk q hq (.inr (.inr hp))),h.kr,h.kd,h.rd,h.kB,h.rB,h.dB⟩
theorem fB.base{α:Type}{sz:Nat}{hd:α->List Int}{ln:α->Nat}{At:World->Nat->α->Prop}{base b n:Nat}{rs:List α}{g:Nat->Nat}(h:fB sz hd ln At w base b n rs g):fB sz hd ln At w 0 b n rs g:=⟨h.len,h.head,h.tail,fun _ _=>Nat.zero_le _,h.lt,h.ne,h.sub,h.inj⟩
theorem Iy.om{B0 B1 B2 B3:Nat}{gk gr:Nat->Nat}(h:Iy w B0 B1 B2 B3 v m gk gr):OM w B0 v m (fun q=>B0<=q/\q<B1) (fun q=>B1<=q/\q<B2) (fun q=>B2<=q/\q<B3):=by
 have h1:=h.o1;have h2:=h.o2;have h3:=h.o3;have h4:=h.sz;obtain⟨b,e,l1,l,o,og,rm⟩:=h.k;obtain⟨b',e',ZF,l',o',ZH,rm'⟩:=h.r;obtain⟨b'',Me,Vp,fS,o'',VO⟩:=h.n
 exact⟨.inr ⟨b,gk,e,⟨l1,l⟩,fun i hi=>⟨o.low i hi,og i hi⟩,by omega,rm,o.base⟩,.inr ⟨b',gr,e',⟨ZF,l'⟩,fun i hi=>⟨o'.low i hi,ZH i hi⟩,by omega,rm',o'.base⟩,.inr ⟨b'',Me,⟨Vp,fS⟩,by omega,o'',VO⟩,
  fun q hq hr=>by omega,fun q hq hr=>by omega,fun q hq hr=>by omega,fun q hq=>hq.1,fun q hq=>by omega,fun q hq=>by omega⟩
structure MT(m:M4):Prop where
 k:m.af.length<=1048576
 ks:∀c∈m.af,c.cells.length<=1048576
 r:m.g.length<=1048576
 rs:∀c∈m.g,c.ag.length<=1048576
 n:m.ai.length<=1048576
 tk:aI cK m.af m.af.length<=100000000
 tr:aI cR m.g m.g.length<=100000000
theorem zh{α:Type}(c l:α->Nat)(a b:Nat)(h:∀r,c r=a+b*l r)(rs:List α):aI c rs rs.length=a*rs.length+b*(rs.map l).sum:=by
 unfold aI;rw[List.take_of_length_le (by simp)]
 induction rs with
 | nil=>simp
 | cons r rs ih=>
  simp only[List.map_cons,List.sum_cons,List.length_cons,ih,h,Nat.mul_add,Nat.mul_one];omega
theorem MT.YT(h:JX m<=1048576):MT m:=by
 have hk:=zh cK (fun k=>k.cells.length) 1 2 (fun _=>rfl) m.af;have hr:=zh cR (fun r=>r.ag.length) 3 5 (fun _=>rfl) m.g;unfold JX jR ko at h;refine⟨by omega,fun c hc=>?_,by omega,fun c hc=>?_,by omega,by rw[hk];omega,by rw[hr];omega⟩
 ·have:c.cells.length<=(m.af.map fun k=>k.cells.length).sum:=LM (List.mem_map.2 ⟨c,hc,rfl⟩);omega
 ·have:c.ag.length<=(m.g.map fun k=>k.ag.length).sum:=LM (List.mem_map.2 ⟨c,hc,rfl⟩);omega
theorem rT(ks:List K2)(k:Int):(wZ ks k).length=ks.length:=by simp[wZ]
theorem rU(ks:List R4)(k:Int):(yQ ks k).length=ks.length:=by simp[yQ]
theorem Tw(w:World)(P:Nat->Prop)(a:OA)(cap:Nat)(ks:List K2)(k:Int)(hk:0<=k)(oN:k<=500000000)(ht:aI cK ks ks.length<=100000000)(hn:ks.length<=1048576)(hl:∀c∈ks,c.cells.length<=1048576)(h:tY 2 rF wW mO w P a ks):
  Calls prog 77 #[.slice a ks.length cap,vI k] w fun e w'=>e=.returned (vI (k+aI cK ks ks.length))/\aA P w w'/\tY 2 rF wW mO w' P a (wZ ks k):=by
 rcases h with rfl|⟨b,g,rfl,hp,hg,hb,hr,ho⟩
 ·refine(Cw w a cap k).mono ?_;rintro e w' ⟨rfl,rfl⟩;exact⟨by simp[aI],aA.refl _ _,.inl rfl⟩
 ·refine(Cx w b ks.length cap ks g k hk oN ht hn hl hb hr ho).mono ?_;rintro e w' ⟨rfl,kT,e9,wJ⟩;refine⟨rfl,kT.mono ?_,.inr ⟨b,g,rfl,hp,by rw[rT];exact hg,Nat.lt_of_lt_of_le hb kT.size,by rw[rT];exact wJ,by rw[rT];exact e9⟩⟩;rintro q (rfl|⟨i,hi,rfl⟩)
  ·exact hp
  ·exact hg i hi
theorem Ty(w:World)(P:Nat->Prop)(a:OA)(cap:Nat)(ks:List R4)(k:Int)(hk:0<=k)(oN:k<=500000000)(ht:aI cR ks ks.length<=100000000)(hn:ks.length<=1048576)(hl:∀c∈ks,c.ag.length<=1048576)(h:tY 4 qP yL AtR w P a ks):
  Calls prog 78 #[.slice a ks.length cap,vI k] w fun e w'=>e=.returned (vI (k+aI cR ks ks.length))/\aA P w w'/\tY 4 qP yL AtR w' P a (yQ ks k):=by
 rcases h with rfl|⟨b,g,rfl,hp,hg,hb,hr,ho⟩
 ·refine(yN w a cap k).mono ?_;rintro e w' ⟨rfl,rfl⟩;exact⟨by simp[aI],aA.refl _ _,.inl rfl⟩
 ·refine(yP w b ks.length cap ks g k hk oN ht hn hl hb hr ho).mono ?_;rintro e w' ⟨rfl,kT,e9,wJ⟩;refine⟨rfl,kT.mono ?_,.inr ⟨b,g,rfl,hp,by rw[rU];exact hg,Nat.lt_of_lt_of_le hb kT.size,by rw[rU];exact wJ,by rw[rU];exact e9⟩⟩;rintro q (rfl|⟨i,hi,rfl⟩)
  ·exact hp
  ·exact hg i hi
theorem Tx(w:World)(P:Nat->Prop)(a:OA)(cap:Nat)(zs:List Int)(k:Int)(hk:0<=k)(oN:k<=1000000000)(hn:zs.length<=1048576)(h:BO w P a zs):
  Calls prog 76 #[.slice a zs.length cap,vI k] w fun e w'=>e=.returned (vI (k+zs.length))/\aA P w w'/\BO w' P a (marks zs.length k):=by
 rcases h with rfl|⟨b,rfl,hp,hb,hx,hr⟩
 ·refine(yM w a cap k).mono ?_;rintro e w' ⟨rfl,rfl⟩;exact⟨by simp,aA.refl _ _,.inl rfl⟩
 ·refine(rR w b zs.length cap k hn hk oN hr).mono ?_;rintro e w' ⟨rfl,ho,BN,wJ⟩;exact⟨rfl,aA.jW ho hp,.inr ⟨b,rfl,hp,by rw[ho.size];exact hb,BN,by rw[mH];exact wJ⟩⟩
end
section
open Go.Proofs.Tryz
variable {m:M4}
theorem OM.mono{w:World}{B B':Nat}{v:MV}{PK PR PD:Nat->Prop}(h:OM w B v m PK PR PD)(hb:B'<=B):OM w B' v m PK PR PD:=⟨h.k,h.r,h.n,h.kr,h.kd,h.rd,fun q hq=>Nat.le_trans hb (h.kB q hq),fun q hq=>Nat.le_trans hb (h.rB q hq),fun q hq=>Nat.le_trans hb (h.dB q hq)⟩
theorem Si(w:World)(v:MV)(m:M4)(ht:MT m)(hs:qY w v m):Calls prog 60 #[v.val m] w fun e w'=>
  ∃(c4:OA) (k4:Nat) (l4:OA) (j4:Nat) (d4:OA) (i4:Nat) (PK PR PD:Nat->Prop),e=.returned ((MV.mk c4 k4 l4 j4 d4 i4).val m)/\OM w' w.1.size ⟨c4,k4,l4,j4,d4,i4⟩ m PK PR PD/\(∀q,Xp PK PR PD q->q<w'.1.size)/\Below w.1.size w w':=
 (CS w v m ht.k ht.ks ht.r ht.rs ht.n hs).mono (by
  rintro e w' ⟨⟨c4,k4,l4,j4,d4,i4⟩,B1,B2,B3,gk,gr,h1,h2,h3⟩;have o1:=h2.o1;have o2:=h2.o2;have o3:=h2.o3;have o4:=h2.sz;refine⟨c4,k4,l4,j4,d4,i4,_,_,_,h1,h2.om.mono (by omega),fun q hq=>?_,h3⟩
  rcases hq with hq|hq|hq<;>omega)
theorem MT.ml(h:MT m):ML m:=⟨by have:=h.k;unfold maxLen;omega,fun c hc=>by have:=h.ks c hc;unfold maxLen;omega,by have:=h.r;unfold maxLen;omega,fun c hc=>by have:=h.rs c hc;unfold maxLen;omega,by have:=h.n;unfold maxLen;omega⟩
end
section
open Go.Proofs.Tryz
variable {B b d f:Nat}{P:Nat->Prop}{a c e:OA}{m:M4}{w:World}
theorem KG{A X Y:World}(h:Below A.1.size A X)(k:aA P X Y)(hp:∀q,P q->A.1.size<=q):Below A.1.size A Y:=h.trans (k.below hp h.size)
def KM.Ow(w:World)(B:Nat)(a:OA)(b:Nat)(c:OA)(d:Nat)(e:OA)(f:Nat)(m:M4)(P:Nat->Prop):Prop:=∃PK PR PD,OM w B ⟨a,b,c,d,e,f⟩ m PK PR PD/\(∀q,Xp PK PR PD q->P q)/\(∀q,P q->B<=q/\q<w.1.size)
theorem KM.Ow.of(h:KM.Ow w B a b c d e f m P){q:Nat}(hq:P q):B<=q/\q<w.1.size:=by obtain⟨_,_,_,_,_,h3⟩:=h;exact h3 q hq
theorem KM.Ow.sl(h:KM.Ow w B a b c d e f m P):qY w ⟨a,b,c,d,e,f⟩ m:=by obtain⟨_,_,_,h1,_,_⟩:=h;exact h1.sl
theorem KM.Ow.aL{w w':World}{B:Nat}{a:OA}{b:Nat}{c:OA}{d:Nat}{e:OA}{f:Nat}{m:M4}{P:Nat->Prop}(h:KM.Ow w B a b c d e f m P)(hs:w.1.size<=w'.1.size)(hk:∀q,P q->w'.1[q]?=w.1[q]?):KM.Ow w' B a b c d e f m P:=by
 obtain⟨PK,PR,PD,h1,h2,h3⟩:=h;exact⟨PK,PR,PD,h1.aL hs (fun q _ hq=>hk q (h2 q hq)),h2,fun q hq=>⟨(h3 q hq).1,Nat.lt_of_lt_of_le (h3 q hq).2 hs⟩⟩
theorem KM.Ow.low{B':Nat}(h:KM.Ow w B a b c d e f m P)(hb:B'<=B):KM.Ow w B' a b c d e f m P:=by
 obtain⟨PK,PR,PD,h1,h2,h3⟩:=h;exact⟨PK,PR,PD,h1.mono hb,h2,fun q hq=>⟨Nat.le_trans hb (h3 q hq).1,(h3 q hq).2⟩⟩
theorem KM.of{PK PR PD:Nat->Prop}(h:OM w B ⟨a,b,c,d,e,f⟩ m PK PR PD)(hl:∀q,Xp PK PR PD q->q<w.1.size):KM.Ow w B a b c d e f m (Xp PK PR PD):=
 ⟨PK,PR,PD,h,fun _ hq=>hq,fun q hq=>⟨by rcases hq with hq|hq|hq;exact h.kB q hq;exact h.rB q hq;exact h.dB q hq,hl q hq⟩⟩
theorem KM.to(X:World)(a:OA)(b:Nat)(c:OA)(d:Nat)(e:OA)(f:Nat)(m:M4)(ht:MT m)(h:qY X ⟨a,b,c,d,e,f⟩ m):Calls prog 60 #[.agg #[.bool m.x,.slice a m.af.length b,.slice c m.g.length d,.slice e m.ai.length f]] X fun r w'=>
  ∃(a:OA) (b:Nat) (c:OA) (d:Nat) (e:OA) (f:Nat) (P:Nat->Prop),r=.returned (.agg #[.bool m.x,.slice a m.af.length b,.slice c m.g.length d,.slice e m.ai.length f])/\KM.Ow w' X.1.size a b c d e f m P/\Below X.1.size X w':=by
 have hh:=Si X ⟨a,b,c,d,e,f⟩ m ht h;simp only[MV.val]at hh;refine hh.mono ?_;rintro r w' ⟨a,b,c,d,e,f,PK,PR,PD,rfl,o,l,bl⟩;exact⟨a,b,c,d,e,f,_,rfl,KM.of o l,bl⟩
theorem KM.eq(X:World)(a:OA)(b:Nat)(c:OA)(d:Nat)(e:OA)(f:Nat)(a':OA)(b':Nat)(c':OA)(d':Nat)(e':OA)(f':Nat)(m:M4)(ht:MT m)(h1:qY X ⟨a,b,c,d,e,f⟩ m)(h2:qY X ⟨a',b',c',d',e',f'⟩ m):Calls prog 74 #[.agg #[.bool m.x,.slice a m.af.length b,.slice c m.g.length d,.slice e m.ai.length f],.agg #[.bool m.x,.slice a' m.af.length b',.slice c' m.g.length d',.slice e' m.ai.length f']] X fun r w'=>r=.returned (.bool true)/\Below X.1.size X w':=by
 have hh:=zM X ⟨a,b,c,d,e,f⟩ ⟨a',b',c',d',e',f'⟩ m ht.ml h1 h2;simp only[MV.val]at hh;exact hh
end
section
open Go.Proofs.Tryz
theorem Hw(w:World)(v:MV)(m:M4)(l0:Nat)(I7:l0<=1048576)(hl:ML m)(hs:qY w v m):Calls prog 43 #[v.val m,vI (l0:Int)] w fun e w'=>e=.returned (vI (gH l0 (JX m)))/\Below w.1.size w w':=by
 obtain⟨ac,cc,al,cl,ad,cd⟩:=v;have H:Hid (qY w ⟨ac,cc,al,cl,ad,cd⟩ m/\ML m):=⟨hs,hl⟩
 clear hs hl;simp only[MV.val];have HM:Hid (JX m=(m.af.length+jR m.af)+(m.g.length+ko m.g)+m.ai.length):=rfl;have b0:Below w.1.size w (w.alloc (.cells #[.bool m.x,.slice ac m.af.length cc,.slice al m.g.length cl,.slice ad m.ai.length cd] 94)):=aN.alloc aU _;have u2:(w.alloc (.cells #[.bool m.x,.slice ac m.af.length cc,.slice al m.g.length cl,.slice ad m.ai.length cd] 94)).cell? ⟨w.1.size,2,none⟩=some (.slice al m.g.length cl):=by go_simp
 have u3:(w.alloc (.cells #[.bool m.x,.slice ac m.af.length cc,.slice al m.g.length cl,.slice ad m.ai.length cd] 94)).cell? ⟨w.1.size,3,none⟩=some (.slice ad m.ai.length cd):=by go_simp
 have sU:w.1.size<(w.alloc (.cells #[.bool m.x,.slice ac m.af.length cc,.slice al m.g.length cl,.slice ad m.ai.length cd] 94)).1.size:=by simp
 have lL:Calls prog 87 #[.slice ac m.af.length cc,vI (l0:Int)] (w.alloc (.cells #[.bool m.x,.slice ac m.af.length cc,.slice al m.g.length cl,.slice ad m.ai.length cd] 94)) fun e w'=>e=.returned (vI (gH l0 (m.af.length+jR m.af)))/\Below (w.alloc (.cells #[.bool m.x,.slice ac m.af.length cc,.slice al m.g.length cl,.slice ad m.ai.length cd] 94)).1.size (w.alloc (.cells #[.bool m.x,.slice ac m.af.length cc,.slice al m.g.length cl,.slice ad m.ai.length cd] 94)) w':=Nh (w.alloc (.cells #[.bool m.x,.slice ac m.af.length cc,.slice al m.g.length cl,.slice ad m.ai.length cd] 94)) ac m.af.length cc m.af l0 H.out.2.k I7 (H.out.1.later b0).k H.out.2.ks
 have nL:=fun W l (h:Below w.1.size w W) (hl:l<=1048576)=>Hz W al m.g.length cl m.g l H.out.2.r hl (H.out.1.later h).r H.out.2.rs
 have Io:=fun W l (hl:l<=1048576)=>JW W ad m.ai.length cd l H.out.2.n hl
 obtain⟨A,hA⟩:∃A,m.af.length+jR m.af=A:=⟨_,rfl⟩
 obtain⟨Bn,hB⟩:∃Bn,m.g.length+ko m.g=Bn:=⟨_,rfl⟩
 obtain⟨Cn,hC⟩:∃Cn,m.ai.length=Cn:=⟨_,rfl⟩
 rw[HM.out];simp only[hA,hB]at lL nL ⊢;have HZ2:Hid (∀(W:World) (l:Nat),Below w.1.size w W->l<=1048576->Calls prog 88 #[.slice al m.g.length cl,vI (l:Int)] W fun e w'=>e=.returned (vI (gH l Bn))/\Below W.1.size W w'):=nL;have HZ3:Hid (∀(W:World) (l:Nat),l<=1048576->Calls prog 86 #[.slice ad m.ai.length cd,vI (l:Int)] W fun e w'=>e=.returned (vI (gH l m.ai.length))/\w'=W):=Io;have SU:Hid (w.1.size<(w.alloc (.cells #[.bool m.x,.slice ac m.af.length cc,.slice al m.g.length cl,.slice ad m.ai.length cd] 94)).1.size/\Below w.1.size w (w.alloc (.cells #[.bool m.x,.slice ac m.af.length cc,.slice al m.g.length cl,.slice ad m.ai.length cd] 94))):=⟨sU,b0⟩
 clear hA hB hC nL Io sU b0 HM;by_cases h1:A<=l0
 ·rw[cz h1]at lL;have g1:decide (((l0-A:Nat):Int)<0)=false:=by simp
  go_enter func43,ntmps43;go_wp2_with fail;refine lL.mono ?_;clear lL;rintro e w1 ⟨rfl,b1⟩;have c2:=(b1.cell (p:=⟨w.1.size,2,none⟩) SU.out.1).trans u2;have c3:=(b1.cell (p:=⟨w.1.size,3,none⟩) SU.out.1).trans u3;have B1:Hid (Below w.1.size w w1/\w.1.size<w1.1.size):=⟨SU.out.2.trans (b1.mono SU.out.2.size),Nat.lt_of_lt_of_le SU.out.1 b1.size⟩
  clear u2 u3 b1;go_wp2_with fail;have hz:=HZ2.out w1 (l0-A) B1.out.1 (by omega);by_cases h2:Bn<=l0-A
  ·rw[cz h2]at hz;have g2:decide (((l0-A-Bn:Nat):Int)<0)=false:=by simp
   refine hz.mono ?_;clear hz;rintro e w2 ⟨rfl,b2⟩;have x3:=(b2.cell (p:=⟨w.1.size,3,none⟩) B1.out.2).trans c3;have B2:Hid (Below w.1.size w w2):=B1.out.1.trans (b2.mono B1.out.1.size);clear c2 c3 b2;go_wp2_with fail;have hz:=HZ3.out w2 (l0-A-Bn) (by omega);by_cases h3:m.ai.length<=l0-A-Bn
   ·rw[cz h3]at hz;have g3:decide (((l0-A-Bn-m.ai.length:Nat):Int)<0)=false:=by simp
    refine hz.mono ?_;clear hz;rintro e w2 ⟨rfl,rfl⟩;go_wp2;go_ret;exact⟨by rw[cz (by omega),show l0-(A+Bn+m.ai.length)=l0-A-Bn-m.ai.length by omega];rfl,B2.out⟩
   ·rw[bL h3]at hz;refine hz.mono ?_;clear hz;rintro e w2 ⟨rfl,rfl⟩;go_wp2;go_ret;exact⟨by rw[bL (by omega)];rfl,B2.out⟩
  ·rw[bL h2]at hz;refine hz.mono ?_;clear hz;rintro e w2 ⟨rfl,b2⟩;have B2:Hid (Below w.1.size w w2):=B1.out.1.trans (b2.mono B1.out.1.size);clear b2;go_wp2;go_ret;exact⟨by rw[bL (by omega)];rfl,B2.out⟩
 ·rw[bL h1]at lL;go_enter func43,ntmps43;go_wp2_with fail;refine lL.mono ?_;clear lL;rintro e w1 ⟨rfl,b1⟩;have B1:Hid (Below w.1.size w w1):=SU.out.2.trans (b1.mono SU.out.2.size);clear b1;go_wp2;go_ret;exact⟨by rw[bL (by omega)];rfl,B1.out⟩
end
section
open Go.Proofs.Tryz
theorem KM.gd(X:World)(a:OA)(b:Nat)(c:OA)(d:Nat)(e:OA)(f:Nat)(m:M4)(l:Nat)(I7:l<=1048576)(hl:ML m)(h:qY X ⟨a,b,c,d,e,f⟩ m):Calls prog 43 #[.agg #[.bool m.x,.slice a m.af.length b,.slice c m.g.length d,.slice e m.ai.length f],vI (l:Int)] X fun r w'=>r=.returned (vI (gH l (JX m)))/\Below X.1.size X w':=by
 have hh:=Hw X ⟨a,b,c,d,e,f⟩ m l I7 hl h;simp only[MV.val]at hh;exact hh
def gQ:Kd M4 MV where
 n:=4
 cells v m:=[.bool m.x,.slice v.ac m.af.length v.cc,.slice v.al m.g.length v.cl,.slice v.ad m.ai.length v.cd]
 len:=fun _ _=>rfl
 Rd:=qY
 Ow w B v m P:=KM.Ow w B v.ac v.cc v.al v.cl v.ad v.cd m P
 later:=fun h b=>h.later b
 sl:=fun h=>h.sl
 of:=fun h hq=>h.of hq
 aL:=fun h hs hk=>h.aL hs hk
 low:=fun h hb=>h.low hb
end
section
open Go.Proofs.Tryz
theorem Pn:(prog.info? 62).map (fun i=>(i.zero,i.size,i.bytes))=some (some (.agg #[.bool false,.slice none 0 0,.slice none 0 0,.slice none 0 0]),4,80):=by kernel_rfl
theorem PE(n:Nat)(hn:n<=1048576)(w:World):(Instr.makeSlice 29 (vI (n:Int)) (vI (n:Int))).run prog w=.ok (.slice (some ⟨w.1.size,0,none⟩) n n) (w.alloc (.cells (madeCells #[.bool false,.slice none 0 0,.slice none 0 0,.slice none 0 0] (n*4)) 62)):=by
 obtain⟨i,hi,oH⟩:=Option.map_eq_some_iff.1 Pn;simp only[Prod.mk.injEq]at oH;obtain⟨hz,hs,hb⟩:=oH;have:=run_make (P:=prog) w 29 62 i _ underlying29 hi hz .i64 .i64 (n:Int) (n:Int) (by omega) (by omega) (by rw[hb];omega) (by omega);rw[hs]at this;simpa[Value.cells]using this
theorem wo.to(w:World)(a:OA)(cap:Nat)(xs:List M4)(hn:xs.length<=1048576)(ht:∀d∈xs,MT d)(hs:gQ.pK w a xs):Calls prog 26 #[.slice a xs.length cap] w fun e w'=>
  ∃P,e=.returned (.slice (some ⟨w.1.size,0,none⟩) xs.length xs.length)/\gQ.oD w' w.1.size (some ⟨w.1.size,0,none⟩) xs P/\Below w.1.size w w':=by
 have qc:=PE xs.length hn;go_enter func26,ntmps26;go_wp2;go_loopw[4] (fun i wr=>∃(j:Nat) (g:Nat->Nat->Prop),j<=xs.length/\i=vI j/\Below w.1.size w wr/\w.1.size<wr.1.size/\gQ.Part wr w.1.size w.1.size xs.length (xs.take j) g) (fun i _=>xs.length-(intOf i).toNat)
 case atStart=>exact⟨0,fun _ _=>False,Nat.zero_le _,rfl,aN.alloc aU _,by simp,by rw[List.take_zero];exact Kd.Part.nil _ _ (iE _ _ _ _)⟩
 case round=>
  obtain⟨j,g,hj,rfl,aD,dO,wO⟩:=hrel;by_cases aK:j<xs.length
  ·obtain⟨d,hd⟩:∃d,xs[j]?=some d:=⟨_,List.getElem?_eq_getElem aK⟩
   rcases hs with hs|⟨b,off,rfl,hb,h1⟩
   ·rw[hs]at aK;simp at aK
   obtain⟨⟨c0,c1,c2,c3,c4,c5⟩,bg,fG⟩:=h1 j d hd;have e0:wr.cell? ⟨b,off+j*4,none⟩=some (.bool d.x):=(aD.cell (p:=⟨b,off+j*4,none⟩) hb).trans (bg 0 _ rfl);have e1:wr.cell? ⟨b,off+j*4+1,none⟩=some (.slice c0 d.af.length c1):=(aD.cell (p:=⟨b,off+j*4+1,none⟩) hb).trans (bg 1 _ rfl);have e2:wr.cell? ⟨b,off+j*4+2,none⟩=some (.slice c2 d.g.length c3):=(aD.cell (p:=⟨b,off+j*4+2,none⟩) hb).trans (bg 2 _ rfl);have e3:wr.cell? ⟨b,off+j*4+3,none⟩=some (.slice c4 d.ai.length c5):=(aD.cell (p:=⟨b,off+j*4+3,none⟩) hb).trans (bg 3 _ rfl);have jh:=KM.to wr c0 c1 c2 c3 c4 c5 d (ht d (List.mem_of_getElem? hd)) (gQ.later fG aD);have KH:Hid (gQ.Part wr w.1.size w.1.size xs.length (xs.take j) g/\Below w.1.size w wr/\w.1.size<wr.1.size/\xs.take (j+1)=xs.take j++[d]/\(xs.take j).length=j):=⟨wO,aD,dO,by rw[List.take_add_one,hd];rfl,by rw[List.length_take];omega⟩
   have jn:(j:Int)<(xs.length:Int):=by omega
   clear wO aD qc h1 ht bg fG hd;go_wp2_with fail;refine jh.mono ?_;clear jh e0 e1 e2 e3;rintro e w1 ⟨u0,u1,u2,u3,u4,u5,P,rfl,ho,b1⟩;have Mr:=KH.out.1.later b1 KH.out.2.2.1;have qH:=Mr.rm;have eh:j*4+4<=xs.length*4:=by omega
   obtain⟨z0,d0,f0⟩:∃v,w1.cell? ⟨w.1.size,j*4,none⟩=some v/\w1.frozen? ⟨w.1.size,j*4,none⟩=false:=qH (j*4+0) (show _<xs.length*4 by omega);obtain⟨z1,d1,f1⟩:∃v,w1.cell? ⟨w.1.size,j*4+1,none⟩=some v/\w1.frozen? ⟨w.1.size,j*4+1,none⟩=false:=qH (j*4+1) (show _<xs.length*4 by omega);obtain⟨z2,d2,f2⟩:∃v,w1.cell? ⟨w.1.size,j*4+2,none⟩=some v/\w1.frozen? ⟨w.1.size,j*4+2,none⟩=false:=qH (j*4+2) (show _<xs.length*4 by omega);obtain⟨z3,d3,f3⟩:∃v,w1.cell? ⟨w.1.size,j*4+3,none⟩=some v/\w1.frozen? ⟨w.1.size,j*4+3,none⟩=false:=qH (j*4+3) (show _<xs.length*4 by omega);have K1:Hid (gQ.Part w1 w.1.size w.1.size xs.length (xs.take j) g/\gQ.Ow w1 wr.1.size ⟨u0,u1,u2,u3,u4,u5⟩ d P/\Below wr.1.size wr w1):=⟨Mr,ho,b1⟩
   clear Mr ho b1 qH eh;go_wp2;obtain⟨k1,k2,k3,k4,k5⟩:=KH.out;obtain⟨p1,p2,p3⟩:=K1.out;have Yd:=p1.push (by omega) ⟨u0,u1,u2,u3,u4,u5⟩ d P (gQ.low p2 (Nat.le_of_lt k3)) (fun q hq=>by have:=(gQ.of p2 hq).1;omega) (fun i q hi hq Rw=>by have:=(k1.gq hi hq).2;have:=(gQ.of p2 Rw).1;omega);rw[k5,<-k4]at Yd;have UC:Below w.1.size w (dU w1 w.1.size (j*4) [.bool d.x,.slice u0 d.af.length u1,.slice u2 d.g.length u3,.slice u4 d.ai.length u5]):=bn aU _ _ _ (k2.trans (p3.mono k2.size));have U9:w.1.size<(dU w1 w.1.size (j*4) [.bool d.x,.slice u0 d.af.length u1,.slice u2 d.g.length u3,.slice u4 d.ai.length u5]).1.size:=by rw[bu];exact Nat.lt_of_lt_of_le k3 p3.size
   exact⟨⟨j+1,_,by omega,by simp,UC,U9,Yd⟩,by simp[intOf];omega⟩
  ·obtain rfl:j=xs.length:=by omega
   have hd:decide ((xs.length:Int)<(xs.length:Int))=false:=by simp
   rw[List.take_length]at wO;have KH:Hid (gQ.Part wr w.1.size w.1.size xs.length xs g/\Below w.1.size w wr/\w.1.size<wr.1.size):=⟨wO,aD,dO⟩
   clear wO aD hs qc ht;go_wp2;go_ret;exact⟨_,rfl,KH.out.1.own aU KH.out.2.2,KH.out.2.1⟩
theorem wo.eq(w:World)(a a':OA)(cap aW:Nat)(xs:List M4)(hn:xs.length<=1048576)(ht:∀d∈xs,MT d)(h1:gQ.pK w a xs)(h2:gQ.pK w a' xs):Calls prog 34 #[.slice a xs.length cap,.slice a' xs.length aW] w fun e w'=>e=.returned (.bool true)/\Below w.1.size w w':=by
 go_enter func34,ntmps34;go_wp2;go_loopw[5] (fun i wr=>∃j:Nat,j<=xs.length/\i=vI j/\Below w.1.size w wr) (fun i _=>xs.length-(intOf i).toNat)
 case atStart=>exact⟨0,Nat.zero_le _,rfl,aN⟩
 case round=>
  obtain⟨j,hj,rfl,aD⟩:=hrel;by_cases aK:j<xs.length
  ·obtain⟨d,hd⟩:∃d,xs[j]?=some d:=⟨_,List.getElem?_eq_getElem aK⟩
   rcases h1 with h1|⟨b,off,rfl,hb,h1⟩
   ·rw[h1]at aK;simp at aK
   ·rcases h2 with h2|⟨b',bR,rfl,gJ,h2⟩
    ·rw[h2]at aK;simp at aK
    ·obtain⟨⟨c0,c1,c2,c3,c4,c5⟩,bg,fG⟩:=h1 j d hd;obtain⟨⟨b0,b1,b2,b3,b4,b5⟩,sQ,rH⟩:=h2 j d hd;have x0:=@cell_regrown wr ⟨b,off+j*4,none⟩ (.bool d.x) ((aD.cell (p:=⟨b,off+j*4,none⟩) hb).trans (bg 0 _ rfl));have x1:=@cell_regrown wr ⟨b,off+j*4+1,none⟩ (.slice c0 d.af.length c1) ((aD.cell (p:=⟨b,off+j*4+1,none⟩) hb).trans (bg 1 _ rfl));have x2:=@cell_regrown wr ⟨b,off+j*4+2,none⟩ (.slice c2 d.g.length c3) ((aD.cell (p:=⟨b,off+j*4+2,none⟩) hb).trans (bg 2 _ rfl));have x3:=@cell_regrown wr ⟨b,off+j*4+3,none⟩ (.slice c4 d.ai.length c5) ((aD.cell (p:=⟨b,off+j*4+3,none⟩) hb).trans (bg 3 _ rfl));have y0:=@cell_regrown wr ⟨b',bR+j*4,none⟩ (.bool d.x) ((aD.cell (p:=⟨b',bR+j*4,none⟩) gJ).trans (sQ 0 _ rfl));have y1:=@cell_regrown wr ⟨b',bR+j*4+1,none⟩ (.slice b0 d.af.length b1) ((aD.cell (p:=⟨b',bR+j*4+1,none⟩) gJ).trans (sQ 1 _ rfl));have y2:=@cell_regrown wr ⟨b',bR+j*4+2,none⟩ (.slice b2 d.g.length b3) ((aD.cell (p:=⟨b',bR+j*4+2,none⟩) gJ).trans (sQ 2 _ rfl));have y3:=@cell_regrown wr ⟨b',bR+j*4+3,none⟩ (.slice b4 d.ai.length b5) ((aD.cell (p:=⟨b',bR+j*4+3,none⟩) gJ).trans (sQ 3 _ rfl))
     have cQ:∀dd os,Calls prog 74 #[.agg #[.bool d.x,.slice c0 d.af.length c1,.slice c2 d.g.length c3,.slice c4 d.ai.length c5],.agg #[.bool d.x,.slice b0 d.af.length b1,.slice b2 d.g.length b3,.slice b4 d.ai.length b5]] (grow (redrawn wr dd) os) fun e eU=>e=.returned (.bool true)/\∃p:Regrown,eU=grow (redrawn wr p.d) p.os:=fun dd os=>Calls.regrown_of (KM.eq _ c0 c1 c2 c3 c4 c5 b0 b1 b2 b3 b4 b5 d (ht d (List.mem_of_getElem? hd)) (gQ.later fG (aD.trans ((below_regrown wr dd os).mono aD.size))) (gQ.later rH (aD.trans ((below_regrown wr dd os).mono aD.size))))
     have K:Hid (Below w.1.size w wr):=aD;have jn:(j:Int)<(xs.length:Int):=by omega
     clear bg sQ fG rH aD h1 h2 ht hd;go_wp2_with fail;refine gP ?_;repeat (go_big_quiet_step (exact cQ _ _))
     refine iW fun dq aZ=>?_
     have bq:=below_regrown wr dq aZ;go_wp2;exact⟨⟨j+1,by omega,by simp,K.out.trans (bq.mono K.out.size)⟩,by simp[intOf];omega⟩
  ·obtain rfl:j=xs.length:=by omega
   have hd:decide ((xs.length:Int)<(xs.length:Int))=false:=by simp
   clear h1 h2 ht;go_wp2;go_ret;exact⟨rfl,aD⟩
def wo.nM(xs:List M4):Nat:=(xs.map fun d=>JX d).sum
theorem wo.sz(w:World)(a:OA)(cap:Nat)(xs:List M4)(l:Nat)(I7:l<=1048576)(hn:xs.length<=maxLen)(hl:∀d∈xs,ML d)(hs:gQ.pK w a xs):
  Calls prog 12 #[.slice a xs.length cap,vI (l:Int)] w fun e w'=>e=.returned (vI (gH l (xs.length+wo.nM xs)))/\Below w.1.size w w':=by
 have BK:=hn;unfold maxLen at BK;by_cases h0:xs.length<=l
 ·have d0:decide ((l:Int)-(xs.length:Int)<0)=false:=by simp;omega
  go_enter func12,ntmps12;go_wp2;go_loopw[1,5] (fun v1 v5 wr=>∃j:Nat,j<=xs.length/\v5=vI j/\xs.length+wo.nM (xs.take j)<=l/\v1=vI ((l-(xs.length+wo.nM (xs.take j)):Nat):Int)/\Below w.1.size w wr) (fun _ v5 _=>xs.length-(intOf v5).toNat)
  case atStart=>exact⟨0,Nat.zero_le _,rfl,by simpa[wo.nM]using h0,by simp[wo.nM];try omega,aN⟩
  case round=>
   obtain⟨j,hj,rfl,hle,rfl,aD⟩:=hrel;have KL:Hid (xs.length+wo.nM (xs.take j)<=l):=hle;by_cases aK:j<xs.length
   ·obtain⟨d,hd⟩:∃d,xs[j]?=some d:=⟨_,List.getElem?_eq_getElem aK⟩
    rcases hs with hs|⟨b,off,rfl,hb,h1⟩
    ·rw[hs]at aK;simp at aK
    obtain⟨⟨c0,c1,c2,c3,c4,c5⟩,bg,fG⟩:=h1 j d hd;have e0:wr.cell? ⟨b,off+j*4,none⟩=some (.bool d.x):=(aD.cell (p:=⟨b,off+j*4,none⟩) hb).trans (bg 0 _ rfl);have e1:wr.cell? ⟨b,off+j*4+1,none⟩=some (.slice c0 d.af.length c1):=(aD.cell (p:=⟨b,off+j*4+1,none⟩) hb).trans (bg 1 _ rfl);have e2:wr.cell? ⟨b,off+j*4+2,none⟩=some (.slice c2 d.g.length c3):=(aD.cell (p:=⟨b,off+j*4+2,none⟩) hb).trans (bg 2 _ rfl);have e3:wr.cell? ⟨b,off+j*4+3,none⟩=some (.slice c4 d.ai.length c5):=(aD.cell (p:=⟨b,off+j*4+3,none⟩) hb).trans (bg 3 _ rfl);have hz:=KM.gd wr c0 c1 c2 c3 c4 c5 d (l-(xs.length+wo.nM (xs.take j))) (by omega) (hl d (List.mem_of_getElem? hd)) (gQ.later fG aD)
    have DV:Hid (wo.nM (xs.take (j+1))=wo.nM (xs.take j)+JX d):=by
     unfold Hid wo.nM;rw[List.map_take,List.map_take];exact jS (by rw[List.getElem?_map,hd];rfl)
    have QV:Hid (wo.nM (xs.take (j+1))<=wo.nM xs):=by unfold Hid wo.nM;rw[List.map_take];exact lJ _ _
    have KB:Hid (Below w.1.size w wr):=aD;have jn:(j:Int)<(xs.length:Int):=by omega
    generalize Zq:wo.nM (xs.take j)=LL at *;generalize JX d=m at *;clear h1 aD hl hle bg fG hd;by_cases vo:m<=l-(xs.length+LL)
    ·rw[cz vo]at hz;have d1:decide (((l-(xs.length+LL)-m:Nat):Int)<0)=false:=by simp
     go_wp2_with fail;refine hz.mono ?_;clear hz;rintro e w1 ⟨rfl,b1⟩;go_wp2;have h1:=KL.out;refine⟨⟨j+1,by omega,by simp,by rw[DV.out];omega,by rw[DV.out];congr 2;omega,KB.out.trans (b1.mono KB.out.size)⟩,by simp[intOf];omega⟩
    ·rw[bL vo]at hz;go_wp2_with fail;refine hz.mono ?_;clear hz;rintro e w1 ⟨rfl,b1⟩;go_wp2;go_ret;have h2:=DV.out;have h3:=QV.out;refine⟨by rw[bL (by omega)];rfl,KB.out.trans (b1.mono KB.out.size)⟩
   ·obtain rfl:j=xs.length:=by omega
    have hd:decide ((xs.length:Int)<(xs.length:Int))=false:=by simp
    rw[List.take_length]at hle ⊢;clear hs hl KL;go_wp2;go_ret;exact⟨by rw[cz hle];rfl,aD⟩
 ·have d0:decide ((l:Int)-(xs.length:Int)<0)=true:=by simp;omega
  go_enter func12,ntmps12;go_wp2;go_ret;exact⟨by rw[bL (by omega)];rfl,aN⟩
end
namespace tx
open Go.Proofs.Tryz
variable {B b c l n o off t:Nat}{P:Nat->Prop}{a w w':World}{s:S5}{xs:List S5}
theorem ay{p:Prop}(h:p):Hid p:=h
def gH(l t:Nat):Int:=if t<=l then((l-t:Nat):Int)else -1
theorem cz(h:t<=l):gH l t=((l-t:Nat):Int):=if_pos h
theorem bL(h:¬t<=l):gH l t=-1:=if_neg h
structure aA(P:Nat->Prop)(w w':World):Prop where
 os:w'.os=w.os
 tape:w'.tape=w.tape
 output:w'.output=w.output
 size:w.1.size<=w'.1.size
 block:∀q,q<w.1.size->¬P q->w'.1[q]?=w.1[q]?
theorem aA.refl(P:Nat->Prop)(w:World):aA P w w:=⟨rfl,rfl,rfl,Nat.le_refl _,fun _ _ _=>rfl⟩
theorem aA.trans{P:Nat->Prop}{a b c:World}(h:aA P a b)(k:aA P b c):aA P a c:=
 ⟨k.os.trans h.os,k.tape.trans h.tape,k.output.trans h.output,Nat.le_trans h.size k.size,fun q hq hp=>(k.block q (Nat.lt_of_lt_of_le hq h.size) hp).trans (h.block q hq hp)⟩
theorem aA.jW{b:World}(h:aQ c a b)(hc:P c):aA P a b:=⟨h.os,h.tape,h.output,Nat.le_of_eq h.size.symm,fun q _ hn=>h.block q (fun e=>hn (e▸hc))⟩
theorem aA.bN{b:World}(h:Below a.1.size a b):aA P a b:=⟨h.os,h.tape,h.output,h.size,fun q hq _=>h.block q hq⟩
theorem aA.rW(w:World)(v:Value)(hc:P c):aA P w (w.setCell ⟨c,o,none⟩ v):=.jW ((aQ.refl c w).setCell o v) hc
theorem aA.below{b:World}(h:aA P a b)(hp:∀q,P q->B<=q)(hB:B<=a.1.size):Below B a b:=⟨h.os,h.tape,h.output,h.size,fun q hq=>h.block q (by omega) (fun e=>by have:=hp q e;omega)⟩
structure aR(w:World)(b o:Nat)(s:S5):Prop where
 c0:w.cell? ⟨b,o,none⟩=some (vI s.a)
 c1:w.cell? ⟨b,o+1,none⟩=some (vI s.e)
 c2:w.cell? ⟨b,o+2,none⟩=some (vI s.h)
 c3:w.cell? ⟨b,o+3,none⟩=some (.bool s.j)
 c4:w.cell? ⟨b,o+4,none⟩=some (vI s.i)
theorem aR.below(h:aR w b o s)(hb:Below B w w')(hB:b<B):aR w' b o s:=
 ⟨by rw[hb.cell hB];exact h.c0,by rw[hb.cell hB];exact h.c1,by rw[hb.cell hB];exact h.c2,by rw[hb.cell hB];exact h.c3,by rw[hb.cell hB];exact h.c4⟩
def aV(w:World)(b off:Nat)(xs:List S5):Prop:=∀i s,xs[i]?=some s->aR w b (off+i*5) s
theorem aV.below(h:aV w b off xs)(hb:Below B w w')(hB:b<B):aV w' b off xs:=fun i s e=>(h i s e).below hb hB
def Sl(w:World)(B:Nat)(a:OA)(n:Nat)(xs:List S5):Prop:=xs.length=n/\(n=0\/∃b off,a=some ⟨b,off,none⟩/\b<B/\aV w b off xs)
theorem Sl.below{w w':World}{B:Nat}{a:OA}{n:Nat}{xs:List S5}(h:Sl w B a n xs)(hb:Below B w w'):Sl w' B a n xs:=by
 obtain⟨h1,h2⟩:=h;refine⟨h1,?_⟩;rcases h2 with h2|⟨b,off,ha,hB,hx⟩
 ·exact .inl h2
 ·exact .inr ⟨b,off,ha,hB,hx.below hb hB⟩
theorem Sl.mono{B':Nat}{a:OA}(h:Sl w B a n xs)(hB:B<=B'):Sl w B' a n xs:=by
 obtain⟨h1,h2⟩:=h;refine⟨h1,?_⟩;rcases h2 with h2|⟨b,off,ha,hb,hx⟩
 ·exact .inl h2
 ·exact .inr ⟨b,off,ha,by omega,hx⟩
theorem aR.set{p:Nat}(h:aR w b o s)(hp:p<o\/o+5<=p)(v:Value):aR (w.setCell ⟨b,p,none⟩ v) b o s:=
 ⟨by rw[ae (by omega)];exact h.c0,by rw[ae (by omega)];exact h.c1,by rw[ae (by omega)];exact h.c2,by rw[ae (by omega)];exact h.c3,by rw[ae (by omega)];exact h.c4⟩
theorem Ag:(prog.info? 73).map (fun i=>(i.zero,i.size,i.bytes))=some (some (.agg #[vI 0,vI 0,vI 0,.bool false,vI 0]),5,40):=by kernel_rfl
theorem o7(n:Nat)(hn:n<=1048576)(w:World):(Instr.makeSlice 51 (vI (n:Int)) (vI (n:Int))).run prog w=.ok (.slice (some ⟨w.1.size,0,none⟩) n n) (w.alloc (.cells (madeCells #[vI 0,vI 0,vI 0,.bool false,vI 0] (n*5)) 73)):=by
 obtain⟨i,hi,oH⟩:=Option.map_eq_some_iff.1 Ag;simp only[Prod.mk.injEq]at oH;obtain⟨hz,hs,hb⟩:=oH;have:=run_make (P:=prog) w 51 73 i _ underlying51 hi hz .i64 .i64 (n:Int) (n:Int) (by omega) (by omega) (by rw[hb];omega) (by omega);rw[hs]at this;simpa[Value.cells]using this
theorem aR.put{v0 v1 v2 v3 v4:Value}(s:S5)(h0:w.cell? ⟨b,o,none⟩=some v0)(h1:w.cell? ⟨b,o+1,none⟩=some v1)(h2:w.cell? ⟨b,o+2,none⟩=some v2)(h3:w.cell? ⟨b,o+3,none⟩=some v3)(h4:w.cell? ⟨b,o+4,none⟩=some v4):
  aR (((((w.setCell ⟨b,o,none⟩ (vI s.a)).setCell ⟨b,o+1,none⟩ (vI s.e)).setCell ⟨b,o+2,none⟩ (vI s.h)).setCell ⟨b,o+3,none⟩ (.bool s.j)).setCell ⟨b,o+4,none⟩ (vI s.i)) b o s:=by
 refine⟨?_,?_,?_,?_,?_⟩
 ·rw[ae (by omega),ae (by omega),ae (by omega),ae (by omega)];exact ax h0
 ·rw[ae (by omega),ae (by omega),ae (by omega)];exact ax (by rw[ae (by omega)];exact h1)
 ·rw[ae (by omega),ae (by omega)];exact ax (by rw[ae (by omega),ae (by omega)];exact h2)
 ·rw[ae (by omega)];exact ax (by rw[ae (by omega),ae (by omega),ae (by omega)];exact h3)
 ·exact ax (by rw[ae (by omega),ae (by omega),ae (by omega),ae (by omega)];exact h4)
theorem aV.put{w:World}{b k:Nat}{xs:List S5}{s:S5}(h:aV w b 0 (xs.take k))(hs:xs[k]?=some s){m:Nat}(hr:Room w b m)(hm:k*5+5<=m):
  aV (((((w.setCell ⟨b,k*5,none⟩ (vI s.a)).setCell ⟨b,k*5+1,none⟩ (vI s.e)).setCell ⟨b,k*5+2,none⟩ (vI s.h)).setCell ⟨b,k*5+3,none⟩ (.bool s.j)).setCell ⟨b,k*5+4,none⟩ (vI s.i)) b 0 (xs.take (k+1)):=by
 intro i t e;rw[List.getElem?_take]at e;split at e
 ·rename_i hi;by_cases I6:i=k
  ·subst I6;rw[hs]at e;obtain rfl:=Option.some.inj e;obtain⟨v0,d0,_⟩:=hr (i*5) (by omega);obtain⟨v1,d1,_⟩:=hr (i*5+1) (by omega);obtain⟨v2,d2,_⟩:=hr (i*5+2) (by omega);obtain⟨v3,d3,_⟩:=hr (i*5+3) (by omega);obtain⟨v4,d4,_⟩:=hr (i*5+4) (by omega);simpa using aR.put s d0 d1 d2 d3 d4
  ·have:=h i t (by rw[List.getElem?_take,if_pos (by omega)];exact e);exact((((this.set (by omega) _).set (by omega) _).set (by omega) _).set (by omega) _).set (by omega) _
 ·cases e
theorem aV.aj(h:aV w b off xs)(e:w'.1[b]?=w.1[b]?):aV w' b off xs:=fun i s hs=>by
 obtain⟨c0,c1,c2,c3,c4⟩:=h i s hs;exact⟨(World.cell?_of_block (a:=⟨b,_,none⟩) e).trans c0,(World.cell?_of_block (a:=⟨b,_,none⟩) e).trans c1,(World.cell?_of_block (a:=⟨b,_,none⟩) e).trans c2,(World.cell?_of_block (a:=⟨b,_,none⟩) e).trans c3,(World.cell?_of_block (a:=⟨b,_,none⟩) e).trans c4⟩
theorem r9(w:World)(a:OA)(cap:Nat):Calls prog 105 #[.slice a 0 cap] w fun e w'=>
  e=.returned (.slice (some ⟨w.1.size,0,none⟩) 0 0)/\Below w.1.size w w'/\w.1.size<w'.1.size:=by
 have qc:∀w:World,(Instr.makeSlice 51 (vI 0) (vI 0)).run prog w=.ok (.slice (some ⟨w.1.size,0,none⟩) 0 0) (w.alloc (.cells (madeCells #[vI 0,vI 0,vI 0,.bool false,vI 0] 0) 73)):=fun w=>by simpa using o7 0 (by omega) w
 go_enter func105,ntmps105;go_wp2;go_loopw[4] (fun i wr=>i=vI 0/\Below w.1.size w wr/\w.1.size<wr.1.size) (fun _ _=>0)
 case atStart=>exact⟨rfl,aN.alloc aU _,by simp⟩
 case round=>
  obtain⟨rfl,aD,dO⟩:=hrel;go_wp2;go_ret;exact⟨rfl,aD,dO⟩
theorem qE(w:World)(b off n cap:Nat)(xs:List S5)(hx:xs.length=n)(hn:n<=1048576)(hb:b<w.1.size)(hs:aV w b off xs):Calls prog 105 #[.slice (some ⟨b,off,none⟩) n cap] w fun e w'=>
  e=.returned (.slice (some ⟨w.1.size,0,none⟩) n n)/\Below w.1.size w w'/\w.1.size<w'.1.size/\aV w' w.1.size 0 xs/\Room w' w.1.size (n*5):=by
 have qc:=o7 n hn;go_enter func105,ntmps105;go_wp2
 go_loopw[4] (fun i wr=>∃k:Nat,k<=n/\i=vI k/\Below w.1.size w wr/\w.1.size<wr.1.size/\Room wr w.1.size (n*5)/\aV wr w.1.size 0 (xs.take k))
   (fun i _=>n-(intOf i).toNat)
 case atStart=>exact⟨0,Nat.zero_le _,rfl,aN.alloc aU _,by simp,iE _ _ _ _,fun i s e=>by simp at e⟩
 case round=>
  obtain⟨k,hk,rfl,aD,dO,eB,lQ⟩:=hrel;by_cases aK:k<n
  ·have z8:=hs.below aD hb;obtain⟨s,gu⟩:∃s,xs[k]?=some s:=⟨xs[k]'(by omega),by simp⟩
   obtain⟨c0,c1,c2,c3,c4⟩:=z8 k s gu;clear z8 qc;have K:Hid (Room wr w.1.size (n*5)/\aV wr w.1.size 0 (xs.take k)/\xs[k]?=some s/\Below w.1.size w wr):=⟨eB,lQ,gu,aD⟩
   clear eB lQ gu aD;go_wp2_with fail;refine(DJ _ s).mono ?_;rintro e w1 ⟨rfl,b1⟩;obtain⟨eB,lQ,gu,aD⟩:=K.out;have iG:=eB.below b1 dO;have qb:=lQ.below b1 dO;obtain⟨v0,d0,f0⟩:=iG (k*5) (by omega);obtain⟨v1,d1,f1⟩:=iG (k*5+1) (by omega);obtain⟨v2,d2,f2⟩:=iG (k*5+2) (by omega);obtain⟨v3,d3,f3⟩:=iG (k*5+3) (by omega);obtain⟨v4,d4,f4⟩:=iG (k*5+4) (by omega);clear eB lQ gu aD;have K2:Hid (Room w1 w.1.size (n*5)/\aV w1 w.1.size 0 (xs.take k)):=⟨iG,qb⟩
   clear iG qb;go_wp2;obtain⟨eB,lQ,gu,aD⟩:=K.out;obtain⟨iG,qb⟩:=K2.out;have IZ:=aD.trans (b1.mono (Nat.le_of_lt dO))
   refine⟨⟨k+1,by omega,by simp,((((IZ.setCell (p:=⟨w.1.size,k*5,none⟩) aU _).setCell (p:=⟨w.1.size,k*5+1,none⟩) aU _).setCell (p:=⟨w.1.size,k*5+2,none⟩) aU _).setCell (p:=⟨w.1.size,k*5+3,none⟩) aU _).setCell (p:=⟨w.1.size,k*5+4,none⟩) aU _,
    by have:=b1.size;simp[World.setCell];omega,((((iG.set _).set _).set _).set _).set _,qb.put gu iG (by omega)⟩,by simp[intOf];omega⟩
  ·have:k=n:=by omega
   subst this;have hd:decide (k<k)=false:=by simp
   go_wp2;go_ret;refine⟨rfl,aD,dO,?_,eB⟩;rw[<-hx,List.take_length]at lQ;exact lQ
theorem rZ(w:World)(a:OA)(n cap:Nat)(xs:List S5)(hn:n<=1048576)(hs:Sl w w.1.size a n xs):Calls prog 105 #[.slice a n cap] w fun e w'=>
  e=.returned (.slice (some ⟨w.1.size,0,none⟩) n n)/\Below w.1.size w w'/\w.1.size<w'.1.size/\aV w' w.1.size 0 xs/\Room w' w.1.size (n*5):=by
 obtain⟨h1,h2⟩:=hs;rcases h2 with rfl|⟨b,off,rfl,hb,hx⟩
 ·refine(r9 w a cap).mono ?_;rintro e w' ⟨rfl,h,h'⟩;exact⟨rfl,h,h',(fun i s e=>by rw[List.eq_nil_of_length_eq_zero h1]at e;simp at e),fun j hj=>by omega⟩
 ·exact qE w b off n cap xs h1 hn hb hx
theorem Bu(w:World)(a:OA)(n cap:Nat)(l:Nat)(hn:n<=maxLen)(hl:l<=1048576):Calls prog 90 #[.slice a n cap,vI (l:Int)] w fun e w'=>e=.returned (vI (gH l n))/\w'=w:=by
 unfold maxLen at hn;by_cases h:n<=l
 ·rw[cz h];have d0:decide ((l:Int)-(n:Int)<0)=false:=by simp;omega
  go_enter func90,ntmps90;go_wp2;go_ret;have e:((l-n:Nat):Int)=(l:Int)-(n:Int):=by omega
  exact⟨by rw[e];rfl,rfl⟩
 ·rw[bL h];have d0:decide ((l:Int)-(n:Int)<0)=true:=by simp;omega
  go_enter func90,ntmps90;go_wp2;go_ret;exact⟨rfl,rfl⟩
theorem aR.iA(h:aR w b o s)(d:Nat)(os:Array Obj):aR (grow (redrawn w d) os) b o s:=
 ⟨cell_regrown h.c0 d os,cell_regrown h.c1 d os,cell_regrown h.c2 d os,cell_regrown h.c3 d os,cell_regrown h.c4 d os⟩
theorem uj(w:World)(s:S5):Calls prog 177 #[.agg #[vI s.a,vI s.e,vI s.h,.bool s.j,vI s.i],.agg #[vI s.a,vI s.e,vI s.h,.bool s.j,vI s.i]] w fun e w'=>
  e=.returned (.bool true)/\Below w.1.size w w':=by
 obtain⟨r,l,v,u,x⟩:=s;go_enter func177,ntmps177;go_wp2;go_ret;exact⟨rfl,(aN.alloc aU _).alloc (by simp) _⟩
theorem rz(w:World)(b off cap b' bR aW n:Nat)(xs:List S5)(hx:xs.length=n)(hn:n<=maxLen)(h1:aV w b off xs)(hb:b<w.1.size)(h2:aV w b' bR xs)(gJ:b'<w.1.size):
  Calls prog 131 #[.slice (some ⟨b,off,none⟩) n cap,.slice (some ⟨b',bR,none⟩) n aW] w fun e w'=>e=.returned (.bool true)/\Below w.1.size w w':=by
 unfold maxLen at hn;go_enter func131,ntmps131;go_wp2;go_loopw[5] (fun i wr=>∃k:Nat,k<=n/\i=vI k/\Below w.1.size w wr) (fun i _=>n-(intOf i).toNat)
 case atStart=>exact⟨0,Nat.zero_le _,rfl,aN⟩
 case round=>
  obtain⟨k,hk,rfl,aD⟩:=hrel;by_cases aK:k<n
  ·obtain⟨s,gu⟩:∃s,xs[k]?=some s:=⟨xs[k]'(by omega),by simp⟩
   have t1:=(((h1 k s gu).below aD hb).iA)
   have t2:=(((h2 k s gu).below aD gJ).iA)
   have c0:=fun d os=>(t1 d os).c0
   have c1:=fun d os=>(t1 d os).c1
   have c2:=fun d os=>(t1 d os).c2
   have c3:=fun d os=>(t1 d os).c3
   have c4:=fun d os=>(t1 d os).c4
   have e0:=fun d os=>(t2 d os).c0
   have e1:=fun d os=>(t2 d os).c1
   have e2:=fun d os=>(t2 d os).c2
   have e3:=fun d os=>(t2 d os).c3
   have e4:=fun d os=>(t2 d os).c4
   have cQ:∀d os,Calls prog 177 #[.agg #[vI s.a,vI s.e,vI s.h,.bool s.j,vI s.i],.agg #[vI s.a,vI s.e,vI s.h,.bool s.j,vI s.i]] (grow (redrawn wr d) os) fun e eU=>e=.returned (.bool true)/\∃p:Regrown,eU=grow (redrawn wr p.d) p.os:=fun d os=>Calls.regrown_of (uj _ s)
   have K:Hid (Below w.1.size w wr):=aD;clear t1 t2 aD gu h1 h2;go_wp2_with fail;refine gP ?_;repeat (quiet_step (exact cQ _ _))
   refine iW fun dq aZ=>?_
   have bq:=below_regrown wr dq aZ;go_wp2;exact⟨⟨k+1,by omega,by simp,K.out.trans (bq.mono K.out.size)⟩,by simp[intOf];omega⟩
  ·have:k=n:=by omega
   subst this;have hd:decide (k<k)=false:=by simp
   go_wp2;go_ret;exact⟨rfl,aD⟩
theorem lH(w:World)(a a':OA)(cap aW:Nat):Calls prog 131 #[.slice a 0 cap,.slice a' 0 aW] w fun e w'=>e=.returned (.bool true)/\Below w.1.size w w':=by
 go_enter func131,ntmps131;go_wp2;go_loopw[5] (fun i wr=>i=vI 0/\Below w.1.size w wr) (fun _ _=>0)
 case atStart=>exact⟨rfl,aN⟩
 case round=>
  obtain⟨rfl,aD⟩:=hrel;go_wp2;go_ret;exact⟨rfl,aD⟩
theorem ui(w:World)(a a':OA)(n cap aW:Nat)(xs:List S5)(hn:n<=maxLen)(h1:Sl w w.1.size a n xs)(h2:Sl w w.1.size a' n xs):
  Calls prog 131 #[.slice a n cap,.slice a' n aW] w fun e w'=>e=.returned (.bool true)/\Below w.1.size w w':=by
 obtain⟨hx,h1⟩:=h1;obtain⟨_,h2⟩:=h2;rcases h1 with rfl|⟨b,off,rfl,hb,h1⟩
 ·exact lH w a a' cap aW
 ·rcases h2 with rfl|⟨b',bR,rfl,gJ,h2⟩
  ·exact lH w _ a' cap aW
  ·exact rz w b off cap b' bR aW n xs hx hn h1 hb h2 gJ
def mkSet(k:Int)(j:Nat):S5:=⟨k+5*(j:Int),k+5*(j:Int)+1,k+5*(j:Int)+1+1,(k+5*(j:Int)+1+1+1)%3==0,k+5*(j:Int)+1+1+1+1⟩
def fT(k:Int)(n:Nat):List S5:=(List.range n).map (mkSet k)
theorem pg{k:Int}{j:Nat}(h:j<n):(fT k n)[j]?=some (mkSet k j):=by simp[fT,h]
theorem iQ(k:Int)(n:Nat):(fT k n).length=n:=by simp[fT]
theorem uy(w:World)(b n cap:Nat)(k:Int)(hn:n<=1048576)(hk:0<=k)(oN:k<=1000000000)(hr:Room w b (n*5)):
  Calls prog 80 #[.slice (some ⟨b,0,none⟩) n cap,vI k] w fun e w'=>e=.returned (vI (k+5*(n:Int)))/\aQ b w w'/\aV w' b 0 (fT k n)/\Room w' b (n*5):=by
 go_enter func80,ntmps80;go_wp2;go_loopw[1,5] (fun v1 v5 wr=>∃j:Nat,j<=n/\v5=vI j/\v1=vI (k+5*(j:Int))/\aQ b w wr/\Room wr b (n*5)/\aV wr b 0 ((fT k n).take j)) (fun _ v5 _=>n-(intOf v5).toNat)
 case atStart=>exact⟨0,Nat.zero_le _,rfl,by simp,aQ.refl _ _,hr,fun i s e=>by simp at e⟩
 case round=>
  obtain⟨j,hj,rfl,rfl,kM,eB,uq⟩:=hrel;by_cases aK:j<n
  ·obtain⟨v0,d0,f0⟩:=eB (j*5) (by omega);obtain⟨v1,d1,f1⟩:=eB (j*5+1) (by omega);obtain⟨v2,d2,f2⟩:=eB (j*5+2) (by omega);obtain⟨v3,d3,f3⟩:=eB (j*5+3) (by omega);obtain⟨v4,d4,f4⟩:=eB (j*5+4) (by omega);have K:Hid (aQ b w wr/\Room wr b (n*5)/\aV wr b 0 ((fT k n).take j)):=⟨kM,eB,uq⟩
   clear kM eB uq hr;go_wp2;obtain⟨kM,eB,uq⟩:=K.out;refine⟨⟨j+1,by omega,by simp,by congr 1;push_cast;omega,((((kM.setCell _ _).setCell _ _).setCell _ _).setCell _ _).setCell _ _,((((eB.set _).set _).set _).set _).set _,uq.put (s:=mkSet k j) (pg aK) eB (by omega)⟩,by simp[intOf];omega⟩
  ·have:j=n:=by omega
   subst this;have hd:decide ((j:Int)<(j:Int))=false:=by simp
   rw[List.take_of_length_le (by rw[iQ];omega)]at uq;have K:Hid (aQ b w wr/\aV wr b 0 (fT k j)/\Room wr b (j*5)):=⟨kM,uq,eB⟩
   clear kM eB uq hr;go_wp2;go_ret;exact⟨rfl,K.out.1,K.out.2.1,K.out.2.2⟩
theorem Ez(w:World)(a:OA)(cap:Nat)(k:Int):Calls prog 80 #[.slice a 0 cap,vI k] w fun e w'=>e=.returned (vI k)/\w'=w:=by
 go_enter func80,ntmps80;go_wp2;go_loop[1,5] (fun v1 v5=>v1=vI k/\v5=vI 0) (fun _ _=>0)
 case atStart=>exact⟨rfl,rfl⟩
 case round=>
  obtain⟨rfl,rfl⟩:=hrel;go_wp2;go_ret;exact⟨rfl,rfl⟩
theorem uk(w:World)(a:OA)(n cap:Nat)(k:Int)(hn:n<=1048576)(hk:0<=k)(oN:k<=1000000000)(hs:Sl w w.1.size a n (fT k n)):
  Calls prog 85 #[.slice a n cap,vI k] w fun e w'=>e=.returned (vI (k+5*(n:Int)))/\w'=w:=by
 obtain⟨_,hs⟩:=hs;go_enter func85,ntmps85;go_wp2;go_loop[1,5] (fun v1 v5=>∃j:Nat,j<=n/\v5=vI j/\v1=vI (k+5*(j:Int))) (fun _ v5=>n-(intOf v5).toNat)
 case atStart=>exact⟨0,Nat.zero_le _,rfl,by simp⟩
 case round=>
  obtain⟨j,hj,rfl,rfl⟩:=hrel;by_cases aK:j<n
  ·rcases hs with hs|⟨b,off,rfl,hb,h1⟩
   ·omega
   ·obtain⟨c0,c1,c2,c3,c4⟩:=h1 j (mkSet k j) (pg aK);simp only[mkSet]at c0 c1 c2 c3 c4;clear h1;go_wp2;exact⟨⟨j+1,by omega,by simp,by congr 1;push_cast;omega⟩,by simp[intOf];omega⟩
  ·have:j=n:=by omega
   subst this;have hd:decide ((j:Int)<(j:Int))=false:=by simp
   clear hs;go_wp2;go_ret;exact⟨rfl,rfl⟩
end tx
namespace tx
open Go.Proofs.Tryz
variable {B b n o off:Nat}{w w':World}
structure N5 where
 a:Int
 e:Int
 i:Int
 h:Int
 j:Bool
theorem J3(w:World)(s:N5):Calls prog 140 #[.agg #[vI s.a,vI s.e,vI s.i,vI s.h,.bool s.j]] w fun e w'=>
  e=.returned (.agg #[vI s.a,vI s.e,vI s.i,vI s.h,.bool s.j])/\Below w.1.size w w':=by
 obtain⟨r,l,v,u,x⟩:=s;go_enter func140,ntmps140;go_wp2;refine bodyPost_ret (v:=.agg #[vI r,vI l,vI v,vI u,.bool x]) (by simp[results,results140,go_sem]) rfl ⟨rfl,?_⟩;exact((aN.alloc aU _).alloc (by simp) _).alloc (by simp;omega) _
structure aJ(w:World)(b o:Nat)(s:N5):Prop where
 c0:w.cell? ⟨b,o,none⟩=some (vI s.a)
 c1:w.cell? ⟨b,o+1,none⟩=some (vI s.e)
 c2:w.cell? ⟨b,o+2,none⟩=some (vI s.i)
 c3:w.cell? ⟨b,o+3,none⟩=some (vI s.h)
 c4:w.cell? ⟨b,o+4,none⟩=some (.bool s.j)
theorem aJ.below{s:N5}(h:aJ w b o s)(hb:Below B w w')(hB:b<B):aJ w' b o s:=
 ⟨by rw[hb.cell hB];exact h.c0,by rw[hb.cell hB];exact h.c1,by rw[hb.cell hB];exact h.c2,by rw[hb.cell hB];exact h.c3,by rw[hb.cell hB];exact h.c4⟩
def dm(w:World)(b off:Nat)(xs:List N5):Prop:=∀i s,xs[i]?=some s->aJ w b (off+i*5) s
theorem dm.below{xs:List N5}(h:dm w b off xs)(hb:Below B w w')(hB:b<B):dm w' b off xs:=fun i s e=>(h i s e).below hb hB
def jP(w:World)(B:Nat)(a:OA)(n:Nat)(xs:List N5):Prop:=xs.length=n/\(n=0\/∃b off,a=some ⟨b,off,none⟩/\b<B/\dm w b off xs)
theorem jP.below{w w':World}{B:Nat}{a:OA}{n:Nat}{xs:List N5}(h:jP w B a n xs)(hb:Below B w w'):jP w' B a n xs:=by
 obtain⟨h1,h2⟩:=h;refine⟨h1,?_⟩;rcases h2 with h2|⟨b,off,ha,hB,hx⟩
 ·exact .inl h2
 ·exact .inr ⟨b,off,ha,hB,hx.below hb hB⟩
theorem jP.mono{B':Nat}{a:OA}{xs:List N5}(h:jP w B a n xs)(hB:B<=B'):jP w B' a n xs:=by
 obtain⟨h1,h2⟩:=h;refine⟨h1,?_⟩;rcases h2 with h2|⟨b,off,ha,hb,hx⟩
 ·exact .inl h2
 ·exact .inr ⟨b,off,ha,by omega,hx⟩
theorem dm.dX{xs:List N5}(h:dm w b off xs){p:Addr}(hp:p.block≠b)(v:Value):dm (w.setCell p v) b off xs:=fun i s e=>
 ⟨by rw[aM hp];exact(h i s e).c0,by rw[aM hp];exact(h i s e).c1,by rw[aM hp];exact(h i s e).c2,by rw[aM hp];exact(h i s e).c3,by rw[aM hp];exact(h i s e).c4⟩
theorem aJ.set{p:Nat}{s:N5}(h:aJ w b o s)(hp:p<o\/o+5<=p)(v:Value):aJ (w.setCell ⟨b,p,none⟩ v) b o s:=
 ⟨by rw[ae (by omega)];exact h.c0,by rw[ae (by omega)];exact h.c1,by rw[ae (by omega)];exact h.c2,by rw[ae (by omega)];exact h.c3,by rw[ae (by omega)];exact h.c4⟩
theorem ME:(prog.info? 70).map (fun i=>(i.zero,i.size,i.bytes))=some (some (.agg #[vI 0,vI 0,vI 0,vI 0,.bool false]),5,40):=by kernel_rfl
theorem Ar(n:Nat)(hn:n<=1048576)(w:World):(Instr.makeSlice 50 (vI (n:Int)) (vI (n:Int))).run prog w=.ok (.slice (some ⟨w.1.size,0,none⟩) n n) (w.alloc (.cells (madeCells #[vI 0,vI 0,vI 0,vI 0,.bool false] (n*5)) 70)):=by
 obtain⟨i,hi,oH⟩:=Option.map_eq_some_iff.1 ME;simp only[Prod.mk.injEq]at oH;obtain⟨hz,hs,hb⟩:=oH;have:=run_make (P:=prog) w 50 70 i _ underlying50 hi hz .i64 .i64 (n:Int) (n:Int) (by omega) (by omega) (by rw[hb];omega) (by omega);rw[hs]at this;simpa[Value.cells]using this
theorem aJ.put{v0 v1 v2 v3 v4:Value}(s:N5)(h0:w.cell? ⟨b,o,none⟩=some v0)(h1:w.cell? ⟨b,o+1,none⟩=some v1)(h2:w.cell? ⟨b,o+2,none⟩=some v2)(h3:w.cell? ⟨b,o+3,none⟩=some v3)(h4:w.cell? ⟨b,o+4,none⟩=some v4):
  aJ (((((w.setCell ⟨b,o,none⟩ (vI s.a)).setCell ⟨b,o+1,none⟩ (vI s.e)).setCell ⟨b,o+2,none⟩ (vI s.i)).setCell ⟨b,o+3,none⟩ (vI s.h)).setCell ⟨b,o+4,none⟩ (.bool s.j)) b o s:=by
 refine⟨?_,?_,?_,?_,?_⟩
 ·rw[ae (by omega),ae (by omega),ae (by omega),ae (by omega)];exact ax h0
 ·rw[ae (by omega),ae (by omega),ae (by omega)];exact ax (by rw[ae (by omega)];exact h1)
 ·rw[ae (by omega),ae (by omega)];exact ax (by rw[ae (by omega),ae (by omega)];exact h2)
 ·rw[ae (by omega)];exact ax (by rw[ae (by omega),ae (by omega),ae (by omega)];exact h3)
 ·exact ax (by rw[ae (by omega),ae (by omega),ae (by omega),ae (by omega)];exact h4)
theorem dm.put{w:World}{b k:Nat}{xs:List N5}{s:N5}(h:dm w b 0 (xs.take k))(hs:xs[k]?=some s){m:Nat}(hr:Room w b m)(hm:k*5+5<=m):
  dm (((((w.setCell ⟨b,k*5,none⟩ (vI s.a)).setCell ⟨b,k*5+1,none⟩ (vI s.e)).setCell ⟨b,k*5+2,none⟩ (vI s.i)).setCell ⟨b,k*5+3,none⟩ (vI s.h)).setCell ⟨b,k*5+4,none⟩ (.bool s.j)) b 0 (xs.take (k+1)):=by
 intro i t e;rw[List.getElem?_take]at e;split at e
 ·rename_i hi;by_cases I6:i=k
  ·subst I6;rw[hs]at e;obtain rfl:=Option.some.inj e;obtain⟨v0,d0,_⟩:=hr (i*5) (by omega);obtain⟨v1,d1,_⟩:=hr (i*5+1) (by omega);obtain⟨v2,d2,_⟩:=hr (i*5+2) (by omega);obtain⟨v3,d3,_⟩:=hr (i*5+3) (by omega);obtain⟨v4,d4,_⟩:=hr (i*5+4) (by omega);simpa using aJ.put s d0 d1 d2 d3 d4
  ·have:=h i t (by rw[List.getElem?_take,if_pos (by omega)];exact e);exact((((this.set (by omega) _).set (by omega) _).set (by omega) _).set (by omega) _).set (by omega) _
 ·cases e
theorem dm.aj{xs:List N5}(h:dm w b off xs)(e:w'.1[b]?=w.1[b]?):dm w' b off xs:=fun i s hs=>by
 obtain⟨c0,c1,c2,c3,c4⟩:=h i s hs;exact⟨(World.cell?_of_block (a:=⟨b,_,none⟩) e).trans c0,(World.cell?_of_block (a:=⟨b,_,none⟩) e).trans c1,(World.cell?_of_block (a:=⟨b,_,none⟩) e).trans c2,(World.cell?_of_block (a:=⟨b,_,none⟩) e).trans c3,(World.cell?_of_block (a:=⟨b,_,none⟩) e).trans c4⟩
theorem EX(w:World)(a:OA)(cap:Nat):Calls prog 104 #[.slice a 0 cap] w fun e w'=>
  e=.returned (.slice (some ⟨w.1.size,0,none⟩) 0 0)/\Below w.1.size w w'/\w.1.size<w'.1.size:=by
 have qc:∀w:World,(Instr.makeSlice 50 (vI 0) (vI 0)).run prog w=.ok (.slice (some ⟨w.1.size,0,none⟩) 0 0) (w.alloc (.cells (madeCells #[vI 0,vI 0,vI 0,vI 0,.bool false] 0) 70)):=fun w=>by simpa using Ar 0 (by omega) w
 go_enter func104,ntmps104;go_wp2;go_loopw[4] (fun i wr=>i=vI 0/\Below w.1.size w wr/\w.1.size<wr.1.size) (fun _ _=>0)
 case atStart=>exact⟨rfl,aN.alloc aU _,by simp⟩
 case round=>
  obtain⟨rfl,aD,dO⟩:=hrel;go_wp2;go_ret;exact⟨rfl,aD,dO⟩
theorem CU(w:World)(b off n cap:Nat)(xs:List N5)(hx:xs.length=n)(hn:n<=1048576)(hb:b<w.1.size)(hs:dm w b off xs):Calls prog 104 #[.slice (some ⟨b,off,none⟩) n cap] w fun e w'=>
  e=.returned (.slice (some ⟨w.1.size,0,none⟩) n n)/\Below w.1.size w w'/\w.1.size<w'.1.size/\dm w' w.1.size 0 xs/\Room w' w.1.size (n*5):=by
 have qc:=Ar n hn;go_enter func104,ntmps104;go_wp2
 go_loopw[4] (fun i wr=>∃k:Nat,k<=n/\i=vI k/\Below w.1.size w wr/\w.1.size<wr.1.size/\Room wr w.1.size (n*5)/\dm wr w.1.size 0 (xs.take k))
   (fun i _=>n-(intOf i).toNat)
 case atStart=>exact⟨0,Nat.zero_le _,rfl,aN.alloc aU _,by simp,iE _ _ _ _,fun i s e=>by simp at e⟩
 case round=>
  obtain⟨k,hk,rfl,aD,dO,eB,lQ⟩:=hrel;by_cases aK:k<n
  ·have z8:=hs.below aD hb;obtain⟨s,gu⟩:∃s,xs[k]?=some s:=⟨xs[k]'(by omega),by simp⟩
   obtain⟨c0,c1,c2,c3,c4⟩:=z8 k s gu;clear z8 qc;have K:Hid (Room wr w.1.size (n*5)/\dm wr w.1.size 0 (xs.take k)/\xs[k]?=some s/\Below w.1.size w wr):=⟨eB,lQ,gu,aD⟩
   clear eB lQ gu aD;go_wp2_with fail;refine(J3 _ s).mono ?_;rintro e w1 ⟨rfl,b1⟩;obtain⟨eB,lQ,gu,aD⟩:=K.out;have iG:=eB.below b1 dO;have qb:=lQ.below b1 dO;obtain⟨v0,d0,f0⟩:=iG (k*5) (by omega);obtain⟨v1,d1,f1⟩:=iG (k*5+1) (by omega);obtain⟨v2,d2,f2⟩:=iG (k*5+2) (by omega);obtain⟨v3,d3,f3⟩:=iG (k*5+3) (by omega);obtain⟨v4,d4,f4⟩:=iG (k*5+4) (by omega);clear eB lQ gu aD;have K2:Hid (Room w1 w.1.size (n*5)/\dm w1 w.1.size 0 (xs.take k)):=⟨iG,qb⟩
   clear iG qb;go_wp2;obtain⟨eB,lQ,gu,aD⟩:=K.out;obtain⟨iG,qb⟩:=K2.out;have IZ:=aD.trans (b1.mono (Nat.le_of_lt dO))
   refine⟨⟨k+1,by omega,by simp,((((IZ.setCell (p:=⟨w.1.size,k*5,none⟩) aU _).setCell (p:=⟨w.1.size,k*5+1,none⟩) aU _).setCell (p:=⟨w.1.size,k*5+2,none⟩) aU _).setCell (p:=⟨w.1.size,k*5+3,none⟩) aU _).setCell (p:=⟨w.1.size,k*5+4,none⟩) aU _,
    by have:=b1.size;simp[World.setCell];omega,((((iG.set _).set _).set _).set _).set _,qb.put gu iG (by omega)⟩,by simp[intOf];omega⟩
  ·have:k=n:=by omega
   subst this;have hd:decide (k<k)=false:=by simp
   go_wp2;go_ret;refine⟨rfl,aD,dO,?_,eB⟩;rw[<-hx,List.take_length]at lQ;exact lQ
theorem EW(w:World)(a:OA)(n cap:Nat)(xs:List N5)(hn:n<=1048576)(hs:jP w w.1.size a n xs):Calls prog 104 #[.slice a n cap] w fun e w'=>
  e=.returned (.slice (some ⟨w.1.size,0,none⟩) n n)/\Below w.1.size w w'/\w.1.size<w'.1.size/\dm w' w.1.size 0 xs/\Room w' w.1.size (n*5):=by
 obtain⟨h1,h2⟩:=hs;rcases h2 with rfl|⟨b,off,rfl,hb,hx⟩
 ·refine(EX w a cap).mono ?_;rintro e w' ⟨rfl,h,h'⟩;exact⟨rfl,h,h',(fun i s e=>by rw[List.eq_nil_of_length_eq_zero h1]at e;simp at e),fun j hj=>by omega⟩
 ·exact CU w b off n cap xs h1 hn hb hx
theorem Ni(w:World)(a:OA)(n cap:Nat)(l:Nat)(hn:n<=maxLen)(hl:l<=1048576):Calls prog 89 #[.slice a n cap,vI (l:Int)] w fun e w'=>e=.returned (vI (gH l n))/\w'=w:=by
 unfold maxLen at hn;by_cases h:n<=l
 ·rw[cz h];have d0:decide ((l:Int)-(n:Int)<0)=false:=by simp;omega
  go_enter func89,ntmps89;go_wp2;go_ret;have e:((l-n:Nat):Int)=(l:Int)-(n:Int):=by omega
  exact⟨by rw[e];rfl,rfl⟩
 ·rw[bL h];have d0:decide ((l:Int)-(n:Int)<0)=true:=by simp;omega
  go_enter func89,ntmps89;go_wp2;go_ret;exact⟨rfl,rfl⟩
theorem aJ.iA{s:N5}(h:aJ w b o s)(d:Nat)(os:Array Obj):aJ (grow (redrawn w d) os) b o s:=
 ⟨cell_regrown h.c0 d os,cell_regrown h.c1 d os,cell_regrown h.c2 d os,cell_regrown h.c3 d os,cell_regrown h.c4 d os⟩
theorem FR(w:World)(s:N5):Calls prog 176 #[.agg #[vI s.a,vI s.e,vI s.i,vI s.h,.bool s.j],.agg #[vI s.a,vI s.e,vI s.i,vI s.h,.bool s.j]] w fun e w'=>
  e=.returned (.bool true)/\Below w.1.size w w':=by
 obtain⟨r,l,v,u,x⟩:=s;go_enter func176,ntmps176;go_wp2;go_ret;exact⟨rfl,(aN.alloc aU _).alloc (by simp) _⟩
theorem Ed(w:World)(b off cap b' bR aW n:Nat)(xs:List N5)(hx:xs.length=n)(hn:n<=maxLen)(h1:dm w b off xs)(hb:b<w.1.size)(h2:dm w b' bR xs)(gJ:b'<w.1.size):
  Calls prog 130 #[.slice (some ⟨b,off,none⟩) n cap,.slice (some ⟨b',bR,none⟩) n aW] w fun e w'=>e=.returned (.bool true)/\Below w.1.size w w':=by
 unfold maxLen at hn;go_enter func130,ntmps130;go_wp2;go_loopw[5] (fun i wr=>∃k:Nat,k<=n/\i=vI k/\Below w.1.size w wr) (fun i _=>n-(intOf i).toNat)
 case atStart=>exact⟨0,Nat.zero_le _,rfl,aN⟩
 case round=>
  obtain⟨k,hk,rfl,aD⟩:=hrel;by_cases aK:k<n
  ·obtain⟨s,gu⟩:∃s,xs[k]?=some s:=⟨xs[k]'(by omega),by simp⟩
   have t1:=(((h1 k s gu).below aD hb).iA)
   have t2:=(((h2 k s gu).below aD gJ).iA)
   have c0:=fun d os=>(t1 d os).c0
   have c1:=fun d os=>(t1 d os).c1
   have c2:=fun d os=>(t1 d os).c2
   have c3:=fun d os=>(t1 d os).c3
   have c4:=fun d os=>(t1 d os).c4
   have e0:=fun d os=>(t2 d os).c0
   have e1:=fun d os=>(t2 d os).c1
   have e2:=fun d os=>(t2 d os).c2
   have e3:=fun d os=>(t2 d os).c3
   have e4:=fun d os=>(t2 d os).c4
   have cQ:∀d os,Calls prog 176 #[.agg #[vI s.a,vI s.e,vI s.i,vI s.h,.bool s.j],.agg #[vI s.a,vI s.e,vI s.i,vI s.h,.bool s.j]] (grow (redrawn wr d) os) fun e eU=>e=.returned (.bool true)/\∃p:Regrown,eU=grow (redrawn wr p.d) p.os:=fun d os=>Calls.regrown_of (FR _ s)
   have K:Hid (Below w.1.size w wr):=aD;clear t1 t2 aD gu h1 h2;go_wp2_with fail;refine gP ?_;repeat (quiet_step (exact cQ _ _))
   refine iW fun dq aZ=>?_
   have bq:=below_regrown wr dq aZ;go_wp2;exact⟨⟨k+1,by omega,by simp,K.out.trans (bq.mono K.out.size)⟩,by simp[intOf];omega⟩
  ·have:k=n:=by omega
   subst this;have hd:decide (k<k)=false:=by simp
   go_wp2;go_ret;exact⟨rfl,aD⟩
theorem uX(w:World)(a a':OA)(cap aW:Nat):Calls prog 130 #[.slice a 0 cap,.slice a' 0 aW] w fun e w'=>e=.returned (.bool true)/\Below w.1.size w w':=by
 go_enter func130,ntmps130;go_wp2;go_loopw[5] (fun i wr=>i=vI 0/\Below w.1.size w wr) (fun _ _=>0)
 case atStart=>exact⟨rfl,aN⟩
 case round=>
  obtain⟨rfl,aD⟩:=hrel;go_wp2;go_ret;exact⟨rfl,aD⟩
theorem FQ(w:World)(a a':OA)(n cap aW:Nat)(xs:List N5)(hn:n<=maxLen)(h1:jP w w.1.size a n xs)(h2:jP w w.1.size a' n xs):
  Calls prog 130 #[.slice a n cap,.slice a' n aW] w fun e w'=>e=.returned (.bool true)/\Below w.1.size w w':=by
 obtain⟨hx,h1⟩:=h1;obtain⟨_,h2⟩:=h2;rcases h1 with rfl|⟨b,off,rfl,hb,h1⟩
 ·exact uX w a a' cap aW
 ·rcases h2 with rfl|⟨b',bR,rfl,gJ,h2⟩
  ·exact uX w _ a' cap aW
  ·exact Ed w b off cap b' bR aW n xs hx hn h1 hb h2 gJ
def AQ(k:Int)(j:Nat):N5:=⟨k+5*(j:Int),k+5*(j:Int)+1,k+5*(j:Int)+1+1,k+5*(j:Int)+1+1+1,(k+5*(j:Int)+1+1+1+1)%3==0⟩
def jl(k:Int)(n:Nat):List N5:=(List.range n).map (AQ k)
theorem AR{k:Int}{j:Nat}(h:j<n):(jl k n)[j]?=some (AQ k j):=by simp[jl,h]
theorem nU(k:Int)(n:Nat):(jl k n).length=n:=by simp[jl]
theorem Gy(w:World)(b n cap:Nat)(k:Int)(hn:n<=1048576)(hk:0<=k)(oN:k<=1000000000)(hr:Room w b (n*5)):
  Calls prog 79 #[.slice (some ⟨b,0,none⟩) n cap,vI k] w fun e w'=>e=.returned (vI (k+5*(n:Int)))/\aQ b w w'/\dm w' b 0 (jl k n)/\Room w' b (n*5):=by
 go_enter func79,ntmps79;go_wp2;go_loopw[1,5] (fun v1 v5 wr=>∃j:Nat,j<=n/\v5=vI j/\v1=vI (k+5*(j:Int))/\aQ b w wr/\Room wr b (n*5)/\dm wr b 0 ((jl k n).take j)) (fun _ v5 _=>n-(intOf v5).toNat)
 case atStart=>exact⟨0,Nat.zero_le _,rfl,by simp,aQ.refl _ _,hr,fun i s e=>by simp at e⟩
 case round=>
  obtain⟨j,hj,rfl,rfl,kM,eB,uq⟩:=hrel;by_cases aK:j<n
  ·obtain⟨v0,d0,f0⟩:=eB (j*5) (by omega);obtain⟨v1,d1,f1⟩:=eB (j*5+1) (by omega);obtain⟨v2,d2,f2⟩:=eB (j*5+2) (by omega);obtain⟨v3,d3,f3⟩:=eB (j*5+3) (by omega);obtain⟨v4,d4,f4⟩:=eB (j*5+4) (by omega);have K:Hid (aQ b w wr/\Room wr b (n*5)/\dm wr b 0 ((jl k n).take j)):=⟨kM,eB,uq⟩
   clear kM eB uq hr;go_wp2;obtain⟨kM,eB,uq⟩:=K.out;refine⟨⟨j+1,by omega,by simp,by congr 1;push_cast;omega,((((kM.setCell _ _).setCell _ _).setCell _ _).setCell _ _).setCell _ _,((((eB.set _).set _).set _).set _).set _,uq.put (s:=AQ k j) (AR aK) eB (by omega)⟩,by simp[intOf];omega⟩
  ·have:j=n:=by omega
   subst this;have hd:decide ((j:Int)<(j:Int))=false:=by simp
   rw[List.take_of_length_le (by rw[nU];omega)]at uq;have K:Hid (aQ b w wr/\dm wr b 0 (jl k j)/\Room wr b (j*5)):=⟨kM,uq,eB⟩
   clear kM eB uq hr;go_wp2;go_ret;exact⟨rfl,K.out.1,K.out.2.1,K.out.2.2⟩
theorem Cy(w:World)(a:OA)(cap:Nat)(k:Int):Calls prog 79 #[.slice a 0 cap,vI k] w fun e w'=>e=.returned (vI k)/\w'=w:=by
 go_enter func79,ntmps79;go_wp2;go_loop[1,5] (fun v1 v5=>v1=vI k/\v5=vI 0) (fun _ _=>0)
 case atStart=>exact⟨rfl,rfl⟩
 case round=>
  obtain⟨rfl,rfl⟩:=hrel;go_wp2;go_ret;exact⟨rfl,rfl⟩
theorem F8(w:World)(a:OA)(n cap:Nat)(k:Int)(hn:n<=1048576)(hk:0<=k)(oN:k<=1000000000)(hs:jP w w.1.size a n (jl k n)):
  Calls prog 84 #[.slice a n cap,vI k] w fun e w'=>e=.returned (vI (k+5*(n:Int)))/\w'=w:=by
 obtain⟨_,hs⟩:=hs;go_enter func84,ntmps84;go_wp2;go_loop[1,5] (fun v1 v5=>∃j:Nat,j<=n/\v5=vI j/\v1=vI (k+5*(j:Int))) (fun _ v5=>n-(intOf v5).toNat)
 case atStart=>exact⟨0,Nat.zero_le _,rfl,by simp⟩
 case round=>
  obtain⟨j,hj,rfl,rfl⟩:=hrel;by_cases aK:j<n
  ·rcases hs with hs|⟨b,off,rfl,hb,h1⟩
   ·omega
   ·obtain⟨c0,c1,c2,c3,c4⟩:=h1 j (AQ k j) (AR aK);simp only[AQ]at c0 c1 c2 c3 c4;clear h1;go_wp2;exact⟨⟨j+1,by omega,by simp,by congr 1;push_cast;omega⟩,by simp[intOf];omega⟩
  ·have:j=n:=by omega
   subst this;have hd:decide ((j:Int)<(j:Int))=false:=by simp
   clear hs;go_wp2;go_ret;exact⟨rfl,rfl⟩
end tx
namespace tx
open Go.Proofs.Tryz
variable {B B' n s:Nat}{P PR PS:Nat->Prop}{X Y w w':World}{a:OA}{xs:List S5}
structure T7 where
 id:Int
 l:Int
 o:Int
 u:Int
 b:List N5
 ag:List S5
 az:Int
abbrev nO(a:Option Addr)(c:Nat)(b:Option Addr)(d:Nat)(t:T7):List Value:=[vI t.id,vI t.l,vI t.o,vI t.u,.slice a t.b.length c,.slice b t.ag.length d,vI t.az]
structure TV where
 ar:OA
 cr:Nat
 ah:OA
 ch:Nat
def TV.val(v:TV)(t:T7):Value:=.agg #[vI t.id,vI t.l,vI t.o,vI t.u,.slice v.ar t.b.length v.cr,.slice v.ah t.ag.length v.ch,vI t.az]
theorem Sl.later(h:Sl w w.1.size a n xs)(hb:Below w.1.size w w'):Sl w' w'.1.size a n xs:=(h.below hb).mono hb.size
theorem jP.later{xs:List N5}(h:jP w w.1.size a n xs)(hb:Below w.1.size w w'):jP w' w'.1.size a n xs:=(h.below hb).mono hb.size
structure kR(w:World)(v:TV)(t:T7):Prop where
 r:jP w w.1.size v.ar t.b.length t.b
 s:Sl w w.1.size v.ah t.ag.length t.ag
theorem kR.later{v:TV}{t:T7}(h:kR w v t)(hb:Below w.1.size w w'):kR w' v t:=⟨h.r.later hb,h.s.later hb⟩
structure TL(t:T7):Prop where
 r:t.b.length<=maxLen
 s:t.ag.length<=maxLen
def qG(w:World)(P:Nat->Prop)(a:OA)(xs:List N5):Prop:=xs=[]\/∃b,a=some ⟨b,0,none⟩/\P b/\b<w.1.size/\dm w b 0 xs/\Room w b (xs.length*5)
def mP(w:World)(P:Nat->Prop)(a:OA)(xs:List S5):Prop:=xs=[]\/∃b,a=some ⟨b,0,none⟩/\P b/\b<w.1.size/\aV w b 0 xs/\Room w b (xs.length*5)
theorem qG.aL{xs:List N5}(h:qG w P a xs)(hs:w.1.size<=w'.1.size)(hk:∀q,q<w.1.size->P q->w'.1[q]?=w.1[q]?):qG w' P a xs:=by
 rcases h with h|⟨b,ha,hp,hl,hn,hr⟩
 ·exact .inl h
 ·exact .inr ⟨b,ha,hp,Nat.lt_of_lt_of_le hl hs,hn.aj (hk b hl hp),hr.aj (hk b hl hp)⟩
theorem mP.aL(h:mP w P a xs)(hs:w.1.size<=w'.1.size)(hk:∀q,q<w.1.size->P q->w'.1[q]?=w.1[q]?):mP w' P a xs:=by
 rcases h with h|⟨b,ha,hp,hl,hn,hr⟩
 ·exact .inl h
 ·exact .inr ⟨b,ha,hp,Nat.lt_of_lt_of_le hl hs,hn.aj (hk b hl hp),hr.aj (hk b hl hp)⟩
theorem qG.sl{xs:List N5}(h:qG w P a xs):jP w w.1.size a xs.length xs:=by
 rcases h with e|⟨b,ha,_,hl,hn,_⟩
 ·exact⟨rfl,.inl (by rw[e];rfl)⟩
 ·exact⟨rfl,.inr ⟨b,0,ha,hl,hn⟩⟩
theorem mP.sl(h:mP w P a xs):Sl w w.1.size a xs.length xs:=by
 rcases h with e|⟨b,ha,_,hl,hn,_⟩
 ·exact⟨rfl,.inl (by rw[e];rfl)⟩
 ·exact⟨rfl,.inr ⟨b,0,ha,hl,hn⟩⟩
structure OT(w:World)(B:Nat)(v:TV)(t:T7)(PR PS:Nat->Prop):Prop where
 r:qG w PR v.ar t.b
 s:mP w PS v.ah t.ag
 rs:∀q,PR q->¬PS q
 rB:∀q,PR q->B<=q/\q<w.1.size
 sB:∀q,PS q->B<=q/\q<w.1.size
def nC(PR PS:Nat->Prop)(q:Nat):Prop:=PR q\/PS q
theorem OT.of{v:TV}{t:T7}(h:OT w B v t PR PS){q:Nat}(hq:nC PR PS q):B<=q/\q<w.1.size:=hq.elim (h.rB q) (h.sB q)
theorem OT.sl{v:TV}{t:T7}(h:OT w B v t PR PS):kR w v t:=⟨h.r.sl,h.s.sl⟩
theorem OT.aL{w w':World}{B:Nat}{v:TV}{t:T7}{PR PS:Nat->Prop}(h:OT w B v t PR PS)(hs:w.1.size<=w'.1.size)(hk:∀q,q<w.1.size->nC PR PS q->w'.1[q]?=w.1[q]?):OT w' B v t PR PS:=
 ⟨h.r.aL hs (fun q hq hp=>hk q hq (.inl hp)),h.s.aL hs (fun q hq hp=>hk q hq (.inr hp)),h.rs,fun q hq=>⟨(h.rB q hq).1,Nat.lt_of_lt_of_le (h.rB q hq).2 hs⟩,fun q hq=>⟨(h.sB q hq).1,Nat.lt_of_lt_of_le (h.sB q hq).2 hs⟩⟩
theorem OT.later{v:TV}{t:T7}(h:OT w B v t PR PS)(hb:Below w.1.size w w'):OT w' B v t PR PS:=h.aL hb.size (fun q hq _=>hb.block q hq)
theorem OT.mono{v:TV}{t:T7}(h:OT w B v t PR PS)(hb:B'<=B):OT w B' v t PR PS:=⟨h.r,h.s,h.rs,fun q hq=>⟨Nat.le_trans hb (h.rB q hq).1,(h.rB q hq).2⟩,fun q hq=>⟨Nat.le_trans hb (h.sB q hq).1,(h.sB q hq).2⟩⟩
theorem OT.low{v:TV}{t:T7}(h:OT w B v t PR PS)(hb:∀q,nC PR PS q->B'<=q):OT w B' v t PR PS:=⟨h.r,h.s,h.rs,fun q hq=>⟨hb q (.inl hq),(h.rB q hq).2⟩,fun q hq=>⟨hb q (.inr hq),(h.sB q hq).2⟩⟩
structure BT(X:World)(s:Nat)(v:TV)(t:T7):Prop where
 c0:X.cell? ⟨s,0,none⟩=some (vI t.id)
 c1:X.cell? ⟨s,1,none⟩=some (vI t.l)
 c2:X.cell? ⟨s,2,none⟩=some (vI t.o)
 c3:X.cell? ⟨s,3,none⟩=some (vI t.u)
 c4:X.cell? ⟨s,4,none⟩=some (.slice v.ar t.b.length v.cr)
 c5:X.cell? ⟨s,5,none⟩=some (.slice v.ah t.ag.length v.ch)
 c6:X.cell? ⟨s,6,none⟩=some (vI t.az)
 fz:∀j,X.frozen? ⟨s,j,none⟩=false
 lt:s<X.1.size
theorem BT.aj{v:TV}{t:T7}(h:BT X s v t)(hb:Y.1[s]?=X.1[s]?)(hs:X.1.size<=Y.1.size):BT Y s v t:=by
 have c:∀{j:Nat}{u:Value},X.cell? ⟨s,j,none⟩=some u->Y.cell? ⟨s,j,none⟩=some u:=fun {j u} h=>(World.cell?_of_block (a:=⟨s,j,none⟩) hb).trans h
 exact⟨c h.c0,c h.c1,c h.c2,c h.c3,c h.c4,c h.c5,c h.c6,fun j=>(World.frozen?_of_block (a:=⟨s,j,none⟩) hb).trans (h.fz j),Nat.lt_of_lt_of_le h.lt hs⟩
theorem BT.later{v:TV}{t:T7}(h:BT X s v t)(hb:Below X.1.size X Y):BT Y s v t:=h.aj (hb.block _ h.lt) hb.size
theorem BT.box(X:World)(v:TV)(t:T7)(T:TypeId):BT (X.alloc (.cells #[vI t.id,vI t.l,vI t.o,vI t.u,.slice v.ar t.b.length v.cr,.slice v.ah t.ag.length v.ch,vI t.az] T)) X.1.size v t:=by
 refine⟨by go_simp,by go_simp,by go_simp,by go_simp,by go_simp,by go_simp,by go_simp,fun j=>by go_simp,by simp⟩
theorem BT.zero(X:World)(T:TypeId):BT (X.alloc (.cells #[vI 0,vI 0,vI 0,vI 0,.slice none 0 0,.slice none 0 0,vI 0] T)) X.1.size ⟨none,0,none,0⟩ ⟨0,0,0,0,[],[],0⟩:=BT.box X ⟨none,0,none,0⟩ ⟨0,0,0,0,[],[],0⟩ T
def uJ(t:T7):Nat:=t.b.length+t.ag.length
end tx
namespace tx
open Go.Proofs.Tryz
variable {X:World}{s:Nat}{t:T7}{v:TV}
theorem BT.dX(h:BT X s v t){p:Addr}(hp:p.block≠s)(u:Value):BT (X.setCell p u) s v t:=h.aj (Below.heap_setCell _ _ _ _ (fun e=>hp e.symm)) (by simp[World.setCell])
theorem BT.set0(h:BT X s v t)(z:Int):BT (X.setCell ⟨s,0,none⟩ (vI z)) s v ⟨z,t.l,t.o,t.u,t.b,t.ag,t.az⟩:=⟨ax h.c0,(ae (by omega)).trans h.c1,(ae (by omega)).trans h.c2,(ae (by omega)).trans h.c3,(ae (by omega)).trans h.c4,(ae (by omega)).trans h.c5,(ae (by omega)).trans h.c6,fun j=>by rw[World.frozen?_setCell];exact h.fz j,by simpa[World.setCell]using h.lt⟩
theorem BT.set1(h:BT X s v t)(z:Int):BT (X.setCell ⟨s,1,none⟩ (vI z)) s v ⟨t.id,z,t.o,t.u,t.b,t.ag,t.az⟩:=⟨(ae (by omega)).trans h.c0,ax h.c1,(ae (by omega)).trans h.c2,(ae (by omega)).trans h.c3,(ae (by omega)).trans h.c4,(ae (by omega)).trans h.c5,(ae (by omega)).trans h.c6,fun j=>by rw[World.frozen?_setCell];exact h.fz j,by simpa[World.setCell]using h.lt⟩
theorem BT.set2(h:BT X s v t)(z:Int):BT (X.setCell ⟨s,2,none⟩ (vI z)) s v ⟨t.id,t.l,z,t.u,t.b,t.ag,t.az⟩:=⟨(ae (by omega)).trans h.c0,(ae (by omega)).trans h.c1,ax h.c2,(ae (by omega)).trans h.c3,(ae (by omega)).trans h.c4,(ae (by omega)).trans h.c5,(ae (by omega)).trans h.c6,fun j=>by rw[World.frozen?_setCell];exact h.fz j,by simpa[World.setCell]using h.lt⟩
theorem BT.ga(h:BT X s v t)(z:Int):BT (X.setCell ⟨s,3,none⟩ (vI z)) s v ⟨t.id,t.l,t.o,z,t.b,t.ag,t.az⟩:=⟨(ae (by omega)).trans h.c0,(ae (by omega)).trans h.c1,(ae (by omega)).trans h.c2,ax h.c3,(ae (by omega)).trans h.c4,(ae (by omega)).trans h.c5,(ae (by omega)).trans h.c6,fun j=>by rw[World.frozen?_setCell];exact h.fz j,by simpa[World.setCell]using h.lt⟩
theorem BT.JS(h:BT X s v t)(a:OA)(c:Nat)(xs:List N5):BT (X.setCell ⟨s,4,none⟩ (.slice a xs.length c)) s ⟨a,c,v.ah,v.ch⟩ ⟨t.id,t.l,t.o,t.u,xs,t.ag,t.az⟩:=⟨(ae (by omega)).trans h.c0,(ae (by omega)).trans h.c1,(ae (by omega)).trans h.c2,(ae (by omega)).trans h.c3,ax h.c4,(ae (by omega)).trans h.c5,(ae (by omega)).trans h.c6,fun j=>by rw[World.frozen?_setCell];exact h.fz j,by simpa[World.setCell]using h.lt⟩
theorem BT.Bl(h:BT X s v t)(a:OA)(c:Nat)(xs:List S5):BT (X.setCell ⟨s,5,none⟩ (.slice a xs.length c)) s ⟨v.ar,v.cr,a,c⟩ ⟨t.id,t.l,t.o,t.u,t.b,xs,t.az⟩:=⟨(ae (by omega)).trans h.c0,(ae (by omega)).trans h.c1,(ae (by omega)).trans h.c2,(ae (by omega)).trans h.c3,(ae (by omega)).trans h.c4,ax h.c5,(ae (by omega)).trans h.c6,fun j=>by rw[World.frozen?_setCell];exact h.fz j,by simpa[World.setCell]using h.lt⟩
theorem BT.Y6(h:BT X s v t)(z:Int):BT (X.setCell ⟨s,6,none⟩ (vI z)) s v ⟨t.id,t.l,t.o,t.u,t.b,t.ag,z⟩:=⟨(ae (by omega)).trans h.c0,(ae (by omega)).trans h.c1,(ae (by omega)).trans h.c2,(ae (by omega)).trans h.c3,(ae (by omega)).trans h.c4,(ae (by omega)).trans h.c5,ax h.c6,fun j=>by rw[World.frozen?_setCell];exact h.fz j,by simpa[World.setCell]using h.lt⟩
def iw(X:World)(s:Nat)(v:TV)(t:T7):World:=((((((X.setCell ⟨s,0,none⟩ (vI t.id)).setCell ⟨s,1,none⟩ (vI t.l)).setCell ⟨s,2,none⟩ (vI t.o)).setCell ⟨s,3,none⟩ (vI t.u)).setCell ⟨s,4,none⟩ (.slice v.ar t.b.length v.cr)).setCell ⟨s,5,none⟩ (.slice v.ah t.ag.length v.ch)).setCell ⟨s,6,none⟩ (vI t.az)
theorem BT.put{v0:TV}{t0:T7}(h:BT X s v0 t0)(v:TV)(t:T7):BT (iw X s v t) s v t:=((((((h.set0 t.id).set1 t.l).set2 t.o).ga t.u).JS v.ar v.cr t.b).Bl v.ah v.ch t.ag).Y6 t.az
theorem je(X:World)(s:Nat)(v:TV)(t:T7):(iw X s v t).1.size=X.1.size:=by simp[iw,World.setCell]
theorem fq{q:Nat}(hq:q≠s):(iw X s v t).1[q]?=X.1[q]?:=by
 unfold iw;exact(Below.heap_setCell _ _ _ _ hq).trans ((Below.heap_setCell _ _ _ _ hq).trans ((Below.heap_setCell _ _ _ _ hq).trans ((Below.heap_setCell _ _ _ _ hq).trans ((Below.heap_setCell _ _ _ _ hq).trans ((Below.heap_setCell _ _ _ _ hq).trans (Below.heap_setCell _ _ _ _ hq))))))
theorem bS{B:Nat}{w:World}(h:Below B w X)(hs:B<=s):Below B w (iw X s v t):=by
 unfold iw;exact((((((h.setCell (p:=⟨s,0,none⟩) hs _).setCell (p:=⟨s,1,none⟩) hs _).setCell (p:=⟨s,2,none⟩) hs _).setCell (p:=⟨s,3,none⟩) hs _).setCell (p:=⟨s,4,none⟩) hs _).setCell (p:=⟨s,5,none⟩) hs _).setCell (p:=⟨s,6,none⟩) hs _
end tx
namespace tx
open Go.Proofs.Tryz
end tx
namespace tx
open Go.Proofs.Tryz
def Xf(w:World)(t:T7)(e:Ending)(w':World):Prop:=∃(a4:OA) (c4:Nat) (h4:OA) (d4:Nat) (PR PS:Nat->Prop),e=.returned ((TV.mk a4 c4 h4 d4).val t)/\OT w' w.1.size ⟨a4,c4,h4,d4⟩ t PR PS/\Below w.1.size w w'/\t.b.length<=c4/\t.ag.length<=d4
theorem Nk(w:World)(v:TV)(t:T7)(hr:t.b.length<=1048576)(Tf:t.ag.length<=1048576)(h:kR w v t):
  Calls prog 61 #[v.val t] w (Xf w t):=by
 obtain⟨ar,cr,ah,ch⟩:=v;simp only[TV.val];obtain⟨W,hW⟩:∃W,W=((w.alloc (.cells #[vI t.id,vI t.l,vI t.o,vI t.u,.slice ar t.b.length cr,.slice ah t.ag.length ch,vI t.az] 99)).alloc (.cells #[vI 0,vI 0,vI 0,vI 0,.slice none 0 0,.slice none 0 0,vI 0] 53)).alloc (.cells #[vI t.id,vI t.l,vI t.o,vI t.u,.slice none 0 0,.slice none 0 0,vI 0] 53):=⟨_,rfl⟩
 obtain⟨W1,gZ⟩:∃W1,W1=(w.alloc (.cells #[vI t.id,vI t.l,vI t.o,vI t.u,.slice ar t.b.length cr,.slice ah t.ag.length ch,vI t.az] 99)):=⟨_,rfl⟩
 have z1:W1.1.size=w.1.size+1:=by rw[gZ];simp
 have x1:BT W1 w.1.size ⟨ar,cr,ah,ch⟩ t:=by rw[gZ];exact BT.box w ⟨ar,cr,ah,ch⟩ t _
 have b1:Below w.1.size w W1:=by rw[gZ];exact aN.alloc aU _
 obtain⟨W2,y9⟩:∃W2,W2=W1.alloc (.cells #[vI 0,vI 0,vI 0,vI 0,.slice none 0 0,.slice none 0 0,vI 0] 53):=⟨_,rfl⟩
 have b2:Below W1.1.size W1 W2:=by rw[y9];exact aN.alloc aU _
 have x2:BT W2 (w.1.size+1) ⟨none,0,none,0⟩ ⟨0,0,0,0,[],[],0⟩:=by rw[y9,<-z1];exact BT.zero W1 _
 have z2:W2.1.size=w.1.size+1+1:=by rw[y9];simp[z1]
 have WJ:W=W2.alloc (.cells #[vI t.id,vI t.l,vI t.o,vI t.u,.slice none 0 0,.slice none 0 0,vI 0] 53):=by rw[hW,y9,gZ]
 have b3:Below W2.1.size W2 W:=by rw[WJ];exact aN.alloc aU _
 have yO:BT W (w.1.size+1+1) ⟨none,0,none,0⟩ ⟨t.id,t.l,t.o,t.u,[],[],0⟩:=by rw[WJ,<-z2];exact BT.box W2 ⟨none,0,none,0⟩ ⟨t.id,t.l,t.o,t.u,[],[],0⟩ _
 have sW:W.1.size=w.1.size+3:=by rw[WJ];simp[z2]
 have yA:BT W w.1.size ⟨ar,cr,ah,ch⟩ t:=(x1.later b2).later b3;have yR:BT W (w.1.size+1) ⟨none,0,none,0⟩ ⟨0,0,0,0,[],[],0⟩:=x2.later b3;have bW:Below w.1.size w W:=(b1.trans (b2.mono b1.size)).trans (b3.mono (by omega));have c1:=EW W ar t.b.length cr t.b hr (h.r.later bW);have H:Hid (BT W w.1.size ⟨ar,cr,ah,ch⟩ t/\BT W (w.1.size+1) ⟨none,0,none,0⟩ ⟨0,0,0,0,[],[],0⟩/\BT W (w.1.size+1+1) ⟨none,0,none,0⟩ ⟨t.id,t.l,t.o,t.u,[],[],0⟩/\W.1.size=w.1.size+3/\Below w.1.size w W/\Sl w w.1.size ah t.ag.length t.ag/\t.ag.length<=1048576):=⟨yA,yR,yO,sW,bW,h.s,Tf⟩
 clear WJ x1 x2 z1 z2 b1 b2 b3 yA yR yO sW bW h Tf hr y9 gZ;go_enter func61,ntmps61;go_wp2_with fail;rw[<-hW];clear hW;refine c1.mono ?_;clear c1;rintro e w1 ⟨rfl,b1,l1,n1,r1⟩;obtain⟨yA,yR,yO,sW,bW,hs,hl⟩:=H.out;have Nt:=yA.later b1;have TH:=yR.later b1;have ZR:=yO.later b1;have c4:=ZR.c4;have f4:=ZR.fz 4;have a5:=(Nt.dX (p:=⟨w.1.size+1+1,4,none⟩) (by dsimp only;omega) (.slice (some ⟨W.1.size,0,none⟩) t.b.length t.b.length)).c5;have B1:Below w.1.size w (w1.setCell ⟨w.1.size+1+1,4,none⟩ (.slice (some ⟨W.1.size,0,none⟩) t.b.length t.b.length)):=(bW.trans (b1.mono bW.size)).setCell (p:=⟨w.1.size+1+1,4,none⟩) (by dsimp only;omega) _;have c2:=rZ (w1.setCell ⟨w.1.size+1+1,4,none⟩ (.slice (some ⟨W.1.size,0,none⟩) t.b.length t.b.length)) ah t.ag.length ch t.ag hl ((hs.later B1))
 have H1:Hid (BT (w1.setCell ⟨w.1.size+1+1,4,none⟩ (.slice (some ⟨W.1.size,0,none⟩) t.b.length t.b.length)) w.1.size ⟨ar,cr,ah,ch⟩ t/\BT (w1.setCell ⟨w.1.size+1+1,4,none⟩ (.slice (some ⟨W.1.size,0,none⟩) t.b.length t.b.length)) (w.1.size+1) ⟨none,0,none,0⟩ ⟨0,0,0,0,[],[],0⟩/\BT (w1.setCell ⟨w.1.size+1+1,4,none⟩ (.slice (some ⟨W.1.size,0,none⟩) t.b.length t.b.length)) (w.1.size+1+1) ⟨some ⟨W.1.size,0,none⟩,t.b.length,none,0⟩ ⟨t.id,t.l,t.o,t.u,t.b,[],0⟩/\W.1.size=w.1.size+3/\Below w.1.size w (w1.setCell ⟨w.1.size+1+1,4,none⟩ (.slice (some ⟨W.1.size,0,none⟩) t.b.length t.b.length))/\dm (w1.setCell ⟨w.1.size+1+1,4,none⟩ (.slice (some ⟨W.1.size,0,none⟩) t.b.length t.b.length)) W.1.size 0 t.b/\Room (w1.setCell ⟨w.1.size+1+1,4,none⟩ (.slice (some ⟨W.1.size,0,none⟩) t.b.length t.b.length)) W.1.size (t.b.length*5)/\W.1.size<(w1.setCell ⟨w.1.size+1+1,4,none⟩ (.slice (some ⟨W.1.size,0,none⟩) t.b.length t.b.length)).1.size):=
  ⟨Nt.dX (by dsimp only;omega) _,TH.dX (by dsimp only;omega) _,ZR.JS _ _ t.b,sW,B1,n1.dX (by dsimp only;omega) _,r1.aj (Below.heap_setCell _ _ _ _ (by dsimp only;omega)),by simpa[World.setCell]using l1⟩
 clear yA yR yO sW bW hs hl Nt TH ZR B1 b1 l1 n1 r1 H;go_wp2_with fail;generalize (w1.setCell ⟨w.1.size+1+1,4,none⟩ (.slice (some ⟨W.1.size,0,none⟩) t.b.length t.b.length))=V1 at *;refine c2.mono ?_;clear c2 c4 f4 a5;rintro e w2 ⟨rfl,b2,l2,n2,r2⟩;obtain⟨yA,yR,yO,sW,bW,q1,q2,q3⟩:=H1.out;have QT:=yA.later b2;have TI:=yR.later b2;have ZT:=yO.later b2;have ZV:=ZT.Bl (some ⟨V1.1.size,0,none⟩) t.ag.length t.ag;have NB:=QT.dX (p:=⟨w.1.size+1+1,5,none⟩) (by dsimp only;omega) (.slice (some ⟨V1.1.size,0,none⟩) t.ag.length t.ag.length);have TJ:=TI.dX (p:=⟨w.1.size+1+1,5,none⟩) (by dsimp only;omega) (.slice (some ⟨V1.1.size,0,none⟩) t.ag.length t.ag.length);have ua:=ZV.Y6 t.az;have TK:=TJ.dX (p:=⟨w.1.size+1+1,6,none⟩) (by dsimp only;omega) (vI t.az);have jq:=TK.put ⟨some ⟨W.1.size,0,none⟩,t.b.length,some ⟨V1.1.size,0,none⟩,t.ag.length⟩ t;have k5:=ZT.c5;have Tq:=ZT.fz 5;have k6:=ZV.c6;have wg:=ZV.fz 6;have a6:=NB.c6;obtain⟨o0,o1,o2,o3,o4,o5,o6,_,_⟩:=ua;obtain⟨r0,r1,r2',r3,r4,r5,r6,fr,_⟩:=TK;have f0:=fr 0;have f1:=fr 1;have f2:=fr 2;have f3:=fr 3;have f4:=fr 4;have f5:=fr 5;have f6:=fr 6;simp only[iw]at jq;obtain⟨u0,u1,u2,u3,u4,u5,u6,_,_⟩:=jq;have KH:Hid (W.1.size=w.1.size+3/\Below w.1.size w w2/\dm w2 W.1.size 0 t.b/\Room w2 W.1.size (t.b.length*5)/\W.1.size<V1.1.size/\V1.1.size<w2.1.size/\aV w2 V1.1.size 0 t.ag/\Room w2 V1.1.size (t.ag.length*5)):=⟨sW,bW.trans (b2.mono bW.size),q1.below b2 q3,q2.below b2 q3,q3,l2,n2,r2⟩
 clear yA yR yO sW bW q1 q2 q3 QT TI ZT ZV NB TJ b2 l2 n2 r2 fr H1;go_wp2;refine bodyPost_ret (v:=.agg #[vI t.id,vI t.l,vI t.o,vI t.u,.slice (some ⟨W.1.size,0,none⟩) t.b.length t.b.length,.slice (some ⟨V1.1.size,0,none⟩) t.ag.length t.ag.length,vI t.az]) (by simp[results,results61,go_sem,u0,u1,u2,u3,u4,u5,u6]) rfl ?_;obtain⟨sW,bW,q1,q2,q3,q4,q5,q6⟩:=KH.out;refine⟨some ⟨W.1.size,0,none⟩,t.b.length,some ⟨V1.1.size,0,none⟩,t.ag.length,fun q=>q=W.1.size,fun q=>q=V1.1.size,rfl,?_,?_,Nat.le_refl _,Nat.le_refl _⟩
 ·have ot:OT w2 w.1.size ⟨some ⟨W.1.size,0,none⟩,t.b.length,some ⟨V1.1.size,0,none⟩,t.ag.length⟩ t (fun q=>q=W.1.size) (fun q=>q=V1.1.size):=
   ⟨.inr ⟨_,rfl,rfl,by omega,q1,q2⟩,.inr ⟨_,rfl,rfl,q4,q5,q6⟩,fun q hq hp=>by omega,fun q hq=>by omega,fun q hq=>by omega⟩
  have JF:=(ot.aL (w':=(w2.setCell ⟨w.1.size+1+1,5,none⟩ (.slice (some ⟨V1.1.size,0,none⟩) t.ag.length t.ag.length)).setCell ⟨w.1.size+1+1,6,none⟩ (vI t.az)) (by simp[World.setCell]) (fun q _ hq=>(Below.heap_setCell _ _ _ _ (by show q≠w.1.size+1+1;rcases hq with h|h<;>omega)).trans (Below.heap_setCell _ _ _ _ (by show q≠w.1.size+1+1;rcases hq with h|h<;>omega))))
  exact JF.aL (by simp[World.setCell]) (fun q _ hq=>fq (s:=w.1.size+1) (v:=⟨some ⟨W.1.size,0,none⟩,t.b.length,some ⟨V1.1.size,0,none⟩,t.ag.length⟩) (t:=t) (by rcases hq with h|h<;>omega))
 ·exact bS (s:=w.1.size+1) (v:=⟨some ⟨W.1.size,0,none⟩,t.b.length,some ⟨V1.1.size,0,none⟩,t.ag.length⟩) (t:=t) ((bW.setCell (p:=⟨w.1.size+1+1,5,none⟩) (by dsimp only;omega) _).setCell (p:=⟨w.1.size+1+1,6,none⟩) (by dsimp only;omega) _) (by omega)
end tx
namespace tx
open Go.Proofs.Tryz
theorem Mf(w:World)(v v':TV)(t:T7)(hl:TL t)(h1:kR w v t)(h2:kR w v' t):Calls prog 75 #[v.val t,v'.val t] w fun e w'=>e=.returned (.bool true)/\Below w.1.size w w':=by
 obtain⟨ar,cr,ah,ch⟩:=v;obtain⟨Ug,Um,Uf,ch'⟩:=v';simp only[TV.val];obtain⟨U,hU⟩:∃U,U=((w.alloc (.cells #[vI t.id,vI t.l,vI t.o,vI t.u,.slice ar t.b.length cr,.slice ah t.ag.length ch,vI t.az] 53)).alloc (.cells #[vI t.id,vI t.l,vI t.o,vI t.u,.slice Ug t.b.length Um,.slice Uf t.ag.length ch',vI t.az] 53)):=⟨_,rfl⟩
 have z1:(w.alloc (.cells #[vI t.id,vI t.l,vI t.o,vI t.u,.slice ar t.b.length cr,.slice ah t.ag.length ch,vI t.az] 53)).1.size=w.1.size+1:=by simp
 have xB:BT U (w.1.size+1) ⟨Ug,Um,Uf,ch'⟩ t:=by rw[hU,<-z1];exact BT.box _ ⟨Ug,Um,Uf,ch'⟩ t _
 have xA:BT U w.1.size ⟨ar,cr,ah,ch⟩ t:=by rw[hU];exact(BT.box w ⟨ar,cr,ah,ch⟩ t _).later (aN.alloc aU _)
 have b0:Below w.1.size w U:=by rw[hU];exact(aN.alloc aU _).alloc (by simp) _
 have c1:=FQ U ar Ug t.b.length cr Um t.b hl.r (h1.later b0).r (h2.later b0).r;have H:Hid (BT U w.1.size ⟨ar,cr,ah,ch⟩ t/\BT U (w.1.size+1) ⟨Ug,Um,Uf,ch'⟩ t/\Below w.1.size w U/\kR w ⟨ar,cr,ah,ch⟩ t/\kR w ⟨Ug,Um,Uf,ch'⟩ t/\TL t):=⟨xA,xB,b0,h1,h2,hl⟩
 have q0:(t.id != t.id)=false:=by simp
 have q1:(t.l != t.l)=false:=by simp
 have q2:(t.o != t.o)=false:=by simp
 have q3:(t.u != t.u)=false:=by simp
 have q6:(t.az != t.az)=false:=by simp
 clear z1 xA xB b0 h1 h2 hl;go_enter func75,ntmps75;go_wp2_with fail;rw[<-hU];clear hU;refine c1.mono ?_;clear c1 q0 q1 q2 q3;rintro e w1 ⟨rfl,b1⟩;obtain⟨xA,xB,b0,h1,h2,hl⟩:=H.out;have bw:Below w.1.size w w1:=b0.trans (b1.mono b0.size);have a5:=(xA.later b1).c5;have e5:=(xB.later b1).c5;have c2:=ui w1 ah Uf t.ag.length ch ch' t.ag hl.s (h1.later bw).s (h2.later bw).s;have H1:Hid (BT w1 w.1.size ⟨ar,cr,ah,ch⟩ t/\BT w1 (w.1.size+1) ⟨Ug,Um,Uf,ch'⟩ t/\Below w.1.size w w1):=⟨xA.later b1,xB.later b1,bw⟩
 clear xA xB b0 h1 h2 hl b1 bw H;go_wp2_with fail;refine c2.mono ?_;clear c2 a5 e5;rintro e w2 ⟨rfl,b2⟩;have a6:=(H1.out.1.later b2).c6;have e6:=(H1.out.2.1.later b2).c6;have KE:Hid (Below w.1.size w w2):=H1.out.2.2.trans (b2.mono H1.out.2.2.size);clear b2 H1;go_wp2;go_ret;exact⟨rfl,KE.out⟩
theorem PI(w:World)(P:Nat->Prop)(a:OA)(cap:Nat)(xs:List N5)(k:Int)(hk:0<=k)(oN:k<=1000000000)(hn:xs.length<=1048576)(h:qG w P a xs):
  Calls prog 79 #[.slice a xs.length cap,vI k] w fun e w'=>e=.returned (vI (k+5*(xs.length:Int)))/\aA P w w'/\qG w' P a (jl k xs.length):=by
 rcases h with rfl|⟨b,rfl,hp,hb,hx,hr⟩
 ·refine(Cy w a cap k).mono ?_;rintro e w' ⟨rfl,rfl⟩;exact⟨by simp,aA.refl _ _,.inl rfl⟩
 ·refine(Gy w b xs.length cap k hn hk oN hr).mono ?_;rintro e w' ⟨rfl,ho,BN,wJ⟩;exact⟨rfl,aA.jW ho hp,.inr ⟨b,rfl,hp,by rw[ho.size];exact hb,BN,by rw[nU];exact wJ⟩⟩
theorem PL(w:World)(P:Nat->Prop)(a:OA)(cap:Nat)(xs:List S5)(k:Int)(hk:0<=k)(oN:k<=1000000000)(hn:xs.length<=1048576)(h:mP w P a xs):
  Calls prog 80 #[.slice a xs.length cap,vI k] w fun e w'=>e=.returned (vI (k+5*(xs.length:Int)))/\aA P w w'/\mP w' P a (fT k xs.length):=by
 rcases h with rfl|⟨b,rfl,hp,hb,hx,hr⟩
 ·refine(Ez w a cap k).mono ?_;rintro e w' ⟨rfl,rfl⟩;exact⟨by simp,aA.refl _ _,.inl rfl⟩
 ·refine(uy w b xs.length cap k hn hk oN hr).mono ?_;rintro e w' ⟨rfl,ho,BN,wJ⟩;exact⟨rfl,aA.jW ho hp,.inr ⟨b,rfl,hp,by rw[ho.size];exact hb,BN,by rw[iQ];exact wJ⟩⟩
end tx
namespace tx
open Go.Proofs.Tryz
theorem VX(w:World)(v:TV)(t:T7)(l0:Nat)(I7:l0<=1048576)(hl:TL t):Calls prog 44 #[v.val t,vI (l0:Int)] w fun e w'=>e=.returned (vI (gH l0 (uJ t)))/\Below w.1.size w w':=by
 obtain⟨ar,cr,ah,ch⟩:=v;simp only[TV.val];have b0:Below w.1.size w (w.alloc (.cells #[vI t.id,vI t.l,vI t.o,vI t.u,.slice ar t.b.length cr,.slice ah t.ag.length ch,vI t.az] 99)):=aN.alloc aU _;have B0:=ay b0;have h1:=Ni (w.alloc (.cells #[vI t.id,vI t.l,vI t.o,vI t.u,.slice ar t.b.length cr,.slice ah t.ag.length ch,vI t.az] 99)) ar t.b.length cr l0 hl.r I7;have h2:=fun W l=>Bu W ah t.ag.length ch l hl.s
 have HS:Hid (uJ t=t.b.length+t.ag.length):=rfl;clear b0 hl;by_cases g1:t.b.length<=l0
 ·rw[cz g1]at h1;have d1:decide (((l0-t.b.length:Nat):Int)<0)=false:=by simp
  have h3:=h2 (w.alloc (.cells #[vI t.id,vI t.l,vI t.o,vI t.u,.slice ar t.b.length cr,.slice ah t.ag.length ch,vI t.az] 99)) (l0-t.b.length) (by omega);by_cases g2:t.ag.length<=l0-t.b.length
  ·rw[cz g2]at h3;have d2:decide (((l0-t.b.length-t.ag.length:Nat):Int)<0)=false:=by simp
   have KE:Hid (gH l0 (uJ t)=((l0-t.b.length-t.ag.length:Nat):Int)):=by unfold Hid;rw[cz (by rw[HS.out];omega),HS.out];omega
   clear g1 g2;generalize l0-t.b.length-t.ag.length=l2 at *;generalize l0-t.b.length=l1 at *;go_enter func44,ntmps44;go_wp2_with fail;refine h1.mono ?_;rintro e w1 ⟨rfl,rfl⟩;go_wp2_with fail;refine h3.mono ?_;rintro e w2 ⟨rfl,rfl⟩;go_wp2;go_ret;exact⟨by rw[KE.out];rfl,B0.out⟩
  ·rw[bL g2]at h3;have KE:Hid (gH l0 (uJ t)=-1):=by unfold Hid;rw[bL (by rw[HS.out];omega)]
   clear g1 g2;generalize l0-t.b.length=l1 at *;go_enter func44,ntmps44;go_wp2_with fail;refine h1.mono ?_;rintro e w1 ⟨rfl,rfl⟩;go_wp2_with fail;refine h3.mono ?_;rintro e w2 ⟨rfl,rfl⟩;go_wp2;go_ret;exact⟨by rw[KE.out];rfl,B0.out⟩
 ·rw[bL g1]at h1;have KE:Hid (gH l0 (uJ t)=-1):=by unfold Hid;rw[bL (by rw[HS.out];omega)]
  clear g1;go_enter func44,ntmps44;go_wp2_with fail;refine h1.mono ?_;rintro e w1 ⟨rfl,rfl⟩;go_wp2;go_ret;exact⟨by rw[KE.out];rfl,B0.out⟩
end tx
section
open Go.Proofs.Tryz
variable {B b d:Nat}{P:Nat->Prop}{a c:OA}{t:tx.T7}{w:World}
def KT.Ow(w:World)(B:Nat)(a:OA)(b:Nat)(c:OA)(d:Nat)(t:tx.T7)(P:Nat->Prop):Prop:=∃PR PS,tx.OT w B ⟨a,b,c,d⟩ t PR PS/\(∀q,tx.nC PR PS q->P q)/\(∀q,P q->B<=q/\q<w.1.size)
theorem KT.Ow.of(h:KT.Ow w B a b c d t P){q:Nat}(hq:P q):B<=q/\q<w.1.size:=by obtain⟨_,_,_,_,h3⟩:=h;exact h3 q hq
theorem KT.Ow.sl(h:KT.Ow w B a b c d t P):tx.kR w ⟨a,b,c,d⟩ t:=by obtain⟨_,_,h1,_,_⟩:=h;exact h1.sl
theorem KT.Ow.aL{w:World}{B:Nat}{a:OA}{b:Nat}{c:OA}{d:Nat}{t:tx.T7}{P:Nat->Prop}{w':World}(h:KT.Ow w B a b c d t P)(hs:w.1.size<=w'.1.size)(hk:∀q,P q->w'.1[q]?=w.1[q]?):KT.Ow w' B a b c d t P:=by
 obtain⟨PR,PS,h1,h2,h3⟩:=h;exact⟨PR,PS,h1.aL hs (fun q _ hq=>hk q (h2 q hq)),h2,fun q hq=>⟨(h3 q hq).1,Nat.lt_of_lt_of_le (h3 q hq).2 hs⟩⟩
theorem KT.Ow.later{w':World}(h:KT.Ow w B a b c d t P)(hb:Below w.1.size w w'):KT.Ow w' B a b c d t P:=h.aL hb.size (fun q hq=>hb.block q (h.of hq).2)
theorem KT.Ow.low{B':Nat}(h:KT.Ow w B a b c d t P)(hb:B'<=B):KT.Ow w B' a b c d t P:=by
 obtain⟨PR,PS,h1,h2,h3⟩:=h;exact⟨PR,PS,h1.mono hb,h2,fun q hq=>⟨Nat.le_trans hb (h3 q hq).1,(h3 q hq).2⟩⟩
theorem KT.ow{PR PS:Nat->Prop}(h:tx.OT w B ⟨a,b,c,d⟩ t PR PS):KT.Ow w B a b c d t (tx.nC PR PS):=⟨PR,PS,h,fun _ hq=>hq,fun _ hq=>h.of hq⟩
def KT.S(t:tx.T7):Prop:=t.b.length<=1048576/\t.ag.length<=1048576
theorem KT.toC(X:World)(a:OA)(b:Nat)(c:OA)(d:Nat)(t:tx.T7)(ht:KT.S t)(h:tx.kR X ⟨a,b,c,d⟩ t):Calls prog 61 #[.agg #[vI t.id,vI t.l,vI t.o,vI t.u,.slice a t.b.length b,.slice c t.ag.length d,vI t.az]] X fun e w'=>
  ∃(a:OA) (b:Nat) (c:OA) (d:Nat) (P:Nat->Prop),e=.returned (.agg #[vI t.id,vI t.l,vI t.o,vI t.u,.slice a t.b.length b,.slice c t.ag.length d,vI t.az])/\KT.Ow w' X.1.size a b c d t P/\Below X.1.size X w'/\t.b.length<=b/\t.ag.length<=d:=by
 have hh:=tx.Nk X ⟨a,b,c,d⟩ t ht.1 ht.2 h;simp only[tx.TV.val]at hh;refine hh.mono ?_;rintro e w' ⟨a,b,c,d,PR,PS,rfl,o,bl,h1,h2⟩;exact⟨a,b,c,d,_,rfl,KT.ow o,bl,h1,h2⟩
theorem KT.S.tl(h:KT.S t):tx.TL t:=⟨by have:=h.1;unfold maxLen;omega,by have:=h.2;unfold maxLen;omega⟩
theorem KT.eq(X:World)(a:OA)(b:Nat)(c:OA)(d:Nat)(a':OA)(b':Nat)(c':OA)(d':Nat)(t:tx.T7)(ht:KT.S t)(h1:tx.kR X ⟨a,b,c,d⟩ t)(h2:tx.kR X ⟨a',b',c',d'⟩ t):Calls prog 75 #[.agg #[vI t.id,vI t.l,vI t.o,vI t.u,.slice a t.b.length b,.slice c t.ag.length d,vI t.az],.agg #[vI t.id,vI t.l,vI t.o,vI t.u,.slice a' t.b.length b',.slice c' t.ag.length d',vI t.az]] X fun e w'=>e=.returned (.bool true)/\Below X.1.size X w':=by
 have hh:=tx.Mf X ⟨a,b,c,d⟩ ⟨a',b',c',d'⟩ t ht.tl h1 h2;simp only[tx.TV.val]at hh;exact hh
theorem KT.gd(X:World)(a:OA)(b:Nat)(c:OA)(d:Nat)(t:tx.T7)(l:Nat)(I7:l<=1048576)(hl:tx.TL t):Calls prog 44 #[.agg #[vI t.id,vI t.l,vI t.o,vI t.u,.slice a t.b.length b,.slice c t.ag.length d,vI t.az],vI (l:Int)] X fun e w'=>e=.returned (vI (gH l (tx.uJ t)))/\Below X.1.size X w':=by
 have hh:=tx.VX X ⟨a,b,c,d⟩ t l I7 hl;simp only[tx.TV.val]at hh;exact hh
def gY:Kd tx.T7 tx.TV where
 n:=7
 cells v t:=(tx.nO v.ar v.cr v.ah v.ch t)
 len:=fun _ _=>rfl
 Rd:=tx.kR
 Ow w B v t P:=KT.Ow w B v.ar v.cr v.ah v.ch t P
 later:=fun h b=>h.later b
 sl:=fun h=>h.sl
 of:=fun h hq=>h.of hq
 aL:=fun h hs hk=>h.aL hs hk
 low:=fun h hb=>h.low hb
def y7:Kd tx.T7 tx.TV where
 n:=7
 cells:=gY.cells
 len:=gY.len
 Rd w v t:=tx.kR w v t/\t.b.length<=v.cr/\t.ag.length<=v.ch
 Ow w B v t P:=gY.Ow w B v t P/\t.b.length<=v.cr/\t.ag.length<=v.ch
 later:=fun h b=>⟨h.1.later b,h.2⟩
 sl:=fun h=>⟨gY.sl h.1,h.2⟩
 of:=fun h hq=>gY.of h.1 hq
 aL:=fun h hs hk=>⟨gY.aL h.1 hs hk,h.2⟩
 low:=fun h hb=>⟨gY.low h.1 hb,h.2⟩
theorem y7.ow{xs:List tx.T7}(h:y7.oD w B a xs P):gY.oD w B a xs P:=by
 rcases h with ⟨h|⟨b,g,e,hp,h,hg⟩,hb⟩
 ·exact⟨.inl h,hb⟩
 ·exact⟨.inr ⟨b,g,e,hp,⟨h.rm,fun i d hi=>by obtain⟨v,h1,h2⟩:=h.at_ i d hi;exact⟨v,h1,h2.1⟩,h.ne,h.ap⟩,hg⟩,hb⟩
end
section
open Go.Proofs.Tryz
theorem Po:(prog.info? 53).map (fun i=>(i.zero,i.size,i.bytes))=some (some (.agg #[vI 0,vI 0,vI 0,vI 0,.slice none 0 0,.slice none 0 0,vI 0]),7,88):=by kernel_rfl
theorem PG(n:Nat)(hn:n<=1048576)(w:World):(Instr.makeSlice 30 (vI (n:Int)) (vI (n:Int))).run prog w=.ok (.slice (some ⟨w.1.size,0,none⟩) n n) (w.alloc (.cells (madeCells #[vI 0,vI 0,vI 0,vI 0,.slice none 0 0,.slice none 0 0,vI 0] (n*7)) 53)):=by
 obtain⟨i,hi,oH⟩:=Option.map_eq_some_iff.1 Po;simp only[Prod.mk.injEq]at oH;obtain⟨hz,hs,hb⟩:=oH;have:=run_make (P:=prog) w 30 53 i _ underlying30 hi hz .i64 .i64 (n:Int) (n:Int) (by omega) (by omega) (by rw[hb];omega) (by omega);rw[hs]at this;simpa[Value.cells]using this
theorem wu.to(w:World)(a:OA)(cap:Nat)(xs:List tx.T7)(hn:xs.length<=1048576)(ht:∀d∈xs,KT.S d)(hs:gY.pK w a xs):Calls prog 27 #[.slice a xs.length cap] w fun e w'=>
  ∃P,e=.returned (.slice (some ⟨w.1.size,0,none⟩) xs.length xs.length)/\y7.oD w' w.1.size (some ⟨w.1.size,0,none⟩) xs P/\Below w.1.size w w':=by
 have qc:=PG xs.length hn;go_enter func27,ntmps27;go_wp2;go_loopw[4] (fun i wr=>∃(j:Nat) (g:Nat->Nat->Prop),j<=xs.length/\i=vI j/\Below w.1.size w wr/\w.1.size<wr.1.size/\y7.Part wr w.1.size w.1.size xs.length (xs.take j) g) (fun i _=>xs.length-(intOf i).toNat)
 case atStart=>exact⟨0,fun _ _=>False,Nat.zero_le _,rfl,aN.alloc aU _,by simp,by rw[List.take_zero];exact Kd.Part.nil _ _ (iE _ _ _ _)⟩
 case round=>
  obtain⟨j,g,hj,rfl,aD,dO,wO⟩:=hrel;by_cases aK:j<xs.length
  ·obtain⟨d,hd⟩:∃d,xs[j]?=some d:=⟨_,List.getElem?_eq_getElem aK⟩
   rcases hs with hs|⟨b,off,rfl,hb,h1⟩
   ·rw[hs]at aK;simp at aK
   obtain⟨⟨c0,c1,c2,c3⟩,bg,fG⟩:=h1 j d hd;have e0:wr.cell? ⟨b,off+j*7,none⟩=some (vI d.id):=(aD.cell (p:=⟨b,off+j*7,none⟩) hb).trans (bg 0 _ rfl);have e1:wr.cell? ⟨b,off+j*7+1,none⟩=some (vI d.l):=(aD.cell (p:=⟨b,off+j*7+1,none⟩) hb).trans (bg 1 _ rfl);have e2:wr.cell? ⟨b,off+j*7+2,none⟩=some (vI d.o):=(aD.cell (p:=⟨b,off+j*7+2,none⟩) hb).trans (bg 2 _ rfl);have e3:wr.cell? ⟨b,off+j*7+3,none⟩=some (vI d.u):=(aD.cell (p:=⟨b,off+j*7+3,none⟩) hb).trans (bg 3 _ rfl);have e4:wr.cell? ⟨b,off+j*7+4,none⟩=some (.slice c0 d.b.length c1):=(aD.cell (p:=⟨b,off+j*7+4,none⟩) hb).trans (bg 4 _ rfl);have e5:wr.cell? ⟨b,off+j*7+5,none⟩=some (.slice c2 d.ag.length c3):=(aD.cell (p:=⟨b,off+j*7+5,none⟩) hb).trans (bg 5 _ rfl);have e6:wr.cell? ⟨b,off+j*7+6,none⟩=some (vI d.az):=(aD.cell (p:=⟨b,off+j*7+6,none⟩) hb).trans (bg 6 _ rfl);have jh:=KT.toC wr c0 c1 c2 c3 d (ht d (List.mem_of_getElem? hd)) (gY.later fG aD);have KH:Hid (y7.Part wr w.1.size w.1.size xs.length (xs.take j) g/\Below w.1.size w wr/\w.1.size<wr.1.size/\xs.take (j+1)=xs.take j++[d]/\(xs.take j).length=j):=⟨wO,aD,dO,by rw[List.take_add_one,hd];rfl,by rw[List.length_take];omega⟩
   have jn:(j:Int)<(xs.length:Int):=by omega
   clear wO aD qc h1 ht bg fG hd;go_wp2_with fail;refine jh.mono ?_;clear jh e0 e1 e2 e3 e4 e5 e6;rintro e w1 ⟨u0,u1,u2,u3,P,rfl,Ru,b1,XT,XR⟩;have ho:y7.Ow w1 wr.1.size ⟨u0,u1,u2,u3⟩ d P:=⟨Ru,XT,XR⟩
   have Mr:=KH.out.1.later b1 KH.out.2.2.1;have qH:=Mr.rm;have eh:j*7+7<=xs.length*7:=by omega
   obtain⟨z0,d0,f0⟩:∃v,w1.cell? ⟨w.1.size,j*7,none⟩=some v/\w1.frozen? ⟨w.1.size,j*7,none⟩=false:=qH (j*7+0) (show _<xs.length*7 by omega);obtain⟨z1,d1,f1⟩:∃v,w1.cell? ⟨w.1.size,j*7+1,none⟩=some v/\w1.frozen? ⟨w.1.size,j*7+1,none⟩=false:=qH (j*7+1) (show _<xs.length*7 by omega);obtain⟨z2,d2,f2⟩:∃v,w1.cell? ⟨w.1.size,j*7+2,none⟩=some v/\w1.frozen? ⟨w.1.size,j*7+2,none⟩=false:=qH (j*7+2) (show _<xs.length*7 by omega);obtain⟨z3,d3,f3⟩:∃v,w1.cell? ⟨w.1.size,j*7+3,none⟩=some v/\w1.frozen? ⟨w.1.size,j*7+3,none⟩=false:=qH (j*7+3) (show _<xs.length*7 by omega);obtain⟨z4,d4,f4⟩:∃v,w1.cell? ⟨w.1.size,j*7+4,none⟩=some v/\w1.frozen? ⟨w.1.size,j*7+4,none⟩=false:=qH (j*7+4) (show _<xs.length*7 by omega);obtain⟨z5,d5,f5⟩:∃v,w1.cell? ⟨w.1.size,j*7+5,none⟩=some v/\w1.frozen? ⟨w.1.size,j*7+5,none⟩=false:=qH (j*7+5) (show _<xs.length*7 by omega);obtain⟨z6,d6,f6⟩:∃v,w1.cell? ⟨w.1.size,j*7+6,none⟩=some v/\w1.frozen? ⟨w.1.size,j*7+6,none⟩=false:=qH (j*7+6) (show _<xs.length*7 by omega);have K1:Hid (y7.Part w1 w.1.size w.1.size xs.length (xs.take j) g/\y7.Ow w1 wr.1.size ⟨u0,u1,u2,u3⟩ d P/\Below wr.1.size wr w1):=⟨Mr,ho,b1⟩
   clear Mr ho Ru XT XR b1 qH eh;go_wp2;obtain⟨k1,k2,k3,k4,k5⟩:=KH.out;obtain⟨p1,p2,p3⟩:=K1.out;have Yd:=p1.push (by omega) ⟨u0,u1,u2,u3⟩ d P (y7.low p2 (Nat.le_of_lt k3)) (fun q hq=>by have:=(y7.of p2 hq).1;omega) (fun i q hi hq Rw=>by have:=(k1.gq hi hq).2;have:=(y7.of p2 Rw).1;omega);rw[k5,<-k4]at Yd;have UC:Below w.1.size w (dU w1 w.1.size (j*7) (tx.nO u0 u1 u2 u3 d)):=bn aU _ _ _ (k2.trans (p3.mono k2.size));have U9:w.1.size<(dU w1 w.1.size (j*7) (tx.nO u0 u1 u2 u3 d)).1.size:=by rw[bu];exact Nat.lt_of_lt_of_le k3 p3.size
   exact⟨⟨j+1,_,by omega,by simp,UC,U9,Yd⟩,by simp[intOf];omega⟩
  ·obtain rfl:j=xs.length:=by omega
   have hd:decide ((xs.length:Int)<(xs.length:Int))=false:=by simp
   rw[List.take_length]at wO;have KH:Hid (y7.Part wr w.1.size w.1.size xs.length xs g/\Below w.1.size w wr/\w.1.size<wr.1.size):=⟨wO,aD,dO⟩
   clear wO aD hs qc ht;go_wp2;go_ret;exact⟨_,rfl,KH.out.1.own aU KH.out.2.2,KH.out.2.1⟩
theorem wu.eq(w:World)(a a':OA)(cap aW:Nat)(xs:List tx.T7)(hn:xs.length<=1048576)(ht:∀d∈xs,KT.S d)(h1:gY.pK w a xs)(h2:gY.pK w a' xs):Calls prog 35 #[.slice a xs.length cap,.slice a' xs.length aW] w fun e w'=>e=.returned (.bool true)/\Below w.1.size w w':=by
 go_enter func35,ntmps35;go_wp2;go_loopw[5] (fun i wr=>∃j:Nat,j<=xs.length/\i=vI j/\Below w.1.size w wr) (fun i _=>xs.length-(intOf i).toNat)
 case atStart=>exact⟨0,Nat.zero_le _,rfl,aN⟩
 case round=>
  obtain⟨j,hj,rfl,aD⟩:=hrel;by_cases aK:j<xs.length
  ·obtain⟨d,hd⟩:∃d,xs[j]?=some d:=⟨_,List.getElem?_eq_getElem aK⟩
   rcases h1 with h1|⟨b,off,rfl,hb,h1⟩
   ·rw[h1]at aK;simp at aK
   ·rcases h2 with h2|⟨b',bR,rfl,gJ,h2⟩
    ·rw[h2]at aK;simp at aK
    ·obtain⟨⟨c0,c1,c2,c3⟩,bg,fG⟩:=h1 j d hd;obtain⟨⟨b0,b1,b2,b3⟩,sQ,rH⟩:=h2 j d hd;have x0:=@cell_regrown wr ⟨b,off+j*7,none⟩ (vI d.id) ((aD.cell (p:=⟨b,off+j*7,none⟩) hb).trans (bg 0 _ rfl));have x1:=@cell_regrown wr ⟨b,off+j*7+1,none⟩ (vI d.l) ((aD.cell (p:=⟨b,off+j*7+1,none⟩) hb).trans (bg 1 _ rfl));have x2:=@cell_regrown wr ⟨b,off+j*7+2,none⟩ (vI d.o) ((aD.cell (p:=⟨b,off+j*7+2,none⟩) hb).trans (bg 2 _ rfl));have x3:=@cell_regrown wr ⟨b,off+j*7+3,none⟩ (vI d.u) ((aD.cell (p:=⟨b,off+j*7+3,none⟩) hb).trans (bg 3 _ rfl));have x4:=@cell_regrown wr ⟨b,off+j*7+4,none⟩ (.slice c0 d.b.length c1) ((aD.cell (p:=⟨b,off+j*7+4,none⟩) hb).trans (bg 4 _ rfl));have x5:=@cell_regrown wr ⟨b,off+j*7+5,none⟩ (.slice c2 d.ag.length c3) ((aD.cell (p:=⟨b,off+j*7+5,none⟩) hb).trans (bg 5 _ rfl));have x6:=@cell_regrown wr ⟨b,off+j*7+6,none⟩ (vI d.az) ((aD.cell (p:=⟨b,off+j*7+6,none⟩) hb).trans (bg 6 _ rfl));have y0:=@cell_regrown wr ⟨b',bR+j*7,none⟩ (vI d.id) ((aD.cell (p:=⟨b',bR+j*7,none⟩) gJ).trans (sQ 0 _ rfl));have y1:=@cell_regrown wr ⟨b',bR+j*7+1,none⟩ (vI d.l) ((aD.cell (p:=⟨b',bR+j*7+1,none⟩) gJ).trans (sQ 1 _ rfl));have y2:=@cell_regrown wr ⟨b',bR+j*7+2,none⟩ (vI d.o) ((aD.cell (p:=⟨b',bR+j*7+2,none⟩) gJ).trans (sQ 2 _ rfl));have y3:=@cell_regrown wr ⟨b',bR+j*7+3,none⟩ (vI d.u) ((aD.cell (p:=⟨b',bR+j*7+3,none⟩) gJ).trans (sQ 3 _ rfl));have y4:=@cell_regrown wr ⟨b',bR+j*7+4,none⟩ (.slice b0 d.b.length b1) ((aD.cell (p:=⟨b',bR+j*7+4,none⟩) gJ).trans (sQ 4 _ rfl))
     have y5:=@cell_regrown wr ⟨b',bR+j*7+5,none⟩ (.slice b2 d.ag.length b3) ((aD.cell (p:=⟨b',bR+j*7+5,none⟩) gJ).trans (sQ 5 _ rfl));have y6:=@cell_regrown wr ⟨b',bR+j*7+6,none⟩ (vI d.az) ((aD.cell (p:=⟨b',bR+j*7+6,none⟩) gJ).trans (sQ 6 _ rfl));have cQ:∀dd os,Calls prog 75 #[.agg #[vI d.id,vI d.l,vI d.o,vI d.u,.slice c0 d.b.length c1,.slice c2 d.ag.length c3,vI d.az],.agg #[vI d.id,vI d.l,vI d.o,vI d.u,.slice b0 d.b.length b1,.slice b2 d.ag.length b3,vI d.az]] (grow (redrawn wr dd) os) fun e eU=>e=.returned (.bool true)/\∃p:Regrown,eU=grow (redrawn wr p.d) p.os:=fun dd os=>Calls.regrown_of (KT.eq _ c0 c1 c2 c3 b0 b1 b2 b3 d (ht d (List.mem_of_getElem? hd)) (gY.later fG (aD.trans ((below_regrown wr dd os).mono aD.size))) (gY.later rH (aD.trans ((below_regrown wr dd os).mono aD.size))))
     have K:Hid (Below w.1.size w wr):=aD;have jn:(j:Int)<(xs.length:Int):=by omega
     clear bg sQ fG rH aD h1 h2 ht hd;go_wp2_with fail;refine gP ?_;repeat (go_big_quiet_step (exact cQ _ _))
     refine iW fun dq aZ=>?_
     have bq:=below_regrown wr dq aZ;go_wp2;exact⟨⟨j+1,by omega,by simp,K.out.trans (bq.mono K.out.size)⟩,by simp[intOf];omega⟩
  ·obtain rfl:j=xs.length:=by omega
   have hd:decide ((xs.length:Int)<(xs.length:Int))=false:=by simp
   clear h1 h2 ht;go_wp2;go_ret;exact⟨rfl,aD⟩
def wu.nM(xs:List tx.T7):Nat:=(xs.map fun d=>tx.uJ d).sum
theorem wu.sz(w:World)(a:OA)(cap:Nat)(xs:List tx.T7)(l:Nat)(I7:l<=1048576)(hn:xs.length<=maxLen)(hl:∀d∈xs,tx.TL d)(hs:gY.pK w a xs):
  Calls prog 13 #[.slice a xs.length cap,vI (l:Int)] w fun e w'=>e=.returned (vI (gH l (xs.length+wu.nM xs)))/\Below w.1.size w w':=by
 have BK:=hn;unfold maxLen at BK;by_cases h0:xs.length<=l
 ·have d0:decide ((l:Int)-(xs.length:Int)<0)=false:=by simp;omega
  go_enter func13,ntmps13;go_wp2;go_loopw[1,5] (fun v1 v5 wr=>∃j:Nat,j<=xs.length/\v5=vI j/\xs.length+wu.nM (xs.take j)<=l/\v1=vI ((l-(xs.length+wu.nM (xs.take j)):Nat):Int)/\Below w.1.size w wr) (fun _ v5 _=>xs.length-(intOf v5).toNat)
  case atStart=>exact⟨0,Nat.zero_le _,rfl,by simpa[wu.nM]using h0,by simp[wu.nM];try omega,aN⟩
  case round=>
   obtain⟨j,hj,rfl,hle,rfl,aD⟩:=hrel;have KL:Hid (xs.length+wu.nM (xs.take j)<=l):=hle;by_cases aK:j<xs.length
   ·obtain⟨d,hd⟩:∃d,xs[j]?=some d:=⟨_,List.getElem?_eq_getElem aK⟩
    rcases hs with hs|⟨b,off,rfl,hb,h1⟩
    ·rw[hs]at aK;simp at aK
    obtain⟨⟨c0,c1,c2,c3⟩,bg,fG⟩:=h1 j d hd;have e0:wr.cell? ⟨b,off+j*7,none⟩=some (vI d.id):=(aD.cell (p:=⟨b,off+j*7,none⟩) hb).trans (bg 0 _ rfl);have e1:wr.cell? ⟨b,off+j*7+1,none⟩=some (vI d.l):=(aD.cell (p:=⟨b,off+j*7+1,none⟩) hb).trans (bg 1 _ rfl);have e2:wr.cell? ⟨b,off+j*7+2,none⟩=some (vI d.o):=(aD.cell (p:=⟨b,off+j*7+2,none⟩) hb).trans (bg 2 _ rfl);have e3:wr.cell? ⟨b,off+j*7+3,none⟩=some (vI d.u):=(aD.cell (p:=⟨b,off+j*7+3,none⟩) hb).trans (bg 3 _ rfl);have e4:wr.cell? ⟨b,off+j*7+4,none⟩=some (.slice c0 d.b.length c1):=(aD.cell (p:=⟨b,off+j*7+4,none⟩) hb).trans (bg 4 _ rfl);have e5:wr.cell? ⟨b,off+j*7+5,none⟩=some (.slice c2 d.ag.length c3):=(aD.cell (p:=⟨b,off+j*7+5,none⟩) hb).trans (bg 5 _ rfl);have e6:wr.cell? ⟨b,off+j*7+6,none⟩=some (vI d.az):=(aD.cell (p:=⟨b,off+j*7+6,none⟩) hb).trans (bg 6 _ rfl);have hz:=KT.gd wr c0 c1 c2 c3 d (l-(xs.length+wu.nM (xs.take j))) (by omega) (hl d (List.mem_of_getElem? hd))
    have DV:Hid (wu.nM (xs.take (j+1))=wu.nM (xs.take j)+tx.uJ d):=by
     unfold Hid wu.nM;rw[List.map_take,List.map_take];exact jS (by rw[List.getElem?_map,hd];rfl)
    have QV:Hid (wu.nM (xs.take (j+1))<=wu.nM xs):=by unfold Hid wu.nM;rw[List.map_take];exact lJ _ _
    have KB:Hid (Below w.1.size w wr):=aD;have jn:(j:Int)<(xs.length:Int):=by omega
    generalize Zq:wu.nM (xs.take j)=LL at *;generalize tx.uJ d=m at *;clear h1 aD hl hle bg fG hd;by_cases vo:m<=l-(xs.length+LL)
    ·rw[cz vo]at hz;have d1:decide (((l-(xs.length+LL)-m:Nat):Int)<0)=false:=by simp
     go_wp2_with fail;refine hz.mono ?_;clear hz;rintro e w1 ⟨rfl,b1⟩;go_wp2;have h1:=KL.out;refine⟨⟨j+1,by omega,by simp,by rw[DV.out];omega,by rw[DV.out];congr 2;omega,KB.out.trans (b1.mono KB.out.size)⟩,by simp[intOf];omega⟩
    ·rw[bL vo]at hz;go_wp2_with fail;refine hz.mono ?_;clear hz;rintro e w1 ⟨rfl,b1⟩;go_wp2;go_ret;have h2:=DV.out;have h3:=QV.out;refine⟨by rw[bL (by omega)];rfl,KB.out.trans (b1.mono KB.out.size)⟩
   ·obtain rfl:j=xs.length:=by omega
    have hd:decide ((xs.length:Int)<(xs.length:Int))=false:=by simp
    rw[List.take_length]at hle ⊢;clear hs hl KL;go_wp2;go_ret;exact⟨by rw[cz hle];rfl,aD⟩
 ·have d0:decide ((l:Int)-(xs.length:Int)<0)=true:=by simp;omega
  go_enter func13,ntmps13;go_wp2;go_ret;exact⟨by rw[bL (by omega)];rfl,aN⟩
end
end Go.Proofs.YtajmlpgodcfghaaGreatDoor
