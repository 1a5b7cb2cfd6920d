import Derived.Test.YtalnmfefmiapoaaGreatDoorJ0Read
set_option maxHeartbeats 16000000
set_option maxRecDepth 100000
namespace Go.Proofs.YtalnmfefmiapoaaGreatDoor
open Go.RowKit
open Go.Sort (grow)
section
variable {j n:Nat}{k:Int}
def zA(k:Int)(j:Nat):C2:=⟨k+2*(j:Int),k+2*(j:Int)+1⟩
def kC(k:Int)(n:Nat):List C2:=(List.range n).map (zA k)
theorem zB(h:j<n):(kC k n)[j]?=some (zA k j):=by simp[kC,h]
theorem mh(k:Int)(n:Nat):(kC k n).length=n:=by simp[kC]
theorem ER(w:World)(b n cap:Nat)(k:Int)(hn:n<=1048576)(hk:0<=k)(ni:k<=1000000000)(hr:Room w b (n*2)):
  Calls Tryz.prog 118 #[.slice (some ⟨b,0,none⟩) n cap,vI k] w fun e w'=>e=.returned (vI (k+2*(n:Int)))/\aW b w w'/\bJ w' b 0 (kC k n)/\Room w' b (n*2):=by
 go_enter Tryz.func118,Tryz.ntmps118;go_wp2;go_loopw[1,5] (fun v1 v5 wr=>∃j:Nat,j<=n/\v5=vI j/\v1=vI (k+2*(j:Int))/\aW b w wr/\Room wr b (n*2)/\bJ wr b 0 ((kC k n).take j)) (fun _ v5 _=>n-(intOf v5).toNat)
 case atStart=>exact⟨0,Nat.zero_le _,rfl,by simp,aW.refl _ _,hr,fun i s e=>by simp at e⟩
 case round=>
  obtain⟨j,hj,rfl,rfl,jW,ed,lK⟩:=hrel;by_cases aN:j<n
  ·obtain⟨v0,d0,f0⟩:=ed (j*2) (by omega);obtain⟨v1,d1,f1⟩:=ed (j*2+1) (by omega);have K:Hid (aW b w wr/\Room wr b (n*2)/\bJ wr b 0 ((kC k n).take j)):=⟨jW,ed,lK⟩
   clear jW ed lK hr;go_wp2;obtain⟨jW,ed,lK⟩:=K.out;refine⟨⟨j+1,by omega,by simp,by congr 1;push_cast;omega,(jW.setCell _ _).setCell _ _,(ed.set _).set _,lK.put (s:=zA k j) (zB aN) ed (by omega)⟩,by simp[intOf];omega⟩
  ·have:j=n:=by omega
   subst this;have hd:decide ((j:Int)<(j:Int))=false:=by simp
   rw[List.take_of_length_le (by rw[mh];omega)]at lK;have K:Hid (aW b w wr/\bJ wr b 0 (kC k j)/\Room wr b (j*2)):=⟨jW,lK,ed⟩
   clear jW ed lK hr;go_wp2;go_ret;exact⟨rfl,K.out.1,K.out.2.1,K.out.2.2⟩
theorem Er(w:World)(a:Option Addr)(n cap:Nat)(k:Int)(hn:n<=1048576)(hk:0<=k)(ni:k<=1000000000)(hs:pE w w.1.size a n (kC k n)):
  Calls Tryz.prog 119 #[.slice a n cap,vI k] w fun e w'=>e=.returned (vI (k+2*(n:Int)))/\w'=w:=by
 obtain⟨_,hs⟩:=hs;go_enter Tryz.func119,Tryz.ntmps119;go_wp2;go_loop[1,5] (fun v1 v5=>∃j:Nat,j<=n/\v5=vI j/\v1=vI (k+2*(j:Int))) (fun _ v5=>n-(intOf v5).toNat)
 case atStart=>exact⟨0,Nat.zero_le _,rfl,by simp⟩
 case round=>
  obtain⟨j,hj,rfl,rfl⟩:=hrel;by_cases aN:j<n
  ·rcases hs with hs|⟨b,off,rfl,hb,h1⟩
   ·omega
   ·obtain⟨c0,c1⟩:=h1 j (zA k j) (zB aN);simp only[zA]at c0 c1;clear h1;go_wp2;exact⟨⟨j+1,by omega,by simp,by congr 1;push_cast;omega⟩,by simp[intOf];omega⟩
  ·have:j=n:=by omega
   subst this;have hd:decide ((j:Int)<(j:Int))=false:=by simp
   clear hs;go_wp2;go_ret;exact⟨rfl,rfl⟩
def mkSet(k:Int)(j:Nat):S5:=⟨k+5*(j:Int),k+5*(j:Int)+1,k+5*(j:Int)+1+1,(k+5*(j:Int)+1+1+1)%3==0,k+5*(j:Int)+1+1+1+1⟩
def fG(k:Int)(n:Nat):List S5:=(List.range n).map (mkSet k)
theorem nH(h:j<n):(fG k n)[j]?=some (mkSet k j):=by simp[fG,h]
theorem iq(k:Int)(n:Nat):(fG k n).length=n:=by simp[fG]
theorem rP(w:World)(b n cap:Nat)(k:Int)(hn:n<=1048576)(hk:0<=k)(ni:k<=1000000000)(hr:Room w b (n*5)):
  Calls Tryz.prog 73 #[.slice (some ⟨b,0,none⟩) n cap,vI k] w fun e w'=>e=.returned (vI (k+5*(n:Int)))/\aW b w w'/\aX w' b 0 (fG k n)/\Room w' b (n*5):=by
 go_enter Tryz.func73,Tryz.ntmps73;go_wp2;go_loopw[1,5] (fun v1 v5 wr=>∃j:Nat,j<=n/\v5=vI j/\v1=vI (k+5*(j:Int))/\aW b w wr/\Room wr b (n*5)/\aX wr b 0 ((fG k n).take j)) (fun _ v5 _=>n-(intOf v5).toNat)
 case atStart=>exact⟨0,Nat.zero_le _,rfl,by simp,aW.refl _ _,hr,fun i s e=>by simp at e⟩
 case round=>
  obtain⟨j,hj,rfl,rfl,jW,ed,lK⟩:=hrel;by_cases aN:j<n
  ·obtain⟨v0,d0,f0⟩:=ed (j*5) (by omega);obtain⟨v1,d1,f1⟩:=ed (j*5+1) (by omega);obtain⟨v2,d2,f2⟩:=ed (j*5+2) (by omega);obtain⟨v3,d3,f3⟩:=ed (j*5+3) (by omega);obtain⟨v4,d4,f4⟩:=ed (j*5+4) (by omega);have K:Hid (aW b w wr/\Room wr b (n*5)/\aX wr b 0 ((fG k n).take j)):=⟨jW,ed,lK⟩
   clear jW ed lK hr;go_wp2;obtain⟨jW,ed,lK⟩:=K.out;refine⟨⟨j+1,by omega,by simp,by congr 1;push_cast;omega,((((jW.setCell _ _).setCell _ _).setCell _ _).setCell _ _).setCell _ _,((((ed.set _).set _).set _).set _).set _,lK.put (s:=mkSet k j) (nH aN) ed (by omega)⟩,by simp[intOf];omega⟩
  ·have:j=n:=by omega
   subst this;have hd:decide ((j:Int)<(j:Int))=false:=by simp
   rw[List.take_of_length_le (by rw[iq];omega)]at lK;have K:Hid (aW b w wr/\aX wr b 0 (fG k j)/\Room wr b (j*5)):=⟨jW,lK,ed⟩
   clear jW ed lK hr;go_wp2;go_ret;exact⟨rfl,K.out.1,K.out.2.1,K.out.2.2⟩
theorem uk(w:World)(a:Option Addr)(cap:Nat)(k:Int):Calls Tryz.prog 73 #[.slice a 0 cap,vI k] w fun e w'=>e=.returned (vI k)/\w'=w:=by
 go_enter Tryz.func73,Tryz.ntmps73;go_wp2;go_loop[1,5] (fun v1 v5=>v1=vI k/\v5=vI 0) (fun _ _=>0)
 case atStart=>exact⟨rfl,rfl⟩
 case round=>
  obtain⟨rfl,rfl⟩:=hrel;go_wp2;go_ret;exact⟨rfl,rfl⟩
theorem rA(w:World)(a:Option Addr)(n cap:Nat)(k:Int)(hn:n<=1048576)(hk:0<=k)(ni:k<=1000000000)(hs:Sl w w.1.size a n (fG k n)):
  Calls Tryz.prog 78 #[.slice a n cap,vI k] w fun e w'=>e=.returned (vI (k+5*(n:Int)))/\w'=w:=by
 obtain⟨_,hs⟩:=hs;go_enter Tryz.func78,Tryz.ntmps78;go_wp2;go_loop[1,5] (fun v1 v5=>∃j:Nat,j<=n/\v5=vI j/\v1=vI (k+5*(j:Int))) (fun _ v5=>n-(intOf v5).toNat)
 case atStart=>exact⟨0,Nat.zero_le _,rfl,by simp⟩
 case round=>
  obtain⟨j,hj,rfl,rfl⟩:=hrel;by_cases aN:j<n
  ·rcases hs with hs|⟨b,off,rfl,hb,h1⟩
   ·omega
   ·obtain⟨c0,c1,c2,c3,c4⟩:=h1 j (mkSet k j) (nH aN);simp only[mkSet]at c0 c1 c2 c3 c4;clear h1;go_wp2;exact⟨⟨j+1,by omega,by simp,by congr 1;push_cast;omega⟩,by simp[intOf];omega⟩
  ·have:j=n:=by omega
   subst this;have hd:decide ((j:Int)<(j:Int))=false:=by simp
   clear hs;go_wp2;go_ret;exact⟨rfl,rfl⟩
end
section
variable {P:Nat->Prop}{a b:World}{c:Nat}
structure aH(P:Nat->Prop)(w w':World):Prop where
 os:w'.os=w.os
 tape:w'.tape=w.tape
 output:w'.output=w.output
 size:w.1.size<=w'.1.size
 block:∀q,q<w.1.size->¬P q->w'.1[q]?=w.1[q]?
theorem aH.refl(P:Nat->Prop)(w:World):aH P w w:=⟨rfl,rfl,rfl,Nat.le_refl _,fun _ _ _=>rfl⟩
theorem aH.trans{P:Nat->Prop}{a b c:World}(h:aH P a b)(k:aH P b c):aH P a c:=
 ⟨k.os.trans h.os,k.tape.trans h.tape,k.output.trans h.output,Nat.le_trans h.size k.size,fun q hq hp=>(k.block q (Nat.lt_of_lt_of_le hq h.size) hp).trans (h.block q hq hp)⟩
theorem aH.mono{Q:Nat->Prop}(h:aH P a b)(hp:∀q,P q->Q q):aH Q a b:=⟨h.os,h.tape,h.output,h.size,fun q hq hn=>h.block q hq (fun e=>hn (hp q e))⟩
theorem aH.jQ(h:aW c a b)(hc:P c):aH P a b:=⟨h.os,h.tape,h.output,Nat.le_of_eq h.size.symm,fun q _ hn=>h.block q (fun e=>hn (e▸hc))⟩
theorem aH.dK(h:Below a.1.size a b):aH P a b:=⟨h.os,h.tape,h.output,h.size,fun q hq _=>h.block q hq⟩
theorem aH.rX(w:World){o:Nat}(v:Value)(hc:P c):aH P w (w.setCell ⟨c,o,none⟩ v):=.jQ ((aW.refl c w).setCell o v) hc
theorem aH.below{B:Nat}(h:aH P a b)(hp:∀q,P q->B<=q)(hB:B<=a.1.size):Below B a b:=⟨h.os,h.tape,h.output,h.size,fun q hq=>h.block q (by omega) (fun e=>by have:=hp q e;omega)⟩
theorem fu.set{α:Type}{sz:Nat}{hd:α->List Int}{ln:α->Nat}{At:World->Nat->α->Prop}(I9:∀(w w':World) (b:Nat) (r:α),w'.1[b]?=w.1[b]?->At w b r->At w' b r){w V:World}{base b n j:Nat}{rs:List α}{g:Nat->Nat}{r r':α}(h:fu sz hd ln At w base b n rs g)(hj:rs[j]?=some r)(hl:ln r'=ln r)(hz:0<sz)(hh:∀r:α,(hd r).length<sz)
  (hs:w.1.size<=V.1.size) (hb:∀x,x<w.1.size->x≠b->x≠g j->V.1[x]?=w.1[x]?) (hold:∀o,(o<j*sz\/j*sz+(sz-1)<=o)->V.cell? ⟨b,o,none⟩=w.cell? ⟨b,o,none⟩) (Y8:∀t z,(hd r')[t]?=some z->V.cell? ⟨b,j*sz+t,none⟩=some (vI z)) (bg:At V (g j) r'):
  fu sz hd ln At V base b n (rs.set j r') g:=by
 have SK:=h.idx hj;have hlen:=h.len
 have split:∀i y,(rs.set j r')[i]?=some y->(i=j/\y=r')\/(i≠j/\rs[i]?=some y):=fun i y e=>by
  by_cases hi:i=j
  ·subst hi;rw[List.getElem?_set_self (by omega)]at e;exact .inl ⟨rfl,(Option.some.inj e).symm⟩
  ·rw[List.getElem?_set_ne (fun e=>hi e.symm)]at e;exact .inr ⟨hi,e⟩
 have dZ:∀i t,i≠j->t<sz->(i*sz+t<j*sz\/j*sz+(sz-1)<=i*sz+t):=fun i t hi ht=>by
  rcases Nat.lt_or_gt_of_ne hi with hi|hi
  ·have:(i+1)*sz<=j*sz:=Nat.mul_le_mul_right sz (by omega);rw[Nat.add_mul]at this;omega
  ·have:(j+1)*sz<=i*sz:=Nat.mul_le_mul_right sz (by omega);rw[Nat.add_mul]at this;omega
 refine⟨by simp[hlen],fun i y e t z ht=>?_,fun i y e=>?_,h.low,fun i hi=>Nat.lt_of_lt_of_le (h.lt i hi) hs,h.ne,fun i y e=>?_,h.inj⟩
 ·rcases split i y e with ⟨rfl,rfl⟩|⟨hi,e⟩
  ·exact Y8 t z ht
  ·rw[hold _ (dZ i t hi (Nat.lt_trans (List.getElem?_eq_some_iff.1 ht).1 (hh y)))];exact h.head i y e t z ht
 ·rcases split i y e with ⟨rfl,rfl⟩|⟨hi,e⟩
  ·rw[hold _ (.inr aR),hl];exact h.tail i r hj
  ·rw[hold _ (dZ i _ hi (by omega))];exact h.tail i y e
 ·rcases split i y e with ⟨rfl,rfl⟩|⟨hi,e⟩
  ·exact bg
  ·have JZ:=h.idx e;exact I9 _ _ _ _ (hb _ (h.lt i JZ) (h.ne i JZ) (fun e'=>hi (h.inj i j JZ SK e'))) (h.sub i y e)
def mix{α:Type}(f:Nat->α)(rs:List α)(j:Nat):List α:=(List.range rs.length).map fun i=>if i<j then f i else rs[i]?.getD (f i)
theorem zz{α:Type}(f:Nat->α)(rs:List α)(j i:Nat)(h:i<rs.length):(mix f rs j)[i]?=some (if i<j then f i else rs[i]?.getD (f i)):=by simp[mix,h]
theorem um{α:Type}(f:Nat->α)(rs:List α)(j:Nat):(mix f rs j).length=rs.length:=by simp[mix]
theorem EY{α:Type}(f:Nat->α)(rs:List α):mix f rs 0=rs:=by
 apply List.ext_getElem?;intro i;by_cases h:i<rs.length
 ·rw[zz f rs 0 i h];simp[h]
 ·rw[List.getElem?_eq_none (by rw[um];omega),List.getElem?_eq_none (by omega)]
theorem Jn{α:Type}(f:Nat->α)(rs:List α):mix f rs rs.length=(List.range rs.length).map f:=by
 apply List.ext_getElem?;intro i;by_cases h:i<rs.length
 ·rw[zz f rs _ i h];simp[h]
 ·rw[List.getElem?_eq_none (by rw[um];omega),List.getElem?_eq_none (by simp;omega)]
theorem EX{α:Type}(f:Nat->α)(rs:List α)(j:Nat)(hj:j<rs.length):mix f rs (j+1)=(mix f rs j).set j (f j):=by
 apply List.ext_getElem?;intro i;by_cases h:i<rs.length
 ·rw[zz f rs _ i h];by_cases e:i=j
  ·subst e;rw[List.getElem?_set_self (by rw[um];exact h),if_pos (by omega)]
  ·rw[List.getElem?_set_ne (fun k=>e k.symm),zz f rs _ i h];by_cases hi:i<j
   ·rw[if_pos hi,if_pos (by omega)]
   ·rw[if_neg hi,if_neg (by omega)]
 ·rw[List.getElem?_eq_none (by rw[um];omega),List.getElem?_eq_none (by rw[List.length_set,um];omega)]
theorem Jo{α:Type}(f:Nat->α)(rs:List α)(j:Nat){r:α}(h:rs[j]?=some r):(mix f rs j)[j]?=some r:=by
 have hj:=(List.getElem?_eq_some_iff.1 h).1;rw[zz f rs j j hj,if_neg (by omega),h];rfl
def aK{α:Type}(c:α->Nat)(rs:List α)(i:Nat):Nat:=((rs.map c).take i).sum
theorem iH{α:Type}(c:α->Nat)(rs:List α):aK c rs 0=0:=by simp[aK]
theorem iG{α:Type}(c:α->Nat){rs:List α}{i:Nat}{r:α}(h:rs[i]?=some r):aK c rs (i+1)=aK c rs i+c r:=by
 unfold aK;exact jy (by rw[List.getElem?_map,h];rfl)
theorem gN{α:Type}(c:α->Nat)(rs:List α)(i:Nat):aK c rs i<=aK c rs rs.length:=by
 unfold aK;rw[List.take_of_length_le (i:=rs.length) (by simp)];exact kK _ _
def cK(k:K2):Nat:=1+2*k.cells.length
def cR(r:R4):Nat:=3+5*r.ag.length
def mkK(ks:List K2)(k:Int)(i:Nat):K2:=⟨k+aK cK ks i,kC (k+aK cK ks i+1) (cO ks i).cells.length⟩
def Ga(rs:List R4)(k:Int)(i:Nat):R4:=⟨k+aK cR rs i,k+aK cR rs i+1,k+aK cR rs i+1+1,fG (k+aK cR rs i+1+1+1) (atR rs i).ag.length⟩
def vQ(ks:List K2)(k:Int):List K2:=(List.range ks.length).map (mkK ks k)
def xK(rs:List R4)(k:Int):List R4:=(List.range rs.length).map (Ga rs k)
end
def wL(b n:Nat)(g:Nat->Nat)(q:Nat):Prop:=q=b\/∃i,i<n/\q=g i
theorem AX(w:World)(b n cap:Nat)(ks:List K2)(g:Nat->Nat)(k:Int)(hk:0<=k)(ni:k<=500000000)(ht:aK cK ks ks.length<=100000000)(hn:n<=1048576)(hl:∀c∈ks,c.cells.length<=1048576)(oM:b<w.1.size)(hr:Room w b (n*2))(ho:fu 2 pQ vN lD w 0 b n ks g):
  Calls Tryz.prog 70 #[.slice (some ⟨b,0,none⟩) n cap,vI k] w fun e w'=>e=.returned (vI (k+aK cK ks ks.length))/\aH (wL b n g) w w'/\fu 2 pQ vN lD w' 0 b n (vQ ks k) g/\Room w' b (n*2):=by
 have hlen:=ho.len;have HO:Hid (fu 2 pQ vN lD w 0 b n ks g/\Room w b (n*2)/\b<w.1.size/\(∀c∈ks,c.cells.length<=1048576)/\ks.length=n):=⟨ho,hr,oM,hl,hlen⟩
 clear ho hr oM hl hlen;go_enter Tryz.func70,Tryz.ntmps70;go_wp2;go_loopw[1,5] (fun v1 v5 wr=>∃j:Nat,j<=n/\v5=vI j/\v1=vI (k+(aK cK ks j:Int))/\aH (wL b n g) w wr/\fu 2 pQ vN lD wr 0 b n (mix (mkK ks k) ks j) g/\Room wr b (n*2)) (fun _ v5 _=>n-(intOf v5).toNat)
 case atStart=>exact⟨0,Nat.zero_le _,rfl,by rw[iH];simp,aH.refl _ _,by rw[EY];exact HO.out.1,HO.out.2.1⟩
 case round=>
  obtain⟨j,hj,rfl,rfl,j5,how,ed⟩:=hrel;have ky:=gN cK ks j;by_cases aN:j<n
  ·have yP:ks[j]?=some (cO ks j):=eX (by rw[HO.out.2.2.2.2];exact aN);have vB:=Jo (mkK ks k) ks j yP;obtain⟨v0,d0,f0⟩:=ed (j*2) (by omega);obtain⟨aZ,c1,jJ⟩:=how.tail j _ vB;have bg:=how.sub j _ vB;have SG:=how.ne j aN;have uT:=how.lt j aN;have tV:(cO ks j).cells.length<=1048576:=HO.out.2.2.2.1 _ (List.mem_of_getElem? yP);have kQ:Hid (aK cK ks (j+1)=aK cK ks j+cK (cO ks j)):=iG cK yP;have K:Hid (aH (wL b n g) w wr/\fu 2 pQ vN lD wr 0 b n (mix (mkK ks k) ks j) g/\Room wr b (n*2)/\(mix (mkK ks k) ks j)[j]?=some (cO ks j)):=⟨j5,how,ed,vB⟩
   have M8:Room (wr.setCell ⟨b,j*2,none⟩ (vI (k+(aK cK ks j:Int)))) (g j) ((cO ks j).cells.length*2):=by
    refine bg.2.aj ?_;exact Below.heap_setCell _ _ _ _ SG
   have hm:=ER (wr.setCell ⟨b,j*2,none⟩ (vI (k+(aK cK ks j:Int)))) (g j) (cO ks j).cells.length aZ (k+(aK cK ks j:Int)+1) tV (by omega) (by omega) M8;simp only[vN,Nat.reduceSub]at c1;clear j5 how ed vB bg M8 jJ yP;go_wp2_with fail;refine hm.mono ?_;clear hm;rintro e w1 ⟨rfl,jW,YX,pV⟩;go_wp2;obtain⟨j5,how,ed,vB⟩:=K.out;have Ao:(wr.setCell ⟨b,j*2,none⟩ (vI (k+(aK cK ks j:Int)))).1.size=wr.1.size:=by simp[World.setCell]
   have cb:∀o,w1.cell? ⟨b,o,none⟩=(wr.setCell ⟨b,j*2,none⟩ (vI (k+(aK cK ks j:Int)))).cell? ⟨b,o,none⟩:=fun o=>World.cell?_of_block (a:=⟨b,o,none⟩) (jW.block b (fun e=>SG e.symm))
   refine⟨⟨j+1,by omega,by simp,by rw[kQ.out];simp[cK];omega,?_,?_,?_⟩,by simp[intOf];omega⟩
   ·exact(j5.trans (aH.rX wr _ (.inl rfl))).trans (aH.jQ jW (.inr ⟨j,aN,rfl⟩))
   ·rw[EX _ _ _ (by rw[HO.out.2.2.2.2];exact aN)];refine how.set lD.aj vB (by simp[vN,mkK,mh]) (by omega) (by intro r;simp[pQ]) (by rw[jW.size,Ao];exact Nat.le_refl _) (fun x _ hx hg=>(jW.block x hg).trans (Below.heap_setCell _ _ _ _ hx)) (fun o ho=>?_) (fun t z hz=>?_) ⟨by rw[mkK];exact YX,by simp only[mkK,mh];exact pV⟩
    ·rw[cb o,ae (by omega)]
    ·have Zu:t=0:=by
      have:=(List.getElem?_eq_some_iff.1 hz).1;simp[pQ]at this;exact this
     subst Zu;simp[pQ,mkK]at hz;subst hz;rw[Nat.add_zero,cb];exact az d0
   ·exact(ed.set _).aj (jW.block b (fun e=>SG e.symm))
  ·have:j=n:=by omega
   subst this;have hd:decide ((j:Int)<(j:Int))=false:=by simp
   have CS:ks.length=j:=HO.out.2.2.2.2
   have K:Hid (aH (wL b j g) w wr/\fu 2 pQ vN lD wr 0 b j (vQ ks k) g/\Room wr b (j*2)):=⟨j5,by
    have:=Jn (mkK ks k) ks;rw[CS]at this;rw[this,<-CS]at how
    rw[<-CS];exact how,ed⟩
   have H:Hid (ks.length=j):=CS;clear j5 how ed CS;go_wp2;go_ret;exact⟨by rw[H.out];rfl,K.out.1,K.out.2.1,K.out.2.2⟩
theorem xJ(w:World)(b n cap:Nat)(ks:List R4)(g:Nat->Nat)(k:Int)(hk:0<=k)(ni:k<=500000000)(ht:aK cR ks ks.length<=100000000)(hn:n<=1048576)(hl:∀c∈ks,c.ag.length<=1048576)(oM:b<w.1.size)(hr:Room w b (n*4))(ho:fu 4 oZ xG AtR w 0 b n ks g):
  Calls Tryz.prog 71 #[.slice (some ⟨b,0,none⟩) n cap,vI k] w fun e w'=>e=.returned (vI (k+aK cR ks ks.length))/\aH (wL b n g) w w'/\fu 4 oZ xG AtR w' 0 b n (xK ks k) g/\Room w' b (n*4):=by
 have hlen:=ho.len;have HO:Hid (fu 4 oZ xG AtR w 0 b n ks g/\Room w b (n*4)/\b<w.1.size/\(∀c∈ks,c.ag.length<=1048576)/\ks.length=n):=⟨ho,hr,oM,hl,hlen⟩
 clear ho hr oM hl hlen;go_enter Tryz.func71,Tryz.ntmps71;go_wp2;go_loopw[1,5] (fun v1 v5 wr=>∃j:Nat,j<=n/\v5=vI j/\v1=vI (k+(aK cR ks j:Int))/\aH (wL b n g) w wr/\fu 4 oZ xG AtR wr 0 b n (mix (Ga ks k) ks j) g/\Room wr b (n*4)) (fun _ v5 _=>n-(intOf v5).toNat)
 case atStart=>exact⟨0,Nat.zero_le _,rfl,by rw[iH];simp,aH.refl _ _,by rw[EY];exact HO.out.1,HO.out.2.1⟩
 case round=>
  obtain⟨j,hj,rfl,rfl,j5,how,ed⟩:=hrel;have ky:=gN cR ks j;by_cases aN:j<n
  ·have yP:ks[j]?=some (atR ks j):=iV (by rw[HO.out.2.2.2.2];exact aN);have vB:=Jo (Ga ks k) ks j yP;obtain⟨v0,d0,f0⟩:=ed (j*4) (by omega);obtain⟨v1,d1,f1⟩:=ed (j*4+1) (by omega);obtain⟨v2,d2,f2⟩:=ed (j*4+2) (by omega);obtain⟨aZ,c1,jJ⟩:=how.tail j _ vB;have bg:=how.sub j _ vB;have SG:=how.ne j aN;have uT:=how.lt j aN;have tV:(atR ks j).ag.length<=1048576:=HO.out.2.2.2.1 _ (List.mem_of_getElem? yP);have kQ:Hid (aK cR ks (j+1)=aK cR ks j+cR (atR ks j)):=iG cR yP;have K:Hid (aH (wL b n g) w wr/\fu 4 oZ xG AtR wr 0 b n (mix (Ga ks k) ks j) g/\Room wr b (n*4)/\(mix (Ga ks k) ks j)[j]?=some (atR ks j)):=⟨j5,how,ed,vB⟩
   obtain⟨X,hX⟩:∃X,X=((wr.setCell ⟨b,j*4,none⟩ (vI (k+(aK cR ks j:Int)))).setCell ⟨b,j*4+1,none⟩ (vI (k+(aK cR ks j:Int)+1))).setCell ⟨b,j*4+2,none⟩ (vI (k+(aK cR ks j:Int)+1+1)):=⟨_,rfl⟩
   have Sk:aW b wr X:=by rw[hX];exact(((aW.refl b wr).setCell _ _).setCell _ _).setCell _ _
   have e0:X.cell? ⟨b,j*4,none⟩=some (vI (k+(aK cR ks j:Int))):=by
    rw[hX,ae (by omega),ae (by omega)];exact az d0
   have e1:X.cell? ⟨b,j*4+1,none⟩=some (vI (k+(aK cR ks j:Int)+1)):=by
    rw[hX,ae (by omega)];exact az (by rw[ae (by omega)];exact d1)
   have e2:X.cell? ⟨b,j*4+2,none⟩=some (vI (k+(aK cR ks j:Int)+1+1)):=by
    rw[hX];exact az (by rw[ae (by omega),ae (by omega)];exact d2)
   have eo:∀o,(o<j*4\/j*4+3<=o)->X.cell? ⟨b,o,none⟩=wr.cell? ⟨b,o,none⟩:=fun o ho=>by
    rw[hX,ae (by omega),ae (by omega),ae (by omega)]
   have er:Room X b (n*4):=by rw[hX];exact((ed.set _).set _).set _
   have M8:Room X (g j) ((atR ks j).ag.length*5):=bg.2.aj (Sk.block _ SG);have hm:=rP X (g j) (atR ks j).ag.length aZ (k+(aK cR ks j:Int)+1+1+1) tV (by omega) (by omega) M8;have KX:Hid (aW b wr X/\X.cell? ⟨b,j*4,none⟩=some (vI (k+(aK cR ks j:Int)))/\X.cell? ⟨b,j*4+1,none⟩=some (vI (k+(aK cR ks j:Int)+1))/\X.cell? ⟨b,j*4+2,none⟩=some (vI (k+(aK cR ks j:Int)+1+1))/\(∀o,(o<j*4\/j*4+3<=o)->X.cell? ⟨b,o,none⟩=wr.cell? ⟨b,o,none⟩)/\Room X b (n*4)):=⟨Sk,e0,e1,e2,eo,er⟩
   simp only[xG,Nat.reduceSub]at c1;clear j5 how ed vB bg M8 jJ yP Sk e0 e1 e2 eo er;subst hX;go_wp2_with fail;refine hm.mono ?_;clear hm;rintro e w1 ⟨rfl,jW,YX,pV⟩;go_wp2;obtain⟨j5,how,ed,vB⟩:=K.out;obtain⟨Sk,e0,e1,e2,eo,er⟩:=KX.out;generalize ((wr.setCell ⟨b,j*4,none⟩ (vI (k+(aK cR ks j:Int)))).setCell ⟨b,j*4+1,none⟩ (vI (k+(aK cR ks j:Int)+1))).setCell ⟨b,j*4+2,none⟩ (vI (k+(aK cR ks j:Int)+1+1))=X at *;have cb:∀o,w1.cell? ⟨b,o,none⟩=X.cell? ⟨b,o,none⟩:=fun o=>World.cell?_of_block (a:=⟨b,o,none⟩) (jW.block b (fun e=>SG e.symm))
   refine⟨⟨j+1,by omega,by simp,by rw[kQ.out];simp[cR];omega,?_,?_,?_⟩,by simp[intOf];omega⟩
   ·exact(j5.trans (aH.jQ Sk (.inl rfl))).trans (aH.jQ jW (.inr ⟨j,aN,rfl⟩))
   ·rw[EX _ _ _ (by rw[HO.out.2.2.2.2];exact aN)];refine how.set AtR.aj vB (by simp[xG,Ga,iq]) (by omega) (by intro r;simp[oZ]) (by rw[jW.size,Sk.size];exact Nat.le_refl _) (fun x _ hx hg=>(jW.block x hg).trans (Sk.block _ hx)) (fun o ho=>?_) (fun t z hz=>?_) ⟨by rw[Ga];exact YX,by simp only[Ga,iq];exact pV⟩
    ·rw[cb o,eo o (by omega)]
    ·have Zu:=(List.getElem?_eq_some_iff.1 hz).1;simp[oZ]at Zu;rw[cb];rcases t with _|_|_|t
     ·simp[oZ,Ga]at hz;subst hz;exact e0
     ·simp[oZ,Ga]at hz;subst hz;exact e1
     ·simp[oZ,Ga]at hz;subst hz;exact e2
     ·omega
   ·exact er.aj (jW.block b (fun e=>SG e.symm))
  ·have:j=n:=by omega
   subst this;have hd:decide ((j:Int)<(j:Int))=false:=by simp
   have CS:ks.length=j:=HO.out.2.2.2.2
   have K:Hid (aH (wL b j g) w wr/\fu 4 oZ xG AtR wr 0 b j (xK ks k) g/\Room wr b (j*4)):=⟨j5,by
    have:=Jn (Ga ks k) ks;rw[CS]at this;rw[this,<-CS]at how
    rw[<-CS];exact how,ed⟩
   have H:Hid (ks.length=j):=CS;clear j5 how ed CS;go_wp2;go_ret;exact⟨by rw[H.out];rfl,K.out.1,K.out.2.1,K.out.2.2⟩
theorem AV(w:World)(a:Option Addr)(cap:Nat)(k:Int):Calls Tryz.prog 70 #[.slice a 0 cap,vI k] w fun e w'=>e=.returned (vI k)/\w'=w:=by
 go_enter Tryz.func70,Tryz.ntmps70;go_wp2;go_loop[1,5] (fun v1 v5=>v1=vI k/\v5=vI 0) (fun _ _=>0)
 case atStart=>exact⟨rfl,rfl⟩
 case round=>
  obtain⟨rfl,rfl⟩:=hrel;go_wp2;go_ret;exact⟨rfl,rfl⟩
theorem xI(w:World)(a:Option Addr)(cap:Nat)(k:Int):Calls Tryz.prog 71 #[.slice a 0 cap,vI k] w fun e w'=>e=.returned (vI k)/\w'=w:=by
 go_enter Tryz.func71,Tryz.ntmps71;go_wp2;go_loop[1,5] (fun v1 v5=>v1=vI k/\v5=vI 0) (fun _ _=>0)
 case atStart=>exact⟨rfl,rfl⟩
 case round=>
  obtain⟨rfl,rfl⟩:=hrel;go_wp2;go_ret;exact⟨rfl,rfl⟩
section
variable {l t:Nat}
def fK(l t:Nat):Int:=if t<=l then((l-t:Nat):Int)else -1
theorem bO(h:t<=l):fK l t=((l-t:Nat):Int):=if_pos h
theorem bH(h:¬t<=l):fK l t=-1:=if_neg h
theorem Ad(w:World)(a:Option Addr)(n cap:Nat)(l:Nat)(hn:n<=maxLen)(hl:l<=1048576):Calls Tryz.prog 83 #[.slice a n cap,vI (l:Int)] w fun e w'=>e=.returned (vI (fK l n))/\w'=w:=by
 unfold maxLen at hn;by_cases h:n<=l
 ·rw[bO h];have d0:decide ((l:Int)-(n:Int)<0)=false:=by simp;omega
  go_enter Tryz.func83,Tryz.ntmps83;go_wp2;go_ret;have e:((l-n:Nat):Int)=(l:Int)-(n:Int):=by omega
  exact⟨by rw[e];rfl,rfl⟩
 ·rw[bH h];have d0:decide ((l:Int)-(n:Int)<0)=true:=by simp;omega
  go_enter Tryz.func83,Tryz.ntmps83;go_wp2;go_ret;exact⟨rfl,rfl⟩
theorem Lb(w:World)(a:Option Addr)(n cap:Nat)(l:Nat)(hn:n<=maxLen)(hl:l<=1048576):Calls Tryz.prog 157 #[.slice a n cap,vI (l:Int)] w fun e w'=>e=.returned (vI (fK l n))/\w'=w:=by
 unfold maxLen at hn;by_cases h:n<=l
 ·rw[bO h];have d0:decide ((l:Int)-(n:Int)<0)=false:=by simp;omega
  go_enter Tryz.func157,Tryz.ntmps157;go_wp2;go_ret;have e:((l-n:Nat):Int)=(l:Int)-(n:Int):=by omega
  exact⟨by rw[e];rfl,rfl⟩
 ·rw[bH h];have d0:decide ((l:Int)-(n:Int)<0)=true:=by simp;omega
  go_enter Tryz.func157,Tryz.ntmps157;go_wp2;go_ret;exact⟨rfl,rfl⟩
theorem Ih(w:World)(a:Option Addr)(n cap:Nat)(l:Nat)(hn:n<=maxLen)(hl:l<=1048576):Calls Tryz.prog 79 #[.slice a n cap,vI (l:Int)] w fun e w'=>e=.returned (vI (fK l n))/\w'=w:=by
 unfold maxLen at hn;by_cases h:n<=l
 ·rw[bO h];have d0:decide ((l:Int)-(n:Int)<0)=false:=by simp;omega
  go_enter Tryz.func79,Tryz.ntmps79;go_wp2;go_ret;have e:((l-n:Nat):Int)=(l:Int)-(n:Int):=by omega
  exact⟨by rw[e];rfl,rfl⟩
 ·rw[bH h];have d0:decide ((l:Int)-(n:Int)<0)=true:=by simp;omega
  go_enter Tryz.func79,Tryz.ntmps79;go_wp2;go_ret;exact⟨rfl,rfl⟩
theorem Ik(w:World)(k t r:Int)(a:Option Addr)(n cap:Nat)(l:Nat)(hn:n<=maxLen)(hl:l<=1048576):Calls Tryz.prog 121 #[.agg #[vI k,vI t,vI r,.slice a n cap],vI (l:Int)] w fun e w'=>e=.returned (vI (fK l n))/\Below w.1.size w w':=by
 have hz:=fun W=>Ad W a n cap l hn hl
 by_cases h:n<=l
 ·rw[bO h]at *;have d0:decide (((l-n:Nat):Int)<0)=false:=by simp
  go_enter Tryz.func121,Tryz.ntmps121;go_wp2_with (go_at_call 83;refine(hz _).mono ?_;rintro e w' ⟨rfl,rfl⟩);go_ret;exact⟨rfl,aJ.alloc aR _⟩
 ·rw[bH h]at *;go_enter Tryz.func121,Tryz.ntmps121;go_wp2_with (go_at_call 83;refine(hz _).mono ?_;rintro e w' ⟨rfl,rfl⟩);go_ret;exact⟨rfl,aJ.alloc aR _⟩
theorem Ob(w:World)(r:Int)(a:Option Addr)(n cap:Nat)(l:Nat)(hn:n<=maxLen)(hl:l<=1048576):Calls Tryz.prog 120 #[.agg #[vI r,.slice a n cap],vI (l:Int)] w fun e w'=>e=.returned (vI (fK l n))/\Below w.1.size w w':=by
 have hz:=fun W=>Lb W a n cap l hn hl
 by_cases h:n<=l
 ·rw[bO h]at *;have d0:decide (((l-n:Nat):Int)<0)=false:=by simp
  go_enter Tryz.func120,Tryz.ntmps120;go_wp2_with (go_at_call 157;refine(hz _).mono ?_;rintro e w' ⟨rfl,rfl⟩);go_ret;exact⟨rfl,aJ.alloc aR _⟩
 ·rw[bH h]at *;go_enter Tryz.func120,Tryz.ntmps120;go_wp2_with (go_at_call 157;refine(hz _).mono ?_;rintro e w' ⟨rfl,rfl⟩);go_ret;exact⟨rfl,aJ.alloc aR _⟩
theorem FU(w:World)(a:Option Addr)(n cap:Nat)(rs:List R4)(l:Nat)(hn:n<=maxLen)(Gw:l<=1048576)(hs:Gg w w.1.size a n rs)(hl:∀r∈rs,r.ag.length<=maxLen):
  Calls Tryz.prog 81 #[.slice a n cap,vI (l:Int)] w fun e w'=>e=.returned (vI (fK l (n+jF rs)))/\Below w.1.size w w':=by
 obtain⟨hx,hs⟩:=hs;have Ey:=hn;unfold maxLen at Ey;by_cases h0:n<=l
 ·have d0:decide ((l:Int)-(n:Int)<0)=false:=by simp;omega
  have el:(l:Int)-(n:Int)=((l-n:Nat):Int):=by omega
  go_enter Tryz.func81,Tryz.ntmps81;go_wp2;go_loopw[1,5] (fun v1 v5 wr=>∃j:Nat,j<=n/\v5=vI j/\n+jF (rs.take j)<=l/\v1=vI ((l-(n+jF (rs.take j)):Nat):Int)/\Below w.1.size w wr) (fun _ v5 _=>n-(intOf v5).toNat)
  case atStart=>exact⟨0,Nat.zero_le _,rfl,by simpa[jF]using h0,by simp[jF];try omega,aJ⟩
  case round=>
   obtain⟨j,hj,rfl,hle,rfl,aF⟩:=hrel;have KL:Hid (n+jF (rs.take j)<=l/\rs.length=n):=⟨hle,hx⟩
   clear el;by_cases aN:j<n
   ·rcases hs with hs|⟨b,off,rfl,hb,h1⟩
    ·omega
    ·have bg:=h1 j _ (iV (by omega));obtain⟨a',aZ,hc,_,_⟩:=bg.c3;have e0:=(aF.cell (p:=⟨b,off+j*4,none⟩) hb).trans bg.c0;have e1:=(aF.cell (p:=⟨b,off+j*4+1,none⟩) hb).trans bg.c1;have e2:=(aF.cell (p:=⟨b,off+j*4+2,none⟩) hb).trans bg.c2;have e3:=(aF.cell (p:=⟨b,off+j*4+3,none⟩) hb).trans hc;have hz:=Ik wr (atR rs j).kind (atR rs j).tx (atR rs j).b a' (atR rs j).ag.length aZ (l-(n+jF (rs.take j))) (hl _ (List.mem_of_getElem? (iV (by omega)))) (by omega)
     have Cs:Hid (jF (rs.take (j+1))=jF (rs.take j)+(atR rs j).ag.length):=by
      unfold Hid jF;rw[List.map_take,List.map_take];exact jy (by rw[List.getElem?_map,iV (by omega)];rfl)
     have OW:Hid (jF (rs.take (j+1))<=jF rs):=by unfold Hid jF;rw[List.map_take];exact kK _ _
     have KB:Hid (Below w.1.size w wr):=aF;generalize XH:jF (rs.take j)=LL at *;generalize (atR rs j).ag.length=m at *;generalize (atR rs j).kind=rk at *;generalize (atR rs j).tx=rt at *;generalize (atR rs j).b=rr at *;clear h1 hc aF hl hx hle bg;by_cases tT:m<=l-(n+LL)
     ·rw[bO tT]at hz;have d1:decide (((l-(n+LL)-m:Nat):Int)<0)=false:=by simp
      go_wp2_with fail;refine hz.mono ?_;clear hz;rintro e w1 ⟨rfl,b1⟩;go_wp2;have h1:=KL.out.1;refine⟨⟨j+1,by omega,by simp,by rw[Cs.out];omega,by rw[Cs.out];congr 2;omega,KB.out.trans (b1.mono KB.out.size)⟩,by simp[intOf];omega⟩
     ·rw[bH tT]at hz;go_wp2_with fail;refine hz.mono ?_;clear hz;rintro e w1 ⟨rfl,b1⟩;go_wp2;go_ret;have h2:=Cs.out;have h3:=OW.out;refine⟨by rw[bH (by omega)];rfl,KB.out.trans (b1.mono KB.out.size)⟩
   ·have:j=n:=by omega
    subst this;have hd:decide ((j:Int)<(j:Int))=false:=by simp
    have ht:rs.take j=rs:=List.take_of_length_le (by omega);rw[ht]at hle ⊢;clear hs hl KL ht;go_wp2;go_ret;exact⟨by rw[bO hle];rfl,aF⟩
 ·have d0:decide ((l:Int)-(n:Int)<0)=true:=by simp;omega
  go_enter Tryz.func81,Tryz.ntmps81;go_wp2;go_ret;exact⟨by rw[bH (by omega)];rfl,aJ⟩
theorem Lc(w:World)(a:Option Addr)(n cap:Nat)(rs:List K2)(l:Nat)(hn:n<=maxLen)(Gw:l<=1048576)(hs:xe w w.1.size a n rs)(hl:∀r∈rs,r.cells.length<=maxLen):
  Calls Tryz.prog 80 #[.slice a n cap,vI (l:Int)] w fun e w'=>e=.returned (vI (fK l (n+jv rs)))/\Below w.1.size w w':=by
 obtain⟨hx,hs⟩:=hs;have Ey:=hn;unfold maxLen at Ey;by_cases h0:n<=l
 ·have d0:decide ((l:Int)-(n:Int)<0)=false:=by simp;omega
  have el:(l:Int)-(n:Int)=((l-n:Nat):Int):=by omega
  go_enter Tryz.func80,Tryz.ntmps80;go_wp2;go_loopw[1,5] (fun v1 v5 wr=>∃j:Nat,j<=n/\v5=vI j/\n+jv (rs.take j)<=l/\v1=vI ((l-(n+jv (rs.take j)):Nat):Int)/\Below w.1.size w wr) (fun _ v5 _=>n-(intOf v5).toNat)
  case atStart=>exact⟨0,Nat.zero_le _,rfl,by simpa[jv]using h0,by simp[jv];try omega,aJ⟩
  case round=>
   obtain⟨j,hj,rfl,hle,rfl,aF⟩:=hrel;have KL:Hid (n+jv (rs.take j)<=l/\rs.length=n):=⟨hle,hx⟩
   clear el;by_cases aN:j<n
   ·rcases hs with hs|⟨b,off,rfl,hb,h1⟩
    ·omega
    ·have bg:=h1 j _ (eX (by omega));obtain⟨a',aZ,hc,_,_⟩:=bg.c1;have e0:=(aF.cell (p:=⟨b,off+j*2,none⟩) hb).trans bg.c0;have e1:=(aF.cell (p:=⟨b,off+j*2+1,none⟩) hb).trans hc;have hz:=Ob wr (cO rs j).b a' (cO rs j).cells.length aZ (l-(n+jv (rs.take j))) (hl _ (List.mem_of_getElem? (eX (by omega)))) (by omega)
     have Cs:Hid (jv (rs.take (j+1))=jv (rs.take j)+(cO rs j).cells.length):=by
      unfold Hid jv;rw[List.map_take,List.map_take];exact jy (by rw[List.getElem?_map,eX (by omega)];rfl)
     have OW:Hid (jv (rs.take (j+1))<=jv rs):=by unfold Hid jv;rw[List.map_take];exact kK _ _
     have KB:Hid (Below w.1.size w wr):=aF;generalize XH:jv (rs.take j)=LL at *;generalize (cO rs j).cells.length=m at *;generalize (cO rs j).b=rr at *;clear h1 hc aF hl hx hle bg;by_cases tT:m<=l-(n+LL)
     ·rw[bO tT]at hz;have d1:decide (((l-(n+LL)-m:Nat):Int)<0)=false:=by simp
      go_wp2_with fail;refine hz.mono ?_;clear hz;rintro e w1 ⟨rfl,b1⟩;go_wp2;have h1:=KL.out.1;refine⟨⟨j+1,by omega,by simp,by rw[Cs.out];omega,by rw[Cs.out];congr 2;omega,KB.out.trans (b1.mono KB.out.size)⟩,by simp[intOf];omega⟩
     ·rw[bH tT]at hz;go_wp2_with fail;refine hz.mono ?_;clear hz;rintro e w1 ⟨rfl,b1⟩;go_wp2;go_ret;have h2:=Cs.out;have h3:=OW.out;refine⟨by rw[bH (by omega)];rfl,KB.out.trans (b1.mono KB.out.size)⟩
   ·have:j=n:=by omega
    subst this;have hd:decide ((j:Int)<(j:Int))=false:=by simp
    have ht:rs.take j=rs:=List.take_of_length_le (by omega);rw[ht]at hle ⊢;clear hs hl KL ht;go_wp2;go_ret;exact⟨by rw[bO hle];rfl,aF⟩
 ·have d0:decide ((l:Int)-(n:Int)<0)=true:=by simp;omega
  go_enter Tryz.func80,Tryz.ntmps80;go_wp2;go_ret;exact⟨by rw[bH (by omega)];rfl,aJ⟩
end
theorem dI.gP{w:World}{b o:Nat}{s:S5}(h:dI w b o s)(d:Nat)(os:Array Obj):dI (grow (redrawn w d) os) b o s:=
 ⟨cell_regrown h.c0 d os,cell_regrown h.c1 d os,cell_regrown h.c2 d os,cell_regrown h.c3 d os,cell_regrown h.c4 d os⟩
theorem ru(w:World)(s:S5):Calls Tryz.prog 156 #[.agg #[vI s.b,vI s.e,vI s.g,.bool s.i,vI s.j],.agg #[vI s.b,vI s.e,vI s.g,.bool s.i,vI s.j]] w fun e w'=>
  e=.returned (.bool true)/\Below w.1.size w w':=by
 obtain⟨r,l,v,u,x⟩:=s;go_enter Tryz.func156,Tryz.ntmps156;go_wp2;go_ret;exact⟨rfl,(aJ.alloc aR _).alloc (by simp) _⟩
theorem pM(w:World)(b off cap b' bG aZ n:Nat)(xs:List S5)(hx:xs.length=n)(hn:n<=maxLen)(h1:aX w b off xs)(hb:b<w.1.size)(h2:aX w b' bG xs)(fC:b'<w.1.size):
  Calls Tryz.prog 117 #[.slice (some ⟨b,off,none⟩) n cap,.slice (some ⟨b',bG,none⟩) n aZ] w fun e w'=>e=.returned (.bool true)/\Below w.1.size w w':=by
 unfold maxLen at hn;go_enter Tryz.func117,Tryz.ntmps117;go_wp2;go_loopw[5] (fun i wr=>∃k:Nat,k<=n/\i=vI k/\Below w.1.size w wr) (fun i _=>n-(intOf i).toNat)
 case atStart=>exact⟨0,Nat.zero_le _,rfl,aJ⟩
 case round=>
  obtain⟨k,hk,rfl,aF⟩:=hrel;by_cases aN:k<n
  ·obtain⟨s,gu⟩:∃s,xs[k]?=some s:=⟨xs[k]'(by omega),by simp⟩
   have t1:=(((h1 k s gu).below aF hb).gP)
   have t2:=(((h2 k s gu).below aF fC).gP)
   have c0:=fun d os=>(t1 d os).c0
   have c1:=fun d os=>(t1 d os).c1
   have c2:=fun d os=>(t1 d os).c2
   have c3:=fun d os=>(t1 d os).c3
   have c4:=fun d os=>(t1 d os).c4
   have e0:=fun d os=>(t2 d os).c0
   have e1:=fun d os=>(t2 d os).c1
   have e2:=fun d os=>(t2 d os).c2
   have e3:=fun d os=>(t2 d os).c3
   have e4:=fun d os=>(t2 d os).c4
   have cQ:∀d os,Calls Tryz.prog 156 #[.agg #[vI s.b,vI s.e,vI s.g,.bool s.i,vI s.j],.agg #[vI s.b,vI s.e,vI s.g,.bool s.i,vI s.j]] (grow (redrawn wr d) os) fun e fq=>e=.returned (.bool true)/\∃p:Regrown,fq=grow (redrawn wr p.d) p.os:=fun d os=>Calls.regrown_of (ru _ s)
   have K:Hid (Below w.1.size w wr):=aF;clear t1 t2 aF gu h1 h2;go_wp2_with fail;refine wp_region_quiet_below (by kernel_rfl) (by kernel_rfl) ?_;repeat (quiet_step (exact cQ _ _))
   refine wpQuiet_nil ?_;intro _ dD;obtain⟨⟨dq,bI⟩,aT⟩:=dD;subst aT;have bq:=below_regrown wr dq bI;go_wp2;exact⟨⟨k+1,by omega,by simp,K.out.trans (bq.mono K.out.size)⟩,by simp[intOf];omega⟩
  ·have:k=n:=by omega
   subst this;have hd:decide (k<k)=false:=by simp
   go_wp2;go_ret;exact⟨rfl,aF⟩
theorem kF(w:World)(a a':Option Addr)(cap aZ:Nat):Calls Tryz.prog 117 #[.slice a 0 cap,.slice a' 0 aZ] w fun e w'=>e=.returned (.bool true)/\Below w.1.size w w':=by
 go_enter Tryz.func117,Tryz.ntmps117;go_wp2;go_loopw[5] (fun i wr=>i=vI 0/\Below w.1.size w wr) (fun _ _=>0)
 case atStart=>exact⟨rfl,aJ⟩
 case round=>
  obtain⟨rfl,aF⟩:=hrel;go_wp2;go_ret;exact⟨rfl,aF⟩
theorem rq(w:World)(a a':Option Addr)(n cap aZ:Nat)(xs:List S5)(hn:n<=maxLen)(h1:Sl w w.1.size a n xs)(h2:Sl w w.1.size a' n xs):
  Calls Tryz.prog 117 #[.slice a n cap,.slice a' n aZ] w fun e w'=>e=.returned (.bool true)/\Below w.1.size w w':=by
 obtain⟨hx,h1⟩:=h1;obtain⟨_,h2⟩:=h2;rcases h1 with rfl|⟨b,off,rfl,hb,h1⟩
 ·exact kF w a a' cap aZ
 ·rcases h2 with rfl|⟨b',bG,rfl,fC,h2⟩
  ·exact kF w _ a' cap aZ
  ·exact pM w b off cap b' bG aZ n xs hx hn h1 hb h2 fC
theorem Ay(w:World)(k t r:Int)(a a':Option Addr)(n cap aZ:Nat)(xs:List S5)(hn:n<=maxLen)(h1:Sl w w.1.size a n xs)(h2:Sl w w.1.size a' n xs):
  Calls Tryz.prog 154 #[.agg #[vI k,vI t,vI r,.slice a n cap],.agg #[vI k,vI t,vI r,.slice a' n aZ]] w fun e w'=>e=.returned (.bool true)/\Below w.1.size w w':=by
 go_enter Tryz.func154,Tryz.ntmps154;go_wp2_with fail;have b0:Below w.1.size w ((w.alloc (.cells #[vI k,vI t,vI r,.slice a n cap] 148)).alloc (.cells #[vI k,vI t,vI r,.slice a' n aZ] 148)):=(aJ.alloc aR _).alloc (by simp) _;refine(rq _ a a' n cap aZ xs hn ((h1.below b0).mono b0.size) ((h2.below b0).mono b0.size)).mono ?_;rintro e w' ⟨rfl,b1⟩;go_wp2;go_ret;exact⟨rfl,b0.trans (b1.mono b0.size)⟩
theorem Eg(w:World)(r:Int)(a a':Option Addr)(n cap aZ:Nat)(xs:List C2)(hn:n<=maxLen)(h1:pE w w.1.size a n xs)(h2:pE w w.1.size a' n xs):
  Calls Tryz.prog 153 #[.agg #[vI r,.slice a n cap],.agg #[vI r,.slice a' n aZ]] w fun e w'=>e=.returned (.bool true)/\Below w.1.size w w':=by
 go_enter Tryz.func153,Tryz.ntmps153;go_wp2_with fail;have b0:Below w.1.size w ((w.alloc (.cells #[vI r,.slice a n cap] 107)).alloc (.cells #[vI r,.slice a' n aZ] 107)):=(aJ.alloc aR _).alloc (by simp) _;refine(Ed _ a a' n cap aZ xs hn (h1.later b0) (h2.later b0)).mono ?_;rintro e w' ⟨rfl,b1⟩;go_wp2;go_ret;exact⟨rfl,b0.trans (b1.mono b0.size)⟩
theorem Aw(w:World)(a a':Option Addr)(n cap aZ:Nat)(rs:List R4)(hn:n<=maxLen)(hl:∀r∈rs,r.ag.length<=maxLen)(h1:Gg w w.1.size a n rs)(h2:Gg w w.1.size a' n rs):
  Calls Tryz.prog 115 #[.slice a n cap,.slice a' n aZ] w fun e w'=>e=.returned (.bool true)/\Below w.1.size w w':=by
 unfold maxLen at hn;obtain⟨hx,h1⟩:=h1;obtain⟨_,h2⟩:=h2;go_enter Tryz.func115,Tryz.ntmps115;go_wp2;go_loopw[5] (fun i wr=>∃k:Nat,k<=n/\i=vI k/\Below w.1.size w wr) (fun i _=>n-(intOf i).toNat)
 case atStart=>exact⟨0,Nat.zero_le _,rfl,aJ⟩
 case round=>
  obtain⟨k,hk,rfl,aF⟩:=hrel;by_cases aN:k<n
  ·rcases h1 with h1|⟨b,off,rfl,hb,h1⟩
   ·omega
   ·rcases h2 with h2|⟨b',bG,rfl,fC,h2⟩
    ·omega
    ·have t1:=((h1 k _ (iV (by omega))).below (aF.mono aR) hb).mono aF.size;have t2:=((h2 k _ (iV (by omega))).below (aF.mono aR) fC).mono aF.size;have QU:=hl _ (List.mem_of_getElem? (iV (rs:=rs) (i:=k) (by omega)));have qJ:b<wr.1.size:=Nat.lt_of_lt_of_le hb aF.size;have CQ:b'<wr.1.size:=Nat.lt_of_lt_of_le fC aF.size;obtain⟨a1,k1,d1,s1,_⟩:=t1.c3;obtain⟨a2,k2,d2,s2,_⟩:=t2.c3;have x0:∀d os,(grow (redrawn wr d) os).cell? ⟨b,off+k*4,none⟩=some (vI (atR rs k).kind):=fun d os=>((below_regrown wr d os).cell (p:=⟨b,off+k*4,none⟩) qJ).trans t1.c0
     have x1:∀d os,(grow (redrawn wr d) os).cell? ⟨b,off+k*4+1,none⟩=some (vI (atR rs k).tx):=fun d os=>((below_regrown wr d os).cell (p:=⟨b,off+k*4+1,none⟩) qJ).trans t1.c1
     have x2:∀d os,(grow (redrawn wr d) os).cell? ⟨b,off+k*4+2,none⟩=some (vI (atR rs k).b):=fun d os=>((below_regrown wr d os).cell (p:=⟨b,off+k*4+2,none⟩) qJ).trans t1.c2
     have x3:∀d os,(grow (redrawn wr d) os).cell? ⟨b,off+k*4+3,none⟩=some (.slice a1 (atR rs k).ag.length k1):=fun d os=>((below_regrown wr d os).cell (p:=⟨b,off+k*4+3,none⟩) qJ).trans d1
     have y0:∀d os,(grow (redrawn wr d) os).cell? ⟨b',bG+k*4,none⟩=some (vI (atR rs k).kind):=fun d os=>((below_regrown wr d os).cell (p:=⟨b',bG+k*4,none⟩) CQ).trans t2.c0
     have y1:∀d os,(grow (redrawn wr d) os).cell? ⟨b',bG+k*4+1,none⟩=some (vI (atR rs k).tx):=fun d os=>((below_regrown wr d os).cell (p:=⟨b',bG+k*4+1,none⟩) CQ).trans t2.c1
     have y2:∀d os,(grow (redrawn wr d) os).cell? ⟨b',bG+k*4+2,none⟩=some (vI (atR rs k).b):=fun d os=>((below_regrown wr d os).cell (p:=⟨b',bG+k*4+2,none⟩) CQ).trans t2.c2
     have y3:∀d os,(grow (redrawn wr d) os).cell? ⟨b',bG+k*4+3,none⟩=some (.slice a2 (atR rs k).ag.length k2):=fun d os=>((below_regrown wr d os).cell (p:=⟨b',bG+k*4+3,none⟩) CQ).trans d2
     have cQ:∀d os,Calls Tryz.prog 154 #[.agg #[vI (atR rs k).kind,vI (atR rs k).tx,vI (atR rs k).b,.slice a1 (atR rs k).ag.length k1],.agg #[vI (atR rs k).kind,vI (atR rs k).tx,vI (atR rs k).b,.slice a2 (atR rs k).ag.length k2]] (grow (redrawn wr d) os) fun e fq=>e=.returned (.bool true)/\∃p:Regrown,fq=grow (redrawn wr p.d) p.os:=fun d os=>Calls.regrown_of (Ay _ (atR rs k).kind (atR rs k).tx (atR rs k).b a1 a2 _ k1 k2 (atR rs k).ag QU ((s1.below (below_regrown wr d os)).mono (below_regrown wr d os).size) ((s2.below (below_regrown wr d os)).mono (below_regrown wr d os).size))
     have K:Hid (Below w.1.size w wr):=aF;clear t1 t2 aF h1 h2 s1 s2 d1 d2 hl QU hx;go_wp2_with fail;refine wp_region_quiet_below (by kernel_rfl) (by kernel_rfl) ?_;repeat (go_big_quiet_step (exact cQ _ _))
     refine wpQuiet_nil ?_;intro _ dD;obtain⟨⟨dq,bI⟩,aT⟩:=dD;subst aT;have bq:=below_regrown wr dq bI;go_wp2;exact⟨⟨k+1,by omega,by simp,K.out.trans (bq.mono K.out.size)⟩,by simp[intOf];omega⟩
  ·have:k=n:=by omega
   subst this;have hd:decide (k<k)=false:=by simp
   clear h1 h2;go_wp2;go_ret;exact⟨rfl,aF⟩
theorem Ef(w:World)(a a':Option Addr)(n cap aZ:Nat)(rs:List K2)(hn:n<=maxLen)(hl:∀r∈rs,r.cells.length<=maxLen)(h1:xe w w.1.size a n rs)(h2:xe w w.1.size a' n rs):
  Calls Tryz.prog 114 #[.slice a n cap,.slice a' n aZ] w fun e w'=>e=.returned (.bool true)/\Below w.1.size w w':=by
 unfold maxLen at hn;obtain⟨hx,h1⟩:=h1;obtain⟨_,h2⟩:=h2;go_enter Tryz.func114,Tryz.ntmps114;go_wp2;go_loopw[5] (fun i wr=>∃k:Nat,k<=n/\i=vI k/\Below w.1.size w wr) (fun i _=>n-(intOf i).toNat)
 case atStart=>exact⟨0,Nat.zero_le _,rfl,aJ⟩
 case round=>
  obtain⟨k,hk,rfl,aF⟩:=hrel;by_cases aN:k<n
  ·rcases h1 with h1|⟨b,off,rfl,hb,h1⟩
   ·omega
   ·rcases h2 with h2|⟨b',bG,rfl,fC,h2⟩
    ·omega
    ·have t1:=((h1 k _ (eX (by omega))).below (aF.mono aR) hb).mono aF.size;have t2:=((h2 k _ (eX (by omega))).below (aF.mono aR) fC).mono aF.size;have QU:=hl _ (List.mem_of_getElem? (eX (ks:=rs) (i:=k) (by omega)));have qJ:b<wr.1.size:=Nat.lt_of_lt_of_le hb aF.size;have CQ:b'<wr.1.size:=Nat.lt_of_lt_of_le fC aF.size;obtain⟨a1,k1,d1,s1,_⟩:=t1.c1;obtain⟨a2,k2,d2,s2,_⟩:=t2.c1;have x0:∀d os,(grow (redrawn wr d) os).cell? ⟨b,off+k*2,none⟩=some (vI (cO rs k).b):=fun d os=>((below_regrown wr d os).cell (p:=⟨b,off+k*2,none⟩) qJ).trans t1.c0
     have x1:∀d os,(grow (redrawn wr d) os).cell? ⟨b,off+k*2+1,none⟩=some (.slice a1 (cO rs k).cells.length k1):=fun d os=>((below_regrown wr d os).cell (p:=⟨b,off+k*2+1,none⟩) qJ).trans d1
     have y0:∀d os,(grow (redrawn wr d) os).cell? ⟨b',bG+k*2,none⟩=some (vI (cO rs k).b):=fun d os=>((below_regrown wr d os).cell (p:=⟨b',bG+k*2,none⟩) CQ).trans t2.c0
     have y1:∀d os,(grow (redrawn wr d) os).cell? ⟨b',bG+k*2+1,none⟩=some (.slice a2 (cO rs k).cells.length k2):=fun d os=>((below_regrown wr d os).cell (p:=⟨b',bG+k*2+1,none⟩) CQ).trans d2
     have cQ:∀d os,Calls Tryz.prog 153 #[.agg #[vI (cO rs k).b,.slice a1 (cO rs k).cells.length k1],.agg #[vI (cO rs k).b,.slice a2 (cO rs k).cells.length k2]] (grow (redrawn wr d) os) fun e fq=>e=.returned (.bool true)/\∃p:Regrown,fq=grow (redrawn wr p.d) p.os:=fun d os=>Calls.regrown_of (Eg _ (cO rs k).b a1 a2 _ k1 k2 (cO rs k).cells QU ((s1.below (below_regrown wr d os)).mono (below_regrown wr d os).size) ((s2.below (below_regrown wr d os)).mono (below_regrown wr d os).size))
     have K:Hid (Below w.1.size w wr):=aF;clear t1 t2 aF h1 h2 s1 s2 d1 d2 hl QU hx;go_wp2_with fail;refine wp_region_quiet_below (by kernel_rfl) (by kernel_rfl) ?_;repeat (go_big_quiet_step (exact cQ _ _))
     refine wpQuiet_nil ?_;intro _ dD;obtain⟨⟨dq,bI⟩,aT⟩:=dD;subst aT;have bq:=below_regrown wr dq bI;go_wp2;exact⟨⟨k+1,by omega,by simp,K.out.trans (bq.mono K.out.size)⟩,by simp[intOf];omega⟩
  ·have:k=n:=by omega
   subst this;have hd:decide (k<k)=false:=by simp
   clear h1 h2;go_wp2;go_ret;exact⟨rfl,aF⟩
structure ML(m:M4):Prop where
 k:m.af.length<=maxLen
 ks:∀r∈m.af,r.cells.length<=maxLen
 r:m.h.length<=maxLen
 rs:∀r∈m.h,r.ag.length<=maxLen
 n:m.ai.length<=maxLen
theorem yI(w:World)(v v':MV)(m:M4)(hl:ML m)(h1:pF w v m)(h2:pF w v' m):Calls Tryz.prog 67 #[v.val m,v'.val m] w fun e w'=>e=.returned (.bool true)/\Below w.1.size w w':=by
 obtain⟨ac,cc,al,cl,ad,cd⟩:=v;obtain⟨O6,cc',al',cl',Oz,OA⟩:=v';have H:Hid (pF w ⟨ac,cc,al,cl,ad,cd⟩ m/\pF w ⟨O6,cc',al',cl',Oz,OA⟩ m/\ML m):=⟨h1,h2,hl⟩
 clear h1 h2 hl;simp only[MV.val];have qa:(m.x != m.x)=false:=by cases m.x<;>rfl
 go_enter Tryz.func67,Tryz.ntmps67;go_wp2_with fail;have b0:Below w.1.size w ((w.alloc (.cells #[.bool m.x,.slice ac m.af.length cc,.slice al m.h.length cl,.slice ad m.ai.length cd] 92)).alloc (.cells #[.bool m.x,.slice O6 m.af.length cc',.slice al' m.h.length cl',.slice Oz m.ai.length OA] 92)):=(aJ.alloc aR _).alloc (by simp) _;have B0:Hid _:=b0;have u2:((w.alloc (.cells #[.bool m.x,.slice ac m.af.length cc,.slice al m.h.length cl,.slice ad m.ai.length cd] 92)).alloc (.cells #[.bool m.x,.slice O6 m.af.length cc',.slice al' m.h.length cl',.slice Oz m.ai.length OA] 92)).cell? ⟨w.1.size,2,none⟩=some (.slice al m.h.length cl):=by go_simp
 have u3:((w.alloc (.cells #[.bool m.x,.slice ac m.af.length cc,.slice al m.h.length cl,.slice ad m.ai.length cd] 92)).alloc (.cells #[.bool m.x,.slice O6 m.af.length cc',.slice al' m.h.length cl',.slice Oz m.ai.length OA] 92)).cell? ⟨w.1.size,3,none⟩=some (.slice ad m.ai.length cd):=by go_simp
 have v2:((w.alloc (.cells #[.bool m.x,.slice ac m.af.length cc,.slice al m.h.length cl,.slice ad m.ai.length cd] 92)).alloc (.cells #[.bool m.x,.slice O6 m.af.length cc',.slice al' m.h.length cl',.slice Oz m.ai.length OA] 92)).cell? ⟨w.1.size+1,2,none⟩=some (.slice al' m.h.length cl'):=by go_simp
 have v3:((w.alloc (.cells #[.bool m.x,.slice ac m.af.length cc,.slice al m.h.length cl,.slice ad m.ai.length cd] 92)).alloc (.cells #[.bool m.x,.slice O6 m.af.length cc',.slice al' m.h.length cl',.slice Oz m.ai.length OA] 92)).cell? ⟨w.1.size+1,3,none⟩=some (.slice Oz m.ai.length OA):=by go_simp
 have sU:w.1.size+1<((w.alloc (.cells #[.bool m.x,.slice ac m.af.length cc,.slice al m.h.length cl,.slice ad m.ai.length cd] 92)).alloc (.cells #[.bool m.x,.slice O6 m.af.length cc',.slice al' m.h.length cl',.slice Oz m.ai.length OA] 92)).1.size:=by simp
 generalize ((w.alloc (.cells #[.bool m.x,.slice ac m.af.length cc,.slice al m.h.length cl,.slice ad m.ai.length cd] 92)).alloc (.cells #[.bool m.x,.slice O6 m.af.length cc',.slice al' m.h.length cl',.slice Oz m.ai.length OA] 92))=U at *;have SU:Hid (w.1.size+1<U.1.size/\Below w.1.size w U):=⟨sU,b0⟩
 refine(Ef U ac O6 m.af.length cc cc' m.af H.out.2.2.k H.out.2.2.ks (H.out.1.later b0).k (H.out.2.1.later b0).k).mono ?_;clear b0 sU B0;rintro e w1 ⟨rfl,b1⟩;have l0:w.1.size<U.1.size:=by have:=SU.out.1;omega
 have c2:=(b1.cell (p:=⟨w.1.size,2,none⟩) l0).trans u2;have c3:=(b1.cell (p:=⟨w.1.size,3,none⟩) l0).trans u3;have d2:=(b1.cell (p:=⟨w.1.size+1,2,none⟩) SU.out.1).trans v2;have d3:=(b1.cell (p:=⟨w.1.size+1,3,none⟩) SU.out.1).trans v3;have B1:Hid (Below w.1.size w w1/\U.1.size<=w1.1.size):=⟨SU.out.2.trans (b1.mono SU.out.2.size),b1.size⟩
 clear u2 u3 v2 v3 b1 l0;go_wp2_with fail;refine(Aw w1 al al' m.h.length cl cl' m.h H.out.2.2.r H.out.2.2.rs (H.out.1.later B1.out.1).r (H.out.2.1.later B1.out.1).r).mono ?_;rintro e w2 ⟨rfl,b2⟩;have l1:w.1.size+1<w1.1.size:=by have:=SU.out.1;have:=B1.out.2;omega
 have x3:=(b2.cell (p:=⟨w.1.size,3,none⟩) (by show w.1.size<_;omega)).trans c3;have y3:=(b2.cell (p:=⟨w.1.size+1,3,none⟩) l1).trans d3;have B2:Hid (Below w.1.size w w2):=B1.out.1.trans (b2.mono B1.out.1.size);clear c2 c3 d2 d3 b2 l1;go_wp2_with fail;refine(tF w2 ad Oz m.ai.length cd OA m.ai H.out.2.2.n (H.out.1.later B2.out).n (H.out.2.1.later B2.out).n).mono ?_;rintro e w3 ⟨rfl,b3⟩;go_wp2;go_ret;exact⟨rfl,B2.out.trans (b3.mono B2.out.size)⟩
def Ii(m:M4):Nat:=(m.af.length+jv m.af)+(m.h.length+jF m.h)+m.ai.length
section
variable {P:Nat->Prop}{a:Option Addr}{m:M4}{v:MV}{w w':World}
def qY{α:Type}(sz:Nat)(hd:α->List Int)(ln:α->Nat)(At:World->Nat->α->Prop)(w:World)(P:Nat->Prop)(a:Option Addr)(rs:List α):Prop:=
 rs=[]\/∃b g,a=some ⟨b,0,none⟩/\P b/\(∀i,i<rs.length->P (g i))/\b<w.1.size/\Room w b (rs.length*sz)/\fu sz hd ln At w 0 b rs.length rs g
def Aq(w:World)(P:Nat->Prop)(a:Option Addr)(zs:List Int):Prop:=zs=[]\/∃b,a=some ⟨b,0,none⟩/\P b/\b<w.1.size/\dV w b 0 zs/\Room w b zs.length
theorem qY.aQ{α:Type}{sz:Nat}{hd:α->List Int}{ln:α->Nat}{At:World->Nat->α->Prop}(I9:∀(w w':World) (b:Nat) (r:α),w'.1[b]?=w.1[b]?->At w b r->At w' b r){rs:List α}(h:qY sz hd ln At w P a rs)(hs:w.1.size<=w'.1.size)(hk:∀q,q<w.1.size->P q->w'.1[q]?=w.1[q]?):qY sz hd ln At w' P a rs:=by
 rcases h with h|⟨b,g,ha,hp,hg,hl,hr,ho⟩
 ·exact .inl h
 ·exact .inr ⟨b,g,ha,hp,hg,Nat.lt_of_lt_of_le hl hs,hr.aj (hk b hl hp),ho.iF I9 hs (hk b hl hp) (fun i hi=>hk _ (ho.lt i hi) (hg i hi))⟩
theorem Aq.aQ{zs:List Int}(h:Aq w P a zs)(hs:w.1.size<=w'.1.size)(hk:∀q,q<w.1.size->P q->w'.1[q]?=w.1[q]?):Aq w' P a zs:=by
 rcases h with h|⟨b,ha,hp,hl,hn,hr⟩
 ·exact .inl h
 ·exact .inr ⟨b,ha,hp,Nat.lt_of_lt_of_le hl hs,hn.aj (hk b hl hp),hr.aj (hk b hl hp)⟩
structure OM(w:World)(B:Nat)(v:MV)(m:M4)(PK PR PD:Nat->Prop):Prop where
 k:qY 2 pQ vN lD w PK v.ac m.af
 r:qY 4 oZ xG AtR w PR v.al m.h
 n:Aq w PD v.ad m.ai
 kr:∀q,PK q->¬PR q
 kd:∀q,PK q->¬PD q
 rd:∀q,PR q->¬PD q
 kB:∀q,PK q->B<=q
 rB:∀q,PR q->B<=q
 dB:∀q,PD q->B<=q
theorem OM.sl{B:Nat}{PK PR PD:Nat->Prop}(h:OM w B v m PK PR PD):pF w v m:=by
 refine⟨?_,?_,?_⟩
 ·rcases h.k with e|⟨b,g,ha,_,_,hl,_,ho⟩
  ·exact⟨rfl,.inl (by rw[e];rfl)⟩
  ·rw[ha];exact Qg ho hl
 ·rcases h.r with e|⟨b,g,ha,_,_,hl,_,ho⟩
  ·exact⟨rfl,.inl (by rw[e];rfl)⟩
  ·rw[ha];exact Qh ho hl
 ·rcases h.n with e|⟨b,ha,_,hl,hn,_⟩
  ·exact⟨rfl,.inl (by rw[e];rfl)⟩
  ·exact⟨rfl,.inr ⟨b,0,ha,hl,hn⟩⟩
def Vp(PK PR PD:Nat->Prop)(q:Nat):Prop:=PK q\/PR q\/PD q
theorem OM.aQ{w w':World}{B:Nat}{v:MV}{m:M4}{PK PR PD:Nat->Prop}(h:OM w B v m PK PR PD)(hs:w.1.size<=w'.1.size)(hk:∀q,q<w.1.size->Vp PK PR PD q->w'.1[q]?=w.1[q]?):OM w' B v m PK PR PD:=
 ⟨h.k.aQ lD.aj hs (fun q hq hp=>hk q hq (.inl hp)),h.r.aQ AtR.aj hs (fun q hq hp=>hk q hq (.inr (.inl hp))),h.n.aQ hs (fun q hq hp=>hk q hq (.inr (.inr hp))),h.kr,h.kd,h.rd,h.kB,h.rB,h.dB⟩
theorem fu.base{α:Type}{sz:Nat}{hd:α->List Int}{ln:α->Nat}{At:World->Nat->α->Prop}{base b n:Nat}{rs:List α}{g:Nat->Nat}(h:fu sz hd ln At w base b n rs g):fu sz hd ln At w 0 b n rs g:=⟨h.len,h.head,h.tail,fun _ _=>Nat.zero_le _,h.lt,h.ne,h.sub,h.inj⟩
theorem Gf.om{B0 B1 B2 B3:Nat}{gk gr:Nat->Nat}(h:Gf w B0 B1 B2 B3 v m gk gr):OM w B0 v m (fun q=>B0<=q/\q<B1) (fun q=>B1<=q/\q<B2) (fun q=>B2<=q/\q<B3):=by
 have h1:=h.o1;have h2:=h.o2;have h3:=h.o3;have h4:=h.sz;obtain⟨b,e,l1,l,o,og,rm⟩:=h.k;obtain⟨b',e',XX,l',o',XY,rm'⟩:=h.r;obtain⟨b'',JP,Tq,ZG,o'',TY⟩:=h.n
 exact⟨.inr ⟨b,gk,e,⟨l1,l⟩,fun i hi=>⟨o.low i hi,og i hi⟩,by omega,rm,o.base⟩,.inr ⟨b',gr,e',⟨XX,l'⟩,fun i hi=>⟨o'.low i hi,XY i hi⟩,by omega,rm',o'.base⟩,.inr ⟨b'',JP,⟨Tq,ZG⟩,by omega,o'',TY⟩,
  fun q hq hr=>by omega,fun q hq hr=>by omega,fun q hq hr=>by omega,fun q hq=>hq.1,fun q hq=>by omega,fun q hq=>by omega⟩
structure MT(m:M4):Prop where
 k:m.af.length<=1048576
 ks:∀c∈m.af,c.cells.length<=1048576
 r:m.h.length<=1048576
 rs:∀c∈m.h,c.ag.length<=1048576
 n:m.ai.length<=1048576
 tk:aK cK m.af m.af.length<=100000000
 tr:aK cR m.h m.h.length<=100000000
theorem yj{α:Type}(c l:α->Nat)(a b:Nat)(h:∀r,c r=a+b*l r)(rs:List α):aK c rs rs.length=a*rs.length+b*(rs.map l).sum:=by
 unfold aK;rw[List.take_of_length_le (by simp)]
 induction rs with
 | nil=>simp
 | cons r rs ih=>
  simp only[List.map_cons,List.sum_cons,List.length_cons,ih,h,Nat.mul_add,Nat.mul_one];omega
theorem MT.WY(h:Ii m<=1048576):MT m:=by
 have hk:=yj cK (fun k=>k.cells.length) 1 2 (fun _=>rfl) m.af;have hr:=yj cR (fun r=>r.ag.length) 3 5 (fun _=>rfl) m.h;unfold Ii jv jF at h;refine⟨by omega,fun c hc=>?_,by omega,fun c hc=>?_,by omega,by rw[hk];omega,by rw[hr];omega⟩
 ·have:c.cells.length<=(m.af.map fun k=>k.cells.length).sum:=Jz (List.mem_map.2 ⟨c,hc,rfl⟩);omega
 ·have:c.ag.length<=(m.h.map fun k=>k.ag.length).sum:=Jz (List.mem_map.2 ⟨c,hc,rfl⟩);omega
theorem qf(ks:List K2)(k:Int):(vQ ks k).length=ks.length:=by simp[vQ]
theorem qi(ks:List R4)(k:Int):(xK ks k).length=ks.length:=by simp[xK]
theorem Rj(w:World)(P:Nat->Prop)(a:Option Addr)(cap:Nat)(ks:List K2)(k:Int)(hk:0<=k)(ni:k<=500000000)(ht:aK cK ks ks.length<=100000000)(hn:ks.length<=1048576)(hl:∀c∈ks,c.cells.length<=1048576)(h:qY 2 pQ vN lD w P a ks):
  Calls Tryz.prog 70 #[.slice a ks.length cap,vI k] w fun e w'=>e=.returned (vI (k+aK cK ks ks.length))/\aH P w w'/\qY 2 pQ vN lD w' P a (vQ ks k):=by
 rcases h with rfl|⟨b,g,rfl,hp,hg,hb,hr,ho⟩
 ·refine(AV w a cap k).mono ?_;rintro e w' ⟨rfl,rfl⟩;exact⟨by simp[aK],aH.refl _ _,.inl rfl⟩
 ·refine(AX w b ks.length cap ks g k hk ni ht hn hl hb hr ho).mono ?_;rintro e w' ⟨rfl,j5,Zl,yg⟩;refine⟨rfl,j5.mono ?_,.inr ⟨b,g,rfl,hp,by rw[qf];exact hg,Nat.lt_of_lt_of_le hb j5.size,by rw[qf];exact yg,by rw[qf];exact Zl⟩⟩;rintro q (rfl|⟨i,hi,rfl⟩)
  ·exact hp
  ·exact hg i hi
theorem Rm(w:World)(P:Nat->Prop)(a:Option Addr)(cap:Nat)(ks:List R4)(k:Int)(hk:0<=k)(ni:k<=500000000)(ht:aK cR ks ks.length<=100000000)(hn:ks.length<=1048576)(hl:∀c∈ks,c.ag.length<=1048576)(h:qY 4 oZ xG AtR w P a ks):
  Calls Tryz.prog 71 #[.slice a ks.length cap,vI k] w fun e w'=>e=.returned (vI (k+aK cR ks ks.length))/\aH P w w'/\qY 4 oZ xG AtR w' P a (xK ks k):=by
 rcases h with rfl|⟨b,g,rfl,hp,hg,hb,hr,ho⟩
 ·refine(xI w a cap k).mono ?_;rintro e w' ⟨rfl,rfl⟩;exact⟨by simp[aK],aH.refl _ _,.inl rfl⟩
 ·refine(xJ w b ks.length cap ks g k hk ni ht hn hl hb hr ho).mono ?_;rintro e w' ⟨rfl,j5,Zl,yg⟩;refine⟨rfl,j5.mono ?_,.inr ⟨b,g,rfl,hp,by rw[qi];exact hg,Nat.lt_of_lt_of_le hb j5.size,by rw[qi];exact yg,by rw[qi];exact Zl⟩⟩;rintro q (rfl|⟨i,hi,rfl⟩)
  ·exact hp
  ·exact hg i hi
theorem Rl(w:World)(P:Nat->Prop)(a:Option Addr)(cap:Nat)(zs:List Int)(k:Int)(hk:0<=k)(ni:k<=1000000000)(hn:zs.length<=1048576)(h:Aq w P a zs):
  Calls Tryz.prog 69 #[.slice a zs.length cap,vI k] w fun e w'=>e=.returned (vI (k+zs.length))/\aH P w w'/\Aq w' P a (marks zs.length k):=by
 rcases h with rfl|⟨b,rfl,hp,hb,hx,hr⟩
 ·refine(xH w a cap k).mono ?_;rintro e w' ⟨rfl,rfl⟩;exact⟨by simp,aH.refl _ _,.inl rfl⟩
 ·refine(qd w b zs.length cap k hn hk ni hr).mono ?_;rintro e w' ⟨rfl,ho,F9,yg⟩;exact⟨rfl,aH.jQ ho hp,.inr ⟨b,rfl,hp,by rw[ho.size];exact hb,F9,by rw[lv];exact yg⟩⟩
end
section
variable {m:M4}
theorem OM.mono{w:World}{B B':Nat}{v:MV}{PK PR PD:Nat->Prop}(h:OM w B v m PK PR PD)(hb:B'<=B):OM w B' v m PK PR PD:=⟨h.k,h.r,h.n,h.kr,h.kd,h.rd,fun q hq=>Nat.le_trans hb (h.kB q hq),fun q hq=>Nat.le_trans hb (h.rB q hq),fun q hq=>Nat.le_trans hb (h.dB q hq)⟩
theorem Qo(w:World)(v:MV)(m:M4)(ht:MT m)(hs:pF w v m):Calls Tryz.prog 54 #[v.val m] w fun e w'=>
  ∃(c4:Option Addr) (k4:Nat) (l4:Option Addr) (j4:Nat) (d4:Option Addr) (i4:Nat) (PK PR PD:Nat->Prop),e=.returned ((MV.mk c4 k4 l4 j4 d4 i4).val m)/\OM w' w.1.size ⟨c4,k4,l4,j4,d4,i4⟩ m PK PR PD/\(∀q,Vp PK PR PD q->q<w'.1.size)/\Below w.1.size w w':=
 (Bi w v m ht.k ht.ks ht.r ht.rs ht.n hs).mono (by
  rintro e w' ⟨⟨c4,k4,l4,j4,d4,i4⟩,B1,B2,B3,gk,gr,h1,h2,h3⟩;have o1:=h2.o1;have o2:=h2.o2;have o3:=h2.o3;have o4:=h2.sz;refine⟨c4,k4,l4,j4,d4,i4,_,_,_,h1,h2.om.mono (by omega),fun q hq=>?_,h3⟩
  rcases hq with hq|hq|hq<;>omega)
theorem MT.ml(h:MT m):ML m:=⟨by have:=h.k;unfold maxLen;omega,fun c hc=>by have:=h.ks c hc;unfold maxLen;omega,by have:=h.r;unfold maxLen;omega,fun c hc=>by have:=h.rs c hc;unfold maxLen;omega,by have:=h.n;unfold maxLen;omega⟩
end
section
variable {B b d f:Nat}{P:Nat->Prop}{a c e:Option Addr}{m:M4}{w:World}
theorem IZ{A X Y:World}(h:Below A.1.size A X)(k:aH P X Y)(hp:∀q,P q->A.1.size<=q):Below A.1.size A Y:=h.trans (k.below hp h.size)
def KM.Ow(w:World)(B:Nat)(a:Option Addr)(b:Nat)(c:Option Addr)(d:Nat)(e:Option Addr)(f:Nat)(m:M4)(P:Nat->Prop):Prop:=∃PK PR PD,OM w B ⟨a,b,c,d,e,f⟩ m PK PR PD/\(∀q,Vp PK PR PD q->P q)/\(∀q,P q->B<=q/\q<w.1.size)
theorem KM.Ow.of(h:KM.Ow w B a b c d e f m P){q:Nat}(hq:P q):B<=q/\q<w.1.size:=by obtain⟨_,_,_,_,_,h3⟩:=h;exact h3 q hq
theorem KM.Ow.sl(h:KM.Ow w B a b c d e f m P):pF w ⟨a,b,c,d,e,f⟩ m:=by obtain⟨_,_,_,h1,_,_⟩:=h;exact h1.sl
theorem KM.Ow.aQ{w w':World}{B:Nat}{a:Option Addr}{b:Nat}{c:Option Addr}{d:Nat}{e:Option Addr}{f:Nat}{m:M4}{P:Nat->Prop}(h:KM.Ow w B a b c d e f m P)(hs:w.1.size<=w'.1.size)(hk:∀q,P q->w'.1[q]?=w.1[q]?):KM.Ow w' B a b c d e f m P:=by
 obtain⟨PK,PR,PD,h1,h2,h3⟩:=h;exact⟨PK,PR,PD,h1.aQ hs (fun q _ hq=>hk q (h2 q hq)),h2,fun q hq=>⟨(h3 q hq).1,Nat.lt_of_lt_of_le (h3 q hq).2 hs⟩⟩
theorem KM.Ow.low{B':Nat}(h:KM.Ow w B a b c d e f m P)(hb:B'<=B):KM.Ow w B' a b c d e f m P:=by
 obtain⟨PK,PR,PD,h1,h2,h3⟩:=h;exact⟨PK,PR,PD,h1.mono hb,h2,fun q hq=>⟨Nat.le_trans hb (h3 q hq).1,(h3 q hq).2⟩⟩
theorem KM.of{PK PR PD:Nat->Prop}(h:OM w B ⟨a,b,c,d,e,f⟩ m PK PR PD)(hl:∀q,Vp PK PR PD q->q<w.1.size):KM.Ow w B a b c d e f m (Vp PK PR PD):=
 ⟨PK,PR,PD,h,fun _ hq=>hq,fun q hq=>⟨by rcases hq with hq|hq|hq;exact h.kB q hq;exact h.rB q hq;exact h.dB q hq,hl q hq⟩⟩
theorem KM.to(X:World)(a:Option Addr)(b:Nat)(c:Option Addr)(d:Nat)(e:Option Addr)(f:Nat)(m:M4)(ht:MT m)(h:pF X ⟨a,b,c,d,e,f⟩ m):Calls Tryz.prog 54 #[.agg #[.bool m.x,.slice a m.af.length b,.slice c m.h.length d,.slice e m.ai.length f]] X fun r w'=>
  ∃(a:Option Addr) (b:Nat) (c:Option Addr) (d:Nat) (e:Option Addr) (f:Nat) (P:Nat->Prop),r=.returned (.agg #[.bool m.x,.slice a m.af.length b,.slice c m.h.length d,.slice e m.ai.length f])/\KM.Ow w' X.1.size a b c d e f m P/\Below X.1.size X w':=by
 have hh:=Qo X ⟨a,b,c,d,e,f⟩ m ht h;simp only[MV.val]at hh;refine hh.mono ?_;rintro r w' ⟨a,b,c,d,e,f,PK,PR,PD,rfl,o,l,bl⟩;exact⟨a,b,c,d,e,f,_,rfl,KM.of o l,bl⟩
theorem KM.eq(X:World)(a:Option Addr)(b:Nat)(c:Option Addr)(d:Nat)(e:Option Addr)(f:Nat)(a':Option Addr)(b':Nat)(c':Option Addr)(d':Nat)(e':Option Addr)(f':Nat)(m:M4)(ht:MT m)(h1:pF X ⟨a,b,c,d,e,f⟩ m)(h2:pF X ⟨a',b',c',d',e',f'⟩ m):Calls Tryz.prog 67 #[.agg #[.bool m.x,.slice a m.af.length b,.slice c m.h.length d,.slice e m.ai.length f],.agg #[.bool m.x,.slice a' m.af.length b',.slice c' m.h.length d',.slice e' m.ai.length f']] X fun r w'=>r=.returned (.bool true)/\Below X.1.size X w':=by
 have hh:=yI X ⟨a,b,c,d,e,f⟩ ⟨a',b',c',d',e',f'⟩ m ht.ml h1 h2;simp only[MV.val]at hh;exact hh
end
theorem FQ(w:World)(v:MV)(m:M4)(l0:Nat)(Gw:l0<=1048576)(hl:ML m)(hs:pF w v m):Calls Tryz.prog 38 #[v.val m,vI (l0:Int)] w fun e w'=>e=.returned (vI (fK l0 (Ii m)))/\Below w.1.size w w':=by
 obtain⟨ac,cc,al,cl,ad,cd⟩:=v;have H:Hid (pF w ⟨ac,cc,al,cl,ad,cd⟩ m/\ML m):=⟨hs,hl⟩
 clear hs hl;simp only[MV.val];have HM:Hid (Ii m=(m.af.length+jv m.af)+(m.h.length+jF m.h)+m.ai.length):=rfl;have b0:Below w.1.size w (w.alloc (.cells #[.bool m.x,.slice ac m.af.length cc,.slice al m.h.length cl,.slice ad m.ai.length cd] 81)):=aJ.alloc aR _;have u2:(w.alloc (.cells #[.bool m.x,.slice ac m.af.length cc,.slice al m.h.length cl,.slice ad m.ai.length cd] 81)).cell? ⟨w.1.size,2,none⟩=some (.slice al m.h.length cl):=by go_simp
 have u3:(w.alloc (.cells #[.bool m.x,.slice ac m.af.length cc,.slice al m.h.length cl,.slice ad m.ai.length cd] 81)).cell? ⟨w.1.size,3,none⟩=some (.slice ad m.ai.length cd):=by go_simp
 have sU:w.1.size<(w.alloc (.cells #[.bool m.x,.slice ac m.af.length cc,.slice al m.h.length cl,.slice ad m.ai.length cd] 81)).1.size:=by simp
 have lY:Calls Tryz.prog 80 #[.slice ac m.af.length cc,vI (l0:Int)] (w.alloc (.cells #[.bool m.x,.slice ac m.af.length cc,.slice al m.h.length cl,.slice ad m.ai.length cd] 81)) fun e w'=>e=.returned (vI (fK l0 (m.af.length+jv m.af)))/\Below (w.alloc (.cells #[.bool m.x,.slice ac m.af.length cc,.slice al m.h.length cl,.slice ad m.ai.length cd] 81)).1.size (w.alloc (.cells #[.bool m.x,.slice ac m.af.length cc,.slice al m.h.length cl,.slice ad m.ai.length cd] 81)) w':=Lc (w.alloc (.cells #[.bool m.x,.slice ac m.af.length cc,.slice al m.h.length cl,.slice ad m.ai.length cd] 81)) ac m.af.length cc m.af l0 H.out.2.k Gw (H.out.1.later b0).k H.out.2.ks
 have nY:=fun W l (h:Below w.1.size w W) (hl:l<=1048576)=>FU W al m.h.length cl m.h l H.out.2.r hl (H.out.1.later h).r H.out.2.rs
 have GA:=fun W l (hl:l<=1048576)=>Ih W ad m.ai.length cd l H.out.2.n hl
 obtain⟨A,hA⟩:∃A,m.af.length+jv m.af=A:=⟨_,rfl⟩
 obtain⟨Bn,hB⟩:∃Bn,m.h.length+jF m.h=Bn:=⟨_,rfl⟩
 obtain⟨Cn,hC⟩:∃Cn,m.ai.length=Cn:=⟨_,rfl⟩
 rw[HM.out];simp only[hA,hB]at lY nY ⊢;have HZ2:Hid (∀(W:World) (l:Nat),Below w.1.size w W->l<=1048576->Calls Tryz.prog 81 #[.slice al m.h.length cl,vI (l:Int)] W fun e w'=>e=.returned (vI (fK l Bn))/\Below W.1.size W w'):=nY;have HZ3:Hid (∀(W:World) (l:Nat),l<=1048576->Calls Tryz.prog 79 #[.slice ad m.ai.length cd,vI (l:Int)] W fun e w'=>e=.returned (vI (fK l m.ai.length))/\w'=W):=GA;have SU:Hid (w.1.size<(w.alloc (.cells #[.bool m.x,.slice ac m.af.length cc,.slice al m.h.length cl,.slice ad m.ai.length cd] 81)).1.size/\Below w.1.size w (w.alloc (.cells #[.bool m.x,.slice ac m.af.length cc,.slice al m.h.length cl,.slice ad m.ai.length cd] 81))):=⟨sU,b0⟩
 clear hA hB hC nY GA sU b0 HM;by_cases h1:A<=l0
 ·rw[bO h1]at lY;have g1:decide (((l0-A:Nat):Int)<0)=false:=by simp
  go_enter Tryz.func38,Tryz.ntmps38;go_wp2_with fail;refine lY.mono ?_;clear lY;rintro e w1 ⟨rfl,b1⟩;have c2:=(b1.cell (p:=⟨w.1.size,2,none⟩) SU.out.1).trans u2;have c3:=(b1.cell (p:=⟨w.1.size,3,none⟩) SU.out.1).trans u3;have B1:Hid (Below w.1.size w w1/\w.1.size<w1.1.size):=⟨SU.out.2.trans (b1.mono SU.out.2.size),Nat.lt_of_lt_of_le SU.out.1 b1.size⟩
  clear u2 u3 b1;go_wp2_with fail;have hz:=HZ2.out w1 (l0-A) B1.out.1 (by omega);by_cases h2:Bn<=l0-A
  ·rw[bO h2]at hz;have g2:decide (((l0-A-Bn:Nat):Int)<0)=false:=by simp
   refine hz.mono ?_;clear hz;rintro e w2 ⟨rfl,b2⟩;have x3:=(b2.cell (p:=⟨w.1.size,3,none⟩) B1.out.2).trans c3;have B2:Hid (Below w.1.size w w2):=B1.out.1.trans (b2.mono B1.out.1.size);clear c2 c3 b2;go_wp2_with fail;have hz:=HZ3.out w2 (l0-A-Bn) (by omega);by_cases h3:m.ai.length<=l0-A-Bn
   ·rw[bO h3]at hz;have g3:decide (((l0-A-Bn-m.ai.length:Nat):Int)<0)=false:=by simp
    refine hz.mono ?_;clear hz;rintro e w2 ⟨rfl,rfl⟩;go_wp2;go_ret;exact⟨by rw[bO (by omega),show l0-(A+Bn+m.ai.length)=l0-A-Bn-m.ai.length by omega];rfl,B2.out⟩
   ·rw[bH h3]at hz;refine hz.mono ?_;clear hz;rintro e w2 ⟨rfl,rfl⟩;go_wp2;go_ret;exact⟨by rw[bH (by omega)];rfl,B2.out⟩
  ·rw[bH h2]at hz;refine hz.mono ?_;clear hz;rintro e w2 ⟨rfl,b2⟩;have B2:Hid (Below w.1.size w w2):=B1.out.1.trans (b2.mono B1.out.1.size);clear b2;go_wp2;go_ret;exact⟨by rw[bH (by omega)];rfl,B2.out⟩
 ·rw[bH h1]at lY;go_enter Tryz.func38,Tryz.ntmps38;go_wp2_with fail;refine lY.mono ?_;clear lY;rintro e w1 ⟨rfl,b1⟩;have B1:Hid (Below w.1.size w w1):=SU.out.2.trans (b1.mono SU.out.2.size);clear b1;go_wp2;go_ret;exact⟨by rw[bH (by omega)];rfl,B1.out⟩
theorem KM.ZO(X:World)(a:Option Addr)(b:Nat)(c:Option Addr)(d:Nat)(e:Option Addr)(f:Nat)(m:M4)(l:Nat)(Gw:l<=1048576)(hl:ML m)(h:pF X ⟨a,b,c,d,e,f⟩ m):Calls Tryz.prog 38 #[.agg #[.bool m.x,.slice a m.af.length b,.slice c m.h.length d,.slice e m.ai.length f],vI (l:Int)] X fun r w'=>r=.returned (vI (fK l (Ii m)))/\Below X.1.size X w':=by
 have hh:=FQ X ⟨a,b,c,d,e,f⟩ m l Gw hl h;simp only[MV.val]at hh;exact hh
def fZ:Kd M4 MV where
 n:=4
 cells v m:=[.bool m.x,.slice v.ac m.af.length v.cc,.slice v.al m.h.length v.cl,.slice v.ad m.ai.length v.cd]
 len:=fun _ _=>rfl
 Rd:=pF
 Ow w B v m P:=KM.Ow w B v.ac v.cc v.al v.cl v.ad v.cd m P
 later:=fun h b=>h.later b
 sl:=fun h=>h.sl
 of:=fun h hq=>h.of hq
 aQ:=fun h hs hk=>h.aQ hs hk
 low:=fun h hb=>h.low hb
theorem Ng:(Tryz.prog.info? 92).map (fun i=>(i.zero,i.size,i.bytes))=some (some (.agg #[.bool false,.slice none 0 0,.slice none 0 0,.slice none 0 0]),4,80):=by kernel_rfl
theorem Ns(n:Nat)(hn:n<=1048576)(w:World):(Instr.makeSlice 29 (vI (n:Int)) (vI (n:Int))).run Tryz.prog w=.ok (.slice (some ⟨w.1.size,0,none⟩) n n) (w.alloc (.cells (madeCells #[.bool false,.slice none 0 0,.slice none 0 0,.slice none 0 0] (n*4)) 92)):=by
 obtain⟨i,hi,mR⟩:=Option.map_eq_some_iff.1 Ng;simp only[Prod.mk.injEq]at mR;obtain⟨hz,hs,hb⟩:=mR;have:=run_make (P:=Tryz.prog) w 29 92 i _ Tryz.underlying29 hi hz .i64 .i64 (n:Int) (n:Int) (by omega) (by omega) (by rw[hb];omega) (by omega);rw[hs]at this;simpa[Value.cells]using this
theorem uQ.to(w:World)(a:Option Addr)(cap:Nat)(xs:List M4)(hn:xs.length<=1048576)(ht:∀d∈xs,MT d)(hs:fZ.qM w a xs):Calls Tryz.prog 19 #[.slice a xs.length cap] w fun e w'=>
  ∃P,e=.returned (.slice (some ⟨w.1.size,0,none⟩) xs.length xs.length)/\fZ.nP w' w.1.size (some ⟨w.1.size,0,none⟩) xs P/\Below w.1.size w w':=by
 have nX:=Ns xs.length hn;go_enter Tryz.func19,Tryz.ntmps19;go_wp2;go_loopw[4] (fun i wr=>∃(j:Nat) (g:Nat->Nat->Prop),j<=xs.length/\i=vI j/\Below w.1.size w wr/\w.1.size<wr.1.size/\fZ.Part wr w.1.size w.1.size xs.length (xs.take j) g) (fun i _=>xs.length-(intOf i).toNat)
 case atStart=>exact⟨0,fun _ _=>False,Nat.zero_le _,rfl,aJ.alloc aR _,by simp,by rw[List.take_zero];exact Kd.Part.nil _ _ (gU _ _ _ _)⟩
 case round=>
  obtain⟨j,g,hj,rfl,aF,dQ,vE⟩:=hrel;by_cases aN:j<xs.length
  ·obtain⟨d,hd⟩:∃d,xs[j]?=some d:=⟨_,List.getElem?_eq_getElem aN⟩
   rcases hs with hs|⟨b,off,rfl,hb,h1⟩
   ·rw[hs]at aN;simp at aN
   obtain⟨⟨c0,c1,c2,c3,c4,c5⟩,bg,fM⟩:=h1 j d hd;have e0:wr.cell? ⟨b,off+j*4,none⟩=some (.bool d.x):=(aF.cell (p:=⟨b,off+j*4,none⟩) hb).trans (bg 0 _ rfl);have e1:wr.cell? ⟨b,off+j*4+1,none⟩=some (.slice c0 d.af.length c1):=(aF.cell (p:=⟨b,off+j*4+1,none⟩) hb).trans (bg 1 _ rfl);have e2:wr.cell? ⟨b,off+j*4+2,none⟩=some (.slice c2 d.h.length c3):=(aF.cell (p:=⟨b,off+j*4+2,none⟩) hb).trans (bg 2 _ rfl);have e3:wr.cell? ⟨b,off+j*4+3,none⟩=some (.slice c4 d.ai.length c5):=(aF.cell (p:=⟨b,off+j*4+3,none⟩) hb).trans (bg 3 _ rfl);have iM:=KM.to wr c0 c1 c2 c3 c4 c5 d (ht d (List.mem_of_getElem? hd)) (fZ.later fM aF);have KH:Hid (fZ.Part wr w.1.size w.1.size xs.length (xs.take j) g/\Below w.1.size w wr/\w.1.size<wr.1.size/\xs.take (j+1)=xs.take j++[d]/\(xs.take j).length=j):=⟨vE,aF,dQ,by rw[List.take_add_one,hd];rfl,by rw[List.length_take];omega⟩
   have jn:(j:Int)<(xs.length:Int):=by omega
   clear vE aF nX h1 ht bg fM hd;go_wp2_with fail;refine iM.mono ?_;clear iM e0 e1 e2 e3;rintro e w1 ⟨u0,u1,u2,u3,u4,u5,P,rfl,ho,b1⟩;have OL:=KH.out.1.later b1 KH.out.2.2.1;have pV:=OL.rm;have Y9:j*4+4<=xs.length*4:=by omega
   obtain⟨z0,d0,f0⟩:∃v,w1.cell? ⟨w.1.size,j*4,none⟩=some v/\w1.frozen? ⟨w.1.size,j*4,none⟩=false:=pV (j*4+0) (show _<xs.length*4 by omega);obtain⟨z1,d1,f1⟩:∃v,w1.cell? ⟨w.1.size,j*4+1,none⟩=some v/\w1.frozen? ⟨w.1.size,j*4+1,none⟩=false:=pV (j*4+1) (show _<xs.length*4 by omega);obtain⟨z2,d2,f2⟩:∃v,w1.cell? ⟨w.1.size,j*4+2,none⟩=some v/\w1.frozen? ⟨w.1.size,j*4+2,none⟩=false:=pV (j*4+2) (show _<xs.length*4 by omega);obtain⟨z3,d3,f3⟩:∃v,w1.cell? ⟨w.1.size,j*4+3,none⟩=some v/\w1.frozen? ⟨w.1.size,j*4+3,none⟩=false:=pV (j*4+3) (show _<xs.length*4 by omega);have K1:Hid (fZ.Part w1 w.1.size w.1.size xs.length (xs.take j) g/\fZ.Ow w1 wr.1.size ⟨u0,u1,u2,u3,u4,u5⟩ d P/\Below wr.1.size wr w1):=⟨OL,ho,b1⟩
   clear OL ho b1 pV Y9;go_wp2;obtain⟨k1,k2,k3,k4,k5⟩:=KH.out;obtain⟨p1,p2,p3⟩:=K1.out;have Wi:=p1.push (by omega) ⟨u0,u1,u2,u3,u4,u5⟩ d P (fZ.low p2 (Nat.le_of_lt k3)) (fun q hq=>by have:=(fZ.of p2 hq).1;omega) (fun i q hi hq PL=>by have:=(k1.gq hi hq).2;have:=(fZ.of p2 PL).1;omega);rw[k5,<-k4]at Wi;have VJ:Below w.1.size w (di w1 w.1.size (j*4) [.bool d.x,.slice u0 d.af.length u1,.slice u2 d.h.length u3,.slice u4 d.ai.length u5]):=aU aR _ _ _ (k2.trans (p3.mono k2.size));have SY:w.1.size<(di w1 w.1.size (j*4) [.bool d.x,.slice u0 d.af.length u1,.slice u2 d.h.length u3,.slice u4 d.ai.length u5]).1.size:=by rw[bf];exact Nat.lt_of_lt_of_le k3 p3.size
   exact⟨⟨j+1,_,by omega,by simp,VJ,SY,Wi⟩,by simp[intOf];omega⟩
  ·obtain rfl:j=xs.length:=by omega
   have hd:decide ((xs.length:Int)<(xs.length:Int))=false:=by simp
   rw[List.take_length]at vE;have KH:Hid (fZ.Part wr w.1.size w.1.size xs.length xs g/\Below w.1.size w wr/\w.1.size<wr.1.size):=⟨vE,aF,dQ⟩
   clear vE aF hs nX ht;go_wp2;go_ret;exact⟨_,rfl,KH.out.1.own aR KH.out.2.2,KH.out.2.1⟩
theorem uQ.eq(w:World)(a a':Option Addr)(cap aZ:Nat)(xs:List M4)(hn:xs.length<=1048576)(ht:∀d∈xs,MT d)(h1:fZ.qM w a xs)(h2:fZ.qM w a' xs):Calls Tryz.prog 29 #[.slice a xs.length cap,.slice a' xs.length aZ] w fun e w'=>e=.returned (.bool true)/\Below w.1.size w w':=by
 go_enter Tryz.func29,Tryz.ntmps29;go_wp2;go_loopw[5] (fun i wr=>∃j:Nat,j<=xs.length/\i=vI j/\Below w.1.size w wr) (fun i _=>xs.length-(intOf i).toNat)
 case atStart=>exact⟨0,Nat.zero_le _,rfl,aJ⟩
 case round=>
  obtain⟨j,hj,rfl,aF⟩:=hrel;by_cases aN:j<xs.length
  ·obtain⟨d,hd⟩:∃d,xs[j]?=some d:=⟨_,List.getElem?_eq_getElem aN⟩
   rcases h1 with h1|⟨b,off,rfl,hb,h1⟩
   ·rw[h1]at aN;simp at aN
   ·rcases h2 with h2|⟨b',bG,rfl,fC,h2⟩
    ·rw[h2]at aN;simp at aN
    ·obtain⟨⟨c0,c1,c2,c3,c4,c5⟩,bg,fM⟩:=h1 j d hd;obtain⟨⟨b0,b1,b2,b3,b4,b5⟩,qI,pU⟩:=h2 j d hd;have x0:∀dd os,(grow (redrawn wr dd) os).cell? ⟨b,off+j*4,none⟩=some (.bool d.x):=fun dd os=>((below_regrown wr dd os).cell (p:=⟨b,off+j*4,none⟩) (Nat.lt_of_lt_of_le hb aF.size)).trans ((aF.cell (p:=⟨b,off+j*4,none⟩) hb).trans (bg 0 _ rfl))
     have x1:∀dd os,(grow (redrawn wr dd) os).cell? ⟨b,off+j*4+1,none⟩=some (.slice c0 d.af.length c1):=fun dd os=>((below_regrown wr dd os).cell (p:=⟨b,off+j*4+1,none⟩) (Nat.lt_of_lt_of_le hb aF.size)).trans ((aF.cell (p:=⟨b,off+j*4+1,none⟩) hb).trans (bg 1 _ rfl))
     have x2:∀dd os,(grow (redrawn wr dd) os).cell? ⟨b,off+j*4+2,none⟩=some (.slice c2 d.h.length c3):=fun dd os=>((below_regrown wr dd os).cell (p:=⟨b,off+j*4+2,none⟩) (Nat.lt_of_lt_of_le hb aF.size)).trans ((aF.cell (p:=⟨b,off+j*4+2,none⟩) hb).trans (bg 2 _ rfl))
     have x3:∀dd os,(grow (redrawn wr dd) os).cell? ⟨b,off+j*4+3,none⟩=some (.slice c4 d.ai.length c5):=fun dd os=>((below_regrown wr dd os).cell (p:=⟨b,off+j*4+3,none⟩) (Nat.lt_of_lt_of_le hb aF.size)).trans ((aF.cell (p:=⟨b,off+j*4+3,none⟩) hb).trans (bg 3 _ rfl))
     have y0:∀dd os,(grow (redrawn wr dd) os).cell? ⟨b',bG+j*4,none⟩=some (.bool d.x):=fun dd os=>((below_regrown wr dd os).cell (p:=⟨b',bG+j*4,none⟩) (Nat.lt_of_lt_of_le fC aF.size)).trans ((aF.cell (p:=⟨b',bG+j*4,none⟩) fC).trans (qI 0 _ rfl))
     have y1:∀dd os,(grow (redrawn wr dd) os).cell? ⟨b',bG+j*4+1,none⟩=some (.slice b0 d.af.length b1):=fun dd os=>((below_regrown wr dd os).cell (p:=⟨b',bG+j*4+1,none⟩) (Nat.lt_of_lt_of_le fC aF.size)).trans ((aF.cell (p:=⟨b',bG+j*4+1,none⟩) fC).trans (qI 1 _ rfl))
     have y2:∀dd os,(grow (redrawn wr dd) os).cell? ⟨b',bG+j*4+2,none⟩=some (.slice b2 d.h.length b3):=fun dd os=>((below_regrown wr dd os).cell (p:=⟨b',bG+j*4+2,none⟩) (Nat.lt_of_lt_of_le fC aF.size)).trans ((aF.cell (p:=⟨b',bG+j*4+2,none⟩) fC).trans (qI 2 _ rfl))
     have y3:∀dd os,(grow (redrawn wr dd) os).cell? ⟨b',bG+j*4+3,none⟩=some (.slice b4 d.ai.length b5):=fun dd os=>((below_regrown wr dd os).cell (p:=⟨b',bG+j*4+3,none⟩) (Nat.lt_of_lt_of_le fC aF.size)).trans ((aF.cell (p:=⟨b',bG+j*4+3,none⟩) fC).trans (qI 3 _ rfl))
     have cQ:∀dd os,Calls Tryz.prog 67 #[.agg #[.bool d.x,.slice c0 d.af.length c1,.slice c2 d.h.length c3,.slice c4 d.ai.length c5],.agg #[.bool d.x,.slice b0 d.af.length b1,.slice b2 d.h.length b3,.slice b4 d.ai.length b5]] (grow (redrawn wr dd) os) fun e fq=>e=.returned (.bool true)/\∃p:Regrown,fq=grow (redrawn wr p.d) p.os:=fun dd os=>Calls.regrown_of (KM.eq _ c0 c1 c2 c3 c4 c5 b0 b1 b2 b3 b4 b5 d (ht d (List.mem_of_getElem? hd)) (fZ.later fM (aF.trans ((below_regrown wr dd os).mono aF.size))) (fZ.later pU (aF.trans ((below_regrown wr dd os).mono aF.size))))
     have K:Hid (Below w.1.size w wr):=aF;have jn:(j:Int)<(xs.length:Int):=by omega
     clear bg qI fM pU aF h1 h2 ht hd;go_wp2_with fail;refine wp_region_quiet_below (by kernel_rfl) (by kernel_rfl) ?_;repeat (go_big_quiet_step (exact cQ _ _))
     refine wpQuiet_nil ?_;intro _ dD;obtain⟨⟨dq,bI⟩,aT⟩:=dD;subst aT;have bq:=below_regrown wr dq bI;go_wp2;exact⟨⟨j+1,by omega,by simp,K.out.trans (bq.mono K.out.size)⟩,by simp[intOf];omega⟩
  ·obtain rfl:j=xs.length:=by omega
   have hd:decide ((xs.length:Int)<(xs.length:Int))=false:=by simp
   clear h1 h2 ht;go_wp2;go_ret;exact⟨rfl,aF⟩
def uQ.l9(xs:List M4):Nat:=(xs.map fun d=>Ii d).sum
theorem uQ.sz(w:World)(a:Option Addr)(cap:Nat)(xs:List M4)(l:Nat)(Gw:l<=1048576)(hn:xs.length<=maxLen)(hl:∀d∈xs,ML d)(hs:fZ.qM w a xs):
  Calls Tryz.prog 12 #[.slice a xs.length cap,vI (l:Int)] w fun e w'=>e=.returned (vI (fK l (xs.length+uQ.l9 xs)))/\Below w.1.size w w':=by
 have Ey:=hn;unfold maxLen at Ey;by_cases h0:xs.length<=l
 ·have d0:decide ((l:Int)-(xs.length:Int)<0)=false:=by simp;omega
  go_enter Tryz.func12,Tryz.ntmps12;go_wp2;go_loopw[1,5] (fun v1 v5 wr=>∃j:Nat,j<=xs.length/\v5=vI j/\xs.length+uQ.l9 (xs.take j)<=l/\v1=vI ((l-(xs.length+uQ.l9 (xs.take j)):Nat):Int)/\Below w.1.size w wr) (fun _ v5 _=>xs.length-(intOf v5).toNat)
  case atStart=>exact⟨0,Nat.zero_le _,rfl,by simpa[uQ.l9]using h0,by simp[uQ.l9];try omega,aJ⟩
  case round=>
   obtain⟨j,hj,rfl,hle,rfl,aF⟩:=hrel;have KL:Hid (xs.length+uQ.l9 (xs.take j)<=l):=hle;by_cases aN:j<xs.length
   ·obtain⟨d,hd⟩:∃d,xs[j]?=some d:=⟨_,List.getElem?_eq_getElem aN⟩
    rcases hs with hs|⟨b,off,rfl,hb,h1⟩
    ·rw[hs]at aN;simp at aN
    obtain⟨⟨c0,c1,c2,c3,c4,c5⟩,bg,fM⟩:=h1 j d hd;have e0:wr.cell? ⟨b,off+j*4,none⟩=some (.bool d.x):=(aF.cell (p:=⟨b,off+j*4,none⟩) hb).trans (bg 0 _ rfl);have e1:wr.cell? ⟨b,off+j*4+1,none⟩=some (.slice c0 d.af.length c1):=(aF.cell (p:=⟨b,off+j*4+1,none⟩) hb).trans (bg 1 _ rfl);have e2:wr.cell? ⟨b,off+j*4+2,none⟩=some (.slice c2 d.h.length c3):=(aF.cell (p:=⟨b,off+j*4+2,none⟩) hb).trans (bg 2 _ rfl);have e3:wr.cell? ⟨b,off+j*4+3,none⟩=some (.slice c4 d.ai.length c5):=(aF.cell (p:=⟨b,off+j*4+3,none⟩) hb).trans (bg 3 _ rfl);have hz:=KM.ZO wr c0 c1 c2 c3 c4 c5 d (l-(xs.length+uQ.l9 (xs.take j))) (by omega) (hl d (List.mem_of_getElem? hd)) (fZ.later fM aF)
    have Cs:Hid (uQ.l9 (xs.take (j+1))=uQ.l9 (xs.take j)+Ii d):=by
     unfold Hid uQ.l9;rw[List.map_take,List.map_take];exact jy (by rw[List.getElem?_map,hd];rfl)
    have OW:Hid (uQ.l9 (xs.take (j+1))<=uQ.l9 xs):=by unfold Hid uQ.l9;rw[List.map_take];exact kK _ _
    have KB:Hid (Below w.1.size w wr):=aF;have jn:(j:Int)<(xs.length:Int):=by omega
    generalize XH:uQ.l9 (xs.take j)=LL at *;generalize Ii d=m at *;clear h1 aF hl hle bg fM hd;by_cases tT:m<=l-(xs.length+LL)
    ·rw[bO tT]at hz;have d1:decide (((l-(xs.length+LL)-m:Nat):Int)<0)=false:=by simp
     go_wp2_with fail;refine hz.mono ?_;clear hz;rintro e w1 ⟨rfl,b1⟩;go_wp2;have h1:=KL.out;refine⟨⟨j+1,by omega,by simp,by rw[Cs.out];omega,by rw[Cs.out];congr 2;omega,KB.out.trans (b1.mono KB.out.size)⟩,by simp[intOf];omega⟩
    ·rw[bH tT]at hz;go_wp2_with fail;refine hz.mono ?_;clear hz;rintro e w1 ⟨rfl,b1⟩;go_wp2;go_ret;have h2:=Cs.out;have h3:=OW.out;refine⟨by rw[bH (by omega)];rfl,KB.out.trans (b1.mono KB.out.size)⟩
   ·obtain rfl:j=xs.length:=by omega
    have hd:decide ((xs.length:Int)<(xs.length:Int))=false:=by simp
    rw[List.take_length]at hle ⊢;clear hs hl KL;go_wp2;go_ret;exact⟨by rw[bO hle];rfl,aF⟩
 ·have d0:decide ((l:Int)-(xs.length:Int)<0)=true:=by simp;omega
  go_enter Tryz.func12,Tryz.ntmps12;go_wp2;go_ret;exact⟨by rw[bH (by omega)];rfl,aJ⟩
namespace tx
variable {B b c l n o off t:Nat}{P:Nat->Prop}{a w w':World}{s:S5}{xs:List S5}
theorem aB{p:Prop}(h:p):Hid p:=h
def fK(l t:Nat):Int:=if t<=l then((l-t:Nat):Int)else -1
theorem bO(h:t<=l):fK l t=((l-t:Nat):Int):=if_pos h
theorem bH(h:¬t<=l):fK l t=-1:=if_neg h
structure aH(P:Nat->Prop)(w w':World):Prop where
 os:w'.os=w.os
 tape:w'.tape=w.tape
 output:w'.output=w.output
 size:w.1.size<=w'.1.size
 block:∀q,q<w.1.size->¬P q->w'.1[q]?=w.1[q]?
theorem aH.refl(P:Nat->Prop)(w:World):aH P w w:=⟨rfl,rfl,rfl,Nat.le_refl _,fun _ _ _=>rfl⟩
theorem aH.trans{P:Nat->Prop}{a b c:World}(h:aH P a b)(k:aH P b c):aH P a c:=
 ⟨k.os.trans h.os,k.tape.trans h.tape,k.output.trans h.output,Nat.le_trans h.size k.size,fun q hq hp=>(k.block q (Nat.lt_of_lt_of_le hq h.size) hp).trans (h.block q hq hp)⟩
theorem aH.mono{Q:Nat->Prop}{b:World}(h:aH P a b)(hp:∀q,P q->Q q):aH Q a b:=⟨h.os,h.tape,h.output,h.size,fun q hq hn=>h.block q hq (fun e=>hn (hp q e))⟩
theorem aH.jQ{b:World}(h:aW c a b)(hc:P c):aH P a b:=⟨h.os,h.tape,h.output,Nat.le_of_eq h.size.symm,fun q _ hn=>h.block q (fun e=>hn (e▸hc))⟩
theorem aH.dK{b:World}(h:Below a.1.size a b):aH P a b:=⟨h.os,h.tape,h.output,h.size,fun q hq _=>h.block q hq⟩
theorem aH.rX(w:World)(v:Value)(hc:P c):aH P w (w.setCell ⟨c,o,none⟩ v):=.jQ ((aW.refl c w).setCell o v) hc
theorem aH.below{b:World}(h:aH P a b)(hp:∀q,P q->B<=q)(hB:B<=a.1.size):Below B a b:=⟨h.os,h.tape,h.output,h.size,fun q hq=>h.block q (by omega) (fun e=>by have:=hp q e;omega)⟩
structure dI(w:World)(b o:Nat)(s:S5):Prop where
 c0:w.cell? ⟨b,o,none⟩=some (vI s.b)
 c1:w.cell? ⟨b,o+1,none⟩=some (vI s.e)
 c2:w.cell? ⟨b,o+2,none⟩=some (vI s.g)
 c3:w.cell? ⟨b,o+3,none⟩=some (.bool s.i)
 c4:w.cell? ⟨b,o+4,none⟩=some (vI s.j)
theorem dI.below(h:dI w b o s)(hb:Below B w w')(hB:b<B):dI w' b o s:=
 ⟨by rw[hb.cell hB];exact h.c0,by rw[hb.cell hB];exact h.c1,by rw[hb.cell hB];exact h.c2,by rw[hb.cell hB];exact h.c3,by rw[hb.cell hB];exact h.c4⟩
def aX(w:World)(b off:Nat)(xs:List S5):Prop:=∀i s,xs[i]?=some s->dI w b (off+i*5) s
theorem aX.below(h:aX w b off xs)(hb:Below B w w')(hB:b<B):aX w' b off xs:=fun i s e=>(h i s e).below hb hB
def Sl(w:World)(B:Nat)(a:Option Addr)(n:Nat)(xs:List S5):Prop:=xs.length=n/\(n=0\/∃b off,a=some ⟨b,off,none⟩/\b<B/\aX w b off xs)
theorem Sl.below{w w':World}{B:Nat}{a:Option Addr}{n:Nat}{xs:List S5}(h:Sl w B a n xs)(hb:Below B w w'):Sl w' B a n xs:=by
 obtain⟨h1,h2⟩:=h;refine⟨h1,?_⟩;rcases h2 with h2|⟨b,off,ha,hB,hx⟩
 ·exact .inl h2
 ·exact .inr ⟨b,off,ha,hB,hx.below hb hB⟩
theorem Sl.mono{B':Nat}{a:Option Addr}(h:Sl w B a n xs)(hB:B<=B'):Sl w B' a n xs:=by
 obtain⟨h1,h2⟩:=h;refine⟨h1,?_⟩;rcases h2 with h2|⟨b,off,ha,hb,hx⟩
 ·exact .inl h2
 ·exact .inr ⟨b,off,ha,by omega,hx⟩
theorem aX.dZ(h:aX w b off xs){p:Addr}(hp:p.block≠b)(v:Value):aX (w.setCell p v) b off xs:=fun i s e=>
 ⟨by rw[aI hp];exact(h i s e).c0,by rw[aI hp];exact(h i s e).c1,by rw[aI hp];exact(h i s e).c2,by rw[aI hp];exact(h i s e).c3,by rw[aI hp];exact(h i s e).c4⟩
theorem dI.set{p:Nat}(h:dI w b o s)(hp:p<o\/o+5<=p)(v:Value):dI (w.setCell ⟨b,p,none⟩ v) b o s:=
 ⟨by rw[ae (by omega)];exact h.c0,by rw[ae (by omega)];exact h.c1,by rw[ae (by omega)];exact h.c2,by rw[ae (by omega)];exact h.c3,by rw[ae (by omega)];exact h.c4⟩
theorem yZ:(Tryz.prog.info? 100).map (fun i=>(i.zero,i.size,i.bytes))=some (some (.agg #[vI 0,vI 0,vI 0,.bool false,vI 0]),5,40):=by kernel_rfl
theorem nE(n:Nat)(hn:n<=1048576)(w:World):(Instr.makeSlice 48 (vI (n:Int)) (vI (n:Int))).run Tryz.prog w=.ok (.slice (some ⟨w.1.size,0,none⟩) n n) (w.alloc (.cells (madeCells #[vI 0,vI 0,vI 0,.bool false,vI 0] (n*5)) 100)):=by
 obtain⟨i,hi,mR⟩:=Option.map_eq_some_iff.1 yZ;simp only[Prod.mk.injEq]at mR;obtain⟨hz,hs,hb⟩:=mR;have:=run_make (P:=Tryz.prog) w 48 100 i _ Tryz.underlying48 hi hz .i64 .i64 (n:Int) (n:Int) (by omega) (by omega) (by rw[hb];omega) (by omega);rw[hs]at this;simpa[Value.cells]using this
theorem dI.put{v0 v1 v2 v3 v4:Value}(s:S5)(h0:w.cell? ⟨b,o,none⟩=some v0)(h1:w.cell? ⟨b,o+1,none⟩=some v1)(h2:w.cell? ⟨b,o+2,none⟩=some v2)(h3:w.cell? ⟨b,o+3,none⟩=some v3)(h4:w.cell? ⟨b,o+4,none⟩=some v4):
  dI (((((w.setCell ⟨b,o,none⟩ (vI s.b)).setCell ⟨b,o+1,none⟩ (vI s.e)).setCell ⟨b,o+2,none⟩ (vI s.g)).setCell ⟨b,o+3,none⟩ (.bool s.i)).setCell ⟨b,o+4,none⟩ (vI s.j)) b o s:=by
 refine⟨?_,?_,?_,?_,?_⟩
 ·rw[ae (by omega),ae (by omega),ae (by omega),ae (by omega)];exact az h0
 ·rw[ae (by omega),ae (by omega),ae (by omega)];exact az (by rw[ae (by omega)];exact h1)
 ·rw[ae (by omega),ae (by omega)];exact az (by rw[ae (by omega),ae (by omega)];exact h2)
 ·rw[ae (by omega)];exact az (by rw[ae (by omega),ae (by omega),ae (by omega)];exact h3)
 ·exact az (by rw[ae (by omega),ae (by omega),ae (by omega),ae (by omega)];exact h4)
theorem aX.put{w:World}{b k:Nat}{xs:List S5}{s:S5}(h:aX w b 0 (xs.take k))(hs:xs[k]?=some s){m:Nat}(hr:Room w b m)(hm:k*5+5<=m):
  aX (((((w.setCell ⟨b,k*5,none⟩ (vI s.b)).setCell ⟨b,k*5+1,none⟩ (vI s.e)).setCell ⟨b,k*5+2,none⟩ (vI s.g)).setCell ⟨b,k*5+3,none⟩ (.bool s.i)).setCell ⟨b,k*5+4,none⟩ (vI s.j)) b 0 (xs.take (k+1)):=by
 intro i t e;rw[List.getElem?_take]at e;split at e
 ·rename_i hi;by_cases Gv:i=k
  ·subst Gv;rw[hs]at e;obtain rfl:=Option.some.inj e;obtain⟨v0,d0,_⟩:=hr (i*5) (by omega);obtain⟨v1,d1,_⟩:=hr (i*5+1) (by omega);obtain⟨v2,d2,_⟩:=hr (i*5+2) (by omega);obtain⟨v3,d3,_⟩:=hr (i*5+3) (by omega);obtain⟨v4,d4,_⟩:=hr (i*5+4) (by omega);simpa using dI.put s d0 d1 d2 d3 d4
  ·have:=h i t (by rw[List.getElem?_take,if_pos (by omega)];exact e);exact((((this.set (by omega) _).set (by omega) _).set (by omega) _).set (by omega) _).set (by omega) _
 ·cases e
theorem aX.aj(h:aX w b off xs)(e:w'.1[b]?=w.1[b]?):aX w' b off xs:=fun i s hs=>by
 obtain⟨c0,c1,c2,c3,c4⟩:=h i s hs;exact⟨(World.cell?_of_block (a:=⟨b,_,none⟩) e).trans c0,(World.cell?_of_block (a:=⟨b,_,none⟩) e).trans c1,(World.cell?_of_block (a:=⟨b,_,none⟩) e).trans c2,(World.cell?_of_block (a:=⟨b,_,none⟩) e).trans c3,(World.cell?_of_block (a:=⟨b,_,none⟩) e).trans c4⟩
theorem qA(w:World)(a:Option Addr)(cap:Nat):Calls Tryz.prog 98 #[.slice a 0 cap] w fun e w'=>
  e=.returned (.slice (some ⟨w.1.size,0,none⟩) 0 0)/\Below w.1.size w w'/\w.1.size<w'.1.size:=by
 have nX:∀w:World,(Instr.makeSlice 48 (vI 0) (vI 0)).run Tryz.prog w=.ok (.slice (some ⟨w.1.size,0,none⟩) 0 0) (w.alloc (.cells (madeCells #[vI 0,vI 0,vI 0,.bool false,vI 0] 0) 100)):=fun w=>by simpa using nE 0 (by omega) w
 go_enter Tryz.func98,Tryz.ntmps98;go_wp2;go_loopw[4] (fun i wr=>i=vI 0/\Below w.1.size w wr/\w.1.size<wr.1.size) (fun _ _=>0)
 case atStart=>exact⟨rfl,aJ.alloc aR _,by simp⟩
 case round=>
  obtain⟨rfl,aF,dQ⟩:=hrel;go_wp2;go_ret;exact⟨rfl,aF,dQ⟩
theorem oJ(w:World)(b off n cap:Nat)(xs:List S5)(hx:xs.length=n)(hn:n<=1048576)(hb:b<w.1.size)(hs:aX w b off xs):Calls Tryz.prog 98 #[.slice (some ⟨b,off,none⟩) n cap] w fun e w'=>
  e=.returned (.slice (some ⟨w.1.size,0,none⟩) n n)/\Below w.1.size w w'/\w.1.size<w'.1.size/\aX w' w.1.size 0 xs/\Room w' w.1.size (n*5):=by
 have nX:=nE n hn;go_enter Tryz.func98,Tryz.ntmps98;go_wp2
 go_loopw[4] (fun i wr=>∃k:Nat,k<=n/\i=vI k/\Below w.1.size w wr/\w.1.size<wr.1.size/\Room wr w.1.size (n*5)/\aX wr w.1.size 0 (xs.take k))
   (fun i _=>n-(intOf i).toNat)
 case atStart=>exact⟨0,Nat.zero_le _,rfl,aJ.alloc aR _,by simp,gU _ _ _ _,fun i s e=>by simp at e⟩
 case round=>
  obtain⟨k,hk,rfl,aF,dQ,ed,kP⟩:=hrel;by_cases aN:k<n
  ·have EA:=hs.below aF hb;obtain⟨s,gu⟩:∃s,xs[k]?=some s:=⟨xs[k]'(by omega),by simp⟩
   obtain⟨c0,c1,c2,c3,c4⟩:=EA k s gu;clear EA nX;have K:Hid (Room wr w.1.size (n*5)/\aX wr w.1.size 0 (xs.take k)/\xs[k]?=some s/\Below w.1.size w wr):=⟨ed,kP,gu,aF⟩
   clear ed kP gu aF;go_wp2_with fail;refine(Ci _ s).mono ?_;rintro e w1 ⟨rfl,b1⟩;obtain⟨ed,kP,gu,aF⟩:=K.out;have gW:=ed.below b1 dQ;have nV:=kP.below b1 dQ;obtain⟨v0,d0,f0⟩:=gW (k*5) (by omega);obtain⟨v1,d1,f1⟩:=gW (k*5+1) (by omega);obtain⟨v2,d2,f2⟩:=gW (k*5+2) (by omega);obtain⟨v3,d3,f3⟩:=gW (k*5+3) (by omega);obtain⟨v4,d4,f4⟩:=gW (k*5+4) (by omega);clear ed kP gu aF;have K2:Hid (Room w1 w.1.size (n*5)/\aX w1 w.1.size 0 (xs.take k)):=⟨gW,nV⟩
   clear gW nV;go_wp2;obtain⟨ed,kP,gu,aF⟩:=K.out;obtain⟨gW,nV⟩:=K2.out;have Gt:=aF.trans (b1.mono (Nat.le_of_lt dQ))
   refine⟨⟨k+1,by omega,by simp,((((Gt.setCell (p:=⟨w.1.size,k*5,none⟩) aR _).setCell (p:=⟨w.1.size,k*5+1,none⟩) aR _).setCell (p:=⟨w.1.size,k*5+2,none⟩) aR _).setCell (p:=⟨w.1.size,k*5+3,none⟩) aR _).setCell (p:=⟨w.1.size,k*5+4,none⟩) aR _,
    by have:=b1.size;simp[World.setCell];omega,((((gW.set _).set _).set _).set _).set _,nV.put gu gW (by omega)⟩,by simp[intOf];omega⟩
  ·have:k=n:=by omega
   subst this;have hd:decide (k<k)=false:=by simp
   go_wp2;go_ret;refine⟨rfl,aF,dQ,?_,ed⟩;rw[<-hx,List.take_length]at kP;exact kP
theorem qy(w:World)(a:Option Addr)(n cap:Nat)(xs:List S5)(hn:n<=1048576)(hs:Sl w w.1.size a n xs):Calls Tryz.prog 98 #[.slice a n cap] w fun e w'=>
  e=.returned (.slice (some ⟨w.1.size,0,none⟩) n n)/\Below w.1.size w w'/\w.1.size<w'.1.size/\aX w' w.1.size 0 xs/\Room w' w.1.size (n*5):=by
 obtain⟨h1,h2⟩:=hs;rcases h2 with rfl|⟨b,off,rfl,hb,hx⟩
 ·refine(qA w a cap).mono ?_;rintro e w' ⟨rfl,h,h'⟩;exact⟨rfl,h,h',(fun i s e=>by rw[List.eq_nil_of_length_eq_zero h1]at e;simp at e),fun j hj=>by omega⟩
 ·exact oJ w b off n cap xs h1 hn hb hx
theorem Ad(w:World)(a:Option Addr)(n cap:Nat)(l:Nat)(hn:n<=maxLen)(hl:l<=1048576):Calls Tryz.prog 83 #[.slice a n cap,vI (l:Int)] w fun e w'=>e=.returned (vI (fK l n))/\w'=w:=by
 unfold maxLen at hn;by_cases h:n<=l
 ·rw[bO h];have d0:decide ((l:Int)-(n:Int)<0)=false:=by simp;omega
  go_enter Tryz.func83,Tryz.ntmps83;go_wp2;go_ret;have e:((l-n:Nat):Int)=(l:Int)-(n:Int):=by omega
  exact⟨by rw[e];rfl,rfl⟩
 ·rw[bH h];have d0:decide ((l:Int)-(n:Int)<0)=true:=by simp;omega
  go_enter Tryz.func83,Tryz.ntmps83;go_wp2;go_ret;exact⟨rfl,rfl⟩
theorem dI.gP(h:dI w b o s)(d:Nat)(os:Array Obj):dI (grow (redrawn w d) os) b o s:=
 ⟨cell_regrown h.c0 d os,cell_regrown h.c1 d os,cell_regrown h.c2 d os,cell_regrown h.c3 d os,cell_regrown h.c4 d os⟩
theorem ru(w:World)(s:S5):Calls Tryz.prog 156 #[.agg #[vI s.b,vI s.e,vI s.g,.bool s.i,vI s.j],.agg #[vI s.b,vI s.e,vI s.g,.bool s.i,vI s.j]] w fun e w'=>
  e=.returned (.bool true)/\Below w.1.size w w':=by
 obtain⟨r,l,v,u,x⟩:=s;go_enter Tryz.func156,Tryz.ntmps156;go_wp2;go_ret;exact⟨rfl,(aJ.alloc aR _).alloc (by simp) _⟩
theorem pM(w:World)(b off cap b' bG aZ n:Nat)(xs:List S5)(hx:xs.length=n)(hn:n<=maxLen)(h1:aX w b off xs)(hb:b<w.1.size)(h2:aX w b' bG xs)(fC:b'<w.1.size):
  Calls Tryz.prog 117 #[.slice (some ⟨b,off,none⟩) n cap,.slice (some ⟨b',bG,none⟩) n aZ] w fun e w'=>e=.returned (.bool true)/\Below w.1.size w w':=by
 unfold maxLen at hn;go_enter Tryz.func117,Tryz.ntmps117;go_wp2;go_loopw[5] (fun i wr=>∃k:Nat,k<=n/\i=vI k/\Below w.1.size w wr) (fun i _=>n-(intOf i).toNat)
 case atStart=>exact⟨0,Nat.zero_le _,rfl,aJ⟩
 case round=>
  obtain⟨k,hk,rfl,aF⟩:=hrel;by_cases aN:k<n
  ·obtain⟨s,gu⟩:∃s,xs[k]?=some s:=⟨xs[k]'(by omega),by simp⟩
   have t1:=(((h1 k s gu).below aF hb).gP)
   have t2:=(((h2 k s gu).below aF fC).gP)
   have c0:=fun d os=>(t1 d os).c0
   have c1:=fun d os=>(t1 d os).c1
   have c2:=fun d os=>(t1 d os).c2
   have c3:=fun d os=>(t1 d os).c3
   have c4:=fun d os=>(t1 d os).c4
   have e0:=fun d os=>(t2 d os).c0
   have e1:=fun d os=>(t2 d os).c1
   have e2:=fun d os=>(t2 d os).c2
   have e3:=fun d os=>(t2 d os).c3
   have e4:=fun d os=>(t2 d os).c4
   have cQ:∀d os,Calls Tryz.prog 156 #[.agg #[vI s.b,vI s.e,vI s.g,.bool s.i,vI s.j],.agg #[vI s.b,vI s.e,vI s.g,.bool s.i,vI s.j]] (grow (redrawn wr d) os) fun e fq=>e=.returned (.bool true)/\∃p:Regrown,fq=grow (redrawn wr p.d) p.os:=fun d os=>Calls.regrown_of (ru _ s)
   have K:Hid (Below w.1.size w wr):=aF;clear t1 t2 aF gu h1 h2;go_wp2_with fail;refine wp_region_quiet_below (by kernel_rfl) (by kernel_rfl) ?_;repeat (quiet_step (exact cQ _ _))
   refine wpQuiet_nil ?_;intro _ dD;obtain⟨⟨dq,bI⟩,aT⟩:=dD;subst aT;have bq:=below_regrown wr dq bI;go_wp2;exact⟨⟨k+1,by omega,by simp,K.out.trans (bq.mono K.out.size)⟩,by simp[intOf];omega⟩
  ·have:k=n:=by omega
   subst this;have hd:decide (k<k)=false:=by simp
   go_wp2;go_ret;exact⟨rfl,aF⟩
theorem kF(w:World)(a a':Option Addr)(cap aZ:Nat):Calls Tryz.prog 117 #[.slice a 0 cap,.slice a' 0 aZ] w fun e w'=>e=.returned (.bool true)/\Below w.1.size w w':=by
 go_enter Tryz.func117,Tryz.ntmps117;go_wp2;go_loopw[5] (fun i wr=>i=vI 0/\Below w.1.size w wr) (fun _ _=>0)
 case atStart=>exact⟨rfl,aJ⟩
 case round=>
  obtain⟨rfl,aF⟩:=hrel;go_wp2;go_ret;exact⟨rfl,aF⟩
theorem rq(w:World)(a a':Option Addr)(n cap aZ:Nat)(xs:List S5)(hn:n<=maxLen)(h1:Sl w w.1.size a n xs)(h2:Sl w w.1.size a' n xs):
  Calls Tryz.prog 117 #[.slice a n cap,.slice a' n aZ] w fun e w'=>e=.returned (.bool true)/\Below w.1.size w w':=by
 obtain⟨hx,h1⟩:=h1;obtain⟨_,h2⟩:=h2;rcases h1 with rfl|⟨b,off,rfl,hb,h1⟩
 ·exact kF w a a' cap aZ
 ·rcases h2 with rfl|⟨b',bG,rfl,fC,h2⟩
  ·exact kF w _ a' cap aZ
  ·exact pM w b off cap b' bG aZ n xs hx hn h1 hb h2 fC
def mkSet(k:Int)(j:Nat):S5:=⟨k+5*(j:Int),k+5*(j:Int)+1,k+5*(j:Int)+1+1,(k+5*(j:Int)+1+1+1)%3==0,k+5*(j:Int)+1+1+1+1⟩
def fG(k:Int)(n:Nat):List S5:=(List.range n).map (mkSet k)
theorem nH{k:Int}{j:Nat}(h:j<n):(fG k n)[j]?=some (mkSet k j):=by simp[fG,h]
theorem iq(k:Int)(n:Nat):(fG k n).length=n:=by simp[fG]
theorem rP(w:World)(b n cap:Nat)(k:Int)(hn:n<=1048576)(hk:0<=k)(ni:k<=1000000000)(hr:Room w b (n*5)):
  Calls Tryz.prog 73 #[.slice (some ⟨b,0,none⟩) n cap,vI k] w fun e w'=>e=.returned (vI (k+5*(n:Int)))/\aW b w w'/\aX w' b 0 (fG k n)/\Room w' b (n*5):=by
 go_enter Tryz.func73,Tryz.ntmps73;go_wp2;go_loopw[1,5] (fun v1 v5 wr=>∃j:Nat,j<=n/\v5=vI j/\v1=vI (k+5*(j:Int))/\aW b w wr/\Room wr b (n*5)/\aX wr b 0 ((fG k n).take j)) (fun _ v5 _=>n-(intOf v5).toNat)
 case atStart=>exact⟨0,Nat.zero_le _,rfl,by simp,aW.refl _ _,hr,fun i s e=>by simp at e⟩
 case round=>
  obtain⟨j,hj,rfl,rfl,jW,ed,lK⟩:=hrel;by_cases aN:j<n
  ·obtain⟨v0,d0,f0⟩:=ed (j*5) (by omega);obtain⟨v1,d1,f1⟩:=ed (j*5+1) (by omega);obtain⟨v2,d2,f2⟩:=ed (j*5+2) (by omega);obtain⟨v3,d3,f3⟩:=ed (j*5+3) (by omega);obtain⟨v4,d4,f4⟩:=ed (j*5+4) (by omega);have K:Hid (aW b w wr/\Room wr b (n*5)/\aX wr b 0 ((fG k n).take j)):=⟨jW,ed,lK⟩
   clear jW ed lK hr;go_wp2;obtain⟨jW,ed,lK⟩:=K.out;refine⟨⟨j+1,by omega,by simp,by congr 1;push_cast;omega,((((jW.setCell _ _).setCell _ _).setCell _ _).setCell _ _).setCell _ _,((((ed.set _).set _).set _).set _).set _,lK.put (s:=mkSet k j) (nH aN) ed (by omega)⟩,by simp[intOf];omega⟩
  ·have:j=n:=by omega
   subst this;have hd:decide ((j:Int)<(j:Int))=false:=by simp
   rw[List.take_of_length_le (by rw[iq];omega)]at lK;have K:Hid (aW b w wr/\aX wr b 0 (fG k j)/\Room wr b (j*5)):=⟨jW,lK,ed⟩
   clear jW ed lK hr;go_wp2;go_ret;exact⟨rfl,K.out.1,K.out.2.1,K.out.2.2⟩
theorem uk(w:World)(a:Option Addr)(cap:Nat)(k:Int):Calls Tryz.prog 73 #[.slice a 0 cap,vI k] w fun e w'=>e=.returned (vI k)/\w'=w:=by
 go_enter Tryz.func73,Tryz.ntmps73;go_wp2;go_loop[1,5] (fun v1 v5=>v1=vI k/\v5=vI 0) (fun _ _=>0)
 case atStart=>exact⟨rfl,rfl⟩
 case round=>
  obtain⟨rfl,rfl⟩:=hrel;go_wp2;go_ret;exact⟨rfl,rfl⟩
theorem rA(w:World)(a:Option Addr)(n cap:Nat)(k:Int)(hn:n<=1048576)(hk:0<=k)(ni:k<=1000000000)(hs:Sl w w.1.size a n (fG k n)):
  Calls Tryz.prog 78 #[.slice a n cap,vI k] w fun e w'=>e=.returned (vI (k+5*(n:Int)))/\w'=w:=by
 obtain⟨_,hs⟩:=hs;go_enter Tryz.func78,Tryz.ntmps78;go_wp2;go_loop[1,5] (fun v1 v5=>∃j:Nat,j<=n/\v5=vI j/\v1=vI (k+5*(j:Int))) (fun _ v5=>n-(intOf v5).toNat)
 case atStart=>exact⟨0,Nat.zero_le _,rfl,by simp⟩
 case round=>
  obtain⟨j,hj,rfl,rfl⟩:=hrel;by_cases aN:j<n
  ·rcases hs with hs|⟨b,off,rfl,hb,h1⟩
   ·omega
   ·obtain⟨c0,c1,c2,c3,c4⟩:=h1 j (mkSet k j) (nH aN);simp only[mkSet]at c0 c1 c2 c3 c4;clear h1;go_wp2;exact⟨⟨j+1,by omega,by simp,by congr 1;push_cast;omega⟩,by simp[intOf];omega⟩
  ·have:j=n:=by omega
   subst this;have hd:decide ((j:Int)<(j:Int))=false:=by simp
   clear hs;go_wp2;go_ret;exact⟨rfl,rfl⟩
end tx
namespace tx
variable {B b n o off:Nat}{w w':World}
structure N5 where
 b:Int
 e:Int
 j:Int
 g:Int
 i:Bool
theorem Im(w:World)(s:N5):Calls Tryz.prog 133 #[.agg #[vI s.b,vI s.e,vI s.j,vI s.g,.bool s.i]] w fun e w'=>
  e=.returned (.agg #[vI s.b,vI s.e,vI s.j,vI s.g,.bool s.i])/\Below w.1.size w w':=by
 obtain⟨r,l,v,u,x⟩:=s;go_enter Tryz.func133,Tryz.ntmps133;go_wp2;refine bodyPost_ret (v:=.agg #[vI r,vI l,vI v,vI u,.bool x]) (by simp[results,Tryz.results133,go_sem]) rfl ⟨rfl,?_⟩;exact((aJ.alloc aR _).alloc (by simp) _).alloc (by simp;omega) _
structure aL(w:World)(b o:Nat)(s:N5):Prop where
 c0:w.cell? ⟨b,o,none⟩=some (vI s.b)
 c1:w.cell? ⟨b,o+1,none⟩=some (vI s.e)
 c2:w.cell? ⟨b,o+2,none⟩=some (vI s.j)
 c3:w.cell? ⟨b,o+3,none⟩=some (vI s.g)
 c4:w.cell? ⟨b,o+4,none⟩=some (.bool s.i)
theorem aL.below{s:N5}(h:aL w b o s)(hb:Below B w w')(hB:b<B):aL w' b o s:=
 ⟨by rw[hb.cell hB];exact h.c0,by rw[hb.cell hB];exact h.c1,by rw[hb.cell hB];exact h.c2,by rw[hb.cell hB];exact h.c3,by rw[hb.cell hB];exact h.c4⟩
def bR(w:World)(b off:Nat)(xs:List N5):Prop:=∀i s,xs[i]?=some s->aL w b (off+i*5) s
theorem bR.below{xs:List N5}(h:bR w b off xs)(hb:Below B w w')(hB:b<B):bR w' b off xs:=fun i s e=>(h i s e).below hb hB
def jD(w:World)(B:Nat)(a:Option Addr)(n:Nat)(xs:List N5):Prop:=xs.length=n/\(n=0\/∃b off,a=some ⟨b,off,none⟩/\b<B/\bR w b off xs)
theorem jD.below{w w':World}{B:Nat}{a:Option Addr}{n:Nat}{xs:List N5}(h:jD w B a n xs)(hb:Below B w w'):jD w' B a n xs:=by
 obtain⟨h1,h2⟩:=h;refine⟨h1,?_⟩;rcases h2 with h2|⟨b,off,ha,hB,hx⟩
 ·exact .inl h2
 ·exact .inr ⟨b,off,ha,hB,hx.below hb hB⟩
theorem jD.mono{B':Nat}{a:Option Addr}{xs:List N5}(h:jD w B a n xs)(hB:B<=B'):jD w B' a n xs:=by
 obtain⟨h1,h2⟩:=h;refine⟨h1,?_⟩;rcases h2 with h2|⟨b,off,ha,hb,hx⟩
 ·exact .inl h2
 ·exact .inr ⟨b,off,ha,by omega,hx⟩
theorem bR.dZ{xs:List N5}(h:bR w b off xs){p:Addr}(hp:p.block≠b)(v:Value):bR (w.setCell p v) b off xs:=fun i s e=>
 ⟨by rw[aI hp];exact(h i s e).c0,by rw[aI hp];exact(h i s e).c1,by rw[aI hp];exact(h i s e).c2,by rw[aI hp];exact(h i s e).c3,by rw[aI hp];exact(h i s e).c4⟩
theorem aL.set{p:Nat}{s:N5}(h:aL w b o s)(hp:p<o\/o+5<=p)(v:Value):aL (w.setCell ⟨b,p,none⟩ v) b o s:=
 ⟨by rw[ae (by omega)];exact h.c0,by rw[ae (by omega)];exact h.c1,by rw[ae (by omega)];exact h.c2,by rw[ae (by omega)];exact h.c3,by rw[ae (by omega)];exact h.c4⟩
theorem Kb:(Tryz.prog.info? 112).map (fun i=>(i.zero,i.size,i.bytes))=some (some (.agg #[vI 0,vI 0,vI 0,vI 0,.bool false]),5,40):=by kernel_rfl
theorem zl(n:Nat)(hn:n<=1048576)(w:World):(Instr.makeSlice 47 (vI (n:Int)) (vI (n:Int))).run Tryz.prog w=.ok (.slice (some ⟨w.1.size,0,none⟩) n n) (w.alloc (.cells (madeCells #[vI 0,vI 0,vI 0,vI 0,.bool false] (n*5)) 112)):=by
 obtain⟨i,hi,mR⟩:=Option.map_eq_some_iff.1 Kb;simp only[Prod.mk.injEq]at mR;obtain⟨hz,hs,hb⟩:=mR;have:=run_make (P:=Tryz.prog) w 47 112 i _ Tryz.underlying47 hi hz .i64 .i64 (n:Int) (n:Int) (by omega) (by omega) (by rw[hb];omega) (by omega);rw[hs]at this;simpa[Value.cells]using this
theorem aL.put{v0 v1 v2 v3 v4:Value}(s:N5)(h0:w.cell? ⟨b,o,none⟩=some v0)(h1:w.cell? ⟨b,o+1,none⟩=some v1)(h2:w.cell? ⟨b,o+2,none⟩=some v2)(h3:w.cell? ⟨b,o+3,none⟩=some v3)(h4:w.cell? ⟨b,o+4,none⟩=some v4):
  aL (((((w.setCell ⟨b,o,none⟩ (vI s.b)).setCell ⟨b,o+1,none⟩ (vI s.e)).setCell ⟨b,o+2,none⟩ (vI s.j)).setCell ⟨b,o+3,none⟩ (vI s.g)).setCell ⟨b,o+4,none⟩ (.bool s.i)) b o s:=by
 refine⟨?_,?_,?_,?_,?_⟩
 ·rw[ae (by omega),ae (by omega),ae (by omega),ae (by omega)];exact az h0
 ·rw[ae (by omega),ae (by omega),ae (by omega)];exact az (by rw[ae (by omega)];exact h1)
 ·rw[ae (by omega),ae (by omega)];exact az (by rw[ae (by omega),ae (by omega)];exact h2)
 ·rw[ae (by omega)];exact az (by rw[ae (by omega),ae (by omega),ae (by omega)];exact h3)
 ·exact az (by rw[ae (by omega),ae (by omega),ae (by omega),ae (by omega)];exact h4)
theorem bR.put{w:World}{b k:Nat}{xs:List N5}{s:N5}(h:bR w b 0 (xs.take k))(hs:xs[k]?=some s){m:Nat}(hr:Room w b m)(hm:k*5+5<=m):
  bR (((((w.setCell ⟨b,k*5,none⟩ (vI s.b)).setCell ⟨b,k*5+1,none⟩ (vI s.e)).setCell ⟨b,k*5+2,none⟩ (vI s.j)).setCell ⟨b,k*5+3,none⟩ (vI s.g)).setCell ⟨b,k*5+4,none⟩ (.bool s.i)) b 0 (xs.take (k+1)):=by
 intro i t e;rw[List.getElem?_take]at e;split at e
 ·rename_i hi;by_cases Gv:i=k
  ·subst Gv;rw[hs]at e;obtain rfl:=Option.some.inj e;obtain⟨v0,d0,_⟩:=hr (i*5) (by omega);obtain⟨v1,d1,_⟩:=hr (i*5+1) (by omega);obtain⟨v2,d2,_⟩:=hr (i*5+2) (by omega);obtain⟨v3,d3,_⟩:=hr (i*5+3) (by omega);obtain⟨v4,d4,_⟩:=hr (i*5+4) (by omega);simpa using aL.put s d0 d1 d2 d3 d4
  ·have:=h i t (by rw[List.getElem?_take,if_pos (by omega)];exact e);exact((((this.set (by omega) _).set (by omega) _).set (by omega) _).set (by omega) _).set (by omega) _
 ·cases e
theorem bR.aj{xs:List N5}(h:bR w b off xs)(e:w'.1[b]?=w.1[b]?):bR w' b off xs:=fun i s hs=>by
 obtain⟨c0,c1,c2,c3,c4⟩:=h i s hs;exact⟨(World.cell?_of_block (a:=⟨b,_,none⟩) e).trans c0,(World.cell?_of_block (a:=⟨b,_,none⟩) e).trans c1,(World.cell?_of_block (a:=⟨b,_,none⟩) e).trans c2,(World.cell?_of_block (a:=⟨b,_,none⟩) e).trans c3,(World.cell?_of_block (a:=⟨b,_,none⟩) e).trans c4⟩
theorem Dq(w:World)(a:Option Addr)(cap:Nat):Calls Tryz.prog 97 #[.slice a 0 cap] w fun e w'=>
  e=.returned (.slice (some ⟨w.1.size,0,none⟩) 0 0)/\Below w.1.size w w'/\w.1.size<w'.1.size:=by
 have nX:∀w:World,(Instr.makeSlice 47 (vI 0) (vI 0)).run Tryz.prog w=.ok (.slice (some ⟨w.1.size,0,none⟩) 0 0) (w.alloc (.cells (madeCells #[vI 0,vI 0,vI 0,vI 0,.bool false] 0) 112)):=fun w=>by simpa using zl 0 (by omega) w
 go_enter Tryz.func97,Tryz.ntmps97;go_wp2;go_loopw[4] (fun i wr=>i=vI 0/\Below w.1.size w wr/\w.1.size<wr.1.size) (fun _ _=>0)
 case atStart=>exact⟨rfl,aJ.alloc aR _,by simp⟩
 case round=>
  obtain⟨rfl,aF,dQ⟩:=hrel;go_wp2;go_ret;exact⟨rfl,aF,dQ⟩
theorem Bj(w:World)(b off n cap:Nat)(xs:List N5)(hx:xs.length=n)(hn:n<=1048576)(hb:b<w.1.size)(hs:bR w b off xs):Calls Tryz.prog 97 #[.slice (some ⟨b,off,none⟩) n cap] w fun e w'=>
  e=.returned (.slice (some ⟨w.1.size,0,none⟩) n n)/\Below w.1.size w w'/\w.1.size<w'.1.size/\bR w' w.1.size 0 xs/\Room w' w.1.size (n*5):=by
 have nX:=zl n hn;go_enter Tryz.func97,Tryz.ntmps97;go_wp2
 go_loopw[4] (fun i wr=>∃k:Nat,k<=n/\i=vI k/\Below w.1.size w wr/\w.1.size<wr.1.size/\Room wr w.1.size (n*5)/\bR wr w.1.size 0 (xs.take k))
   (fun i _=>n-(intOf i).toNat)
 case atStart=>exact⟨0,Nat.zero_le _,rfl,aJ.alloc aR _,by simp,gU _ _ _ _,fun i s e=>by simp at e⟩
 case round=>
  obtain⟨k,hk,rfl,aF,dQ,ed,kP⟩:=hrel;by_cases aN:k<n
  ·have EA:=hs.below aF hb;obtain⟨s,gu⟩:∃s,xs[k]?=some s:=⟨xs[k]'(by omega),by simp⟩
   obtain⟨c0,c1,c2,c3,c4⟩:=EA k s gu;clear EA nX;have K:Hid (Room wr w.1.size (n*5)/\bR wr w.1.size 0 (xs.take k)/\xs[k]?=some s/\Below w.1.size w wr):=⟨ed,kP,gu,aF⟩
   clear ed kP gu aF;go_wp2_with fail;refine(Im _ s).mono ?_;rintro e w1 ⟨rfl,b1⟩;obtain⟨ed,kP,gu,aF⟩:=K.out;have gW:=ed.below b1 dQ;have nV:=kP.below b1 dQ;obtain⟨v0,d0,f0⟩:=gW (k*5) (by omega);obtain⟨v1,d1,f1⟩:=gW (k*5+1) (by omega);obtain⟨v2,d2,f2⟩:=gW (k*5+2) (by omega);obtain⟨v3,d3,f3⟩:=gW (k*5+3) (by omega);obtain⟨v4,d4,f4⟩:=gW (k*5+4) (by omega);clear ed kP gu aF;have K2:Hid (Room w1 w.1.size (n*5)/\bR w1 w.1.size 0 (xs.take k)):=⟨gW,nV⟩
   clear gW nV;go_wp2;obtain⟨ed,kP,gu,aF⟩:=K.out;obtain⟨gW,nV⟩:=K2.out;have Gt:=aF.trans (b1.mono (Nat.le_of_lt dQ))
   refine⟨⟨k+1,by omega,by simp,((((Gt.setCell (p:=⟨w.1.size,k*5,none⟩) aR _).setCell (p:=⟨w.1.size,k*5+1,none⟩) aR _).setCell (p:=⟨w.1.size,k*5+2,none⟩) aR _).setCell (p:=⟨w.1.size,k*5+3,none⟩) aR _).setCell (p:=⟨w.1.size,k*5+4,none⟩) aR _,
    by have:=b1.size;simp[World.setCell];omega,((((gW.set _).set _).set _).set _).set _,nV.put gu gW (by omega)⟩,by simp[intOf];omega⟩
  ·have:k=n:=by omega
   subst this;have hd:decide (k<k)=false:=by simp
   go_wp2;go_ret;refine⟨rfl,aF,dQ,?_,ed⟩;rw[<-hx,List.take_length]at kP;exact kP
theorem Dp(w:World)(a:Option Addr)(n cap:Nat)(xs:List N5)(hn:n<=1048576)(hs:jD w w.1.size a n xs):Calls Tryz.prog 97 #[.slice a n cap] w fun e w'=>
  e=.returned (.slice (some ⟨w.1.size,0,none⟩) n n)/\Below w.1.size w w'/\w.1.size<w'.1.size/\bR w' w.1.size 0 xs/\Room w' w.1.size (n*5):=by
 obtain⟨h1,h2⟩:=hs;rcases h2 with rfl|⟨b,off,rfl,hb,hx⟩
 ·refine(Dq w a cap).mono ?_;rintro e w' ⟨rfl,h,h'⟩;exact⟨rfl,h,h',(fun i s e=>by rw[List.eq_nil_of_length_eq_zero h1]at e;simp at e),fun j hj=>by omega⟩
 ·exact Bj w b off n cap xs h1 hn hb hx
theorem Ld(w:World)(a:Option Addr)(n cap:Nat)(l:Nat)(hn:n<=maxLen)(hl:l<=1048576):Calls Tryz.prog 82 #[.slice a n cap,vI (l:Int)] w fun e w'=>e=.returned (vI (fK l n))/\w'=w:=by
 unfold maxLen at hn;by_cases h:n<=l
 ·rw[bO h];have d0:decide ((l:Int)-(n:Int)<0)=false:=by simp;omega
  go_enter Tryz.func82,Tryz.ntmps82;go_wp2;go_ret;have e:((l-n:Nat):Int)=(l:Int)-(n:Int):=by omega
  exact⟨by rw[e];rfl,rfl⟩
 ·rw[bH h];have d0:decide ((l:Int)-(n:Int)<0)=true:=by simp;omega
  go_enter Tryz.func82,Tryz.ntmps82;go_wp2;go_ret;exact⟨rfl,rfl⟩
theorem aL.gP{s:N5}(h:aL w b o s)(d:Nat)(os:Array Obj):aL (grow (redrawn w d) os) b o s:=
 ⟨cell_regrown h.c0 d os,cell_regrown h.c1 d os,cell_regrown h.c2 d os,cell_regrown h.c3 d os,cell_regrown h.c4 d os⟩
theorem Ei(w:World)(s:N5):Calls Tryz.prog 155 #[.agg #[vI s.b,vI s.e,vI s.j,vI s.g,.bool s.i],.agg #[vI s.b,vI s.e,vI s.j,vI s.g,.bool s.i]] w fun e w'=>
  e=.returned (.bool true)/\Below w.1.size w w':=by
 obtain⟨r,l,v,u,x⟩:=s;go_enter Tryz.func155,Tryz.ntmps155;go_wp2;go_ret;exact⟨rfl,(aJ.alloc aR _).alloc (by simp) _⟩
theorem CL(w:World)(b off cap b' bG aZ n:Nat)(xs:List N5)(hx:xs.length=n)(hn:n<=maxLen)(h1:bR w b off xs)(hb:b<w.1.size)(h2:bR w b' bG xs)(fC:b'<w.1.size):
  Calls Tryz.prog 116 #[.slice (some ⟨b,off,none⟩) n cap,.slice (some ⟨b',bG,none⟩) n aZ] w fun e w'=>e=.returned (.bool true)/\Below w.1.size w w':=by
 unfold maxLen at hn;go_enter Tryz.func116,Tryz.ntmps116;go_wp2;go_loopw[5] (fun i wr=>∃k:Nat,k<=n/\i=vI k/\Below w.1.size w wr) (fun i _=>n-(intOf i).toNat)
 case atStart=>exact⟨0,Nat.zero_le _,rfl,aJ⟩
 case round=>
  obtain⟨k,hk,rfl,aF⟩:=hrel;by_cases aN:k<n
  ·obtain⟨s,gu⟩:∃s,xs[k]?=some s:=⟨xs[k]'(by omega),by simp⟩
   have t1:=(((h1 k s gu).below aF hb).gP)
   have t2:=(((h2 k s gu).below aF fC).gP)
   have c0:=fun d os=>(t1 d os).c0
   have c1:=fun d os=>(t1 d os).c1
   have c2:=fun d os=>(t1 d os).c2
   have c3:=fun d os=>(t1 d os).c3
   have c4:=fun d os=>(t1 d os).c4
   have e0:=fun d os=>(t2 d os).c0
   have e1:=fun d os=>(t2 d os).c1
   have e2:=fun d os=>(t2 d os).c2
   have e3:=fun d os=>(t2 d os).c3
   have e4:=fun d os=>(t2 d os).c4
   have cQ:∀d os,Calls Tryz.prog 155 #[.agg #[vI s.b,vI s.e,vI s.j,vI s.g,.bool s.i],.agg #[vI s.b,vI s.e,vI s.j,vI s.g,.bool s.i]] (grow (redrawn wr d) os) fun e fq=>e=.returned (.bool true)/\∃p:Regrown,fq=grow (redrawn wr p.d) p.os:=fun d os=>Calls.regrown_of (Ei _ s)
   have K:Hid (Below w.1.size w wr):=aF;clear t1 t2 aF gu h1 h2;go_wp2_with fail;refine wp_region_quiet_below (by kernel_rfl) (by kernel_rfl) ?_;repeat (quiet_step (exact cQ _ _))
   refine wpQuiet_nil ?_;intro _ dD;obtain⟨⟨dq,bI⟩,aT⟩:=dD;subst aT;have bq:=below_regrown wr dq bI;go_wp2;exact⟨⟨k+1,by omega,by simp,K.out.trans (bq.mono K.out.size)⟩,by simp[intOf];omega⟩
  ·have:k=n:=by omega
   subst this;have hd:decide (k<k)=false:=by simp
   go_wp2;go_ret;exact⟨rfl,aF⟩
theorem tH(w:World)(a a':Option Addr)(cap aZ:Nat):Calls Tryz.prog 116 #[.slice a 0 cap,.slice a' 0 aZ] w fun e w'=>e=.returned (.bool true)/\Below w.1.size w w':=by
 go_enter Tryz.func116,Tryz.ntmps116;go_wp2;go_loopw[5] (fun i wr=>i=vI 0/\Below w.1.size w wr) (fun _ _=>0)
 case atStart=>exact⟨rfl,aJ⟩
 case round=>
  obtain⟨rfl,aF⟩:=hrel;go_wp2;go_ret;exact⟨rfl,aF⟩
theorem Eh(w:World)(a a':Option Addr)(n cap aZ:Nat)(xs:List N5)(hn:n<=maxLen)(h1:jD w w.1.size a n xs)(h2:jD w w.1.size a' n xs):
  Calls Tryz.prog 116 #[.slice a n cap,.slice a' n aZ] w fun e w'=>e=.returned (.bool true)/\Below w.1.size w w':=by
 obtain⟨hx,h1⟩:=h1;obtain⟨_,h2⟩:=h2;rcases h1 with rfl|⟨b,off,rfl,hb,h1⟩
 ·exact tH w a a' cap aZ
 ·rcases h2 with rfl|⟨b',bG,rfl,fC,h2⟩
  ·exact tH w _ a' cap aZ
  ·exact CL w b off cap b' bG aZ n xs hx hn h1 hb h2 fC
def zF(k:Int)(j:Nat):N5:=⟨k+5*(j:Int),k+5*(j:Int)+1,k+5*(j:Int)+1+1,k+5*(j:Int)+1+1+1,(k+5*(j:Int)+1+1+1+1)%3==0⟩
def iO(k:Int)(n:Nat):List N5:=(List.range n).map (zF k)
theorem zG{k:Int}{j:Nat}(h:j<n):(iO k n)[j]?=some (zF k j):=by simp[iO,h]
theorem mi(k:Int)(n:Nat):(iO k n).length=n:=by simp[iO]
theorem EU(w:World)(b n cap:Nat)(k:Int)(hn:n<=1048576)(hk:0<=k)(ni:k<=1000000000)(hr:Room w b (n*5)):
  Calls Tryz.prog 72 #[.slice (some ⟨b,0,none⟩) n cap,vI k] w fun e w'=>e=.returned (vI (k+5*(n:Int)))/\aW b w w'/\bR w' b 0 (iO k n)/\Room w' b (n*5):=by
 go_enter Tryz.func72,Tryz.ntmps72;go_wp2;go_loopw[1,5] (fun v1 v5 wr=>∃j:Nat,j<=n/\v5=vI j/\v1=vI (k+5*(j:Int))/\aW b w wr/\Room wr b (n*5)/\bR wr b 0 ((iO k n).take j)) (fun _ v5 _=>n-(intOf v5).toNat)
 case atStart=>exact⟨0,Nat.zero_le _,rfl,by simp,aW.refl _ _,hr,fun i s e=>by simp at e⟩
 case round=>
  obtain⟨j,hj,rfl,rfl,jW,ed,lK⟩:=hrel;by_cases aN:j<n
  ·obtain⟨v0,d0,f0⟩:=ed (j*5) (by omega);obtain⟨v1,d1,f1⟩:=ed (j*5+1) (by omega);obtain⟨v2,d2,f2⟩:=ed (j*5+2) (by omega);obtain⟨v3,d3,f3⟩:=ed (j*5+3) (by omega);obtain⟨v4,d4,f4⟩:=ed (j*5+4) (by omega);have K:Hid (aW b w wr/\Room wr b (n*5)/\bR wr b 0 ((iO k n).take j)):=⟨jW,ed,lK⟩
   clear jW ed lK hr;go_wp2;obtain⟨jW,ed,lK⟩:=K.out;refine⟨⟨j+1,by omega,by simp,by congr 1;push_cast;omega,((((jW.setCell _ _).setCell _ _).setCell _ _).setCell _ _).setCell _ _,((((ed.set _).set _).set _).set _).set _,lK.put (s:=zF k j) (zG aN) ed (by omega)⟩,by simp[intOf];omega⟩
  ·have:j=n:=by omega
   subst this;have hd:decide ((j:Int)<(j:Int))=false:=by simp
   rw[List.take_of_length_le (by rw[mi];omega)]at lK;have K:Hid (aW b w wr/\bR wr b 0 (iO k j)/\Room wr b (j*5)):=⟨jW,lK,ed⟩
   clear jW ed lK hr;go_wp2;go_ret;exact⟨rfl,K.out.1,K.out.2.1,K.out.2.2⟩
theorem AY(w:World)(a:Option Addr)(cap:Nat)(k:Int):Calls Tryz.prog 72 #[.slice a 0 cap,vI k] w fun e w'=>e=.returned (vI k)/\w'=w:=by
 go_enter Tryz.func72,Tryz.ntmps72;go_wp2;go_loop[1,5] (fun v1 v5=>v1=vI k/\v5=vI 0) (fun _ _=>0)
 case atStart=>exact⟨rfl,rfl⟩
 case round=>
  obtain⟨rfl,rfl⟩:=hrel;go_wp2;go_ret;exact⟨rfl,rfl⟩
theorem Es(w:World)(a:Option Addr)(n cap:Nat)(k:Int)(hn:n<=1048576)(hk:0<=k)(ni:k<=1000000000)(hs:jD w w.1.size a n (iO k n)):
  Calls Tryz.prog 77 #[.slice a n cap,vI k] w fun e w'=>e=.returned (vI (k+5*(n:Int)))/\w'=w:=by
 obtain⟨_,hs⟩:=hs;go_enter Tryz.func77,Tryz.ntmps77;go_wp2;go_loop[1,5] (fun v1 v5=>∃j:Nat,j<=n/\v5=vI j/\v1=vI (k+5*(j:Int))) (fun _ v5=>n-(intOf v5).toNat)
 case atStart=>exact⟨0,Nat.zero_le _,rfl,by simp⟩
 case round=>
  obtain⟨j,hj,rfl,rfl⟩:=hrel;by_cases aN:j<n
  ·rcases hs with hs|⟨b,off,rfl,hb,h1⟩
   ·omega
   ·obtain⟨c0,c1,c2,c3,c4⟩:=h1 j (zF k j) (zG aN);simp only[zF]at c0 c1 c2 c3 c4;clear h1;go_wp2;exact⟨⟨j+1,by omega,by simp,by congr 1;push_cast;omega⟩,by simp[intOf];omega⟩
  ·have:j=n:=by omega
   subst this;have hd:decide ((j:Int)<(j:Int))=false:=by simp
   clear hs;go_wp2;go_ret;exact⟨rfl,rfl⟩
end tx
namespace tx
variable {B n s:Nat}{P PR PS:Nat->Prop}{X Y w w':World}{a:Option Addr}{xs:List S5}
structure T7 where
 id:Int
 o:Int
 q:Int
 v:Int
 a:List N5
 ag:List S5
 aA:Int
abbrev iC(a:Option Addr)(c:Nat)(b:Option Addr)(d:Nat)(t:T7):List Value:=[vI t.id,vI t.o,vI t.q,vI t.v,.slice a t.a.length c,.slice b t.ag.length d,vI t.aA]
structure TV where
 ar:Option Addr
 cr:Nat
 ah:Option Addr
 ch:Nat
def TV.val(v:TV)(t:T7):Value:=.agg #[vI t.id,vI t.o,vI t.q,vI t.v,.slice v.ar t.a.length v.cr,.slice v.ah t.ag.length v.ch,vI t.aA]
theorem Sl.later(h:Sl w w.1.size a n xs)(hb:Below w.1.size w w'):Sl w' w'.1.size a n xs:=(h.below hb).mono hb.size
theorem jD.later{xs:List N5}(h:jD w w.1.size a n xs)(hb:Below w.1.size w w'):jD w' w'.1.size a n xs:=(h.below hb).mono hb.size
structure lW(w:World)(v:TV)(t:T7):Prop where
 r:jD w w.1.size v.ar t.a.length t.a
 s:Sl w w.1.size v.ah t.ag.length t.ag
theorem lW.later{v:TV}{t:T7}(h:lW w v t)(hb:Below w.1.size w w'):lW w' v t:=⟨h.r.later hb,h.s.later hb⟩
structure TL(t:T7):Prop where
 r:t.a.length<=maxLen
 s:t.ag.length<=maxLen
def mW(w:World)(P:Nat->Prop)(a:Option Addr)(xs:List N5):Prop:=xs=[]\/∃b,a=some ⟨b,0,none⟩/\P b/\b<w.1.size/\bR w b 0 xs/\Room w b (xs.length*5)
def oL(w:World)(P:Nat->Prop)(a:Option Addr)(xs:List S5):Prop:=xs=[]\/∃b,a=some ⟨b,0,none⟩/\P b/\b<w.1.size/\aX w b 0 xs/\Room w b (xs.length*5)
theorem mW.aQ{xs:List N5}(h:mW w P a xs)(hs:w.1.size<=w'.1.size)(hk:∀q,q<w.1.size->P q->w'.1[q]?=w.1[q]?):mW w' P a xs:=by
 rcases h with h|⟨b,ha,hp,hl,hn,hr⟩
 ·exact .inl h
 ·exact .inr ⟨b,ha,hp,Nat.lt_of_lt_of_le hl hs,hn.aj (hk b hl hp),hr.aj (hk b hl hp)⟩
theorem oL.aQ(h:oL w P a xs)(hs:w.1.size<=w'.1.size)(hk:∀q,q<w.1.size->P q->w'.1[q]?=w.1[q]?):oL w' P a xs:=by
 rcases h with h|⟨b,ha,hp,hl,hn,hr⟩
 ·exact .inl h
 ·exact .inr ⟨b,ha,hp,Nat.lt_of_lt_of_le hl hs,hn.aj (hk b hl hp),hr.aj (hk b hl hp)⟩
theorem mW.sl{xs:List N5}(h:mW w P a xs):jD w w.1.size a xs.length xs:=by
 rcases h with e|⟨b,ha,_,hl,hn,_⟩
 ·exact⟨rfl,.inl (by rw[e];rfl)⟩
 ·exact⟨rfl,.inr ⟨b,0,ha,hl,hn⟩⟩
theorem oL.sl(h:oL w P a xs):Sl w w.1.size a xs.length xs:=by
 rcases h with e|⟨b,ha,_,hl,hn,_⟩
 ·exact⟨rfl,.inl (by rw[e];rfl)⟩
 ·exact⟨rfl,.inr ⟨b,0,ha,hl,hn⟩⟩
structure OT(w:World)(B:Nat)(v:TV)(t:T7)(PR PS:Nat->Prop):Prop where
 r:mW w PR v.ar t.a
 s:oL w PS v.ah t.ag
 rs:∀q,PR q->¬PS q
 rB:∀q,PR q->B<=q/\q<w.1.size
 sB:∀q,PS q->B<=q/\q<w.1.size
def oW(PR PS:Nat->Prop)(q:Nat):Prop:=PR q\/PS q
theorem OT.of{v:TV}{t:T7}(h:OT w B v t PR PS){q:Nat}(hq:oW PR PS q):B<=q/\q<w.1.size:=hq.elim (h.rB q) (h.sB q)
theorem OT.sl{v:TV}{t:T7}(h:OT w B v t PR PS):lW w v t:=⟨h.r.sl,h.s.sl⟩
theorem OT.aQ{w w':World}{B:Nat}{v:TV}{t:T7}{PR PS:Nat->Prop}(h:OT w B v t PR PS)(hs:w.1.size<=w'.1.size)(hk:∀q,q<w.1.size->oW PR PS q->w'.1[q]?=w.1[q]?):OT w' B v t PR PS:=
 ⟨h.r.aQ hs (fun q hq hp=>hk q hq (.inl hp)),h.s.aQ hs (fun q hq hp=>hk q hq (.inr hp)),h.rs,fun q hq=>⟨(h.rB q hq).1,Nat.lt_of_lt_of_le (h.rB q hq).2 hs⟩,fun q hq=>⟨(h.sB q hq).1,Nat.lt_of_lt_of_le (h.sB q hq).2 hs⟩⟩
theorem OT.later{v:TV}{t:T7}(h:OT w B v t PR PS)(hb:Below w.1.size w w'):OT w' B v t PR PS:=h.aQ hb.size (fun q hq _=>hb.block q hq)
theorem OT.mono{B':Nat}{v:TV}{t:T7}(h:OT w B v t PR PS)(hb:B'<=B):OT w B' v t PR PS:=⟨h.r,h.s,h.rs,fun q hq=>⟨Nat.le_trans hb (h.rB q hq).1,(h.rB q hq).2⟩,fun q hq=>⟨Nat.le_trans hb (h.sB q hq).1,(h.sB q hq).2⟩⟩
structure BT(X:World)(s:Nat)(v:TV)(t:T7):Prop where
 c0:X.cell? ⟨s,0,none⟩=some (vI t.id)
 c1:X.cell? ⟨s,1,none⟩=some (vI t.o)
 c2:X.cell? ⟨s,2,none⟩=some (vI t.q)
 c3:X.cell? ⟨s,3,none⟩=some (vI t.v)
 c4:X.cell? ⟨s,4,none⟩=some (.slice v.ar t.a.length v.cr)
 c5:X.cell? ⟨s,5,none⟩=some (.slice v.ah t.ag.length v.ch)
 c6:X.cell? ⟨s,6,none⟩=some (vI t.aA)
 fz:∀j,X.frozen? ⟨s,j,none⟩=false
 lt:s<X.1.size
theorem BT.aj{v:TV}{t:T7}(h:BT X s v t)(hb:Y.1[s]?=X.1[s]?)(hs:X.1.size<=Y.1.size):BT Y s v t:=by
 have c:∀{j:Nat}{u:Value},X.cell? ⟨s,j,none⟩=some u->Y.cell? ⟨s,j,none⟩=some u:=fun {j u} h=>(World.cell?_of_block (a:=⟨s,j,none⟩) hb).trans h
 exact⟨c h.c0,c h.c1,c h.c2,c h.c3,c h.c4,c h.c5,c h.c6,fun j=>(World.frozen?_of_block (a:=⟨s,j,none⟩) hb).trans (h.fz j),Nat.lt_of_lt_of_le h.lt hs⟩
theorem BT.later{v:TV}{t:T7}(h:BT X s v t)(hb:Below X.1.size X Y):BT Y s v t:=h.aj (hb.block _ h.lt) hb.size
theorem BT.box(X:World)(v:TV)(t:T7)(T:TypeId):BT (X.alloc (.cells #[vI t.id,vI t.o,vI t.q,vI t.v,.slice v.ar t.a.length v.cr,.slice v.ah t.ag.length v.ch,vI t.aA] T)) X.1.size v t:=by
 refine⟨by go_simp,by go_simp,by go_simp,by go_simp,by go_simp,by go_simp,by go_simp,fun j=>by go_simp,by simp⟩
theorem BT.zero(X:World)(T:TypeId):BT (X.alloc (.cells #[vI 0,vI 0,vI 0,vI 0,.slice none 0 0,.slice none 0 0,vI 0] T)) X.1.size ⟨none,0,none,0⟩ ⟨0,0,0,0,[],[],0⟩:=BT.box X ⟨none,0,none,0⟩ ⟨0,0,0,0,[],[],0⟩ T
def yn(t:T7):Nat:=t.a.length+t.ag.length
end tx
namespace tx
variable {X:World}{s:Nat}{t:T7}{v:TV}
theorem BT.dZ(h:BT X s v t){p:Addr}(hp:p.block≠s)(u:Value):BT (X.setCell p u) s v t:=h.aj (Below.heap_setCell _ _ _ _ (fun e=>hp e.symm)) (by simp[World.setCell])
theorem BT.set0(h:BT X s v t)(z:Int):BT (X.setCell ⟨s,0,none⟩ (vI z)) s v ⟨z,t.o,t.q,t.v,t.a,t.ag,t.aA⟩:=⟨az h.c0,(ae (by omega)).trans h.c1,(ae (by omega)).trans h.c2,(ae (by omega)).trans h.c3,(ae (by omega)).trans h.c4,(ae (by omega)).trans h.c5,(ae (by omega)).trans h.c6,fun j=>by rw[World.frozen?_setCell];exact h.fz j,by simpa[World.setCell]using h.lt⟩
theorem BT.set1(h:BT X s v t)(z:Int):BT (X.setCell ⟨s,1,none⟩ (vI z)) s v ⟨t.id,z,t.q,t.v,t.a,t.ag,t.aA⟩:=⟨(ae (by omega)).trans h.c0,az h.c1,(ae (by omega)).trans h.c2,(ae (by omega)).trans h.c3,(ae (by omega)).trans h.c4,(ae (by omega)).trans h.c5,(ae (by omega)).trans h.c6,fun j=>by rw[World.frozen?_setCell];exact h.fz j,by simpa[World.setCell]using h.lt⟩
theorem BT.set2(h:BT X s v t)(z:Int):BT (X.setCell ⟨s,2,none⟩ (vI z)) s v ⟨t.id,t.o,z,t.v,t.a,t.ag,t.aA⟩:=⟨(ae (by omega)).trans h.c0,(ae (by omega)).trans h.c1,az h.c2,(ae (by omega)).trans h.c3,(ae (by omega)).trans h.c4,(ae (by omega)).trans h.c5,(ae (by omega)).trans h.c6,fun j=>by rw[World.frozen?_setCell];exact h.fz j,by simpa[World.setCell]using h.lt⟩
theorem BT.ZM(h:BT X s v t)(z:Int):BT (X.setCell ⟨s,3,none⟩ (vI z)) s v ⟨t.id,t.o,t.q,z,t.a,t.ag,t.aA⟩:=⟨(ae (by omega)).trans h.c0,(ae (by omega)).trans h.c1,(ae (by omega)).trans h.c2,az h.c3,(ae (by omega)).trans h.c4,(ae (by omega)).trans h.c5,(ae (by omega)).trans h.c6,fun j=>by rw[World.frozen?_setCell];exact h.fz j,by simpa[World.setCell]using h.lt⟩
theorem BT.Ig(h:BT X s v t)(a:Option Addr)(c:Nat)(xs:List N5):BT (X.setCell ⟨s,4,none⟩ (.slice a xs.length c)) s ⟨a,c,v.ah,v.ch⟩ ⟨t.id,t.o,t.q,t.v,xs,t.ag,t.aA⟩:=⟨(ae (by omega)).trans h.c0,(ae (by omega)).trans h.c1,(ae (by omega)).trans h.c2,(ae (by omega)).trans h.c3,az h.c4,(ae (by omega)).trans h.c5,(ae (by omega)).trans h.c6,fun j=>by rw[World.frozen?_setCell];exact h.fz j,by simpa[World.setCell]using h.lt⟩
theorem BT.Qm(h:BT X s v t)(a:Option Addr)(c:Nat)(xs:List S5):BT (X.setCell ⟨s,5,none⟩ (.slice a xs.length c)) s ⟨v.ar,v.cr,a,c⟩ ⟨t.id,t.o,t.q,t.v,t.a,xs,t.aA⟩:=⟨(ae (by omega)).trans h.c0,(ae (by omega)).trans h.c1,(ae (by omega)).trans h.c2,(ae (by omega)).trans h.c3,(ae (by omega)).trans h.c4,az h.c5,(ae (by omega)).trans h.c6,fun j=>by rw[World.frozen?_setCell];exact h.fz j,by simpa[World.setCell]using h.lt⟩
theorem BT.Xi(h:BT X s v t)(z:Int):BT (X.setCell ⟨s,6,none⟩ (vI z)) s v ⟨t.id,t.o,t.q,t.v,t.a,t.ag,z⟩:=⟨(ae (by omega)).trans h.c0,(ae (by omega)).trans h.c1,(ae (by omega)).trans h.c2,(ae (by omega)).trans h.c3,(ae (by omega)).trans h.c4,(ae (by omega)).trans h.c5,az h.c6,fun j=>by rw[World.frozen?_setCell];exact h.fz j,by simpa[World.setCell]using h.lt⟩
def kJ(X:World)(s:Nat)(v:TV)(t:T7):World:=((((((X.setCell ⟨s,0,none⟩ (vI t.id)).setCell ⟨s,1,none⟩ (vI t.o)).setCell ⟨s,2,none⟩ (vI t.q)).setCell ⟨s,3,none⟩ (vI t.v)).setCell ⟨s,4,none⟩ (.slice v.ar t.a.length v.cr)).setCell ⟨s,5,none⟩ (.slice v.ah t.ag.length v.ch)).setCell ⟨s,6,none⟩ (vI t.aA)
theorem BT.put{v0:TV}{t0:T7}(h:BT X s v0 t0)(v:TV)(t:T7):BT (kJ X s v t) s v t:=((((((h.set0 t.id).set1 t.o).set2 t.q).ZM t.v).Ig v.ar v.cr t.a).Qm v.ah v.ch t.ag).Xi t.aA
theorem nJ(X:World)(s:Nat)(v:TV)(t:T7):(kJ X s v t).1.size=X.1.size:=by simp[kJ,World.setCell]
theorem iY{q:Nat}(hq:q≠s):(kJ X s v t).1[q]?=X.1[q]?:=by
 unfold kJ;exact(Below.heap_setCell _ _ _ _ hq).trans ((Below.heap_setCell _ _ _ _ hq).trans ((Below.heap_setCell _ _ _ _ hq).trans ((Below.heap_setCell _ _ _ _ hq).trans ((Below.heap_setCell _ _ _ _ hq).trans ((Below.heap_setCell _ _ _ _ hq).trans (Below.heap_setCell _ _ _ _ hq))))))
theorem eP{B:Nat}{w:World}(h:Below B w X)(hs:B<=s):Below B w (kJ X s v t):=by
 unfold kJ;exact((((((h.setCell (p:=⟨s,0,none⟩) hs _).setCell (p:=⟨s,1,none⟩) hs _).setCell (p:=⟨s,2,none⟩) hs _).setCell (p:=⟨s,3,none⟩) hs _).setCell (p:=⟨s,4,none⟩) hs _).setCell (p:=⟨s,5,none⟩) hs _).setCell (p:=⟨s,6,none⟩) hs _
end tx
namespace tx
def Vf(w:World)(t:T7)(e:Ending)(w':World):Prop:=∃(a4:Option Addr) (c4:Nat) (h4:Option Addr) (d4:Nat) (PR PS:Nat->Prop),e=.returned ((TV.mk a4 c4 h4 d4).val t)/\OT w' w.1.size ⟨a4,c4,h4,d4⟩ t PR PS/\Below w.1.size w w'/\t.a.length<=c4/\t.ag.length<=d4
theorem Le(w:World)(v:TV)(t:T7)(hr:t.a.length<=1048576)(Q3:t.ag.length<=1048576)(h:lW w v t):
  Calls Tryz.prog 55 #[v.val t] w (Vf w t):=by
 obtain⟨ar,cr,ah,ch⟩:=v;simp only[TV.val];obtain⟨W,hW⟩:∃W,W=((w.alloc (.cells #[vI t.id,vI t.o,vI t.q,vI t.v,.slice ar t.a.length cr,.slice ah t.ag.length ch,vI t.aA] 86)).alloc (.cells #[vI 0,vI 0,vI 0,vI 0,.slice none 0 0,.slice none 0 0,vI 0] 50)).alloc (.cells #[vI t.id,vI t.o,vI t.q,vI t.v,.slice none 0 0,.slice none 0 0,vI 0] 50):=⟨_,rfl⟩
 obtain⟨W1,ja⟩:∃W1,W1=(w.alloc (.cells #[vI t.id,vI t.o,vI t.q,vI t.v,.slice ar t.a.length cr,.slice ah t.ag.length ch,vI t.aA] 86)):=⟨_,rfl⟩
 have z1:W1.1.size=w.1.size+1:=by rw[ja];simp
 have x1:BT W1 w.1.size ⟨ar,cr,ah,ch⟩ t:=by rw[ja];exact BT.box w ⟨ar,cr,ah,ch⟩ t _
 have b1:Below w.1.size w W1:=by rw[ja];exact aJ.alloc aR _
 obtain⟨W2,DK⟩:∃W2,W2=W1.alloc (.cells #[vI 0,vI 0,vI 0,vI 0,.slice none 0 0,.slice none 0 0,vI 0] 50):=⟨_,rfl⟩
 have b2:Below W1.1.size W1 W2:=by rw[DK];exact aJ.alloc aR _
 have x2:BT W2 (w.1.size+1) ⟨none,0,none,0⟩ ⟨0,0,0,0,[],[],0⟩:=by rw[DK,<-z1];exact BT.zero W1 _
 have z2:W2.1.size=w.1.size+1+1:=by rw[DK];simp[z1]
 have UQ:W=W2.alloc (.cells #[vI t.id,vI t.o,vI t.q,vI t.v,.slice none 0 0,.slice none 0 0,vI 0] 50):=by rw[hW,DK,ja]
 have b3:Below W2.1.size W2 W:=by rw[UQ];exact aJ.alloc aR _
 have yO:BT W (w.1.size+1+1) ⟨none,0,none,0⟩ ⟨t.id,t.o,t.q,t.v,[],[],0⟩:=by rw[UQ,<-z2];exact BT.box W2 ⟨none,0,none,0⟩ ⟨t.id,t.o,t.q,t.v,[],[],0⟩ _
 have sW:W.1.size=w.1.size+3:=by rw[UQ];simp[z2]
 have yA:BT W w.1.size ⟨ar,cr,ah,ch⟩ t:=(x1.later b2).later b3;have yR:BT W (w.1.size+1) ⟨none,0,none,0⟩ ⟨0,0,0,0,[],[],0⟩:=x2.later b3;have bW:Below w.1.size w W:=(b1.trans (b2.mono b1.size)).trans (b3.mono (by omega));have c1:=Dp W ar t.a.length cr t.a hr (h.r.later bW);have H:Hid (BT W w.1.size ⟨ar,cr,ah,ch⟩ t/\BT W (w.1.size+1) ⟨none,0,none,0⟩ ⟨0,0,0,0,[],[],0⟩/\BT W (w.1.size+1+1) ⟨none,0,none,0⟩ ⟨t.id,t.o,t.q,t.v,[],[],0⟩/\W.1.size=w.1.size+3/\Below w.1.size w W/\Sl w w.1.size ah t.ag.length t.ag/\t.ag.length<=1048576):=⟨yA,yR,yO,sW,bW,h.s,Q3⟩
 clear UQ x1 x2 z1 z2 b1 b2 b3 yA yR yO sW bW h Q3 hr DK ja;go_enter Tryz.func55,Tryz.ntmps55;go_wp2_with fail;rw[<-hW];clear hW;refine c1.mono ?_;clear c1;rintro e w1 ⟨rfl,b1,l1,n1,r1⟩;obtain⟨yA,yR,yO,sW,bW,hs,hl⟩:=H.out;have Lp:=yA.later b1;have Rv:=yR.later b1;have Yd:=yO.later b1;have c4:=Yd.c4;have f4:=Yd.fz 4;have a5:=(Lp.dZ (p:=⟨w.1.size+1+1,4,none⟩) (by dsimp only;omega) (.slice (some ⟨W.1.size,0,none⟩) t.a.length t.a.length)).c5;have B1:Below w.1.size w (w1.setCell ⟨w.1.size+1+1,4,none⟩ (.slice (some ⟨W.1.size,0,none⟩) t.a.length t.a.length)):=(bW.trans (b1.mono bW.size)).setCell (p:=⟨w.1.size+1+1,4,none⟩) (by dsimp only;omega) _;have c2:=qy (w1.setCell ⟨w.1.size+1+1,4,none⟩ (.slice (some ⟨W.1.size,0,none⟩) t.a.length t.a.length)) ah t.ag.length ch t.ag hl ((hs.later B1))
 have H1:Hid (BT (w1.setCell ⟨w.1.size+1+1,4,none⟩ (.slice (some ⟨W.1.size,0,none⟩) t.a.length t.a.length)) w.1.size ⟨ar,cr,ah,ch⟩ t/\BT (w1.setCell ⟨w.1.size+1+1,4,none⟩ (.slice (some ⟨W.1.size,0,none⟩) t.a.length t.a.length)) (w.1.size+1) ⟨none,0,none,0⟩ ⟨0,0,0,0,[],[],0⟩/\BT (w1.setCell ⟨w.1.size+1+1,4,none⟩ (.slice (some ⟨W.1.size,0,none⟩) t.a.length t.a.length)) (w.1.size+1+1) ⟨some ⟨W.1.size,0,none⟩,t.a.length,none,0⟩ ⟨t.id,t.o,t.q,t.v,t.a,[],0⟩/\W.1.size=w.1.size+3/\Below w.1.size w (w1.setCell ⟨w.1.size+1+1,4,none⟩ (.slice (some ⟨W.1.size,0,none⟩) t.a.length t.a.length))/\bR (w1.setCell ⟨w.1.size+1+1,4,none⟩ (.slice (some ⟨W.1.size,0,none⟩) t.a.length t.a.length)) W.1.size 0 t.a/\Room (w1.setCell ⟨w.1.size+1+1,4,none⟩ (.slice (some ⟨W.1.size,0,none⟩) t.a.length t.a.length)) W.1.size (t.a.length*5)/\W.1.size<(w1.setCell ⟨w.1.size+1+1,4,none⟩ (.slice (some ⟨W.1.size,0,none⟩) t.a.length t.a.length)).1.size):=
  ⟨Lp.dZ (by dsimp only;omega) _,Rv.dZ (by dsimp only;omega) _,Yd.Ig _ _ t.a,sW,B1,n1.dZ (by dsimp only;omega) _,r1.aj (Below.heap_setCell _ _ _ _ (by dsimp only;omega)),by simpa[World.setCell]using l1⟩
 clear yA yR yO sW bW hs hl Lp Rv Yd B1 b1 l1 n1 r1 H;go_wp2_with fail;generalize (w1.setCell ⟨w.1.size+1+1,4,none⟩ (.slice (some ⟨W.1.size,0,none⟩) t.a.length t.a.length))=V1 at *;refine c2.mono ?_;clear c2 c4 f4 a5;rintro e w2 ⟨rfl,b2,l2,n2,r2⟩;obtain⟨yA,yR,yO,sW,bW,q1,q2,q3⟩:=H1.out;have OV:=yA.later b2;have Rw:=yR.later b2;have Ye:=yO.later b2;have Yf:=Ye.Qm (some ⟨V1.1.size,0,none⟩) t.ag.length t.ag;have LB:=OV.dZ (p:=⟨w.1.size+1+1,5,none⟩) (by dsimp only;omega) (.slice (some ⟨V1.1.size,0,none⟩) t.ag.length t.ag.length);have Rx:=Rw.dZ (p:=⟨w.1.size+1+1,5,none⟩) (by dsimp only;omega) (.slice (some ⟨V1.1.size,0,none⟩) t.ag.length t.ag.length);have nr:=Yf.Xi t.aA;have Ry:=Rx.dZ (p:=⟨w.1.size+1+1,6,none⟩) (by dsimp only;omega) (vI t.aA);have nN:=Ry.put ⟨some ⟨W.1.size,0,none⟩,t.a.length,some ⟨V1.1.size,0,none⟩,t.ag.length⟩ t;have k5:=Ye.c5;have Re:=Ye.fz 5;have k6:=Yf.c6;have pf:=Yf.fz 6;have a6:=LB.c6;obtain⟨o0,o1,o2,o3,o4,o5,o6,_,_⟩:=nr;obtain⟨r0,r1,r2',r3,r4,r5,r6,fr,_⟩:=Ry;have f0:=fr 0;have f1:=fr 1;have f2:=fr 2;have f3:=fr 3;have f4:=fr 4;have f5:=fr 5;have f6:=fr 6;simp only[kJ]at nN;obtain⟨u0,u1,u2,u3,u4,u5,u6,_,_⟩:=nN;have KH:Hid (W.1.size=w.1.size+3/\Below w.1.size w w2/\bR w2 W.1.size 0 t.a/\Room w2 W.1.size (t.a.length*5)/\W.1.size<V1.1.size/\V1.1.size<w2.1.size/\aX w2 V1.1.size 0 t.ag/\Room w2 V1.1.size (t.ag.length*5)):=⟨sW,bW.trans (b2.mono bW.size),q1.below b2 q3,q2.below b2 q3,q3,l2,n2,r2⟩
 clear yA yR yO sW bW q1 q2 q3 OV Rw Ye Yf LB Rx b2 l2 n2 r2 fr H1;go_wp2;refine bodyPost_ret (v:=.agg #[vI t.id,vI t.o,vI t.q,vI t.v,.slice (some ⟨W.1.size,0,none⟩) t.a.length t.a.length,.slice (some ⟨V1.1.size,0,none⟩) t.ag.length t.ag.length,vI t.aA]) (by simp[results,Tryz.results55,go_sem,u0,u1,u2,u3,u4,u5,u6]) rfl ?_;obtain⟨sW,bW,q1,q2,q3,q4,q5,q6⟩:=KH.out;refine⟨some ⟨W.1.size,0,none⟩,t.a.length,some ⟨V1.1.size,0,none⟩,t.ag.length,fun q=>q=W.1.size,fun q=>q=V1.1.size,rfl,?_,?_,Nat.le_refl _,Nat.le_refl _⟩
 ·have ot:OT w2 w.1.size ⟨some ⟨W.1.size,0,none⟩,t.a.length,some ⟨V1.1.size,0,none⟩,t.ag.length⟩ t (fun q=>q=W.1.size) (fun q=>q=V1.1.size):=
   ⟨.inr ⟨_,rfl,rfl,by omega,q1,q2⟩,.inr ⟨_,rfl,rfl,q4,q5,q6⟩,fun q hq hp=>by omega,fun q hq=>by omega,fun q hq=>by omega⟩
  have TQ:=(ot.aQ (w':=(w2.setCell ⟨w.1.size+1+1,5,none⟩ (.slice (some ⟨V1.1.size,0,none⟩) t.ag.length t.ag.length)).setCell ⟨w.1.size+1+1,6,none⟩ (vI t.aA)) (by simp[World.setCell]) (fun q _ hq=>(Below.heap_setCell _ _ _ _ (by show q≠w.1.size+1+1;rcases hq with h|h<;>omega)).trans (Below.heap_setCell _ _ _ _ (by show q≠w.1.size+1+1;rcases hq with h|h<;>omega))))
  exact TQ.aQ (by simp[World.setCell]) (fun q _ hq=>iY (s:=w.1.size+1) (v:=⟨some ⟨W.1.size,0,none⟩,t.a.length,some ⟨V1.1.size,0,none⟩,t.ag.length⟩) (t:=t) (by rcases hq with h|h<;>omega))
 ·exact eP (s:=w.1.size+1) (v:=⟨some ⟨W.1.size,0,none⟩,t.a.length,some ⟨V1.1.size,0,none⟩,t.ag.length⟩) (t:=t) ((bW.setCell (p:=⟨w.1.size+1+1,5,none⟩) (by dsimp only;omega) _).setCell (p:=⟨w.1.size+1+1,6,none⟩) (by dsimp only;omega) _) (by omega)
theorem JQ(w:World)(v v':TV)(t:T7)(hl:TL t)(h1:lW w v t)(h2:lW w v' t):Calls Tryz.prog 68 #[v.val t,v'.val t] w fun e w'=>e=.returned (.bool true)/\Below w.1.size w w':=by
 obtain⟨ar,cr,ah,ch⟩:=v;obtain⟨RU,R7,RS,ch'⟩:=v';simp only[TV.val];obtain⟨U,hU⟩:∃U,U=((w.alloc (.cells #[vI t.id,vI t.o,vI t.q,vI t.v,.slice ar t.a.length cr,.slice ah t.ag.length ch,vI t.aA] 50)).alloc (.cells #[vI t.id,vI t.o,vI t.q,vI t.v,.slice RU t.a.length R7,.slice RS t.ag.length ch',vI t.aA] 50)):=⟨_,rfl⟩
 have z1:(w.alloc (.cells #[vI t.id,vI t.o,vI t.q,vI t.v,.slice ar t.a.length cr,.slice ah t.ag.length ch,vI t.aA] 50)).1.size=w.1.size+1:=by simp
 have xB:BT U (w.1.size+1) ⟨RU,R7,RS,ch'⟩ t:=by rw[hU,<-z1];exact BT.box _ ⟨RU,R7,RS,ch'⟩ t _
 have xA:BT U w.1.size ⟨ar,cr,ah,ch⟩ t:=by rw[hU];exact(BT.box w ⟨ar,cr,ah,ch⟩ t _).later (aJ.alloc aR _)
 have b0:Below w.1.size w U:=by rw[hU];exact(aJ.alloc aR _).alloc (by simp) _
 have c1:=Eh U ar RU t.a.length cr R7 t.a hl.r (h1.later b0).r (h2.later b0).r;have H:Hid (BT U w.1.size ⟨ar,cr,ah,ch⟩ t/\BT U (w.1.size+1) ⟨RU,R7,RS,ch'⟩ t/\Below w.1.size w U/\lW w ⟨ar,cr,ah,ch⟩ t/\lW w ⟨RU,R7,RS,ch'⟩ t/\TL t):=⟨xA,xB,b0,h1,h2,hl⟩
 have q0:(t.id != t.id)=false:=by simp
 have q1:(t.o != t.o)=false:=by simp
 have q2:(t.q != t.q)=false:=by simp
 have q3:(t.v != t.v)=false:=by simp
 have q6:(t.aA != t.aA)=false:=by simp
 clear z1 xA xB b0 h1 h2 hl;go_enter Tryz.func68,Tryz.ntmps68;go_wp2_with fail;rw[<-hU];clear hU;refine c1.mono ?_;clear c1 q0 q1 q2 q3;rintro e w1 ⟨rfl,b1⟩;obtain⟨xA,xB,b0,h1,h2,hl⟩:=H.out;have bw:Below w.1.size w w1:=b0.trans (b1.mono b0.size);have a5:=(xA.later b1).c5;have e5:=(xB.later b1).c5;have c2:=rq w1 ah RS t.ag.length ch ch' t.ag hl.s (h1.later bw).s (h2.later bw).s;have H1:Hid (BT w1 w.1.size ⟨ar,cr,ah,ch⟩ t/\BT w1 (w.1.size+1) ⟨RU,R7,RS,ch'⟩ t/\Below w.1.size w w1):=⟨xA.later b1,xB.later b1,bw⟩
 clear xA xB b0 h1 h2 hl b1 bw H;go_wp2_with fail;refine c2.mono ?_;clear c2 a5 e5;rintro e w2 ⟨rfl,b2⟩;have a6:=(H1.out.1.later b2).c6;have e6:=(H1.out.2.1.later b2).c6;have KE:Hid (Below w.1.size w w2):=H1.out.2.2.trans (b2.mono H1.out.2.2.size);clear b2 H1;go_wp2;go_ret;exact⟨rfl,KE.out⟩
theorem Nv(w:World)(P:Nat->Prop)(a:Option Addr)(cap:Nat)(xs:List N5)(k:Int)(hk:0<=k)(ni:k<=1000000000)(hn:xs.length<=1048576)(h:mW w P a xs):
  Calls Tryz.prog 72 #[.slice a xs.length cap,vI k] w fun e w'=>e=.returned (vI (k+5*(xs.length:Int)))/\aH P w w'/\mW w' P a (iO k xs.length):=by
 rcases h with rfl|⟨b,rfl,hp,hb,hx,hr⟩
 ·refine(AY w a cap k).mono ?_;rintro e w' ⟨rfl,rfl⟩;exact⟨by simp,aH.refl _ _,.inl rfl⟩
 ·refine(EU w b xs.length cap k hn hk ni hr).mono ?_;rintro e w' ⟨rfl,ho,F9,yg⟩;exact⟨rfl,aH.jQ ho hp,.inr ⟨b,rfl,hp,by rw[ho.size];exact hb,F9,by rw[mi];exact yg⟩⟩
theorem Nw(w:World)(P:Nat->Prop)(a:Option Addr)(cap:Nat)(xs:List S5)(k:Int)(hk:0<=k)(ni:k<=1000000000)(hn:xs.length<=1048576)(h:oL w P a xs):
  Calls Tryz.prog 73 #[.slice a xs.length cap,vI k] w fun e w'=>e=.returned (vI (k+5*(xs.length:Int)))/\aH P w w'/\oL w' P a (fG k xs.length):=by
 rcases h with rfl|⟨b,rfl,hp,hb,hx,hr⟩
 ·refine(uk w a cap k).mono ?_;rintro e w' ⟨rfl,rfl⟩;exact⟨by simp,aH.refl _ _,.inl rfl⟩
 ·refine(rP w b xs.length cap k hn hk ni hr).mono ?_;rintro e w' ⟨rfl,ho,F9,yg⟩;exact⟨rfl,aH.jQ ho hp,.inr ⟨b,rfl,hp,by rw[ho.size];exact hb,F9,by rw[iq];exact yg⟩⟩
theorem Ul(w:World)(v:TV)(t:T7)(l0:Nat)(Gw:l0<=1048576)(hl:TL t):Calls Tryz.prog 39 #[v.val t,vI (l0:Int)] w fun e w'=>e=.returned (vI (fK l0 (yn t)))/\Below w.1.size w w':=by
 obtain⟨ar,cr,ah,ch⟩:=v;simp only[TV.val];have b0:Below w.1.size w (w.alloc (.cells #[vI t.id,vI t.o,vI t.q,vI t.v,.slice ar t.a.length cr,.slice ah t.ag.length ch,vI t.aA] 86)):=aJ.alloc aR _;have B0:=aB b0;have h1:=Ld (w.alloc (.cells #[vI t.id,vI t.o,vI t.q,vI t.v,.slice ar t.a.length cr,.slice ah t.ag.length ch,vI t.aA] 86)) ar t.a.length cr l0 hl.r Gw;have h2:=fun W l=>Ad W ah t.ag.length ch l hl.s
 have HS:Hid (yn t=t.a.length+t.ag.length):=rfl;clear b0 hl;by_cases g1:t.a.length<=l0
 ·rw[bO g1]at h1;have d1:decide (((l0-t.a.length:Nat):Int)<0)=false:=by simp
  have h3:=h2 (w.alloc (.cells #[vI t.id,vI t.o,vI t.q,vI t.v,.slice ar t.a.length cr,.slice ah t.ag.length ch,vI t.aA] 86)) (l0-t.a.length) (by omega);by_cases g2:t.ag.length<=l0-t.a.length
  ·rw[bO g2]at h3;have d2:decide (((l0-t.a.length-t.ag.length:Nat):Int)<0)=false:=by simp
   have KE:Hid (fK l0 (yn t)=((l0-t.a.length-t.ag.length:Nat):Int)):=by unfold Hid;rw[bO (by rw[HS.out];omega),HS.out];omega
   clear g1 g2;generalize l0-t.a.length-t.ag.length=l2 at *;generalize l0-t.a.length=l1 at *;go_enter Tryz.func39,Tryz.ntmps39;go_wp2_with fail;refine h1.mono ?_;rintro e w1 ⟨rfl,rfl⟩;go_wp2_with fail;refine h3.mono ?_;rintro e w2 ⟨rfl,rfl⟩;go_wp2;go_ret;exact⟨by rw[KE.out];rfl,B0.out⟩
  ·rw[bH g2]at h3;have KE:Hid (fK l0 (yn t)=-1):=by unfold Hid;rw[bH (by rw[HS.out];omega)]
   clear g1 g2;generalize l0-t.a.length=l1 at *;go_enter Tryz.func39,Tryz.ntmps39;go_wp2_with fail;refine h1.mono ?_;rintro e w1 ⟨rfl,rfl⟩;go_wp2_with fail;refine h3.mono ?_;rintro e w2 ⟨rfl,rfl⟩;go_wp2;go_ret;exact⟨by rw[KE.out];rfl,B0.out⟩
 ·rw[bH g1]at h1;have KE:Hid (fK l0 (yn t)=-1):=by unfold Hid;rw[bH (by rw[HS.out];omega)]
  clear g1;go_enter Tryz.func39,Tryz.ntmps39;go_wp2_with fail;refine h1.mono ?_;rintro e w1 ⟨rfl,rfl⟩;go_wp2;go_ret;exact⟨by rw[KE.out];rfl,B0.out⟩
end tx
section
variable {B b d:Nat}{P:Nat->Prop}{a c:Option Addr}{t:tx.T7}{w:World}
def KT.Ow(w:World)(B:Nat)(a:Option Addr)(b:Nat)(c:Option Addr)(d:Nat)(t:tx.T7)(P:Nat->Prop):Prop:=∃PR PS,tx.OT w B ⟨a,b,c,d⟩ t PR PS/\(∀q,tx.oW PR PS q->P q)/\(∀q,P q->B<=q/\q<w.1.size)
theorem KT.Ow.of(h:KT.Ow w B a b c d t P){q:Nat}(hq:P q):B<=q/\q<w.1.size:=by obtain⟨_,_,_,_,h3⟩:=h;exact h3 q hq
theorem KT.Ow.sl(h:KT.Ow w B a b c d t P):tx.lW w ⟨a,b,c,d⟩ t:=by obtain⟨_,_,h1,_,_⟩:=h;exact h1.sl
theorem KT.Ow.aQ{w:World}{B:Nat}{a:Option Addr}{b:Nat}{c:Option Addr}{d:Nat}{t:tx.T7}{P:Nat->Prop}{w':World}(h:KT.Ow w B a b c d t P)(hs:w.1.size<=w'.1.size)(hk:∀q,P q->w'.1[q]?=w.1[q]?):KT.Ow w' B a b c d t P:=by
 obtain⟨PR,PS,h1,h2,h3⟩:=h;exact⟨PR,PS,h1.aQ hs (fun q _ hq=>hk q (h2 q hq)),h2,fun q hq=>⟨(h3 q hq).1,Nat.lt_of_lt_of_le (h3 q hq).2 hs⟩⟩
theorem KT.Ow.later{w':World}(h:KT.Ow w B a b c d t P)(hb:Below w.1.size w w'):KT.Ow w' B a b c d t P:=h.aQ hb.size (fun q hq=>hb.block q (h.of hq).2)
theorem KT.Ow.low{B':Nat}(h:KT.Ow w B a b c d t P)(hb:B'<=B):KT.Ow w B' a b c d t P:=by
 obtain⟨PR,PS,h1,h2,h3⟩:=h;exact⟨PR,PS,h1.mono hb,h2,fun q hq=>⟨Nat.le_trans hb (h3 q hq).1,(h3 q hq).2⟩⟩
theorem KT.ow{PR PS:Nat->Prop}(h:tx.OT w B ⟨a,b,c,d⟩ t PR PS):KT.Ow w B a b c d t (tx.oW PR PS):=⟨PR,PS,h,fun _ hq=>hq,fun _ hq=>h.of hq⟩
def KT.S(t:tx.T7):Prop:=t.a.length<=1048576/\t.ag.length<=1048576
theorem KT.to(X:World)(a:Option Addr)(b:Nat)(c:Option Addr)(d:Nat)(t:tx.T7)(ht:KT.S t)(h:tx.lW X ⟨a,b,c,d⟩ t):Calls Tryz.prog 55 #[.agg #[vI t.id,vI t.o,vI t.q,vI t.v,.slice a t.a.length b,.slice c t.ag.length d,vI t.aA]] X fun e w'=>
  ∃(a:Option Addr) (b:Nat) (c:Option Addr) (d:Nat) (P:Nat->Prop),e=.returned (.agg #[vI t.id,vI t.o,vI t.q,vI t.v,.slice a t.a.length b,.slice c t.ag.length d,vI t.aA])/\KT.Ow w' X.1.size a b c d t P/\Below X.1.size X w':=by
 have hh:=tx.Le X ⟨a,b,c,d⟩ t ht.1 ht.2 h;simp only[tx.TV.val]at hh;refine hh.mono ?_;rintro e w' ⟨a,b,c,d,PR,PS,rfl,o,bl,_,_⟩;exact⟨a,b,c,d,_,rfl,KT.ow o,bl⟩
theorem KT.S.tl(h:KT.S t):tx.TL t:=⟨by have:=h.1;unfold maxLen;omega,by have:=h.2;unfold maxLen;omega⟩
theorem KT.eq(X:World)(a:Option Addr)(b:Nat)(c:Option Addr)(d:Nat)(a':Option Addr)(b':Nat)(c':Option Addr)(d':Nat)(t:tx.T7)(ht:KT.S t)(h1:tx.lW X ⟨a,b,c,d⟩ t)(h2:tx.lW X ⟨a',b',c',d'⟩ t):Calls Tryz.prog 68 #[.agg #[vI t.id,vI t.o,vI t.q,vI t.v,.slice a t.a.length b,.slice c t.ag.length d,vI t.aA],.agg #[vI t.id,vI t.o,vI t.q,vI t.v,.slice a' t.a.length b',.slice c' t.ag.length d',vI t.aA]] X fun e w'=>e=.returned (.bool true)/\Below X.1.size X w':=by
 have hh:=tx.JQ X ⟨a,b,c,d⟩ ⟨a',b',c',d'⟩ t ht.tl h1 h2;simp only[tx.TV.val]at hh;exact hh
theorem KT.ZO(X:World)(a:Option Addr)(b:Nat)(c:Option Addr)(d:Nat)(t:tx.T7)(l:Nat)(Gw:l<=1048576)(hl:tx.TL t):Calls Tryz.prog 39 #[.agg #[vI t.id,vI t.o,vI t.q,vI t.v,.slice a t.a.length b,.slice c t.ag.length d,vI t.aA],vI (l:Int)] X fun e w'=>e=.returned (vI (fK l (tx.yn t)))/\Below X.1.size X w':=by
 have hh:=tx.Ul X ⟨a,b,c,d⟩ t l Gw hl;simp only[tx.TV.val]at hh;exact hh
def fQ:Kd tx.T7 tx.TV where
 n:=7
 cells v t:=(tx.iC v.ar v.cr v.ah v.ch t)
 len:=fun _ _=>rfl
 Rd:=tx.lW
 Ow w B v t P:=KT.Ow w B v.ar v.cr v.ah v.ch t P
 later:=fun h b=>h.later b
 sl:=fun h=>h.sl
 of:=fun h hq=>h.of hq
 aQ:=fun h hs hk=>h.aQ hs hk
 low:=fun h hb=>h.low hb
end
end Go.Proofs.YtalnmfefmiapoaaGreatDoor
