import Derived.Test.YtbiigfbhhkiodaaGreatDoorJ0Both
set_option maxHeartbeats 16000000
set_option maxRecDepth 100000
namespace Go.Proofs.YtbiigfbhhkiodaaGreatDoor
open Go.RowKit
open Go.Sort (grow)
section
open Go.Proofs.Tryz
variable {P:Nat->Prop}{a b:World}{c:Nat}
structure aG(P:Nat->Prop)(w w':World):Prop where
 os:w'.os=w.os
 tape:w'.tape=w.tape
 output:w'.output=w.output
 size:w.1.size<=w'.1.size
 block:∀q,q<w.1.size->¬P q->w'.1[q]?=w.1[q]?
theorem aG.refl(P:Nat->Prop)(w:World):aG P w w:=⟨rfl,rfl,rfl,Nat.le_refl _,fun _ _ _=>rfl⟩
theorem aG.trans{P:Nat->Prop}{a b c:World}(h:aG P a b)(k:aG P b c):aG P a c:=
 ⟨k.os.trans h.os,k.tape.trans h.tape,k.output.trans h.output,Nat.le_trans h.size k.size,fun q hq hp=>(k.block q (Nat.lt_of_lt_of_le hq h.size) hp).trans (h.block q hq hp)⟩
theorem aG.mono{Q:Nat->Prop}(h:aG P a b)(hp:∀q,P q->Q q):aG Q a b:=⟨h.os,h.tape,h.output,h.size,fun q hq hn=>h.block q hq (fun e=>hn (hp q e))⟩
theorem aG.jX(h:aX c a b)(hc:P c):aG P a b:=⟨h.os,h.tape,h.output,Nat.le_of_eq h.size.symm,fun q _ hn=>h.block q (fun e=>hn (e▸hc))⟩
theorem aG.bN(h:Below a.1.size a b):aG P a b:=⟨h.os,h.tape,h.output,h.size,fun q hq _=>h.block q hq⟩
theorem aG.uj(w:World){o:Nat}(v:Value)(hc:P c):aG P w (w.setCell ⟨c,o,none⟩ v):=.jX ((aX.refl c w).setCell o v) hc
theorem aG.below{B:Nat}(h:aG P a b)(hp:∀q,P q->B<=q)(hB:B<=a.1.size):Below B a b:=⟨h.os,h.tape,h.output,h.size,fun q hq=>h.block q (by omega) (fun e=>by have:=hp q e;omega)⟩
theorem gT.set{α:Type}{sz:Nat}{hd:α->List Int}{ln:α->Nat}{At:World->Nat->α->Prop}(MJ:∀(w w':World) (b:Nat) (r:α),w'.1[b]?=w.1[b]?->At w b r->At w' b r){w V:World}{base b n j:Nat}{rs:List α}{g:Nat->Nat}{r r':α}(h:gT sz hd ln At w base b n rs g)(hj:rs[j]?=some r)(hl:ln r'=ln r)(hz:0<sz)(hh:∀r:α,(hd r).length<sz)
  (hs:w.1.size<=V.1.size) (hb:∀x,x<w.1.size->x≠b->x≠g j->V.1[x]?=w.1[x]?) (hold:∀o,(o<j*sz\/j*sz+(sz-1)<=o)->V.cell? ⟨b,o,none⟩=w.cell? ⟨b,o,none⟩) (js:∀t z,(hd r')[t]?=some z->V.cell? ⟨b,j*sz+t,none⟩=some (vI z)) (bg:At V (g j) r'):
  gT sz hd ln At V base b n (rs.set j r') g:=by
 have WN:=h.idx hj;have hlen:=h.len
 have split:∀i y,(rs.set j r')[i]?=some y->(i=j/\y=r')\/(i≠j/\rs[i]?=some y):=fun i y e=>by
  by_cases hi:i=j
  ·subst hi;rw[List.getElem?_set_self (by omega)]at e;exact .inl ⟨rfl,(Option.some.inj e).symm⟩
  ·rw[List.getElem?_set_ne (fun e=>hi e.symm)]at e;exact .inr ⟨hi,e⟩
 have dS:∀i t,i≠j->t<sz->(i*sz+t<j*sz\/j*sz+(sz-1)<=i*sz+t):=fun i t hi ht=>by
  rcases Nat.lt_or_gt_of_ne hi with hi|hi
  ·have:(i+1)*sz<=j*sz:=Nat.mul_le_mul_right sz (by omega);rw[Nat.add_mul]at this;omega
  ·have:(j+1)*sz<=i*sz:=Nat.mul_le_mul_right sz (by omega);rw[Nat.add_mul]at this;omega
 refine⟨by simp[hlen],fun i y e t z ht=>?_,fun i y e=>?_,h.low,fun i hi=>Nat.lt_of_lt_of_le (h.lt i hi) hs,h.ne,fun i y e=>?_,h.inj⟩
 ·rcases split i y e with ⟨rfl,rfl⟩|⟨hi,e⟩
  ·exact js t z ht
  ·rw[hold _ (dS i t hi (Nat.lt_trans (List.getElem?_eq_some_iff.1 ht).1 (hh y)))];exact h.head i y e t z ht
 ·rcases split i y e with ⟨rfl,rfl⟩|⟨hi,e⟩
  ·rw[hold _ (.inr aU),hl];exact h.tail i r hj
  ·rw[hold _ (dS i _ hi (by omega))];exact h.tail i y e
 ·rcases split i y e with ⟨rfl,rfl⟩|⟨hi,e⟩
  ·exact bg
  ·have Ob:=h.idx e;exact MJ _ _ _ _ (hb _ (h.lt i Ob) (h.ne i Ob) (fun e'=>hi (h.inj i j Ob WN e'))) (h.sub i y e)
def mix{α:Type}(f:Nat->α)(rs:List α)(j:Nat):List α:=(List.range rs.length).map fun i=>if i<j then f i else rs[i]?.getD (f i)
theorem CJ{α:Type}(f:Nat->α)(rs:List α)(j i:Nat)(h:i<rs.length):(mix f rs j)[i]?=some (if i<j then f i else rs[i]?.getD (f i)):=by simp[mix,h]
theorem yo{α:Type}(f:Nat->α)(rs:List α)(j:Nat):(mix f rs j).length=rs.length:=by simp[mix]
theorem Jd{α:Type}(f:Nat->α)(rs:List α):mix f rs 0=rs:=by
 apply List.ext_getElem?;intro i;by_cases h:i<rs.length
 ·rw[CJ f rs 0 i h];simp[h]
 ·rw[List.getElem?_eq_none (by rw[yo];omega),List.getElem?_eq_none (by omega)]
theorem M7{α:Type}(f:Nat->α)(rs:List α):mix f rs rs.length=(List.range rs.length).map f:=by
 apply List.ext_getElem?;intro i;by_cases h:i<rs.length
 ·rw[CJ f rs _ i h];simp[h]
 ·rw[List.getElem?_eq_none (by rw[yo];omega),List.getElem?_eq_none (by simp;omega)]
theorem Jc{α:Type}(f:Nat->α)(rs:List α)(j:Nat)(hj:j<rs.length):mix f rs (j+1)=(mix f rs j).set j (f j):=by
 apply List.ext_getElem?;intro i;by_cases h:i<rs.length
 ·rw[CJ f rs _ i h];by_cases e:i=j
  ·subst e;rw[List.getElem?_set_self (by rw[yo];exact h),if_pos (by omega)]
  ·rw[List.getElem?_set_ne (fun k=>e k.symm),CJ f rs _ i h];by_cases hi:i<j
   ·rw[if_pos hi,if_pos (by omega)]
   ·rw[if_neg hi,if_neg (by omega)]
 ·rw[List.getElem?_eq_none (by rw[yo];omega),List.getElem?_eq_none (by rw[List.length_set,yo];omega)]
theorem M8{α:Type}(f:Nat->α)(rs:List α)(j:Nat){r:α}(h:rs[j]?=some r):(mix f rs j)[j]?=some r:=by
 have hj:=(List.getElem?_eq_some_iff.1 h).1;rw[CJ f rs j j hj,if_neg (by omega),h];rfl
def aL{α:Type}(c:α->Nat)(rs:List α)(i:Nat):Nat:=((rs.map c).take i).sum
theorem jf{α:Type}(c:α->Nat)(rs:List α):aL c rs 0=0:=by simp[aL]
theorem je{α:Type}(c:α->Nat){rs:List α}{i:Nat}{r:α}(h:rs[i]?=some r):aL c rs (i+1)=aL c rs i+c r:=by
 unfold aL;exact jV (by rw[List.getElem?_map,h];rfl)
theorem iy{α:Type}(c:α->Nat)(rs:List α)(i:Nat):aL c rs i<=aL c rs rs.length:=by
 unfold aL;rw[List.take_of_length_le (i:=rs.length) (by simp)];exact lJ _ _
def cK(k:K2):Nat:=1+2*k.cells.length
def cR(r:R4):Nat:=3+5*r.ai.length
def mkK(ks:List K2)(k:Int)(i:Nat):K2:=⟨k+aL cK ks i,nU (k+aL cK ks i+1) (dX ks i).cells.length⟩
def M9(rs:List R4)(k:Int)(i:Nat):R4:=⟨k+aL cR rs i,k+aL cR rs i+1,k+aL cR rs i+1+1,iW (k+aL cR rs i+1+1+1) (atR rs i).ai.length⟩
def CO(ks:List K2)(k:Int):List K2:=(List.range ks.length).map (mkK ks k)
def CU(rs:List R4)(k:Int):List R4:=(List.range rs.length).map (M9 rs k)
end
section
open Go.Proofs.Tryz
def EJ(b n:Nat)(g:Nat->Nat)(q:Nat):Prop:=q=b\/∃i,i<n/\q=g i
theorem En(w:World)(b n cap:Nat)(ks:List K2)(g:Nat->Nat)(k:Int)(hk:0<=k)(pJ:k<=500000000)(ht:aL cK ks ks.length<=100000000)(hn:n<=1048576)(hl:∀c∈ks,c.cells.length<=1048576)(rT:b<w.1.size)(hr:Room w b (n*2))(ho:gT 2 wK D5 oN w 0 b n ks g):
  Calls prog 68 #[.slice (some ⟨b,0,none⟩) n cap,vI k] w fun e w'=>e=.returned (vI (k+aL cK ks ks.length))/\aG (EJ b n g) w w'/\gT 2 wK D5 oN w' 0 b n (CO ks k) g/\Room w' b (n*2):=by
 have hlen:=ho.len;have HO:=nE ho hr rT hl hlen;clear ho hr rT hl hlen;go_enter func68,ntmps68;go_wp2;go_loopw[1,5] (fun v1 v5 wr=>∃j:Nat,j<=n/\v5=vI j/\v1=vI (k+(aL cK ks j:Int))/\aG (EJ b n g) w wr/\gT 2 wK D5 oN wr 0 b n (mix (mkK ks k) ks j) g/\Room wr b (n*2)) (fun _ v5 _=>n-(intOf v5).toNat)
 case atStart=>exact⟨0,Nat.zero_le _,rfl,by rw[jf];simp,aG.refl _ _,by rw[Jd];exact HO.out.1,HO.out.2.1⟩
 case round=>
  obtain⟨j,hj,rfl,rfl,kW,how,eB⟩:=hrel;have kU:=iy cK ks j;by_cases aN:j<n
  ·have Ca:ks[j]?=some (dX ks j):=eZ (by rw[HO.out.2.2.2.2];exact aN);have za:=M8 (mkK ks k) ks j Ca;obtain⟨v0,d0,f0⟩:=eB (j*2) (by omega);obtain⟨aZ,c1,kz⟩:=how.tail j _ za;have bg:=how.sub j _ za;have WK:=how.ne j aN;have yQ:=how.lt j aN;have tH:=HO.out.2.2.2.1 _ (List.mem_of_getElem? Ca);have lT:Hid (aL cK ks (j+1)=aL cK ks j+cK (dX ks j)):=je cK Ca;have K:=pI kW how eB za
   have QT:Room (wr.setCell ⟨b,j*2,none⟩ (vI (k+(aL cK ks j:Int)))) (g j) ((dX ks j).cells.length*2):=by
    refine bg.2.aj ?_;exact Below.heap_setCell _ _ _ _ WK
   have hm:=I8 (wr.setCell ⟨b,j*2,none⟩ (vI (k+(aL cK ks j:Int)))) (g j) (dX ks j).cells.length aZ (k+(aL cK ks j:Int)+1) tH (by omega) (by omega) QT;simp only[D5,Nat.reduceSub]at c1;clear kW how eB za bg QT kz Ca;go_wp2_with fail;refine hm.mono ?_;clear hm;rintro e w1 ⟨rfl,kQ,ij,rU⟩;go_wp2;obtain⟨kW,how,eB,za⟩:=K.out;have DZ:(wr.setCell ⟨b,j*2,none⟩ (vI (k+(aL cK ks j:Int)))).1.size=wr.1.size:=by simp[World.setCell]
   have cb:=fun o=>World.cell?_of_block (a:=⟨b,o,none⟩) (kQ.block b (fun e=>WK e.symm))
   refine⟨⟨j+1,by omega,by simp,by rw[lT.out];simp[cK];omega,?_,?_,?_⟩,by simp[intOf];omega⟩
   ·exact(kW.trans (aG.uj wr _ (.inl rfl))).trans (aG.jX kQ (.inr ⟨j,aN,rfl⟩))
   ·rw[Jc _ _ _ (by rw[HO.out.2.2.2.2];exact aN)];refine how.set oN.aj za (by simp[D5,mkK,nV]) (by omega) (by intro r;simp[wK]) (by rw[kQ.size,DZ];exact Nat.le_refl _) (fun x _ hx hg=>(kQ.block x hg).trans (Below.heap_setCell _ _ _ _ hx)) (fun o ho=>?_) (fun t z hz=>?_) ⟨by rw[mkK];exact ij,by simp only[mkK,nV];exact rU⟩
    ·rw[cb o,ae (by omega)]
    ·have mv:t=0:=by
      have:=(List.getElem?_eq_some_iff.1 hz).1;simp[wK]at this;exact this
     subst mv;simp[wK,mkK]at hz;subst hz;rw[Nat.add_zero,cb];exact ay d0
   ·exact(eB.set _).aj (kQ.block b (fun e=>WK e.symm))
  ·have:j=n:=by omega
   subst this;have hd:decide ((j:Int)<(j:Int))=false:=by simp
   have Gc:ks.length=j:=HO.out.2.2.2.2
   have K:Hid (aG (EJ b j g) w wr/\gT 2 wK D5 oN wr 0 b j (CO ks k) g/\Room wr b (j*2)):=⟨kW,by
    have:=M7 (mkK ks k) ks;rw[Gc]at this;rw[this,<-Gc]at how
    rw[<-Gc];exact how,eB⟩
   have H:Hid (ks.length=j):=Gc;clear kW how eB Gc;go_wp2;go_ret;exact⟨by rw[H.out];rfl,K.out.1,K.out.2.1,K.out.2.2⟩
theorem Aw(w:World)(b n cap:Nat)(ks:List R4)(g:Nat->Nat)(k:Int)(hk:0<=k)(pJ:k<=500000000)(ht:aL cR ks ks.length<=100000000)(hn:n<=1048576)(hl:∀c∈ks,c.ai.length<=1048576)(rT:b<w.1.size)(hr:Room w b (n*4))(ho:gT 4 uP El AtR w 0 b n ks g):
  Calls prog 69 #[.slice (some ⟨b,0,none⟩) n cap,vI k] w fun e w'=>e=.returned (vI (k+aL cR ks ks.length))/\aG (EJ b n g) w w'/\gT 4 uP El AtR w' 0 b n (CU ks k) g/\Room w' b (n*4):=by
 have hlen:=ho.len;have HO:=nE ho hr rT hl hlen;clear ho hr rT hl hlen;go_enter func69,ntmps69;go_wp2;go_loopw[1,5] (fun v1 v5 wr=>∃j:Nat,j<=n/\v5=vI j/\v1=vI (k+(aL cR ks j:Int))/\aG (EJ b n g) w wr/\gT 4 uP El AtR wr 0 b n (mix (M9 ks k) ks j) g/\Room wr b (n*4)) (fun _ v5 _=>n-(intOf v5).toNat)
 case atStart=>exact⟨0,Nat.zero_le _,rfl,by rw[jf];simp,aG.refl _ _,by rw[Jd];exact HO.out.1,HO.out.2.1⟩
 case round=>
  obtain⟨j,hj,rfl,rfl,kW,how,eB⟩:=hrel;have kU:=iy cR ks j;by_cases aN:j<n
  ·have Ca:ks[j]?=some (atR ks j):=jC (by rw[HO.out.2.2.2.2];exact aN);have za:=M8 (M9 ks k) ks j Ca;obtain⟨v0,d0,f0⟩:=eB (j*4) (by omega);obtain⟨v1,d1,f1⟩:=eB (j*4+1) (by omega);obtain⟨v2,d2,f2⟩:=eB (j*4+2) (by omega);obtain⟨aZ,c1,kz⟩:=how.tail j _ za;have bg:=how.sub j _ za;have WK:=how.ne j aN;have yQ:=how.lt j aN;have tH:=HO.out.2.2.2.1 _ (List.mem_of_getElem? Ca);have lT:Hid (aL cR ks (j+1)=aL cR ks j+cR (atR ks j)):=je cR Ca;have K:=pI kW how eB za;obtain⟨X,hX⟩:=bO (((wr.setCell ⟨b,j*4,none⟩ (vI (k+(aL cR ks j:Int)))).setCell ⟨b,j*4+1,none⟩ (vI (k+(aL cR ks j:Int)+1))).setCell ⟨b,j*4+2,none⟩ (vI (k+(aL cR ks j:Int)+1+1)));have Wt:aX b wr X:=by rw[hX];exact(((aX.refl b wr).setCell _ _).setCell _ _).setCell _ _
   have e0:X.cell? ⟨b,j*4,none⟩=some (vI (k+(aL cR ks j:Int))):=by
    rw[hX,ae (by omega),ae (by omega)];exact ay d0
   have e1:X.cell? ⟨b,j*4+1,none⟩=some (vI (k+(aL cR ks j:Int)+1)):=by
    rw[hX,ae (by omega)];exact ay (by rw[ae (by omega)];exact d1)
   have e2:X.cell? ⟨b,j*4+2,none⟩=some (vI (k+(aL cR ks j:Int)+1+1)):=by
    rw[hX];exact ay (by rw[ae (by omega),ae (by omega)];exact d2)
   have eo:∀o,(o<j*4\/j*4+3<=o)->X.cell? ⟨b,o,none⟩=wr.cell? ⟨b,o,none⟩:=fun o ho=>by
    rw[hX,ae (by omega),ae (by omega),ae (by omega)]
   have er:Room X b (n*4):=by rw[hX];exact((eB.set _).set _).set _
   have QT:=bg.2.aj (Wt.block _ WK);have hm:=vV X (g j) (atR ks j).ai.length aZ (k+(aL cR ks j:Int)+1+1+1) tH (by omega) (by omega) QT;have KX:=wL Wt e0 e1 e2 eo er;simp only[El,Nat.reduceSub]at c1;clear kW how eB za bg QT kz Ca Wt e0 e1 e2 eo er;subst hX;go_wp2_with fail;refine hm.mono ?_;clear hm;rintro e w1 ⟨rfl,kQ,ij,rU⟩;go_wp2;obtain⟨kW,how,eB,za⟩:=K.out;obtain⟨Wt,e0,e1,e2,eo,er⟩:=KX.out;generalize ((wr.setCell ⟨b,j*4,none⟩ (vI (k+(aL cR ks j:Int)))).setCell ⟨b,j*4+1,none⟩ (vI (k+(aL cR ks j:Int)+1))).setCell ⟨b,j*4+2,none⟩ (vI (k+(aL cR ks j:Int)+1+1))=X at *;have cb:=fun o=>World.cell?_of_block (a:=⟨b,o,none⟩) (kQ.block b (fun e=>WK e.symm))
   refine⟨⟨j+1,by omega,by simp,by rw[lT.out];simp[cR];omega,?_,?_,?_⟩,by simp[intOf];omega⟩
   ·exact(kW.trans (aG.jX Wt (.inl rfl))).trans (aG.jX kQ (.inr ⟨j,aN,rfl⟩))
   ·rw[Jc _ _ _ (by rw[HO.out.2.2.2.2];exact aN)];refine how.set AtR.aj za (by simp[El,M9,iX]) (by omega) (by intro r;simp[uP]) (by rw[kQ.size,Wt.size];exact Nat.le_refl _) (fun x _ hx hg=>(kQ.block x hg).trans (Wt.block _ hx)) (fun o ho=>?_) (fun t z hz=>?_) ⟨by rw[M9];exact ij,by simp only[M9,iX];exact rU⟩
    ·rw[cb o,eo o (by omega)]
    ·have mv:=(List.getElem?_eq_some_iff.1 hz).1;simp[uP]at mv;rw[cb];rcases t with _|_|_|t
     ·simp[uP,M9]at hz;subst hz;exact e0
     ·simp[uP,M9]at hz;subst hz;exact e1
     ·simp[uP,M9]at hz;subst hz;exact e2
     ·omega
   ·exact er.aj (kQ.block b (fun e=>WK e.symm))
  ·have:j=n:=by omega
   subst this;have hd:decide ((j:Int)<(j:Int))=false:=by simp
   have Gc:ks.length=j:=HO.out.2.2.2.2
   have K:Hid (aG (EJ b j g) w wr/\gT 4 uP El AtR wr 0 b j (CU ks k) g/\Room wr b (j*4)):=⟨kW,by
    have:=M7 (M9 ks k) ks;rw[Gc]at this;rw[this,<-Gc]at how
    rw[<-Gc];exact how,eB⟩
   have H:Hid (ks.length=j):=Gc;clear kW how eB Gc;go_wp2;go_ret;exact⟨by rw[H.out];rfl,K.out.1,K.out.2.1,K.out.2.2⟩
theorem Em(w:World)(a:OA)(cap:Nat)(k:Int):Calls prog 68 #[.slice a 0 cap,vI k] w fun e w'=>e=.returned (vI k)/\w'=w:=by
 go_enter func68,ntmps68;go_wp2;go_loop[1,5] (fun v1 v5=>v1=vI k/\v5=vI 0) (fun _ _=>0)
 case atStart=>exact⟨rfl,rfl⟩
 case round=>
  obtain⟨rfl,rfl⟩:=hrel;go_wp2;go_ret;exact⟨rfl,rfl⟩
theorem Av(w:World)(a:OA)(cap:Nat)(k:Int):Calls prog 69 #[.slice a 0 cap,vI k] w fun e w'=>e=.returned (vI k)/\w'=w:=by
 go_enter func69,ntmps69;go_wp2;go_loop[1,5] (fun v1 v5=>v1=vI k/\v5=vI 0) (fun _ _=>0)
 case atStart=>exact⟨rfl,rfl⟩
 case round=>
  obtain⟨rfl,rfl⟩:=hrel;go_wp2;go_ret;exact⟨rfl,rfl⟩
end
section
open Go.Proofs.Tryz
variable {l t:Nat}
def gJ(l t:Nat):Int:=if t<=l then((l-t:Nat):Int)else -1
theorem cu(h:t<=l):gJ l t=((l-t:Nat):Int):=if_pos h
theorem bI(h:¬t<=l):gJ l t=-1:=if_neg h
theorem DF(w:World)(a:OA)(n cap:Nat)(l:Nat)(hn:n<=maxLen)(hl:l<=1048576):Calls prog 83 #[.slice a n cap,vI (l:Int)] w fun e w'=>e=.returned (vI (gJ l n))/\w'=w:=by
 unfold maxLen at hn;by_cases h:n<=l
 ·rw[cu h];have d0:decide ((l:Int)-(n:Int)<0)=false:=by simp;omega
  go_enter func83,ntmps83;go_wp2;go_ret;have e:((l-n:Nat):Int)=(l:Int)-(n:Int):=by omega
  exact⟨by rw[e];rfl,rfl⟩
 ·rw[bI h];have d0:decide ((l:Int)-(n:Int)<0)=true:=by simp;omega
  go_enter func83,ntmps83;go_wp2;go_ret;exact⟨rfl,rfl⟩
theorem Pk(w:World)(a:OA)(n cap:Nat)(l:Nat)(hn:n<=maxLen)(hl:l<=1048576):Calls prog 167 #[.slice a n cap,vI (l:Int)] w fun e w'=>e=.returned (vI (gJ l n))/\w'=w:=by
 unfold maxLen at hn;by_cases h:n<=l
 ·rw[cu h];have d0:decide ((l:Int)-(n:Int)<0)=false:=by simp;omega
  go_enter func167,ntmps167;go_wp2;go_ret;have e:((l-n:Nat):Int)=(l:Int)-(n:Int):=by omega
  exact⟨by rw[e];rfl,rfl⟩
 ·rw[bI h];have d0:decide ((l:Int)-(n:Int)<0)=true:=by simp;omega
  go_enter func167,ntmps167;go_wp2;go_ret;exact⟨rfl,rfl⟩
theorem L9(w:World)(a:OA)(n cap:Nat)(l:Nat)(hn:n<=maxLen)(hl:l<=1048576):Calls prog 79 #[.slice a n cap,vI (l:Int)] w fun e w'=>e=.returned (vI (gJ l n))/\w'=w:=by
 unfold maxLen at hn;by_cases h:n<=l
 ·rw[cu h];have d0:decide ((l:Int)-(n:Int)<0)=false:=by simp;omega
  go_enter func79,ntmps79;go_wp2;go_ret;have e:((l-n:Nat):Int)=(l:Int)-(n:Int):=by omega
  exact⟨by rw[e];rfl,rfl⟩
 ·rw[bI h];have d0:decide ((l:Int)-(n:Int)<0)=true:=by simp;omega
  go_enter func79,ntmps79;go_wp2;go_ret;exact⟨rfl,rfl⟩
theorem Md(w:World)(k t r:Int)(a:OA)(n cap:Nat)(l:Nat)(hn:n<=maxLen)(hl:l<=1048576):Calls prog 127 #[.agg #[vI k,vI t,vI r,.slice a n cap],vI (l:Int)] w fun e w'=>e=.returned (vI (gJ l n))/\Below w.1.size w w':=by
 have hz:=fun W=>DF W a n cap l hn hl
 by_cases h:n<=l
 ·rw[cu h]at *;have d0:decide (((l-n:Nat):Int)<0)=false:=by simp
  go_enter func127,ntmps127;go_wp2_with (go_at_call 83;refine(hz _).mono ?_;rintro e w' ⟨rfl,rfl⟩);go_ret;exact⟨rfl,aK.alloc aU _⟩
 ·rw[bI h]at *;go_enter func127,ntmps127;go_wp2_with (go_at_call 83;refine(hz _).mono ?_;rintro e w' ⟨rfl,rfl⟩);go_ret;exact⟨rfl,aK.alloc aU _⟩
theorem R6(w:World)(r:Int)(a:OA)(n cap:Nat)(l:Nat)(hn:n<=maxLen)(hl:l<=1048576):Calls prog 126 #[.agg #[vI r,.slice a n cap],vI (l:Int)] w fun e w'=>e=.returned (vI (gJ l n))/\Below w.1.size w w':=by
 have hz:=fun W=>Pk W a n cap l hn hl
 by_cases h:n<=l
 ·rw[cu h]at *;have d0:decide (((l-n:Nat):Int)<0)=false:=by simp
  go_enter func126,ntmps126;go_wp2_with (go_at_call 167;refine(hz _).mono ?_;rintro e w' ⟨rfl,rfl⟩);go_ret;exact⟨rfl,aK.alloc aU _⟩
 ·rw[bI h]at *;go_enter func126,ntmps126;go_wp2_with (go_at_call 167;refine(hz _).mono ?_;rintro e w' ⟨rfl,rfl⟩);go_ret;exact⟨rfl,aK.alloc aU _⟩
theorem JM(w:World)(a:OA)(n cap:Nat)(rs:List R4)(l:Nat)(hn:n<=maxLen)(Kz:l<=1048576)(hs:J5 w w.1.size a n rs)(hl:∀r∈rs,r.ai.length<=maxLen):
  Calls prog 81 #[.slice a n cap,vI (l:Int)] w fun e w'=>e=.returned (vI (gJ l (n+kL rs)))/\Below w.1.size w w':=by
 obtain⟨hx,hs⟩:=hs;have Ec:=hn;unfold maxLen at Ec;by_cases h0:n<=l
 ·have d0:decide ((l:Int)-(n:Int)<0)=false:=by simp;omega
  have el:(l:Int)-(n:Int)=((l-n:Nat):Int):=by omega
  go_enter func81,ntmps81;go_wp2;go_loopw[1,5] (fun v1 v5 wr=>∃j:Nat,j<=n/\v5=vI j/\n+kL (rs.take j)<=l/\v1=vI ((l-(n+kL (rs.take j)):Nat):Int)/\Below w.1.size w wr) (fun _ v5 _=>n-(intOf v5).toNat)
  case atStart=>exact⟨0,Nat.zero_le _,rfl,by simpa[kL]using h0,by simp[kL];try omega,aK⟩
  case round=>
   obtain⟨j,hj,rfl,hle,rfl,aB⟩:=hrel;have KL:=dw hle hx;clear el;by_cases aN:j<n
   ·rcases hs with hs|⟨b,off,rfl,hb,h1⟩
    ·omega
    ·have bg:=h1 j _ (jC (by omega));obtain⟨a',aZ,hc,_,_⟩:=bg.c3;have e0:=(aB.cell (p:=⟨b,off+j*4,none⟩) hb).trans bg.c0;have e1:=(aB.cell (p:=⟨b,off+j*4+1,none⟩) hb).trans bg.c1;have e2:=(aB.cell (p:=⟨b,off+j*4+2,none⟩) hb).trans bg.c2;have e3:=(aB.cell (p:=⟨b,off+j*4+3,none⟩) hb).trans hc;have hz:=Md wr (atR rs j).kind (atR rs j).tx (atR rs j).b a' (atR rs j).ai.length aZ (l-(n+kL (rs.take j))) (hl _ (List.mem_of_getElem? (jC (by omega)))) (by omega)
     have FM:Hid (kL (rs.take (j+1))=kL (rs.take j)+(atR rs j).ai.length):=by
      unfold Hid kL;rw[List.map_take,List.map_take];exact jV (by rw[List.getElem?_map,jC (by omega)];rfl)
     have SN:Hid (kL (rs.take (j+1))<=kL rs):=by unfold Hid kL;rw[List.map_take];exact lJ _ _
     have KB:Hid (Below w.1.size w wr):=aB;generalize dk:kL (rs.take j)=LL at *;generalize (atR rs j).ai.length=m at *;generalize (atR rs j).kind=rk at *;generalize (atR rs j).tx=rt at *;generalize (atR rs j).b=rr at *;clear h1 hc aB hl hx hle bg;by_cases xY:m<=l-(n+LL)
     ·rw[cu xY]at hz;have d1:decide (((l-(n+LL)-m:Nat):Int)<0)=false:=by simp
      go_wp2_with fail;refine hz.mono ?_;clear hz;rintro e w1 ⟨rfl,b1⟩;go_wp2;have h1:=KL.out.1;refine⟨⟨j+1,by omega,by simp,by rw[FM.out];omega,by rw[FM.out];congr 2;omega,KB.out.trans (b1.mono KB.out.size)⟩,by simp[intOf];omega⟩
     ·rw[bI xY]at hz;go_wp2_with fail;refine hz.mono ?_;clear hz;rintro e w1 ⟨rfl,b1⟩;go_wp2;go_ret;have h2:=FM.out;have h3:=SN.out;refine⟨by rw[bI (by omega)];rfl,KB.out.trans (b1.mono KB.out.size)⟩
   ·have:j=n:=by omega
    subst this;have hd:decide ((j:Int)<(j:Int))=false:=by simp
    have ht:rs.take j=rs:=List.take_of_length_le (by omega);rw[ht]at hle ⊢;clear hs hl KL ht;go_wp2;go_ret;exact⟨by rw[cu hle];rfl,aB⟩
 ·have d0:decide ((l:Int)-(n:Int)<0)=true:=by simp;omega
  go_enter func81,ntmps81;go_wp2;go_ret;exact⟨by rw[bI (by omega)];rfl,aK⟩
theorem Pm(w:World)(a:OA)(n cap:Nat)(rs:List K2)(l:Nat)(hn:n<=maxLen)(Kz:l<=1048576)(hs:DR w w.1.size a n rs)(hl:∀r∈rs,r.cells.length<=maxLen):
  Calls prog 80 #[.slice a n cap,vI (l:Int)] w fun e w'=>e=.returned (vI (gJ l (n+kK rs)))/\Below w.1.size w w':=by
 obtain⟨hx,hs⟩:=hs;have Ec:=hn;unfold maxLen at Ec;by_cases h0:n<=l
 ·have d0:decide ((l:Int)-(n:Int)<0)=false:=by simp;omega
  have el:(l:Int)-(n:Int)=((l-n:Nat):Int):=by omega
  go_enter func80,ntmps80;go_wp2;go_loopw[1,5] (fun v1 v5 wr=>∃j:Nat,j<=n/\v5=vI j/\n+kK (rs.take j)<=l/\v1=vI ((l-(n+kK (rs.take j)):Nat):Int)/\Below w.1.size w wr) (fun _ v5 _=>n-(intOf v5).toNat)
  case atStart=>exact⟨0,Nat.zero_le _,rfl,by simpa[kK]using h0,by simp[kK];try omega,aK⟩
  case round=>
   obtain⟨j,hj,rfl,hle,rfl,aB⟩:=hrel;have KL:=dw hle hx;clear el;by_cases aN:j<n
   ·rcases hs with hs|⟨b,off,rfl,hb,h1⟩
    ·omega
    ·have bg:=h1 j _ (eZ (by omega));obtain⟨a',aZ,hc,_,_⟩:=bg.c1;have e0:=(aB.cell (p:=⟨b,off+j*2,none⟩) hb).trans bg.c0;have e1:=(aB.cell (p:=⟨b,off+j*2+1,none⟩) hb).trans hc;have hz:=R6 wr (dX rs j).b a' (dX rs j).cells.length aZ (l-(n+kK (rs.take j))) (hl _ (List.mem_of_getElem? (eZ (by omega)))) (by omega)
     have FM:Hid (kK (rs.take (j+1))=kK (rs.take j)+(dX rs j).cells.length):=by
      unfold Hid kK;rw[List.map_take,List.map_take];exact jV (by rw[List.getElem?_map,eZ (by omega)];rfl)
     have SN:Hid (kK (rs.take (j+1))<=kK rs):=by unfold Hid kK;rw[List.map_take];exact lJ _ _
     have KB:Hid (Below w.1.size w wr):=aB;generalize dk:kK (rs.take j)=LL at *;generalize (dX rs j).cells.length=m at *;generalize (dX rs j).b=rr at *;clear h1 hc aB hl hx hle bg;by_cases xY:m<=l-(n+LL)
     ·rw[cu xY]at hz;have d1:decide (((l-(n+LL)-m:Nat):Int)<0)=false:=by simp
      go_wp2_with fail;refine hz.mono ?_;clear hz;rintro e w1 ⟨rfl,b1⟩;go_wp2;have h1:=KL.out.1;refine⟨⟨j+1,by omega,by simp,by rw[FM.out];omega,by rw[FM.out];congr 2;omega,KB.out.trans (b1.mono KB.out.size)⟩,by simp[intOf];omega⟩
     ·rw[bI xY]at hz;go_wp2_with fail;refine hz.mono ?_;clear hz;rintro e w1 ⟨rfl,b1⟩;go_wp2;go_ret;have h2:=FM.out;have h3:=SN.out;refine⟨by rw[bI (by omega)];rfl,KB.out.trans (b1.mono KB.out.size)⟩
   ·have:j=n:=by omega
    subst this;have hd:decide ((j:Int)<(j:Int))=false:=by simp
    have ht:rs.take j=rs:=List.take_of_length_le (by omega);rw[ht]at hle ⊢;clear hs hl KL ht;go_wp2;go_ret;exact⟨by rw[cu hle];rfl,aB⟩
 ·have d0:decide ((l:Int)-(n:Int)<0)=true:=by simp;omega
  go_enter func80,ntmps80;go_wp2;go_ret;exact⟨by rw[bI (by omega)];rfl,aK⟩
end
section
open Go.Proofs.Tryz
theorem aV.iA{w:World}{b o:Nat}{s:S5}(h:aV w b o s)(d:Nat)(os:Array Obj):aV (grow (redrawn w d) os) b o s:=
 ⟨cell_regrown h.c0 d os,cell_regrown h.c1 d os,cell_regrown h.c2 d os,cell_regrown h.c3 d os,cell_regrown h.c4 d os⟩
theorem vM(w:World)(s:S5):Calls prog 166 #[.agg #[vI s.b,vI s.e,vI s.g,.bool s.j,vI s.i],.agg #[vI s.b,vI s.e,vI s.g,.bool s.j,vI s.i]] w fun e w'=>
  e=.returned (.bool true)/\Below w.1.size w w':=by
 obtain⟨r,l,v,u,x⟩:=s;go_enter func166,ntmps166;go_wp2;go_ret;exact⟨rfl,(aK.alloc aU _).alloc (by simp) _⟩
theorem tq(w:World)(b off cap b' di aZ n:Nat)(xs:List S5)(hx:xs.length=n)(hn:n<=maxLen)(h1:aY w b off xs)(hb:b<w.1.size)(h2:aY w b' di xs)(fB:b'<w.1.size):
  Calls prog 123 #[.slice (some ⟨b,off,none⟩) n cap,.slice (some ⟨b',di,none⟩) n aZ] w fun e w'=>e=.returned (.bool true)/\Below w.1.size w w':=by
 unfold maxLen at hn;go_enter func123,ntmps123;go_wp2;go_loopw[5] (fun i wr=>∃k:Nat,k<=n/\i=vI k/\Below w.1.size w wr) (fun i _=>n-(intOf i).toNat)
 case atStart=>exact⟨0,Nat.zero_le _,rfl,aK⟩
 case round=>
  obtain⟨k,hk,rfl,aB⟩:=hrel;by_cases aN:k<n
  ·obtain⟨s,fQ⟩:∃s,xs[k]?=some s:=⟨xs[k]'(by omega),by simp⟩
   have t1:=(((h1 k s fQ).below aB hb).iA)
   have t2:=(((h2 k s fQ).below aB fB).iA)
   have c0:=fun d os=>(t1 d os).c0
   have c1:=fun d os=>(t1 d os).c1
   have c2:=fun d os=>(t1 d os).c2
   have c3:=fun d os=>(t1 d os).c3
   have c4:=fun d os=>(t1 d os).c4
   have e0:=fun d os=>(t2 d os).c0
   have e1:=fun d os=>(t2 d os).c1
   have e2:=fun d os=>(t2 d os).c2
   have e3:=fun d os=>(t2 d os).c3
   have e4:=fun d os=>(t2 d os).c4
   have cQ:∀d os,Calls prog 166 #[.agg #[vI s.b,vI s.e,vI s.g,.bool s.j,vI s.i],.agg #[vI s.b,vI s.e,vI s.g,.bool s.j,vI s.i]] (grow (redrawn wr d) os) fun e gH=>e=.returned (.bool true)/\∃p:Regrown,gH=grow (redrawn wr p.d) p.os:=fun d os=>Calls.regrown_of (vM _ s)
   have K:Hid (Below w.1.size w wr):=aB;clear t1 t2 aB fQ h1 h2;go_wp2_with fail;refine gy ?_;repeat (quiet_step (exact cQ _ _))
   refine jb fun dq bu=>?_
   have bq:=below_regrown wr dq bu;go_wp2;exact⟨⟨k+1,by omega,by simp,K.out.trans (bq.mono K.out.size)⟩,by simp[intOf];omega⟩
  ·have:k=n:=by omega
   subst this;have hd:decide (k<k)=false:=by simp
   go_wp2;go_ret;exact⟨rfl,aB⟩
theorem lG(w:World)(a a':OA)(cap aZ:Nat):Calls prog 123 #[.slice a 0 cap,.slice a' 0 aZ] w fun e w'=>e=.returned (.bool true)/\Below w.1.size w w':=by
 go_enter func123,ntmps123;go_wp2;go_loopw[5] (fun i wr=>i=vI 0/\Below w.1.size w wr) (fun _ _=>0)
 case atStart=>exact⟨rfl,aK⟩
 case round=>
  obtain⟨rfl,aB⟩:=hrel;go_wp2;go_ret;exact⟨rfl,aB⟩
theorem vL(w:World)(a a':OA)(n cap aZ:Nat)(xs:List S5)(hn:n<=maxLen)(h1:Sl w w.1.size a n xs)(h2:Sl w w.1.size a' n xs):
  Calls prog 123 #[.slice a n cap,.slice a' n aZ] w fun e w'=>e=.returned (.bool true)/\Below w.1.size w w':=by
 obtain⟨hx,h1⟩:=h1;obtain⟨_,h2⟩:=h2;rcases h1 with rfl|⟨b,off,rfl,hb,h1⟩
 ·exact lG w a a' cap aZ
 ·rcases h2 with rfl|⟨b',di,rfl,fB,h2⟩
  ·exact lG w _ a' cap aZ
  ·exact tq w b off cap b' di aZ n xs hx hn h1 hb h2 fB
theorem Ea(w:World)(k t r:Int)(a a':OA)(n cap aZ:Nat)(xs:List S5)(hn:n<=maxLen)(h1:Sl w w.1.size a n xs)(h2:Sl w w.1.size a' n xs):
  Calls prog 164 #[.agg #[vI k,vI t,vI r,.slice a n cap],.agg #[vI k,vI t,vI r,.slice a' n aZ]] w fun e w'=>e=.returned (.bool true)/\Below w.1.size w w':=by
 go_enter func164,ntmps164;go_wp2_with fail;have b0:Below w.1.size w ((w.alloc (.cells #[vI k,vI t,vI r,.slice a n cap] 188)).alloc (.cells #[vI k,vI t,vI r,.slice a' n aZ] 188)):=(aK.alloc aU _).alloc (by simp) _;refine(vL _ a a' n cap aZ xs hn ((h1.below b0).mono b0.size) ((h2.below b0).mono b0.size)).mono ?_;rintro e w' ⟨rfl,b1⟩;go_wp2;go_ret;exact⟨rfl,b0.trans (b1.mono b0.size)⟩
end
section
open Go.Proofs.Tryz
theorem Ig(w:World)(r:Int)(a a':OA)(n cap aZ:Nat)(xs:List C2)(hn:n<=maxLen)(h1:uz w w.1.size a n xs)(h2:uz w w.1.size a' n xs):
  Calls prog 163 #[.agg #[vI r,.slice a n cap],.agg #[vI r,.slice a' n aZ]] w fun e w'=>e=.returned (.bool true)/\Below w.1.size w w':=by
 go_enter func163,ntmps163;go_wp2_with fail;have b0:Below w.1.size w ((w.alloc (.cells #[vI r,.slice a n cap] 143)).alloc (.cells #[vI r,.slice a' n aZ] 143)):=(aK.alloc aU _).alloc (by simp) _;refine(Ib _ a a' n cap aZ xs hn (h1.later b0) (h2.later b0)).mono ?_;rintro e w' ⟨rfl,b1⟩;go_wp2;go_ret;exact⟨rfl,b0.trans (b1.mono b0.size)⟩
theorem D9(w:World)(a a':OA)(n cap aZ:Nat)(rs:List R4)(hn:n<=maxLen)(hl:∀r∈rs,r.ai.length<=maxLen)(h1:J5 w w.1.size a n rs)(h2:J5 w w.1.size a' n rs):
  Calls prog 121 #[.slice a n cap,.slice a' n aZ] w fun e w'=>e=.returned (.bool true)/\Below w.1.size w w':=by
 unfold maxLen at hn;obtain⟨hx,h1⟩:=h1;obtain⟨_,h2⟩:=h2;go_enter func121,ntmps121;go_wp2;go_loopw[5] (fun i wr=>∃k:Nat,k<=n/\i=vI k/\Below w.1.size w wr) (fun i _=>n-(intOf i).toNat)
 case atStart=>exact⟨0,Nat.zero_le _,rfl,aK⟩
 case round=>
  obtain⟨k,hk,rfl,aB⟩:=hrel;by_cases aN:k<n
  ·rcases h1 with h1|⟨b,off,rfl,hb,h1⟩
   ·omega
   ·rcases h2 with h2|⟨b',di,rfl,fB,h2⟩
    ·omega
    ·have t1:=((h1 k _ (jC (by omega))).below (aB.mono aU) hb).mono aB.size;have t2:=((h2 k _ (jC (by omega))).below (aB.mono aU) fB).mono aB.size;have Vb:=hl _ (List.mem_of_getElem? (jC (rs:=rs) (i:=k) (by omega)));have sI:=Nat.lt_of_lt_of_le hb aB.size;have Gb:=Nat.lt_of_lt_of_le fB aB.size;obtain⟨a1,k1,d1,s1,_⟩:=t1.c3;obtain⟨a2,k2,d2,s2,_⟩:=t2.c3;have x0:=fun d os=>((below_regrown wr d os).cell (p:=⟨b,off+k*4,none⟩) sI).trans t1.c0
     have x1:=fun d os=>((below_regrown wr d os).cell (p:=⟨b,off+k*4+1,none⟩) sI).trans t1.c1
     have x2:=fun d os=>((below_regrown wr d os).cell (p:=⟨b,off+k*4+2,none⟩) sI).trans t1.c2
     have x3:=fun d os=>((below_regrown wr d os).cell (p:=⟨b,off+k*4+3,none⟩) sI).trans d1
     have y0:=fun d os=>((below_regrown wr d os).cell (p:=⟨b',di+k*4,none⟩) Gb).trans t2.c0
     have y1:=fun d os=>((below_regrown wr d os).cell (p:=⟨b',di+k*4+1,none⟩) Gb).trans t2.c1
     have y2:=fun d os=>((below_regrown wr d os).cell (p:=⟨b',di+k*4+2,none⟩) Gb).trans t2.c2
     have y3:=fun d os=>((below_regrown wr d os).cell (p:=⟨b',di+k*4+3,none⟩) Gb).trans d2
     have cQ:=fun d os=>Calls.regrown_of (Ea _ (atR rs k).kind (atR rs k).tx (atR rs k).b a1 a2 _ k1 k2 (atR rs k).ai Vb ((s1.below (below_regrown wr d os)).mono (below_regrown wr d os).size) ((s2.below (below_regrown wr d os)).mono (below_regrown wr d os).size))
     have K:Hid (Below w.1.size w wr):=aB;clear t1 t2 aB h1 h2 s1 s2 d1 d2 hl Vb hx;go_wp2_with fail;refine gy ?_;repeat (go_big_quiet_step (exact cQ _ _))
     refine jb fun dq bu=>?_
     have bq:=below_regrown wr dq bu;go_wp2;exact⟨⟨k+1,by omega,by simp,K.out.trans (bq.mono K.out.size)⟩,by simp[intOf];omega⟩
  ·have:k=n:=by omega
   subst this;have hd:decide (k<k)=false:=by simp
   clear h1 h2;go_wp2;go_ret;exact⟨rfl,aB⟩
theorem Ie(w:World)(a a':OA)(n cap aZ:Nat)(rs:List K2)(hn:n<=maxLen)(hl:∀r∈rs,r.cells.length<=maxLen)(h1:DR w w.1.size a n rs)(h2:DR w w.1.size a' n rs):
  Calls prog 120 #[.slice a n cap,.slice a' n aZ] w fun e w'=>e=.returned (.bool true)/\Below w.1.size w w':=by
 unfold maxLen at hn;obtain⟨hx,h1⟩:=h1;obtain⟨_,h2⟩:=h2;go_enter func120,ntmps120;go_wp2;go_loopw[5] (fun i wr=>∃k:Nat,k<=n/\i=vI k/\Below w.1.size w wr) (fun i _=>n-(intOf i).toNat)
 case atStart=>exact⟨0,Nat.zero_le _,rfl,aK⟩
 case round=>
  obtain⟨k,hk,rfl,aB⟩:=hrel;by_cases aN:k<n
  ·rcases h1 with h1|⟨b,off,rfl,hb,h1⟩
   ·omega
   ·rcases h2 with h2|⟨b',di,rfl,fB,h2⟩
    ·omega
    ·have t1:=((h1 k _ (eZ (by omega))).below (aB.mono aU) hb).mono aB.size;have t2:=((h2 k _ (eZ (by omega))).below (aB.mono aU) fB).mono aB.size;have Vb:=hl _ (List.mem_of_getElem? (eZ (ks:=rs) (i:=k) (by omega)));have sI:=Nat.lt_of_lt_of_le hb aB.size;have Gb:=Nat.lt_of_lt_of_le fB aB.size;obtain⟨a1,k1,d1,s1,_⟩:=t1.c1;obtain⟨a2,k2,d2,s2,_⟩:=t2.c1;have x0:=fun d os=>((below_regrown wr d os).cell (p:=⟨b,off+k*2,none⟩) sI).trans t1.c0
     have x1:=fun d os=>((below_regrown wr d os).cell (p:=⟨b,off+k*2+1,none⟩) sI).trans d1
     have y0:=fun d os=>((below_regrown wr d os).cell (p:=⟨b',di+k*2,none⟩) Gb).trans t2.c0
     have y1:=fun d os=>((below_regrown wr d os).cell (p:=⟨b',di+k*2+1,none⟩) Gb).trans d2
     have cQ:=fun d os=>Calls.regrown_of (Ig _ (dX rs k).b a1 a2 _ k1 k2 (dX rs k).cells Vb ((s1.below (below_regrown wr d os)).mono (below_regrown wr d os).size) ((s2.below (below_regrown wr d os)).mono (below_regrown wr d os).size))
     have K:Hid (Below w.1.size w wr):=aB;clear t1 t2 aB h1 h2 s1 s2 d1 d2 hl Vb hx;go_wp2_with fail;refine gy ?_;repeat (go_big_quiet_step (exact cQ _ _))
     refine jb fun dq bu=>?_
     have bq:=below_regrown wr dq bu;go_wp2;exact⟨⟨k+1,by omega,by simp,K.out.trans (bq.mono K.out.size)⟩,by simp[intOf];omega⟩
  ·have:k=n:=by omega
   subst this;have hd:decide (k<k)=false:=by simp
   clear h1 h2;go_wp2;go_ret;exact⟨rfl,aB⟩
structure ML(m:M4):Prop where
 k:m.ag.length<=maxLen
 ks:∀r∈m.ag,r.cells.length<=maxLen
 r:m.h.length<=maxLen
 rs:∀r∈m.h,r.ai.length<=maxLen
 n:m.ax.length<=maxLen
theorem BM(w:World)(v v':MV)(m:M4)(hl:ML m)(h1:Ag w v m)(h2:Ag w v' m):Calls prog 65 #[v.val m,v'.val m] w fun e w'=>e=.returned (.bool true)/\Below w.1.size w w':=by
 obtain⟨ac,cc,al,cl,ad,cd⟩:=v;obtain⟨UW,cc',al',cl',Tc,Tf⟩:=v';have H:=fP h1 h2 hl;clear h1 h2 hl;simp only[MV.val];have qa:(m.x != m.x)=false:=by cases m.x<;>rfl
 go_enter func65,ntmps65;go_wp2_with fail;have b0:Below w.1.size w ((w.alloc (.cells #[.bool m.x,.slice ac m.ag.length cc,.slice al m.h.length cl,.slice ad m.ax.length cd] 87)).alloc (.cells #[.bool m.x,.slice UW m.ag.length cc',.slice al' m.h.length cl',.slice Tc m.ax.length Tf] 87)):=(aK.alloc aU _).alloc (by simp) _;have B0:=b0;have u2:((w.alloc (.cells #[.bool m.x,.slice ac m.ag.length cc,.slice al m.h.length cl,.slice ad m.ax.length cd] 87)).alloc (.cells #[.bool m.x,.slice UW m.ag.length cc',.slice al' m.h.length cl',.slice Tc m.ax.length Tf] 87)).cell? ⟨w.1.size,2,none⟩=some (.slice al m.h.length cl):=by go_simp
 have u3:((w.alloc (.cells #[.bool m.x,.slice ac m.ag.length cc,.slice al m.h.length cl,.slice ad m.ax.length cd] 87)).alloc (.cells #[.bool m.x,.slice UW m.ag.length cc',.slice al' m.h.length cl',.slice Tc m.ax.length Tf] 87)).cell? ⟨w.1.size,3,none⟩=some (.slice ad m.ax.length cd):=by go_simp
 have v2:((w.alloc (.cells #[.bool m.x,.slice ac m.ag.length cc,.slice al m.h.length cl,.slice ad m.ax.length cd] 87)).alloc (.cells #[.bool m.x,.slice UW m.ag.length cc',.slice al' m.h.length cl',.slice Tc m.ax.length Tf] 87)).cell? ⟨w.1.size+1,2,none⟩=some (.slice al' m.h.length cl'):=by go_simp
 have v3:((w.alloc (.cells #[.bool m.x,.slice ac m.ag.length cc,.slice al m.h.length cl,.slice ad m.ax.length cd] 87)).alloc (.cells #[.bool m.x,.slice UW m.ag.length cc',.slice al' m.h.length cl',.slice Tc m.ax.length Tf] 87)).cell? ⟨w.1.size+1,3,none⟩=some (.slice Tc m.ax.length Tf):=by go_simp
 have sU:w.1.size+1<((w.alloc (.cells #[.bool m.x,.slice ac m.ag.length cc,.slice al m.h.length cl,.slice ad m.ax.length cd] 87)).alloc (.cells #[.bool m.x,.slice UW m.ag.length cc',.slice al' m.h.length cl',.slice Tc m.ax.length Tf] 87)).1.size:=by simp
 generalize ((w.alloc (.cells #[.bool m.x,.slice ac m.ag.length cc,.slice al m.h.length cl,.slice ad m.ax.length cd] 87)).alloc (.cells #[.bool m.x,.slice UW m.ag.length cc',.slice al' m.h.length cl',.slice Tc m.ax.length Tf] 87))=U at *;have SU:=dw sU b0;refine(Ie U ac UW m.ag.length cc cc' m.ag H.out.2.2.k H.out.2.2.ks (H.out.1.later b0).k (H.out.2.1.later b0).k).mono ?_;clear b0 sU B0;rintro e w1 ⟨rfl,b1⟩;have l0:w.1.size<U.1.size:=by have:=SU.out.1;omega
 have c2:=(b1.cell (p:=⟨w.1.size,2,none⟩) l0).trans u2;have c3:=(b1.cell (p:=⟨w.1.size,3,none⟩) l0).trans u3;have d2:=(b1.cell (p:=⟨w.1.size+1,2,none⟩) SU.out.1).trans v2;have d3:=(b1.cell (p:=⟨w.1.size+1,3,none⟩) SU.out.1).trans v3;have B1:=dw (SU.out.2.trans (b1.mono SU.out.2.size)) b1.size;clear u2 u3 v2 v3 b1 l0;go_wp2_with fail;refine(D9 w1 al al' m.h.length cl cl' m.h H.out.2.2.r H.out.2.2.rs (H.out.1.later B1.out.1).r (H.out.2.1.later B1.out.1).r).mono ?_;rintro e w2 ⟨rfl,b2⟩;have l1:w.1.size+1<w1.1.size:=by have:=SU.out.1;have:=B1.out.2;omega
 have x3:=(b2.cell (p:=⟨w.1.size,3,none⟩) (by show w.1.size<_;omega)).trans c3;have y3:=(b2.cell (p:=⟨w.1.size+1,3,none⟩) l1).trans d3;have B2:Hid (Below w.1.size w w2):=B1.out.1.trans (b2.mono B1.out.1.size);clear c2 c3 d2 d3 b2 l1;go_wp2_with fail;refine(xK w2 ad Tc m.ax.length cd Tf m.ax H.out.2.2.n (H.out.1.later B2.out).n (H.out.2.1.later B2.out).n).mono ?_;rintro e w3 ⟨rfl,b3⟩;go_wp2;go_ret;exact⟨rfl,B2.out.trans (b3.mono B2.out.size)⟩
def Ma(m:M4):Nat:=(m.ag.length+kK m.ag)+(m.h.length+kL m.h)+m.ax.length
end
section
open Go.Proofs.Tryz
variable {P:Nat->Prop}{a:OA}{m:M4}{v:MV}{w w':World}
def vF{α:Type}(sz:Nat)(hd:α->List Int)(ln:α->Nat)(At:World->Nat->α->Prop)(w:World)(P:Nat->Prop)(a:OA)(rs:List α):Prop:=
 rs=[]\/∃b g,a=some ⟨b,0,none⟩/\P b/\(∀i,i<rs.length->P (g i))/\b<w.1.size/\Room w b (rs.length*sz)/\gT sz hd ln At w 0 b rs.length rs g
def D7(w:World)(P:Nat->Prop)(a:OA)(zs:List Int):Prop:=zs=[]\/∃b,a=some ⟨b,0,none⟩/\P b/\b<w.1.size/\eY w b 0 zs/\Room w b zs.length
theorem vF.aM{α:Type}{sz:Nat}{hd:α->List Int}{ln:α->Nat}{At:World->Nat->α->Prop}(MJ:∀(w w':World) (b:Nat) (r:α),w'.1[b]?=w.1[b]?->At w b r->At w' b r){rs:List α}(h:vF sz hd ln At w P a rs)(hs:w.1.size<=w'.1.size)(hk:∀q,q<w.1.size->P q->w'.1[q]?=w.1[q]?):vF sz hd ln At w' P a rs:=by
 rcases h with h|⟨b,g,ha,hp,hg,hl,hr,ho⟩
 ·exact .inl h
 ·exact .inr ⟨b,g,ha,hp,hg,Nat.lt_of_lt_of_le hl hs,hr.aj (hk b hl hp),ho.jd MJ hs (hk b hl hp) (fun i hi=>hk _ (ho.lt i hi) (hg i hi))⟩
theorem D7.aM{zs:List Int}(h:D7 w P a zs)(hs:w.1.size<=w'.1.size)(hk:∀q,q<w.1.size->P q->w'.1[q]?=w.1[q]?):D7 w' P a zs:=by
 rcases h with h|⟨b,ha,hp,hl,hn,hr⟩
 ·exact .inl h
 ·exact .inr ⟨b,ha,hp,Nat.lt_of_lt_of_le hl hs,hn.aj (hk b hl hp),hr.aj (hk b hl hp)⟩
structure OM(w:World)(B:Nat)(v:MV)(m:M4)(PK PR PD:Nat->Prop):Prop where
 k:vF 2 wK D5 oN w PK v.ac m.ag
 r:vF 4 uP El AtR w PR v.al m.h
 n:D7 w PD v.ad m.ax
 kr:∀q,PK q->¬PR q
 kd:∀q,PK q->¬PD q
 rd:∀q,PR q->¬PD q
 kB:∀q,PK q->B<=q
 rB:∀q,PR q->B<=q
 dB:∀q,PD q->B<=q
theorem OM.sl{B:Nat}{PK PR PD:Nat->Prop}(h:OM w B v m PK PR PD):Ag w v m:=by
 refine⟨?_,?_,?_⟩
 ·rcases h.k with e|⟨b,g,ha,_,_,hl,_,ho⟩
  ·exact⟨rfl,.inl (by rw[e];rfl)⟩
  ·rw[ha];exact Uz ho hl
 ·rcases h.r with e|⟨b,g,ha,_,_,hl,_,ho⟩
  ·exact⟨rfl,.inl (by rw[e];rfl)⟩
  ·rw[ha];exact UA ho hl
 ·rcases h.n with e|⟨b,ha,_,hl,hn,_⟩
  ·exact⟨rfl,.inl (by rw[e];rfl)⟩
  ·exact⟨rfl,.inr ⟨b,0,ha,hl,hn⟩⟩
def YH(PK PR PD:Nat->Prop)(q:Nat):Prop:=PK q\/PR q\/PD q
theorem OM.aM{w w':World}{B:Nat}{v:MV}{m:M4}{PK PR PD:Nat->Prop}(h:OM w B v m PK PR PD)(hs:w.1.size<=w'.1.size)(hk:∀q,q<w.1.size->YH PK PR PD q->w'.1[q]?=w.1[q]?):OM w' B v m PK PR PD:=
 ⟨h.k.aM oN.aj hs (fun q hq hp=>hk q hq (.inl hp)),h.r.aM AtR.aj hs (fun q hq hp=>hk q hq (.inr (.inl hp))),h.n.aM hs (fun q hq hp=>hk q hq (.inr (.inr hp))),h.kr,h.kd,h.rd,h.kB,h.rB,h.dB⟩
theorem gT.base{α:Type}{sz:Nat}{hd:α->List Int}{ln:α->Nat}{At:World->Nat->α->Prop}{base b n:Nat}{rs:List α}{g:Nat->Nat}(h:gT sz hd ln At w base b n rs g):gT sz hd ln At w 0 b n rs g:=⟨h.len,h.head,h.tail,fun _ _=>Nat.zero_le _,h.lt,h.ne,h.sub,h.inj⟩
theorem J4.om{B0 B1 B2 B3:Nat}{gk gr:Nat->Nat}(h:J4 w B0 B1 B2 B3 v m gk gr):OM w B0 v m (fun q=>B0<=q/\q<B1) (fun q=>B1<=q/\q<B2) (fun q=>B2<=q/\q<B3):=by
 have h1:=h.o1;have h2:=h.o2;have h3:=h.o3;have h4:=h.sz;obtain⟨b,e,l1,l,o,og,rm⟩:=h.k;obtain⟨b',e',eC,l',o',eI,rm'⟩:=h.r;obtain⟨b'',NT,Xr,m7,o'',XN⟩:=h.n
 exact⟨.inr ⟨b,gk,e,⟨l1,l⟩,fun i hi=>⟨o.low i hi,og i hi⟩,by omega,rm,o.base⟩,.inr ⟨b',gr,e',⟨eC,l'⟩,fun i hi=>⟨o'.low i hi,eI i hi⟩,by omega,rm',o'.base⟩,.inr ⟨b'',NT,⟨Xr,m7⟩,by omega,o'',XN⟩,
  fun q hq hr=>by omega,fun q hq hr=>by omega,fun q hq hr=>by omega,fun q hq=>hq.1,fun q hq=>by omega,fun q hq=>by omega⟩
structure MT(m:M4):Prop where
 k:m.ag.length<=1048576
 ks:∀c∈m.ag,c.cells.length<=1048576
 r:m.h.length<=1048576
 rs:∀c∈m.h,c.ai.length<=1048576
 n:m.ax.length<=1048576
 tk:aL cK m.ag m.ag.length<=100000000
 tr:aL cR m.h m.h.length<=100000000
theorem AZ{α:Type}(c l:α->Nat)(a b:Nat)(h:∀r,c r=a+b*l r)(rs:List α):aL c rs rs.length=a*rs.length+b*(rs.map l).sum:=by
 unfold aL;rw[List.take_of_length_le (by simp)]
 induction rs with
 | nil=>simp
 | cons r rs ih=>
  simp only[List.map_cons,List.sum_cons,List.length_cons,ih,h,Nat.mul_add,Nat.mul_one];omega
theorem MT.aq(h:Ma m<=1048576):MT m:=by
 have hk:=AZ cK (fun k=>k.cells.length) 1 2 (fun _=>rfl) m.ag;have hr:=AZ cR (fun r=>r.ai.length) 3 5 (fun _=>rfl) m.h;unfold Ma kK kL at h;refine⟨by omega,fun c hc=>?_,by omega,fun c hc=>?_,by omega,by rw[hk];omega,by rw[hr];omega⟩
 ·have:c.cells.length<=(m.ag.map fun k=>k.cells.length).sum:=Np (List.mem_map.2 ⟨c,hc,rfl⟩);omega
 ·have:c.ai.length<=(m.h.map fun k=>k.ai.length).sum:=Np (List.mem_map.2 ⟨c,hc,rfl⟩);omega
theorem ug(ks:List K2)(k:Int):(CO ks k).length=ks.length:=by simp[CO]
theorem uh(ks:List R4)(k:Int):(CU ks k).length=ks.length:=by simp[CU]
theorem Vt(w:World)(P:Nat->Prop)(a:OA)(cap:Nat)(ks:List K2)(k:Int)(hk:0<=k)(pJ:k<=500000000)(ht:aL cK ks ks.length<=100000000)(hn:ks.length<=1048576)(hl:∀c∈ks,c.cells.length<=1048576)(h:vF 2 wK D5 oN w P a ks):
  Calls prog 68 #[.slice a ks.length cap,vI k] w fun e w'=>e=.returned (vI (k+aL cK ks ks.length))/\aG P w w'/\vF 2 wK D5 oN w' P a (CO ks k):=by
 rcases h with rfl|⟨b,g,rfl,hp,hg,hb,hr,ho⟩
 ·refine(Em w a cap k).mono ?_;rintro e w' ⟨rfl,rfl⟩;exact⟨by simp[aL],aG.refl _ _,.inl rfl⟩
 ·refine(En w b ks.length cap ks g k hk pJ ht hn hl hb hr ho).mono ?_;rintro e w' ⟨rfl,kW,ld,yT⟩;refine⟨rfl,kW.mono ?_,.inr ⟨b,g,rfl,hp,by rw[ug];exact hg,Nat.lt_of_lt_of_le hb kW.size,by rw[ug];exact yT,by rw[ug];exact ld⟩⟩;rintro q (rfl|⟨i,hi,rfl⟩)
  ·exact hp
  ·exact hg i hi
theorem Vv(w:World)(P:Nat->Prop)(a:OA)(cap:Nat)(ks:List R4)(k:Int)(hk:0<=k)(pJ:k<=500000000)(ht:aL cR ks ks.length<=100000000)(hn:ks.length<=1048576)(hl:∀c∈ks,c.ai.length<=1048576)(h:vF 4 uP El AtR w P a ks):
  Calls prog 69 #[.slice a ks.length cap,vI k] w fun e w'=>e=.returned (vI (k+aL cR ks ks.length))/\aG P w w'/\vF 4 uP El AtR w' P a (CU ks k):=by
 rcases h with rfl|⟨b,g,rfl,hp,hg,hb,hr,ho⟩
 ·refine(Av w a cap k).mono ?_;rintro e w' ⟨rfl,rfl⟩;exact⟨by simp[aL],aG.refl _ _,.inl rfl⟩
 ·refine(Aw w b ks.length cap ks g k hk pJ ht hn hl hb hr ho).mono ?_;rintro e w' ⟨rfl,kW,ld,yT⟩;refine⟨rfl,kW.mono ?_,.inr ⟨b,g,rfl,hp,by rw[uh];exact hg,Nat.lt_of_lt_of_le hb kW.size,by rw[uh];exact yT,by rw[uh];exact ld⟩⟩;rintro q (rfl|⟨i,hi,rfl⟩)
  ·exact hp
  ·exact hg i hi
theorem Vu(w:World)(P:Nat->Prop)(a:OA)(cap:Nat)(zs:List Int)(k:Int)(hk:0<=k)(pJ:k<=1000000000)(hn:zs.length<=1048576)(h:D7 w P a zs):
  Calls prog 67 #[.slice a zs.length cap,vI k] w fun e w'=>e=.returned (vI (k+zs.length))/\aG P w w'/\D7 w' P a (marks zs.length k):=by
 rcases h with rfl|⟨b,rfl,hp,hb,hx,hr⟩
 ·refine(Au w a cap k).mono ?_;rintro e w' ⟨rfl,rfl⟩;exact⟨by simp,aG.refl _ _,.inl rfl⟩
 ·refine(tZ w b zs.length cap k hn hk pJ hr).mono ?_;rintro e w' ⟨rfl,ho,E8,yT⟩;exact⟨rfl,aG.jX ho hp,.inr ⟨b,rfl,hp,by rw[ho.size];exact hb,E8,by rw[mH];exact yT⟩⟩
end
section
open Go.Proofs.Tryz
variable {m:M4}
theorem OM.mono{w:World}{B B':Nat}{v:MV}{PK PR PD:Nat->Prop}(h:OM w B v m PK PR PD)(hb:B'<=B):OM w B' v m PK PR PD:=⟨h.k,h.r,h.n,h.kr,h.kd,h.rd,fun q hq=>Nat.le_trans hb (h.kB q hq),fun q hq=>Nat.le_trans hb (h.rB q hq),fun q hq=>Nat.le_trans hb (h.dB q hq)⟩
theorem UI(w:World)(v:MV)(m:M4)(ht:MT m)(hs:Ag w v m):Calls prog 52 #[v.val m] w fun e w'=>
  ∃(c4:OA) (k4:Nat) (l4:OA) (j4:Nat) (d4:OA) (i4:Nat) (PK PR PD:Nat->Prop),e=.returned ((MV.mk c4 k4 l4 j4 d4 i4).val m)/\OM w' w.1.size ⟨c4,k4,l4,j4,d4,i4⟩ m PK PR PD/\(∀q,YH PK PR PD q->q<w'.1.size)/\Below w.1.size w w':=
 (EC w v m ht.k ht.ks ht.r ht.rs ht.n hs).mono (by
  rintro e w' ⟨⟨c4,k4,l4,j4,d4,i4⟩,B1,B2,B3,gk,gr,h1,h2,h3⟩;have o1:=h2.o1;have o2:=h2.o2;have o3:=h2.o3;have o4:=h2.sz;refine⟨c4,k4,l4,j4,d4,i4,_,_,_,h1,h2.om.mono (by omega),fun q hq=>?_,h3⟩
  rcases hq with hq|hq|hq<;>omega)
theorem MT.ml(h:MT m):ML m:=⟨by have:=h.k;unfold maxLen;omega,fun c hc=>by have:=h.ks c hc;unfold maxLen;omega,by have:=h.r;unfold maxLen;omega,fun c hc=>by have:=h.rs c hc;unfold maxLen;omega,by have:=h.n;unfold maxLen;omega⟩
end
section
open Go.Proofs.Tryz
variable {B b f:Nat}{P:Nat->Prop}{a c e:OA}{m:M4}{w:World}
theorem zS{A X Y:World}(h:Below A.1.size A X)(k:aG P X Y)(hp:∀q,P q->A.1.size<=q):Below A.1.size A Y:=h.trans (k.below hp h.size)
def KM.Ow(w:World)(B:Nat)(a:OA)(b:Nat)(c:OA)(d:Nat)(e:OA)(f:Nat)(m:M4)(P:Nat->Prop):Prop:=∃PK PR PD,OM w B ⟨a,b,c,d,e,f⟩ m PK PR PD/\(∀q,YH PK PR PD q->P q)/\(∀q,P q->B<=q/\q<w.1.size)
theorem KM.Ow.of{d:Nat}(h:KM.Ow w B a b c d e f m P){q:Nat}(hq:P q):B<=q/\q<w.1.size:=by obtain⟨_,_,_,_,_,h3⟩:=h;exact h3 q hq
theorem KM.Ow.sl{d:Nat}(h:KM.Ow w B a b c d e f m P):Ag w ⟨a,b,c,d,e,f⟩ m:=by obtain⟨_,_,_,h1,_,_⟩:=h;exact h1.sl
theorem KM.Ow.aM{w w':World}{B:Nat}{a:OA}{b:Nat}{c:OA}{d:Nat}{e:OA}{f:Nat}{m:M4}{P:Nat->Prop}(h:KM.Ow w B a b c d e f m P)(hs:w.1.size<=w'.1.size)(hk:∀q,P q->w'.1[q]?=w.1[q]?):KM.Ow w' B a b c d e f m P:=by
 obtain⟨PK,PR,PD,h1,h2,h3⟩:=h;exact⟨PK,PR,PD,h1.aM hs (fun q _ hq=>hk q (h2 q hq)),h2,fun q hq=>⟨(h3 q hq).1,Nat.lt_of_lt_of_le (h3 q hq).2 hs⟩⟩
theorem KM.Ow.low{B':Nat}{d:Nat}(h:KM.Ow w B a b c d e f m P)(hb:B'<=B):KM.Ow w B' a b c d e f m P:=by
 obtain⟨PK,PR,PD,h1,h2,h3⟩:=h;exact⟨PK,PR,PD,h1.mono hb,h2,fun q hq=>⟨Nat.le_trans hb (h3 q hq).1,(h3 q hq).2⟩⟩
theorem KM.of{d:Nat}{PK PR PD:Nat->Prop}(h:OM w B ⟨a,b,c,d,e,f⟩ m PK PR PD)(hl:∀q,YH PK PR PD q->q<w.1.size):KM.Ow w B a b c d e f m (YH PK PR PD):=
 ⟨PK,PR,PD,h,fun _ hq=>hq,fun q hq=>⟨by rcases hq with hq|hq|hq;exact h.kB q hq;exact h.rB q hq;exact h.dB q hq,hl q hq⟩⟩
theorem KM.to(X:World)(a:OA)(b:Nat)(c:OA)(d:Nat)(e:OA)(f:Nat)(m:M4)(ht:MT m)(h:Ag X ⟨a,b,c,d,e,f⟩ m):Calls prog 52 #[.agg #[.bool m.x,.slice a m.ag.length b,.slice c m.h.length d,.slice e m.ax.length f]] X fun r w'=>
  ∃(a:OA) (b:Nat) (c:OA) (d:Nat) (e:OA) (f:Nat) (P:Nat->Prop),r=.returned (.agg #[.bool m.x,.slice a m.ag.length b,.slice c m.h.length d,.slice e m.ax.length f])/\KM.Ow w' X.1.size a b c d e f m P/\Below X.1.size X w':=by
 have hh:=UI X ⟨a,b,c,d,e,f⟩ m ht h;simp only[MV.val]at hh;refine hh.mono ?_;rintro r w' ⟨a,b,c,d,e,f,PK,PR,PD,rfl,o,l,bl⟩;exact⟨a,b,c,d,e,f,_,rfl,KM.of o l,bl⟩
theorem KM.eq(X:World)(a:OA)(b:Nat)(c:OA)(d:Nat)(e:OA)(f:Nat)(a':OA)(b':Nat)(c':OA)(d':Nat)(e':OA)(f':Nat)(m:M4)(ht:MT m)(h1:Ag X ⟨a,b,c,d,e,f⟩ m)(h2:Ag X ⟨a',b',c',d',e',f'⟩ m):Calls prog 65 #[.agg #[.bool m.x,.slice a m.ag.length b,.slice c m.h.length d,.slice e m.ax.length f],.agg #[.bool m.x,.slice a' m.ag.length b',.slice c' m.h.length d',.slice e' m.ax.length f']] X fun r w'=>r=.returned (.bool true)/\Below X.1.size X w':=by
 have hh:=BM X ⟨a,b,c,d,e,f⟩ ⟨a',b',c',d',e',f'⟩ m ht.ml h1 h2;simp only[MV.val]at hh;exact hh
end
section
open Go.Proofs.Tryz
theorem JK(w:World)(v:MV)(m:M4)(l0:Nat)(Kz:l0<=1048576)(hl:ML m)(hs:Ag w v m):Calls prog 43 #[v.val m,vI (l0:Int)] w fun e w'=>e=.returned (vI (gJ l0 (Ma m)))/\Below w.1.size w w':=by
 obtain⟨ac,cc,al,cl,ad,cd⟩:=v;have H:=dw hs hl;clear hs hl;simp only[MV.val];have HM:Hid (Ma m=(m.ag.length+kK m.ag)+(m.h.length+kL m.h)+m.ax.length):=rfl;have b0:Below w.1.size w (w.alloc (.cells #[.bool m.x,.slice ac m.ag.length cc,.slice al m.h.length cl,.slice ad m.ax.length cd] 76)):=aK.alloc aU _;have u2:(w.alloc (.cells #[.bool m.x,.slice ac m.ag.length cc,.slice al m.h.length cl,.slice ad m.ax.length cd] 76)).cell? ⟨w.1.size,2,none⟩=some (.slice al m.h.length cl):=by go_simp
 have u3:(w.alloc (.cells #[.bool m.x,.slice ac m.ag.length cc,.slice al m.h.length cl,.slice ad m.ax.length cd] 76)).cell? ⟨w.1.size,3,none⟩=some (.slice ad m.ax.length cd):=by go_simp
 have sU:w.1.size<(w.alloc (.cells #[.bool m.x,.slice ac m.ag.length cc,.slice al m.h.length cl,.slice ad m.ax.length cd] 76)).1.size:=by simp
 have mi:=Pm (w.alloc (.cells #[.bool m.x,.slice ac m.ag.length cc,.slice al m.h.length cl,.slice ad m.ax.length cd] 76)) ac m.ag.length cc m.ag l0 H.out.2.k Kz (H.out.1.later b0).k H.out.2.ks;have oP:=fun W l (h:Below w.1.size w W) (hl:l<=1048576)=>JM W al m.h.length cl m.h l H.out.2.r hl (H.out.1.later h).r H.out.2.rs
 have IP:=fun W l (hl:l<=1048576)=>L9 W ad m.ax.length cd l H.out.2.n hl
 obtain⟨A,hA⟩:=uD (m.ag.length+kK m.ag);obtain⟨Bn,hB⟩:=uD (m.h.length+kL m.h);obtain⟨Cn,hC⟩:=uD m.ax.length;rw[HM.out];simp only[hA,hB]at mi oP ⊢;have HZ2:Hid (∀(W:World) (l:Nat),Below w.1.size w W->l<=1048576->Calls prog 81 #[.slice al m.h.length cl,vI (l:Int)] W fun e w'=>e=.returned (vI (gJ l Bn))/\Below W.1.size W w'):=oP;have HZ3:Hid (∀(W:World) (l:Nat),l<=1048576->Calls prog 79 #[.slice ad m.ax.length cd,vI (l:Int)] W fun e w'=>e=.returned (vI (gJ l m.ax.length))/\w'=W):=IP;have SU:=dw sU b0;clear hA hB hC oP IP sU b0 HM;by_cases h1:A<=l0
 ·rw[cu h1]at mi;have g1:decide (((l0-A:Nat):Int)<0)=false:=by simp
  go_enter func43,ntmps43;go_wp2_with fail;refine mi.mono ?_;clear mi;rintro e w1 ⟨rfl,b1⟩;have c2:=(b1.cell (p:=⟨w.1.size,2,none⟩) SU.out.1).trans u2;have c3:=(b1.cell (p:=⟨w.1.size,3,none⟩) SU.out.1).trans u3;have B1:=dw (SU.out.2.trans (b1.mono SU.out.2.size)) (Nat.lt_of_lt_of_le SU.out.1 b1.size);clear u2 u3 b1;go_wp2_with fail;have hz:=HZ2.out w1 (l0-A) B1.out.1 (by omega);by_cases h2:Bn<=l0-A
  ·rw[cu h2]at hz;have g2:decide (((l0-A-Bn:Nat):Int)<0)=false:=by simp
   refine hz.mono ?_;clear hz;rintro e w2 ⟨rfl,b2⟩;have x3:=(b2.cell (p:=⟨w.1.size,3,none⟩) B1.out.2).trans c3;have B2:Hid (Below w.1.size w w2):=B1.out.1.trans (b2.mono B1.out.1.size);clear c2 c3 b2;go_wp2_with fail;have hz:=HZ3.out w2 (l0-A-Bn) (by omega);by_cases h3:m.ax.length<=l0-A-Bn
   ·rw[cu h3]at hz;have g3:decide (((l0-A-Bn-m.ax.length:Nat):Int)<0)=false:=by simp
    refine hz.mono ?_;clear hz;rintro e w2 ⟨rfl,rfl⟩;go_wp2;go_ret;exact⟨by rw[cu (by omega),show l0-(A+Bn+m.ax.length)=l0-A-Bn-m.ax.length by omega];rfl,B2.out⟩
   ·rw[bI h3]at hz;refine hz.mono ?_;clear hz;rintro e w2 ⟨rfl,rfl⟩;go_wp2;go_ret;exact⟨by rw[bI (by omega)];rfl,B2.out⟩
  ·rw[bI h2]at hz;refine hz.mono ?_;clear hz;rintro e w2 ⟨rfl,b2⟩;have B2:Hid (Below w.1.size w w2):=B1.out.1.trans (b2.mono B1.out.1.size);clear b2;go_wp2;go_ret;exact⟨by rw[bI (by omega)];rfl,B2.out⟩
 ·rw[bI h1]at mi;go_enter func43,ntmps43;go_wp2_with fail;refine mi.mono ?_;clear mi;rintro e w1 ⟨rfl,b1⟩;have B1:Hid (Below w.1.size w w1):=SU.out.2.trans (b1.mono SU.out.2.size);clear b1;go_wp2;go_ret;exact⟨by rw[bI (by omega)];rfl,B1.out⟩
end
section
open Go.Proofs.Tryz
theorem KM.nt(X:World)(a:OA)(b:Nat)(c:OA)(d:Nat)(e:OA)(f:Nat)(m:M4)(l:Nat)(Kz:l<=1048576)(hl:ML m)(h:Ag X ⟨a,b,c,d,e,f⟩ m):Calls prog 43 #[.agg #[.bool m.x,.slice a m.ag.length b,.slice c m.h.length d,.slice e m.ax.length f],vI (l:Int)] X fun r w'=>r=.returned (vI (gJ l (Ma m)))/\Below X.1.size X w':=by
 have hh:=JK X ⟨a,b,c,d,e,f⟩ m l Kz hl h;simp only[MV.val]at hh;exact hh
def iN:Kd M4 MV where
 n:=4
 cells v m:=[.bool m.x,.slice v.ac m.ag.length v.cc,.slice v.al m.h.length v.cl,.slice v.ad m.ax.length v.cd]
 len:=fun _ _=>rfl
 Rd:=Ag
 Ow w B v m P:=KM.Ow w B v.ac v.cc v.al v.cl v.ad v.cd m P
 later:=fun h b=>h.later b
 sl:=fun h=>h.sl
 of:=fun h hq=>h.of hq
 aM:=fun h hs hk=>h.aM hs hk
 low:=fun h hb=>h.low hb
end
section
open Go.Proofs.Tryz
theorem Q6:(prog.info? 87).map (fun i=>(i.zero,i.size,i.bytes))=some (some (.agg #[.bool false,.slice none 0 0,.slice none 0 0,.slice none 0 0]),4,80):=by kernel_rfl
theorem Rj(n:Nat)(hn:n<=1048576)(w:World):(Instr.makeSlice 29 (vI (n:Int)) (vI (n:Int))).run prog w=.ok (.slice (some ⟨w.1.size,0,none⟩) n n) (w.alloc (.cells (madeCells #[.bool false,.slice none 0 0,.slice none 0 0,.slice none 0 0] (n*4)) 87)):=by
 obtain⟨i,hi,oQ⟩:=Option.map_eq_some_iff.1 Q6;simp only[Prod.mk.injEq]at oQ;obtain⟨hz,hs,hb⟩:=oQ;have:=run_make (P:=prog) w 29 87 i _ underlying29 hi hz .i64 .i64 (n:Int) (n:Int) (by omega) (by omega) (by rw[hb];omega) (by omega);rw[hs]at this;simpa[Value.cells]using this
theorem yN.to(w:World)(a:OA)(cap:Nat)(xs:List M4)(hn:xs.length<=1048576)(ht:∀d∈xs,MT d)(hs:iN.vG w a xs):Calls prog 21 #[.slice a xs.length cap] w fun e w'=>
  ∃P,e=.returned (.slice (some ⟨w.1.size,0,none⟩) xs.length xs.length)/\iN.xm w' w.1.size (some ⟨w.1.size,0,none⟩) xs P/\Below w.1.size w w':=by
 have mQ:=Rj xs.length hn;go_enter func21,ntmps21;go_wp2;go_loopw[4] (fun i wr=>∃(j:Nat) (g:Nat->Nat->Prop),j<=xs.length/\i=vI j/\Below w.1.size w wr/\w.1.size<wr.1.size/\iN.Part wr w.1.size w.1.size xs.length (xs.take j) g) (fun i _=>xs.length-(intOf i).toNat)
 case atStart=>exact⟨0,fun _ _=>False,Nat.zero_le _,rfl,aK.alloc aU _,by simp,by rw[List.take_zero];exact Kd.Part.nil _ _ (iF _ _ _ _)⟩
 case round=>
  obtain⟨j,g,hj,rfl,aB,dQ,ze⟩:=hrel;by_cases aN:j<xs.length
  ·obtain⟨d,hd⟩:∃d,xs[j]?=some d:=⟨_,List.getElem?_eq_getElem aN⟩
   rcases hs with hs|⟨b,off,rfl,hb,h1⟩
   ·rw[hs]at aN;simp at aN
   obtain⟨⟨c0,c1,c2,c3,c4,c5⟩,bg,iw⟩:=h1 j d hd;have e0:=(aB.cell (p:=⟨b,off+j*4,none⟩) hb).trans (bg 0 _ rfl);have e1:=(aB.cell (p:=⟨b,off+j*4+1,none⟩) hb).trans (bg 1 _ rfl);have e2:=(aB.cell (p:=⟨b,off+j*4+2,none⟩) hb).trans (bg 2 _ rfl);have e3:=(aB.cell (p:=⟨b,off+j*4+3,none⟩) hb).trans (bg 3 _ rfl);have jo:=KM.to wr c0 c1 c2 c3 c4 c5 d (ht d (List.mem_of_getElem? hd)) (iN.later iw aB);have KH:=nE ze aB dQ (show xs.take (j+1)=xs.take j++[d] by rw[List.take_add_one,hd];rfl) (show(xs.take j).length=j by rw[List.length_take];omega);have jn:(j:Int)<(xs.length:Int):=by omega
   clear ze aB mQ h1 ht bg iw hd;go_wp2_with fail;refine jo.mono ?_;clear jo e0 e1 e2 e3;rintro e w1 ⟨u0,u1,u2,u3,u4,u5,P,rfl,ho,b1⟩;have Oi:=KH.out.1.later b1 KH.out.2.2.1;have rU:=Oi.rm;have jt:j*4+4<=xs.length*4:=by omega
   obtain⟨z0,d0,f0⟩:∃v,w1.cell? ⟨w.1.size,j*4,none⟩=some v/\w1.frozen? ⟨w.1.size,j*4,none⟩=false:=rU (j*4+0) (show _<xs.length*4 by omega);obtain⟨z1,d1,f1⟩:∃v,w1.cell? ⟨w.1.size,j*4+1,none⟩=some v/\w1.frozen? ⟨w.1.size,j*4+1,none⟩=false:=rU (j*4+1) (show _<xs.length*4 by omega);obtain⟨z2,d2,f2⟩:∃v,w1.cell? ⟨w.1.size,j*4+2,none⟩=some v/\w1.frozen? ⟨w.1.size,j*4+2,none⟩=false:=rU (j*4+2) (show _<xs.length*4 by omega);obtain⟨z3,d3,f3⟩:∃v,w1.cell? ⟨w.1.size,j*4+3,none⟩=some v/\w1.frozen? ⟨w.1.size,j*4+3,none⟩=false:=rU (j*4+3) (show _<xs.length*4 by omega);have K1:Hid (iN.Part w1 w.1.size w.1.size xs.length (xs.take j) g/\iN.Ow w1 wr.1.size ⟨u0,u1,u2,u3,u4,u5⟩ d P/\Below wr.1.size wr w1):=⟨Oi,ho,b1⟩
   clear Oi ho b1 rU jt;go_wp2;obtain⟨k1,k2,k3,k4,k5⟩:=KH.out;obtain⟨p1,p2,p3⟩:=K1.out;have PE:=p1.push (by omega) ⟨u0,u1,u2,u3,u4,u5⟩ d P (iN.low p2 (Nat.le_of_lt k3)) (fun q hq=>by have:=(iN.of p2 hq).1;omega) (fun i q hi hq TJ=>by have:=(k1.gq hi hq).2;have:=(iN.of p2 TJ).1;omega);rw[k5,<-k4]at PE;have Wx:Below w.1.size w (cO w1 w.1.size (j*4) [.bool d.x,.slice u0 d.ag.length u1,.slice u2 d.h.length u3,.slice u4 d.ax.length u5]):=aI aU _ _ _ (k2.trans (p3.mono k2.size));have WX:w.1.size<(cO w1 w.1.size (j*4) [.bool d.x,.slice u0 d.ag.length u1,.slice u2 d.h.length u3,.slice u4 d.ax.length u5]).1.size:=by rw[aS];exact Nat.lt_of_lt_of_le k3 p3.size
   exact⟨⟨j+1,_,by omega,by simp,Wx,WX,PE⟩,by simp[intOf];omega⟩
  ·obtain rfl:j=xs.length:=by omega
   have hd:decide ((xs.length:Int)<(xs.length:Int))=false:=by simp
   rw[List.take_length]at ze;have KH:=fP ze aB dQ;clear ze aB hs mQ ht;go_wp2;go_ret;exact⟨_,rfl,KH.out.1.own aU KH.out.2.2,KH.out.2.1⟩
theorem yN.eq(w:World)(a a':OA)(cap aZ:Nat)(xs:List M4)(hn:xs.length<=1048576)(ht:∀d∈xs,MT d)(h1:iN.vG w a xs)(h2:iN.vG w a' xs):Calls prog 30 #[.slice a xs.length cap,.slice a' xs.length aZ] w fun e w'=>e=.returned (.bool true)/\Below w.1.size w w':=by
 go_enter func30,ntmps30;go_wp2;go_loopw[5] (fun i wr=>∃j:Nat,j<=xs.length/\i=vI j/\Below w.1.size w wr) (fun i _=>xs.length-(intOf i).toNat)
 case atStart=>exact⟨0,Nat.zero_le _,rfl,aK⟩
 case round=>
  obtain⟨j,hj,rfl,aB⟩:=hrel;by_cases aN:j<xs.length
  ·obtain⟨d,hd⟩:∃d,xs[j]?=some d:=⟨_,List.getElem?_eq_getElem aN⟩
   rcases h1 with h1|⟨b,off,rfl,hb,h1⟩
   ·rw[h1]at aN;simp at aN
   ·rcases h2 with h2|⟨b',di,rfl,fB,h2⟩
    ·rw[h2]at aN;simp at aN
    ·obtain⟨⟨c0,c1,c2,c3,c4,c5⟩,bg,iw⟩:=h1 j d hd;obtain⟨⟨b0,b1,b2,b3,b4,b5⟩,uO,tJ⟩:=h2 j d hd;have x0:=fun dd os=>((below_regrown wr dd os).cell (p:=⟨b,off+j*4,none⟩) (Nat.lt_of_lt_of_le hb aB.size)).trans ((aB.cell (p:=⟨b,off+j*4,none⟩) hb).trans (bg 0 _ rfl))
     have x1:=fun dd os=>((below_regrown wr dd os).cell (p:=⟨b,off+j*4+1,none⟩) (Nat.lt_of_lt_of_le hb aB.size)).trans ((aB.cell (p:=⟨b,off+j*4+1,none⟩) hb).trans (bg 1 _ rfl))
     have x2:=fun dd os=>((below_regrown wr dd os).cell (p:=⟨b,off+j*4+2,none⟩) (Nat.lt_of_lt_of_le hb aB.size)).trans ((aB.cell (p:=⟨b,off+j*4+2,none⟩) hb).trans (bg 2 _ rfl))
     have x3:=fun dd os=>((below_regrown wr dd os).cell (p:=⟨b,off+j*4+3,none⟩) (Nat.lt_of_lt_of_le hb aB.size)).trans ((aB.cell (p:=⟨b,off+j*4+3,none⟩) hb).trans (bg 3 _ rfl))
     have y0:=fun dd os=>((below_regrown wr dd os).cell (p:=⟨b',di+j*4,none⟩) (Nat.lt_of_lt_of_le fB aB.size)).trans ((aB.cell (p:=⟨b',di+j*4,none⟩) fB).trans (uO 0 _ rfl))
     have y1:=fun dd os=>((below_regrown wr dd os).cell (p:=⟨b',di+j*4+1,none⟩) (Nat.lt_of_lt_of_le fB aB.size)).trans ((aB.cell (p:=⟨b',di+j*4+1,none⟩) fB).trans (uO 1 _ rfl))
     have y2:=fun dd os=>((below_regrown wr dd os).cell (p:=⟨b',di+j*4+2,none⟩) (Nat.lt_of_lt_of_le fB aB.size)).trans ((aB.cell (p:=⟨b',di+j*4+2,none⟩) fB).trans (uO 2 _ rfl))
     have y3:=fun dd os=>((below_regrown wr dd os).cell (p:=⟨b',di+j*4+3,none⟩) (Nat.lt_of_lt_of_le fB aB.size)).trans ((aB.cell (p:=⟨b',di+j*4+3,none⟩) fB).trans (uO 3 _ rfl))
     have cQ:=fun dd os=>Calls.regrown_of (KM.eq _ c0 c1 c2 c3 c4 c5 b0 b1 b2 b3 b4 b5 d (ht d (List.mem_of_getElem? hd)) (iN.later iw (aB.trans ((below_regrown wr dd os).mono aB.size))) (iN.later tJ (aB.trans ((below_regrown wr dd os).mono aB.size))))
     have K:Hid (Below w.1.size w wr):=aB;have jn:(j:Int)<(xs.length:Int):=by omega
     clear bg uO iw tJ aB h1 h2 ht hd;go_wp2_with fail;refine gy ?_;repeat (go_big_quiet_step (exact cQ _ _))
     refine jb fun dq bu=>?_
     have bq:=below_regrown wr dq bu;go_wp2;exact⟨⟨j+1,by omega,by simp,K.out.trans (bq.mono K.out.size)⟩,by simp[intOf];omega⟩
  ·obtain rfl:j=xs.length:=by omega
   have hd:decide ((xs.length:Int)<(xs.length:Int))=false:=by simp
   clear h1 h2 ht;go_wp2;go_ret;exact⟨rfl,aB⟩
def yN.nN(xs:List M4):Nat:=(xs.map fun d=>Ma d).sum
theorem yN.sz(w:World)(a:OA)(cap:Nat)(xs:List M4)(l:Nat)(Kz:l<=1048576)(hn:xs.length<=maxLen)(hl:∀d∈xs,ML d)(hs:iN.vG w a xs):
  Calls prog 15 #[.slice a xs.length cap,vI (l:Int)] w fun e w'=>e=.returned (vI (gJ l (xs.length+yN.nN xs)))/\Below w.1.size w w':=by
 have Ec:=hn;unfold maxLen at Ec;by_cases h0:xs.length<=l
 ·have d0:decide ((l:Int)-(xs.length:Int)<0)=false:=by simp;omega
  go_enter func15,ntmps15;go_wp2;go_loopw[1,5] (fun v1 v5 wr=>∃j:Nat,j<=xs.length/\v5=vI j/\xs.length+yN.nN (xs.take j)<=l/\v1=vI ((l-(xs.length+yN.nN (xs.take j)):Nat):Int)/\Below w.1.size w wr) (fun _ v5 _=>xs.length-(intOf v5).toNat)
  case atStart=>exact⟨0,Nat.zero_le _,rfl,by simpa[yN.nN]using h0,by simp[yN.nN];try omega,aK⟩
  case round=>
   obtain⟨j,hj,rfl,hle,rfl,aB⟩:=hrel;have KL:Hid (xs.length+yN.nN (xs.take j)<=l):=hle;by_cases aN:j<xs.length
   ·obtain⟨d,hd⟩:∃d,xs[j]?=some d:=⟨_,List.getElem?_eq_getElem aN⟩
    rcases hs with hs|⟨b,off,rfl,hb,h1⟩
    ·rw[hs]at aN;simp at aN
    obtain⟨⟨c0,c1,c2,c3,c4,c5⟩,bg,iw⟩:=h1 j d hd;have e0:=(aB.cell (p:=⟨b,off+j*4,none⟩) hb).trans (bg 0 _ rfl);have e1:=(aB.cell (p:=⟨b,off+j*4+1,none⟩) hb).trans (bg 1 _ rfl);have e2:=(aB.cell (p:=⟨b,off+j*4+2,none⟩) hb).trans (bg 2 _ rfl);have e3:=(aB.cell (p:=⟨b,off+j*4+3,none⟩) hb).trans (bg 3 _ rfl);have hz:=KM.nt wr c0 c1 c2 c3 c4 c5 d (l-(xs.length+yN.nN (xs.take j))) (by omega) (hl d (List.mem_of_getElem? hd)) (iN.later iw aB)
    have FM:Hid (yN.nN (xs.take (j+1))=yN.nN (xs.take j)+Ma d):=by
     unfold Hid yN.nN;rw[List.map_take,List.map_take];exact jV (by rw[List.getElem?_map,hd];rfl)
    have SN:Hid (yN.nN (xs.take (j+1))<=yN.nN xs):=by unfold Hid yN.nN;rw[List.map_take];exact lJ _ _
    have KB:Hid (Below w.1.size w wr):=aB;have jn:(j:Int)<(xs.length:Int):=by omega
    generalize dk:yN.nN (xs.take j)=LL at *;generalize Ma d=m at *;clear h1 aB hl hle bg iw hd;by_cases xY:m<=l-(xs.length+LL)
    ·rw[cu xY]at hz;have d1:decide (((l-(xs.length+LL)-m:Nat):Int)<0)=false:=by simp
     go_wp2_with fail;refine hz.mono ?_;clear hz;rintro e w1 ⟨rfl,b1⟩;go_wp2;have h1:=KL.out;refine⟨⟨j+1,by omega,by simp,by rw[FM.out];omega,by rw[FM.out];congr 2;omega,KB.out.trans (b1.mono KB.out.size)⟩,by simp[intOf];omega⟩
    ·rw[bI xY]at hz;go_wp2_with fail;refine hz.mono ?_;clear hz;rintro e w1 ⟨rfl,b1⟩;go_wp2;go_ret;have h2:=FM.out;have h3:=SN.out;refine⟨by rw[bI (by omega)];rfl,KB.out.trans (b1.mono KB.out.size)⟩
   ·obtain rfl:j=xs.length:=by omega
    have hd:decide ((xs.length:Int)<(xs.length:Int))=false:=by simp
    rw[List.take_length]at hle ⊢;clear hs hl KL;go_wp2;go_ret;exact⟨by rw[cu hle];rfl,aB⟩
 ·have d0:decide ((l:Int)-(xs.length:Int)<0)=true:=by simp;omega
  go_enter func15,ntmps15;go_wp2;go_ret;exact⟨by rw[bI (by omega)];rfl,aK⟩
end
namespace tx
open Go.Proofs.Tryz
variable {B b c l n o off t:Nat}{P:Nat->Prop}{a w w':World}{s:S5}{xs:List S5}
theorem af{p:Prop}(h:p):Hid p:=h
def gJ(l t:Nat):Int:=if t<=l then((l-t:Nat):Int)else -1
theorem cu(h:t<=l):gJ l t=((l-t:Nat):Int):=if_pos h
theorem bI(h:¬t<=l):gJ l t=-1:=if_neg h
structure aG(P:Nat->Prop)(w w':World):Prop where
 os:w'.os=w.os
 tape:w'.tape=w.tape
 output:w'.output=w.output
 size:w.1.size<=w'.1.size
 block:∀q,q<w.1.size->¬P q->w'.1[q]?=w.1[q]?
theorem aG.refl(P:Nat->Prop)(w:World):aG P w w:=⟨rfl,rfl,rfl,Nat.le_refl _,fun _ _ _=>rfl⟩
theorem aG.trans{P:Nat->Prop}{a b c:World}(h:aG P a b)(k:aG P b c):aG P a c:=
 ⟨k.os.trans h.os,k.tape.trans h.tape,k.output.trans h.output,Nat.le_trans h.size k.size,fun q hq hp=>(k.block q (Nat.lt_of_lt_of_le hq h.size) hp).trans (h.block q hq hp)⟩
theorem aG.mono{Q:Nat->Prop}{b:World}(h:aG P a b)(hp:∀q,P q->Q q):aG Q a b:=⟨h.os,h.tape,h.output,h.size,fun q hq hn=>h.block q hq (fun e=>hn (hp q e))⟩
theorem aG.jX{b:World}(h:aX c a b)(hc:P c):aG P a b:=⟨h.os,h.tape,h.output,Nat.le_of_eq h.size.symm,fun q _ hn=>h.block q (fun e=>hn (e▸hc))⟩
theorem aG.bN{b:World}(h:Below a.1.size a b):aG P a b:=⟨h.os,h.tape,h.output,h.size,fun q hq _=>h.block q hq⟩
theorem aG.uj(w:World)(v:Value)(hc:P c):aG P w (w.setCell ⟨c,o,none⟩ v):=.jX ((aX.refl c w).setCell o v) hc
theorem aG.below{b:World}(h:aG P a b)(hp:∀q,P q->B<=q)(hB:B<=a.1.size):Below B a b:=⟨h.os,h.tape,h.output,h.size,fun q hq=>h.block q (by omega) (fun e=>by have:=hp q e;omega)⟩
structure aV(w:World)(b o:Nat)(s:S5):Prop where
 c0:w.cell? ⟨b,o,none⟩=some (vI s.b)
 c1:w.cell? ⟨b,o+1,none⟩=some (vI s.e)
 c2:w.cell? ⟨b,o+2,none⟩=some (vI s.g)
 c3:w.cell? ⟨b,o+3,none⟩=some (.bool s.j)
 c4:w.cell? ⟨b,o+4,none⟩=some (vI s.i)
theorem aV.below(h:aV w b o s)(hb:Below B w w')(hB:b<B):aV w' b o s:=
 ⟨by rw[hb.cell hB];exact h.c0,by rw[hb.cell hB];exact h.c1,by rw[hb.cell hB];exact h.c2,by rw[hb.cell hB];exact h.c3,by rw[hb.cell hB];exact h.c4⟩
def aY(w:World)(b off:Nat)(xs:List S5):Prop:=∀i s,xs[i]?=some s->aV w b (off+i*5) s
theorem aY.below(h:aY w b off xs)(hb:Below B w w')(hB:b<B):aY w' b off xs:=fun i s e=>(h i s e).below hb hB
def Sl(w:World)(B:Nat)(a:OA)(n:Nat)(xs:List S5):Prop:=xs.length=n/\(n=0\/∃b off,a=some ⟨b,off,none⟩/\b<B/\aY w b off xs)
theorem Sl.below{w w':World}{B:Nat}{a:OA}{n:Nat}{xs:List S5}(h:Sl w B a n xs)(hb:Below B w w'):Sl w' B a n xs:=by
 obtain⟨h1,h2⟩:=h;refine⟨h1,?_⟩;rcases h2 with h2|⟨b,off,ha,hB,hx⟩
 ·exact .inl h2
 ·exact .inr ⟨b,off,ha,hB,hx.below hb hB⟩
theorem Sl.mono{B':Nat}{a:OA}(h:Sl w B a n xs)(hB:B<=B'):Sl w B' a n xs:=by
 obtain⟨h1,h2⟩:=h;refine⟨h1,?_⟩;rcases h2 with h2|⟨b,off,ha,hb,hx⟩
 ·exact .inl h2
 ·exact .inr ⟨b,off,ha,by omega,hx⟩
theorem aY.dS(h:aY w b off xs){p:Addr}(hp:p.block≠b)(v:Value):aY (w.setCell p v) b off xs:=fun i s e=>
 ⟨by rw[aJ hp];exact(h i s e).c0,by rw[aJ hp];exact(h i s e).c1,by rw[aJ hp];exact(h i s e).c2,by rw[aJ hp];exact(h i s e).c3,by rw[aJ hp];exact(h i s e).c4⟩
theorem aV.set{p:Nat}(h:aV w b o s)(hp:p<o\/o+5<=p)(v:Value):aV (w.setCell ⟨b,p,none⟩ v) b o s:=
 ⟨by rw[ae (by omega)];exact h.c0,by rw[ae (by omega)];exact h.c1,by rw[ae (by omega)];exact h.c2,by rw[ae (by omega)];exact h.c3,by rw[ae (by omega)];exact h.c4⟩
theorem Cj:(prog.info? 96).map (fun i=>(i.zero,i.size,i.bytes))=some (some (.agg #[vI 0,vI 0,vI 0,.bool false,vI 0]),5,40):=by kernel_rfl
theorem pW(n:Nat)(hn:n<=1048576)(w:World):(Instr.makeSlice 89 (vI (n:Int)) (vI (n:Int))).run prog w=.ok (.slice (some ⟨w.1.size,0,none⟩) n n) (w.alloc (.cells (madeCells #[vI 0,vI 0,vI 0,.bool false,vI 0] (n*5)) 96)):=by
 obtain⟨i,hi,oQ⟩:=Option.map_eq_some_iff.1 Cj;simp only[Prod.mk.injEq]at oQ;obtain⟨hz,hs,hb⟩:=oQ;have:=run_make (P:=prog) w 89 96 i _ underlying89 hi hz .i64 .i64 (n:Int) (n:Int) (by omega) (by omega) (by rw[hb];omega) (by omega);rw[hs]at this;simpa[Value.cells]using this
theorem aV.put{v0 v1 v2 v3 v4:Value}(s:S5)(h0:w.cell? ⟨b,o,none⟩=some v0)(h1:w.cell? ⟨b,o+1,none⟩=some v1)(h2:w.cell? ⟨b,o+2,none⟩=some v2)(h3:w.cell? ⟨b,o+3,none⟩=some v3)(h4:w.cell? ⟨b,o+4,none⟩=some v4):
  aV (((((w.setCell ⟨b,o,none⟩ (vI s.b)).setCell ⟨b,o+1,none⟩ (vI s.e)).setCell ⟨b,o+2,none⟩ (vI s.g)).setCell ⟨b,o+3,none⟩ (.bool s.j)).setCell ⟨b,o+4,none⟩ (vI s.i)) b o s:=by
 refine⟨?_,?_,?_,?_,?_⟩
 ·rw[ae (by omega),ae (by omega),ae (by omega),ae (by omega)];exact ay h0
 ·rw[ae (by omega),ae (by omega),ae (by omega)];exact ay (by rw[ae (by omega)];exact h1)
 ·rw[ae (by omega),ae (by omega)];exact ay (by rw[ae (by omega),ae (by omega)];exact h2)
 ·rw[ae (by omega)];exact ay (by rw[ae (by omega),ae (by omega),ae (by omega)];exact h3)
 ·exact ay (by rw[ae (by omega),ae (by omega),ae (by omega),ae (by omega)];exact h4)
theorem aY.put{w:World}{b k:Nat}{xs:List S5}{s:S5}(h:aY w b 0 (xs.take k))(hs:xs[k]?=some s){m:Nat}(hr:Room w b m)(hm:k*5+5<=m):
  aY (((((w.setCell ⟨b,k*5,none⟩ (vI s.b)).setCell ⟨b,k*5+1,none⟩ (vI s.e)).setCell ⟨b,k*5+2,none⟩ (vI s.g)).setCell ⟨b,k*5+3,none⟩ (.bool s.j)).setCell ⟨b,k*5+4,none⟩ (vI s.i)) b 0 (xs.take (k+1)):=by
 intro i t e;rw[List.getElem?_take]at e;split at e
 ·rename_i hi;by_cases Ky:i=k
  ·subst Ky;rw[hs]at e;obtain rfl:=Option.some.inj e;obtain⟨v0,d0,_⟩:=hr (i*5) (by omega);obtain⟨v1,d1,_⟩:=hr (i*5+1) (by omega);obtain⟨v2,d2,_⟩:=hr (i*5+2) (by omega);obtain⟨v3,d3,_⟩:=hr (i*5+3) (by omega);obtain⟨v4,d4,_⟩:=hr (i*5+4) (by omega);simpa using aV.put s d0 d1 d2 d3 d4
  ·have:=h i t (by rw[List.getElem?_take,if_pos (by omega)];exact e);exact((((this.set (by omega) _).set (by omega) _).set (by omega) _).set (by omega) _).set (by omega) _
 ·cases e
theorem aY.aj(h:aY w b off xs)(e:w'.1[b]?=w.1[b]?):aY w' b off xs:=fun i s hs=>by
 obtain⟨c0,c1,c2,c3,c4⟩:=h i s hs;exact⟨(World.cell?_of_block (a:=⟨b,_,none⟩) e).trans c0,(World.cell?_of_block (a:=⟨b,_,none⟩) e).trans c1,(World.cell?_of_block (a:=⟨b,_,none⟩) e).trans c2,(World.cell?_of_block (a:=⟨b,_,none⟩) e).trans c3,(World.cell?_of_block (a:=⟨b,_,none⟩) e).trans c4⟩
theorem uu(w:World)(a:OA)(cap:Nat):Calls prog 104 #[.slice a 0 cap] w fun e w'=>
  e=.returned (.slice (some ⟨w.1.size,0,none⟩) 0 0)/\Below w.1.size w w'/\w.1.size<w'.1.size:=by
 have mQ:∀w:World,(Instr.makeSlice 89 (vI 0) (vI 0)).run prog w=.ok (.slice (some ⟨w.1.size,0,none⟩) 0 0) (w.alloc (.cells (madeCells #[vI 0,vI 0,vI 0,.bool false,vI 0] 0) 96)):=fun w=>by simpa using pW 0 (by omega) w
 go_enter func104,ntmps104;go_wp2;go_loopw[4] (fun i wr=>i=vI 0/\Below w.1.size w wr/\w.1.size<wr.1.size) (fun _ _=>0)
 case atStart=>exact⟨rfl,aK.alloc aU _,by simp⟩
 case round=>
  obtain⟨rfl,aB,dQ⟩:=hrel;go_wp2;go_ret;exact⟨rfl,aB,dQ⟩
theorem rF(w:World)(b off n cap:Nat)(xs:List S5)(hx:xs.length=n)(hn:n<=1048576)(hb:b<w.1.size)(hs:aY w b off xs):Calls prog 104 #[.slice (some ⟨b,off,none⟩) n cap] w fun e w'=>
  e=.returned (.slice (some ⟨w.1.size,0,none⟩) n n)/\Below w.1.size w w'/\w.1.size<w'.1.size/\aY w' w.1.size 0 xs/\Room w' w.1.size (n*5):=by
 have mQ:=pW n hn;go_enter func104,ntmps104;go_wp2
 go_loopw[4] (fun i wr=>∃k:Nat,k<=n/\i=vI k/\Below w.1.size w wr/\w.1.size<wr.1.size/\Room wr w.1.size (n*5)/\aY wr w.1.size 0 (xs.take k))
   (fun i _=>n-(intOf i).toNat)
 case atStart=>exact⟨0,Nat.zero_le _,rfl,aK.alloc aU _,by simp,iF _ _ _ _,fun i s e=>by simp at e⟩
 case round=>
  obtain⟨k,hk,rfl,aB,dQ,eB,lS⟩:=hrel;by_cases aN:k<n
  ·have IJ:=hs.below aB hb;obtain⟨s,fQ⟩:∃s,xs[k]?=some s:=⟨xs[k]'(by omega),by simp⟩
   obtain⟨c0,c1,c2,c3,c4⟩:=IJ k s fQ;clear IJ mQ;have K:=pI eB lS fQ aB;clear eB lS fQ aB;go_wp2_with fail;refine(FH _ s).mono ?_;rintro e w1 ⟨rfl,b1⟩;obtain⟨eB,lS,fQ,aB⟩:=K.out;have iK:=eB.below b1 dQ;have qQ:=lS.below b1 dQ;obtain⟨v0,d0,f0⟩:=iK (k*5) (by omega);obtain⟨v1,d1,f1⟩:=iK (k*5+1) (by omega);obtain⟨v2,d2,f2⟩:=iK (k*5+2) (by omega);obtain⟨v3,d3,f3⟩:=iK (k*5+3) (by omega);obtain⟨v4,d4,f4⟩:=iK (k*5+4) (by omega);clear eB lS fQ aB;have K2:=dw iK qQ;clear iK qQ;go_wp2;obtain⟨eB,lS,fQ,aB⟩:=K.out;obtain⟨iK,qQ⟩:=K2.out;have Kr:=aB.trans (b1.mono (Nat.le_of_lt dQ))
   refine⟨⟨k+1,by omega,by simp,((((Kr.setCell (p:=⟨w.1.size,k*5,none⟩) aU _).setCell (p:=⟨w.1.size,k*5+1,none⟩) aU _).setCell (p:=⟨w.1.size,k*5+2,none⟩) aU _).setCell (p:=⟨w.1.size,k*5+3,none⟩) aU _).setCell (p:=⟨w.1.size,k*5+4,none⟩) aU _,
    by have:=b1.size;simp[World.setCell];omega,((((iK.set _).set _).set _).set _).set _,qQ.put fQ iK (by omega)⟩,by simp[intOf];omega⟩
  ·have:k=n:=by omega
   subst this;have hd:decide (k<k)=false:=by simp
   go_wp2;go_ret;refine⟨rfl,aB,dQ,?_,eB⟩;rw[<-hx,List.take_length]at lS;exact lS
theorem uq(w:World)(a:OA)(n cap:Nat)(xs:List S5)(hn:n<=1048576)(hs:Sl w w.1.size a n xs):Calls prog 104 #[.slice a n cap] w fun e w'=>
  e=.returned (.slice (some ⟨w.1.size,0,none⟩) n n)/\Below w.1.size w w'/\w.1.size<w'.1.size/\aY w' w.1.size 0 xs/\Room w' w.1.size (n*5):=by
 obtain⟨h1,h2⟩:=hs;rcases h2 with rfl|⟨b,off,rfl,hb,hx⟩
 ·refine(uu w a cap).mono ?_;rintro e w' ⟨rfl,h,h'⟩;exact⟨rfl,h,h',(fun i s e=>by rw[List.eq_nil_of_length_eq_zero h1]at e;simp at e),fun j hj=>by omega⟩
 ·exact rF w b off n cap xs h1 hn hb hx
theorem DF(w:World)(a:OA)(n cap:Nat)(l:Nat)(hn:n<=maxLen)(hl:l<=1048576):Calls prog 83 #[.slice a n cap,vI (l:Int)] w fun e w'=>e=.returned (vI (gJ l n))/\w'=w:=by
 unfold maxLen at hn;by_cases h:n<=l
 ·rw[cu h];have d0:decide ((l:Int)-(n:Int)<0)=false:=by simp;omega
  go_enter func83,ntmps83;go_wp2;go_ret;have e:((l-n:Nat):Int)=(l:Int)-(n:Int):=by omega
  exact⟨by rw[e];rfl,rfl⟩
 ·rw[bI h];have d0:decide ((l:Int)-(n:Int)<0)=true:=by simp;omega
  go_enter func83,ntmps83;go_wp2;go_ret;exact⟨rfl,rfl⟩
theorem aV.iA(h:aV w b o s)(d:Nat)(os:Array Obj):aV (grow (redrawn w d) os) b o s:=
 ⟨cell_regrown h.c0 d os,cell_regrown h.c1 d os,cell_regrown h.c2 d os,cell_regrown h.c3 d os,cell_regrown h.c4 d os⟩
theorem vM(w:World)(s:S5):Calls prog 166 #[.agg #[vI s.b,vI s.e,vI s.g,.bool s.j,vI s.i],.agg #[vI s.b,vI s.e,vI s.g,.bool s.j,vI s.i]] w fun e w'=>
  e=.returned (.bool true)/\Below w.1.size w w':=by
 obtain⟨r,l,v,u,x⟩:=s;go_enter func166,ntmps166;go_wp2;go_ret;exact⟨rfl,(aK.alloc aU _).alloc (by simp) _⟩
theorem tq(w:World)(b off cap b' di aZ n:Nat)(xs:List S5)(hx:xs.length=n)(hn:n<=maxLen)(h1:aY w b off xs)(hb:b<w.1.size)(h2:aY w b' di xs)(fB:b'<w.1.size):
  Calls prog 123 #[.slice (some ⟨b,off,none⟩) n cap,.slice (some ⟨b',di,none⟩) n aZ] w fun e w'=>e=.returned (.bool true)/\Below w.1.size w w':=by
 unfold maxLen at hn;go_enter func123,ntmps123;go_wp2;go_loopw[5] (fun i wr=>∃k:Nat,k<=n/\i=vI k/\Below w.1.size w wr) (fun i _=>n-(intOf i).toNat)
 case atStart=>exact⟨0,Nat.zero_le _,rfl,aK⟩
 case round=>
  obtain⟨k,hk,rfl,aB⟩:=hrel;by_cases aN:k<n
  ·obtain⟨s,fQ⟩:∃s,xs[k]?=some s:=⟨xs[k]'(by omega),by simp⟩
   have t1:=(((h1 k s fQ).below aB hb).iA)
   have t2:=(((h2 k s fQ).below aB fB).iA)
   have c0:=fun d os=>(t1 d os).c0
   have c1:=fun d os=>(t1 d os).c1
   have c2:=fun d os=>(t1 d os).c2
   have c3:=fun d os=>(t1 d os).c3
   have c4:=fun d os=>(t1 d os).c4
   have e0:=fun d os=>(t2 d os).c0
   have e1:=fun d os=>(t2 d os).c1
   have e2:=fun d os=>(t2 d os).c2
   have e3:=fun d os=>(t2 d os).c3
   have e4:=fun d os=>(t2 d os).c4
   have cQ:∀d os,Calls prog 166 #[.agg #[vI s.b,vI s.e,vI s.g,.bool s.j,vI s.i],.agg #[vI s.b,vI s.e,vI s.g,.bool s.j,vI s.i]] (grow (redrawn wr d) os) fun e gH=>e=.returned (.bool true)/\∃p:Regrown,gH=grow (redrawn wr p.d) p.os:=fun d os=>Calls.regrown_of (vM _ s)
   have K:=af (aB);clear t1 t2 aB fQ h1 h2;go_wp2_with fail;refine gy ?_;repeat (quiet_step (exact cQ _ _))
   refine jb fun dq bu=>?_
   have bq:=below_regrown wr dq bu;go_wp2;exact⟨⟨k+1,by omega,by simp,K.out.trans (bq.mono K.out.size)⟩,by simp[intOf];omega⟩
  ·have:k=n:=by omega
   subst this;have hd:decide (k<k)=false:=by simp
   go_wp2;go_ret;exact⟨rfl,aB⟩
theorem lG(w:World)(a a':OA)(cap aZ:Nat):Calls prog 123 #[.slice a 0 cap,.slice a' 0 aZ] w fun e w'=>e=.returned (.bool true)/\Below w.1.size w w':=by
 go_enter func123,ntmps123;go_wp2;go_loopw[5] (fun i wr=>i=vI 0/\Below w.1.size w wr) (fun _ _=>0)
 case atStart=>exact⟨rfl,aK⟩
 case round=>
  obtain⟨rfl,aB⟩:=hrel;go_wp2;go_ret;exact⟨rfl,aB⟩
theorem vL(w:World)(a a':OA)(n cap aZ:Nat)(xs:List S5)(hn:n<=maxLen)(h1:Sl w w.1.size a n xs)(h2:Sl w w.1.size a' n xs):
  Calls prog 123 #[.slice a n cap,.slice a' n aZ] w fun e w'=>e=.returned (.bool true)/\Below w.1.size w w':=by
 obtain⟨hx,h1⟩:=h1;obtain⟨_,h2⟩:=h2;rcases h1 with rfl|⟨b,off,rfl,hb,h1⟩
 ·exact lG w a a' cap aZ
 ·rcases h2 with rfl|⟨b',di,rfl,fB,h2⟩
  ·exact lG w _ a' cap aZ
  ·exact tq w b off cap b' di aZ n xs hx hn h1 hb h2 fB
def mkSet(k:Int)(j:Nat):S5:=⟨k+5*(j:Int),k+5*(j:Int)+1,k+5*(j:Int)+1+1,(k+5*(j:Int)+1+1+1)%3==0,k+5*(j:Int)+1+1+1+1⟩
def iW(k:Int)(n:Nat):List S5:=(List.range n).map (mkSet k)
theorem qb{k:Int}{j:Nat}(h:j<n):(iW k n)[j]?=some (mkSet k j):=by simp[iW,h]
theorem iX(k:Int)(n:Nat):(iW k n).length=n:=by simp[iW]
theorem vV(w:World)(b n cap:Nat)(k:Int)(hn:n<=1048576)(hk:0<=k)(pJ:k<=1000000000)(hr:Room w b (n*5)):
  Calls prog 71 #[.slice (some ⟨b,0,none⟩) n cap,vI k] w fun e w'=>e=.returned (vI (k+5*(n:Int)))/\aX b w w'/\aY w' b 0 (iW k n)/\Room w' b (n*5):=by
 go_enter func71,ntmps71;go_wp2;go_loopw[1,5] (fun v1 v5 wr=>∃j:Nat,j<=n/\v5=vI j/\v1=vI (k+5*(j:Int))/\aX b w wr/\Room wr b (n*5)/\aY wr b 0 ((iW k n).take j)) (fun _ v5 _=>n-(intOf v5).toNat)
 case atStart=>exact⟨0,Nat.zero_le _,rfl,by simp,aX.refl _ _,hr,fun i s e=>by simp at e⟩
 case round=>
  obtain⟨j,hj,rfl,rfl,kQ,eB,mZ⟩:=hrel;by_cases aN:j<n
  ·obtain⟨v0,d0,f0⟩:=eB (j*5) (by omega);obtain⟨v1,d1,f1⟩:=eB (j*5+1) (by omega);obtain⟨v2,d2,f2⟩:=eB (j*5+2) (by omega);obtain⟨v3,d3,f3⟩:=eB (j*5+3) (by omega);obtain⟨v4,d4,f4⟩:=eB (j*5+4) (by omega);have K:=fP kQ eB mZ;clear kQ eB mZ hr;go_wp2;obtain⟨kQ,eB,mZ⟩:=K.out;refine⟨⟨j+1,by omega,by simp,by congr 1;push_cast;omega,((((kQ.setCell _ _).setCell _ _).setCell _ _).setCell _ _).setCell _ _,((((eB.set _).set _).set _).set _).set _,mZ.put (s:=mkSet k j) (qb aN) eB (by omega)⟩,by simp[intOf];omega⟩
  ·have:j=n:=by omega
   subst this;have hd:decide ((j:Int)<(j:Int))=false:=by simp
   rw[List.take_of_length_le (by rw[iX];omega)]at mZ;have K:=fP kQ mZ eB;clear kQ eB mZ hr;go_wp2;go_ret;exact⟨rfl,K.out.1,K.out.2.1,K.out.2.2⟩
theorem yn(w:World)(a:OA)(cap:Nat)(k:Int):Calls prog 71 #[.slice a 0 cap,vI k] w fun e w'=>e=.returned (vI k)/\w'=w:=by
 go_enter func71,ntmps71;go_wp2;go_loop[1,5] (fun v1 v5=>v1=vI k/\v5=vI 0) (fun _ _=>0)
 case atStart=>exact⟨rfl,rfl⟩
 case round=>
  obtain⟨rfl,rfl⟩:=hrel;go_wp2;go_ret;exact⟨rfl,rfl⟩
theorem vO(w:World)(a:OA)(n cap:Nat)(k:Int)(hn:n<=1048576)(hk:0<=k)(pJ:k<=1000000000)(hs:Sl w w.1.size a n (iW k n)):
  Calls prog 76 #[.slice a n cap,vI k] w fun e w'=>e=.returned (vI (k+5*(n:Int)))/\w'=w:=by
 obtain⟨_,hs⟩:=hs;go_enter func76,ntmps76;go_wp2;go_loop[1,5] (fun v1 v5=>∃j:Nat,j<=n/\v5=vI j/\v1=vI (k+5*(j:Int))) (fun _ v5=>n-(intOf v5).toNat)
 case atStart=>exact⟨0,Nat.zero_le _,rfl,by simp⟩
 case round=>
  obtain⟨j,hj,rfl,rfl⟩:=hrel;by_cases aN:j<n
  ·rcases hs with hs|⟨b,off,rfl,hb,h1⟩
   ·omega
   ·obtain⟨c0,c1,c2,c3,c4⟩:=h1 j (mkSet k j) (qb aN);simp only[mkSet]at c0 c1 c2 c3 c4;clear h1;go_wp2;exact⟨⟨j+1,by omega,by simp,by congr 1;push_cast;omega⟩,by simp[intOf];omega⟩
  ·have:j=n:=by omega
   subst this;have hd:decide ((j:Int)<(j:Int))=false:=by simp
   clear hs;go_wp2;go_ret;exact⟨rfl,rfl⟩
end tx
namespace tx
open Go.Proofs.Tryz
variable {B b n o off:Nat}{w w':World}
structure N5 where
 b:Int
 e:Int
 i:Int
 g:Int
 j:Bool
theorem Mf(w:World)(s:N5):Calls prog 140 #[.agg #[vI s.b,vI s.e,vI s.i,vI s.g,.bool s.j]] w fun e w'=>
  e=.returned (.agg #[vI s.b,vI s.e,vI s.i,vI s.g,.bool s.j])/\Below w.1.size w w':=by
 obtain⟨r,l,v,u,x⟩:=s;go_enter func140,ntmps140;go_wp2;refine bodyPost_ret (v:=.agg #[vI r,vI l,vI v,vI u,.bool x]) (by simp[results,results140,go_sem]) rfl ⟨rfl,?_⟩;exact((aK.alloc aU _).alloc (by simp) _).alloc (by simp;omega) _
structure aP(w:World)(b o:Nat)(s:N5):Prop where
 c0:w.cell? ⟨b,o,none⟩=some (vI s.b)
 c1:w.cell? ⟨b,o+1,none⟩=some (vI s.e)
 c2:w.cell? ⟨b,o+2,none⟩=some (vI s.i)
 c3:w.cell? ⟨b,o+3,none⟩=some (vI s.g)
 c4:w.cell? ⟨b,o+4,none⟩=some (.bool s.j)
theorem aP.below{s:N5}(h:aP w b o s)(hb:Below B w w')(hB:b<B):aP w' b o s:=
 ⟨by rw[hb.cell hB];exact h.c0,by rw[hb.cell hB];exact h.c1,by rw[hb.cell hB];exact h.c2,by rw[hb.cell hB];exact h.c3,by rw[hb.cell hB];exact h.c4⟩
def dK(w:World)(b off:Nat)(xs:List N5):Prop:=∀i s,xs[i]?=some s->aP w b (off+i*5) s
theorem dK.below{xs:List N5}(h:dK w b off xs)(hb:Below B w w')(hB:b<B):dK w' b off xs:=fun i s e=>(h i s e).below hb hB
def ky(w:World)(B:Nat)(a:OA)(n:Nat)(xs:List N5):Prop:=xs.length=n/\(n=0\/∃b off,a=some ⟨b,off,none⟩/\b<B/\dK w b off xs)
theorem ky.below{w w':World}{B:Nat}{a:OA}{n:Nat}{xs:List N5}(h:ky w B a n xs)(hb:Below B w w'):ky w' B a n xs:=by
 obtain⟨h1,h2⟩:=h;refine⟨h1,?_⟩;rcases h2 with h2|⟨b,off,ha,hB,hx⟩
 ·exact .inl h2
 ·exact .inr ⟨b,off,ha,hB,hx.below hb hB⟩
theorem ky.mono{B':Nat}{a:OA}{xs:List N5}(h:ky w B a n xs)(hB:B<=B'):ky w B' a n xs:=by
 obtain⟨h1,h2⟩:=h;refine⟨h1,?_⟩;rcases h2 with h2|⟨b,off,ha,hb,hx⟩
 ·exact .inl h2
 ·exact .inr ⟨b,off,ha,by omega,hx⟩
theorem dK.dS{xs:List N5}(h:dK w b off xs){p:Addr}(hp:p.block≠b)(v:Value):dK (w.setCell p v) b off xs:=fun i s e=>
 ⟨by rw[aJ hp];exact(h i s e).c0,by rw[aJ hp];exact(h i s e).c1,by rw[aJ hp];exact(h i s e).c2,by rw[aJ hp];exact(h i s e).c3,by rw[aJ hp];exact(h i s e).c4⟩
theorem aP.set{p:Nat}{s:N5}(h:aP w b o s)(hp:p<o\/o+5<=p)(v:Value):aP (w.setCell ⟨b,p,none⟩ v) b o s:=
 ⟨by rw[ae (by omega)];exact h.c0,by rw[ae (by omega)];exact h.c1,by rw[ae (by omega)];exact h.c2,by rw[ae (by omega)];exact h.c3,by rw[ae (by omega)];exact h.c4⟩
theorem Oy:(prog.info? 99).map (fun i=>(i.zero,i.size,i.bytes))=some (some (.agg #[vI 0,vI 0,vI 0,vI 0,.bool false]),5,40):=by kernel_rfl
theorem Cw(n:Nat)(hn:n<=1048576)(w:World):(Instr.makeSlice 88 (vI (n:Int)) (vI (n:Int))).run prog w=.ok (.slice (some ⟨w.1.size,0,none⟩) n n) (w.alloc (.cells (madeCells #[vI 0,vI 0,vI 0,vI 0,.bool false] (n*5)) 99)):=by
 obtain⟨i,hi,oQ⟩:=Option.map_eq_some_iff.1 Oy;simp only[Prod.mk.injEq]at oQ;obtain⟨hz,hs,hb⟩:=oQ;have:=run_make (P:=prog) w 88 99 i _ underlying88 hi hz .i64 .i64 (n:Int) (n:Int) (by omega) (by omega) (by rw[hb];omega) (by omega);rw[hs]at this;simpa[Value.cells]using this
theorem aP.put{v0 v1 v2 v3 v4:Value}(s:N5)(h0:w.cell? ⟨b,o,none⟩=some v0)(h1:w.cell? ⟨b,o+1,none⟩=some v1)(h2:w.cell? ⟨b,o+2,none⟩=some v2)(h3:w.cell? ⟨b,o+3,none⟩=some v3)(h4:w.cell? ⟨b,o+4,none⟩=some v4):
  aP (((((w.setCell ⟨b,o,none⟩ (vI s.b)).setCell ⟨b,o+1,none⟩ (vI s.e)).setCell ⟨b,o+2,none⟩ (vI s.i)).setCell ⟨b,o+3,none⟩ (vI s.g)).setCell ⟨b,o+4,none⟩ (.bool s.j)) b o s:=by
 refine⟨?_,?_,?_,?_,?_⟩
 ·rw[ae (by omega),ae (by omega),ae (by omega),ae (by omega)];exact ay h0
 ·rw[ae (by omega),ae (by omega),ae (by omega)];exact ay (by rw[ae (by omega)];exact h1)
 ·rw[ae (by omega),ae (by omega)];exact ay (by rw[ae (by omega),ae (by omega)];exact h2)
 ·rw[ae (by omega)];exact ay (by rw[ae (by omega),ae (by omega),ae (by omega)];exact h3)
 ·exact ay (by rw[ae (by omega),ae (by omega),ae (by omega),ae (by omega)];exact h4)
theorem dK.put{w:World}{b k:Nat}{xs:List N5}{s:N5}(h:dK w b 0 (xs.take k))(hs:xs[k]?=some s){m:Nat}(hr:Room w b m)(hm:k*5+5<=m):
  dK (((((w.setCell ⟨b,k*5,none⟩ (vI s.b)).setCell ⟨b,k*5+1,none⟩ (vI s.e)).setCell ⟨b,k*5+2,none⟩ (vI s.i)).setCell ⟨b,k*5+3,none⟩ (vI s.g)).setCell ⟨b,k*5+4,none⟩ (.bool s.j)) b 0 (xs.take (k+1)):=by
 intro i t e;rw[List.getElem?_take]at e;split at e
 ·rename_i hi;by_cases Ky:i=k
  ·subst Ky;rw[hs]at e;obtain rfl:=Option.some.inj e;obtain⟨v0,d0,_⟩:=hr (i*5) (by omega);obtain⟨v1,d1,_⟩:=hr (i*5+1) (by omega);obtain⟨v2,d2,_⟩:=hr (i*5+2) (by omega);obtain⟨v3,d3,_⟩:=hr (i*5+3) (by omega);obtain⟨v4,d4,_⟩:=hr (i*5+4) (by omega);simpa using aP.put s d0 d1 d2 d3 d4
  ·have:=h i t (by rw[List.getElem?_take,if_pos (by omega)];exact e);exact((((this.set (by omega) _).set (by omega) _).set (by omega) _).set (by omega) _).set (by omega) _
 ·cases e
theorem dK.aj{xs:List N5}(h:dK w b off xs)(e:w'.1[b]?=w.1[b]?):dK w' b off xs:=fun i s hs=>by
 obtain⟨c0,c1,c2,c3,c4⟩:=h i s hs;exact⟨(World.cell?_of_block (a:=⟨b,_,none⟩) e).trans c0,(World.cell?_of_block (a:=⟨b,_,none⟩) e).trans c1,(World.cell?_of_block (a:=⟨b,_,none⟩) e).trans c2,(World.cell?_of_block (a:=⟨b,_,none⟩) e).trans c3,(World.cell?_of_block (a:=⟨b,_,none⟩) e).trans c4⟩
theorem GL(w:World)(a:OA)(cap:Nat):Calls prog 103 #[.slice a 0 cap] w fun e w'=>
  e=.returned (.slice (some ⟨w.1.size,0,none⟩) 0 0)/\Below w.1.size w w'/\w.1.size<w'.1.size:=by
 have mQ:∀w:World,(Instr.makeSlice 88 (vI 0) (vI 0)).run prog w=.ok (.slice (some ⟨w.1.size,0,none⟩) 0 0) (w.alloc (.cells (madeCells #[vI 0,vI 0,vI 0,vI 0,.bool false] 0) 99)):=fun w=>by simpa using Cw 0 (by omega) w
 go_enter func103,ntmps103;go_wp2;go_loopw[4] (fun i wr=>i=vI 0/\Below w.1.size w wr/\w.1.size<wr.1.size) (fun _ _=>0)
 case atStart=>exact⟨rfl,aK.alloc aU _,by simp⟩
 case round=>
  obtain⟨rfl,aB,dQ⟩:=hrel;go_wp2;go_ret;exact⟨rfl,aB,dQ⟩
theorem ED(w:World)(b off n cap:Nat)(xs:List N5)(hx:xs.length=n)(hn:n<=1048576)(hb:b<w.1.size)(hs:dK w b off xs):Calls prog 103 #[.slice (some ⟨b,off,none⟩) n cap] w fun e w'=>
  e=.returned (.slice (some ⟨w.1.size,0,none⟩) n n)/\Below w.1.size w w'/\w.1.size<w'.1.size/\dK w' w.1.size 0 xs/\Room w' w.1.size (n*5):=by
 have mQ:=Cw n hn;go_enter func103,ntmps103;go_wp2
 go_loopw[4] (fun i wr=>∃k:Nat,k<=n/\i=vI k/\Below w.1.size w wr/\w.1.size<wr.1.size/\Room wr w.1.size (n*5)/\dK wr w.1.size 0 (xs.take k))
   (fun i _=>n-(intOf i).toNat)
 case atStart=>exact⟨0,Nat.zero_le _,rfl,aK.alloc aU _,by simp,iF _ _ _ _,fun i s e=>by simp at e⟩
 case round=>
  obtain⟨k,hk,rfl,aB,dQ,eB,lS⟩:=hrel;by_cases aN:k<n
  ·have IJ:=hs.below aB hb;obtain⟨s,fQ⟩:∃s,xs[k]?=some s:=⟨xs[k]'(by omega),by simp⟩
   obtain⟨c0,c1,c2,c3,c4⟩:=IJ k s fQ;clear IJ mQ;have K:=pI eB lS fQ aB;clear eB lS fQ aB;go_wp2_with fail;refine(Mf _ s).mono ?_;rintro e w1 ⟨rfl,b1⟩;obtain⟨eB,lS,fQ,aB⟩:=K.out;have iK:=eB.below b1 dQ;have qQ:=lS.below b1 dQ;obtain⟨v0,d0,f0⟩:=iK (k*5) (by omega);obtain⟨v1,d1,f1⟩:=iK (k*5+1) (by omega);obtain⟨v2,d2,f2⟩:=iK (k*5+2) (by omega);obtain⟨v3,d3,f3⟩:=iK (k*5+3) (by omega);obtain⟨v4,d4,f4⟩:=iK (k*5+4) (by omega);clear eB lS fQ aB;have K2:=dw iK qQ;clear iK qQ;go_wp2;obtain⟨eB,lS,fQ,aB⟩:=K.out;obtain⟨iK,qQ⟩:=K2.out;have Kr:=aB.trans (b1.mono (Nat.le_of_lt dQ))
   refine⟨⟨k+1,by omega,by simp,((((Kr.setCell (p:=⟨w.1.size,k*5,none⟩) aU _).setCell (p:=⟨w.1.size,k*5+1,none⟩) aU _).setCell (p:=⟨w.1.size,k*5+2,none⟩) aU _).setCell (p:=⟨w.1.size,k*5+3,none⟩) aU _).setCell (p:=⟨w.1.size,k*5+4,none⟩) aU _,
    by have:=b1.size;simp[World.setCell];omega,((((iK.set _).set _).set _).set _).set _,qQ.put fQ iK (by omega)⟩,by simp[intOf];omega⟩
  ·have:k=n:=by omega
   subst this;have hd:decide (k<k)=false:=by simp
   go_wp2;go_ret;refine⟨rfl,aB,dQ,?_,eB⟩;rw[<-hx,List.take_length]at lS;exact lS
theorem GK(w:World)(a:OA)(n cap:Nat)(xs:List N5)(hn:n<=1048576)(hs:ky w w.1.size a n xs):Calls prog 103 #[.slice a n cap] w fun e w'=>
  e=.returned (.slice (some ⟨w.1.size,0,none⟩) n n)/\Below w.1.size w w'/\w.1.size<w'.1.size/\dK w' w.1.size 0 xs/\Room w' w.1.size (n*5):=by
 obtain⟨h1,h2⟩:=hs;rcases h2 with rfl|⟨b,off,rfl,hb,hx⟩
 ·refine(GL w a cap).mono ?_;rintro e w' ⟨rfl,h,h'⟩;exact⟨rfl,h,h',(fun i s e=>by rw[List.eq_nil_of_length_eq_zero h1]at e;simp at e),fun j hj=>by omega⟩
 ·exact ED w b off n cap xs h1 hn hb hx
theorem Pn(w:World)(a:OA)(n cap:Nat)(l:Nat)(hn:n<=maxLen)(hl:l<=1048576):Calls prog 82 #[.slice a n cap,vI (l:Int)] w fun e w'=>e=.returned (vI (gJ l n))/\w'=w:=by
 unfold maxLen at hn;by_cases h:n<=l
 ·rw[cu h];have d0:decide ((l:Int)-(n:Int)<0)=false:=by simp;omega
  go_enter func82,ntmps82;go_wp2;go_ret;have e:((l-n:Nat):Int)=(l:Int)-(n:Int):=by omega
  exact⟨by rw[e];rfl,rfl⟩
 ·rw[bI h];have d0:decide ((l:Int)-(n:Int)<0)=true:=by simp;omega
  go_enter func82,ntmps82;go_wp2;go_ret;exact⟨rfl,rfl⟩
theorem aP.iA{s:N5}(h:aP w b o s)(d:Nat)(os:Array Obj):aP (grow (redrawn w d) os) b o s:=
 ⟨cell_regrown h.c0 d os,cell_regrown h.c1 d os,cell_regrown h.c2 d os,cell_regrown h.c3 d os,cell_regrown h.c4 d os⟩
theorem Ii(w:World)(s:N5):Calls prog 165 #[.agg #[vI s.b,vI s.e,vI s.i,vI s.g,.bool s.j],.agg #[vI s.b,vI s.e,vI s.i,vI s.g,.bool s.j]] w fun e w'=>
  e=.returned (.bool true)/\Below w.1.size w w':=by
 obtain⟨r,l,v,u,x⟩:=s;go_enter func165,ntmps165;go_wp2;go_ret;exact⟨rfl,(aK.alloc aU _).alloc (by simp) _⟩
theorem F5(w:World)(b off cap b' di aZ n:Nat)(xs:List N5)(hx:xs.length=n)(hn:n<=maxLen)(h1:dK w b off xs)(hb:b<w.1.size)(h2:dK w b' di xs)(fB:b'<w.1.size):
  Calls prog 122 #[.slice (some ⟨b,off,none⟩) n cap,.slice (some ⟨b',di,none⟩) n aZ] w fun e w'=>e=.returned (.bool true)/\Below w.1.size w w':=by
 unfold maxLen at hn;go_enter func122,ntmps122;go_wp2;go_loopw[5] (fun i wr=>∃k:Nat,k<=n/\i=vI k/\Below w.1.size w wr) (fun i _=>n-(intOf i).toNat)
 case atStart=>exact⟨0,Nat.zero_le _,rfl,aK⟩
 case round=>
  obtain⟨k,hk,rfl,aB⟩:=hrel;by_cases aN:k<n
  ·obtain⟨s,fQ⟩:∃s,xs[k]?=some s:=⟨xs[k]'(by omega),by simp⟩
   have t1:=(((h1 k s fQ).below aB hb).iA)
   have t2:=(((h2 k s fQ).below aB fB).iA)
   have c0:=fun d os=>(t1 d os).c0
   have c1:=fun d os=>(t1 d os).c1
   have c2:=fun d os=>(t1 d os).c2
   have c3:=fun d os=>(t1 d os).c3
   have c4:=fun d os=>(t1 d os).c4
   have e0:=fun d os=>(t2 d os).c0
   have e1:=fun d os=>(t2 d os).c1
   have e2:=fun d os=>(t2 d os).c2
   have e3:=fun d os=>(t2 d os).c3
   have e4:=fun d os=>(t2 d os).c4
   have cQ:∀d os,Calls prog 165 #[.agg #[vI s.b,vI s.e,vI s.i,vI s.g,.bool s.j],.agg #[vI s.b,vI s.e,vI s.i,vI s.g,.bool s.j]] (grow (redrawn wr d) os) fun e gH=>e=.returned (.bool true)/\∃p:Regrown,gH=grow (redrawn wr p.d) p.os:=fun d os=>Calls.regrown_of (Ii _ s)
   have K:=af (aB);clear t1 t2 aB fQ h1 h2;go_wp2_with fail;refine gy ?_;repeat (quiet_step (exact cQ _ _))
   refine jb fun dq bu=>?_
   have bq:=below_regrown wr dq bu;go_wp2;exact⟨⟨k+1,by omega,by simp,K.out.trans (bq.mono K.out.size)⟩,by simp[intOf];omega⟩
  ·have:k=n:=by omega
   subst this;have hd:decide (k<k)=false:=by simp
   go_wp2;go_ret;exact⟨rfl,aB⟩
theorem xL(w:World)(a a':OA)(cap aZ:Nat):Calls prog 122 #[.slice a 0 cap,.slice a' 0 aZ] w fun e w'=>e=.returned (.bool true)/\Below w.1.size w w':=by
 go_enter func122,ntmps122;go_wp2;go_loopw[5] (fun i wr=>i=vI 0/\Below w.1.size w wr) (fun _ _=>0)
 case atStart=>exact⟨rfl,aK⟩
 case round=>
  obtain⟨rfl,aB⟩:=hrel;go_wp2;go_ret;exact⟨rfl,aB⟩
theorem Ih(w:World)(a a':OA)(n cap aZ:Nat)(xs:List N5)(hn:n<=maxLen)(h1:ky w w.1.size a n xs)(h2:ky w w.1.size a' n xs):
  Calls prog 122 #[.slice a n cap,.slice a' n aZ] w fun e w'=>e=.returned (.bool true)/\Below w.1.size w w':=by
 obtain⟨hx,h1⟩:=h1;obtain⟨_,h2⟩:=h2;rcases h1 with rfl|⟨b,off,rfl,hb,h1⟩
 ·exact xL w a a' cap aZ
 ·rcases h2 with rfl|⟨b',di,rfl,fB,h2⟩
  ·exact xL w _ a' cap aZ
  ·exact F5 w b off cap b' di aZ n xs hx hn h1 hb h2 fB
def CR(k:Int)(j:Nat):N5:=⟨k+5*(j:Int),k+5*(j:Int)+1,k+5*(j:Int)+1+1,k+5*(j:Int)+1+1+1,(k+5*(j:Int)+1+1+1+1)%3==0⟩
def lv(k:Int)(n:Nat):List N5:=(List.range n).map (CR k)
theorem CS{k:Int}{j:Nat}(h:j<n):(lv k n)[j]?=some (CR k j):=by simp[lv,h]
theorem nW(k:Int)(n:Nat):(lv k n).length=n:=by simp[lv]
theorem Ja(w:World)(b n cap:Nat)(k:Int)(hn:n<=1048576)(hk:0<=k)(pJ:k<=1000000000)(hr:Room w b (n*5)):
  Calls prog 70 #[.slice (some ⟨b,0,none⟩) n cap,vI k] w fun e w'=>e=.returned (vI (k+5*(n:Int)))/\aX b w w'/\dK w' b 0 (lv k n)/\Room w' b (n*5):=by
 go_enter func70,ntmps70;go_wp2;go_loopw[1,5] (fun v1 v5 wr=>∃j:Nat,j<=n/\v5=vI j/\v1=vI (k+5*(j:Int))/\aX b w wr/\Room wr b (n*5)/\dK wr b 0 ((lv k n).take j)) (fun _ v5 _=>n-(intOf v5).toNat)
 case atStart=>exact⟨0,Nat.zero_le _,rfl,by simp,aX.refl _ _,hr,fun i s e=>by simp at e⟩
 case round=>
  obtain⟨j,hj,rfl,rfl,kQ,eB,mZ⟩:=hrel;by_cases aN:j<n
  ·obtain⟨v0,d0,f0⟩:=eB (j*5) (by omega);obtain⟨v1,d1,f1⟩:=eB (j*5+1) (by omega);obtain⟨v2,d2,f2⟩:=eB (j*5+2) (by omega);obtain⟨v3,d3,f3⟩:=eB (j*5+3) (by omega);obtain⟨v4,d4,f4⟩:=eB (j*5+4) (by omega);have K:=fP kQ eB mZ;clear kQ eB mZ hr;go_wp2;obtain⟨kQ,eB,mZ⟩:=K.out;refine⟨⟨j+1,by omega,by simp,by congr 1;push_cast;omega,((((kQ.setCell _ _).setCell _ _).setCell _ _).setCell _ _).setCell _ _,((((eB.set _).set _).set _).set _).set _,mZ.put (s:=CR k j) (CS aN) eB (by omega)⟩,by simp[intOf];omega⟩
  ·have:j=n:=by omega
   subst this;have hd:decide ((j:Int)<(j:Int))=false:=by simp
   rw[List.take_of_length_le (by rw[nW];omega)]at mZ;have K:=fP kQ mZ eB;clear kQ eB mZ hr;go_wp2;go_ret;exact⟨rfl,K.out.1,K.out.2.1,K.out.2.2⟩
theorem Eo(w:World)(a:OA)(cap:Nat)(k:Int):Calls prog 70 #[.slice a 0 cap,vI k] w fun e w'=>e=.returned (vI k)/\w'=w:=by
 go_enter func70,ntmps70;go_wp2;go_loop[1,5] (fun v1 v5=>v1=vI k/\v5=vI 0) (fun _ _=>0)
 case atStart=>exact⟨rfl,rfl⟩
 case round=>
  obtain⟨rfl,rfl⟩:=hrel;go_wp2;go_ret;exact⟨rfl,rfl⟩
theorem Iz(w:World)(a:OA)(n cap:Nat)(k:Int)(hn:n<=1048576)(hk:0<=k)(pJ:k<=1000000000)(hs:ky w w.1.size a n (lv k n)):
  Calls prog 75 #[.slice a n cap,vI k] w fun e w'=>e=.returned (vI (k+5*(n:Int)))/\w'=w:=by
 obtain⟨_,hs⟩:=hs;go_enter func75,ntmps75;go_wp2;go_loop[1,5] (fun v1 v5=>∃j:Nat,j<=n/\v5=vI j/\v1=vI (k+5*(j:Int))) (fun _ v5=>n-(intOf v5).toNat)
 case atStart=>exact⟨0,Nat.zero_le _,rfl,by simp⟩
 case round=>
  obtain⟨j,hj,rfl,rfl⟩:=hrel;by_cases aN:j<n
  ·rcases hs with hs|⟨b,off,rfl,hb,h1⟩
   ·omega
   ·obtain⟨c0,c1,c2,c3,c4⟩:=h1 j (CR k j) (CS aN);simp only[CR]at c0 c1 c2 c3 c4;clear h1;go_wp2;exact⟨⟨j+1,by omega,by simp,by congr 1;push_cast;omega⟩,by simp[intOf];omega⟩
  ·have:j=n:=by omega
   subst this;have hd:decide ((j:Int)<(j:Int))=false:=by simp
   clear hs;go_wp2;go_ret;exact⟨rfl,rfl⟩
end tx
namespace tx
open Go.Proofs.Tryz
variable {B B' n s:Nat}{P PR PS:Nat->Prop}{X Y w w':World}{a:OA}{xs:List S5}
structure T7 where
 id:Int
 l:Int
 o:Int
 q:Int
 a:List N5
 ai:List S5
 az:Int
abbrev jJ(a:Option Addr)(c:Nat)(b:Option Addr)(d:Nat)(t:T7):List Value:=[vI t.id,vI t.l,vI t.o,vI t.q,.slice a t.a.length c,.slice b t.ai.length d,vI t.az]
structure TV where
 ar:OA
 cr:Nat
 ah:OA
 ch:Nat
def TV.val(v:TV)(t:T7):Value:=.agg #[vI t.id,vI t.l,vI t.o,vI t.q,.slice v.ar t.a.length v.cr,.slice v.ah t.ai.length v.ch,vI t.az]
theorem Sl.later(h:Sl w w.1.size a n xs)(hb:Below w.1.size w w'):Sl w' w'.1.size a n xs:=(h.below hb).mono hb.size
theorem ky.later{xs:List N5}(h:ky w w.1.size a n xs)(hb:Below w.1.size w w'):ky w' w'.1.size a n xs:=(h.below hb).mono hb.size
structure uA(w:World)(v:TV)(t:T7):Prop where
 r:ky w w.1.size v.ar t.a.length t.a
 s:Sl w w.1.size v.ah t.ai.length t.ai
theorem uA.later{v:TV}{t:T7}(h:uA w v t)(hb:Below w.1.size w w'):uA w' v t:=⟨h.r.later hb,h.s.later hb⟩
structure TL(t:T7):Prop where
 r:t.a.length<=maxLen
 s:t.ai.length<=maxLen
def oW(w:World)(P:Nat->Prop)(a:OA)(xs:List N5):Prop:=xs=[]\/∃b,a=some ⟨b,0,none⟩/\P b/\b<w.1.size/\dK w b 0 xs/\Room w b (xs.length*5)
def mO(w:World)(P:Nat->Prop)(a:OA)(xs:List S5):Prop:=xs=[]\/∃b,a=some ⟨b,0,none⟩/\P b/\b<w.1.size/\aY w b 0 xs/\Room w b (xs.length*5)
theorem oW.aM{xs:List N5}(h:oW w P a xs)(hs:w.1.size<=w'.1.size)(hk:∀q,q<w.1.size->P q->w'.1[q]?=w.1[q]?):oW w' P a xs:=by
 rcases h with h|⟨b,ha,hp,hl,hn,hr⟩
 ·exact .inl h
 ·exact .inr ⟨b,ha,hp,Nat.lt_of_lt_of_le hl hs,hn.aj (hk b hl hp),hr.aj (hk b hl hp)⟩
theorem mO.aM(h:mO w P a xs)(hs:w.1.size<=w'.1.size)(hk:∀q,q<w.1.size->P q->w'.1[q]?=w.1[q]?):mO w' P a xs:=by
 rcases h with h|⟨b,ha,hp,hl,hn,hr⟩
 ·exact .inl h
 ·exact .inr ⟨b,ha,hp,Nat.lt_of_lt_of_le hl hs,hn.aj (hk b hl hp),hr.aj (hk b hl hp)⟩
theorem oW.sl{xs:List N5}(h:oW w P a xs):ky w w.1.size a xs.length xs:=by
 rcases h with e|⟨b,ha,_,hl,hn,_⟩
 ·exact⟨rfl,.inl (by rw[e];rfl)⟩
 ·exact⟨rfl,.inr ⟨b,0,ha,hl,hn⟩⟩
theorem mO.sl(h:mO w P a xs):Sl w w.1.size a xs.length xs:=by
 rcases h with e|⟨b,ha,_,hl,hn,_⟩
 ·exact⟨rfl,.inl (by rw[e];rfl)⟩
 ·exact⟨rfl,.inr ⟨b,0,ha,hl,hn⟩⟩
structure OT(w:World)(B:Nat)(v:TV)(t:T7)(PR PS:Nat->Prop):Prop where
 r:oW w PR v.ar t.a
 s:mO w PS v.ah t.ai
 rs:∀q,PR q->¬PS q
 rB:∀q,PR q->B<=q/\q<w.1.size
 sB:∀q,PS q->B<=q/\q<w.1.size
def lZ(PR PS:Nat->Prop)(q:Nat):Prop:=PR q\/PS q
theorem OT.of{v:TV}{t:T7}(h:OT w B v t PR PS){q:Nat}(hq:lZ PR PS q):B<=q/\q<w.1.size:=hq.elim (h.rB q) (h.sB q)
theorem OT.sl{v:TV}{t:T7}(h:OT w B v t PR PS):uA w v t:=⟨h.r.sl,h.s.sl⟩
theorem OT.aM{w w':World}{B:Nat}{v:TV}{t:T7}{PR PS:Nat->Prop}(h:OT w B v t PR PS)(hs:w.1.size<=w'.1.size)(hk:∀q,q<w.1.size->lZ PR PS q->w'.1[q]?=w.1[q]?):OT w' B v t PR PS:=
 ⟨h.r.aM hs (fun q hq hp=>hk q hq (.inl hp)),h.s.aM hs (fun q hq hp=>hk q hq (.inr hp)),h.rs,fun q hq=>⟨(h.rB q hq).1,Nat.lt_of_lt_of_le (h.rB q hq).2 hs⟩,fun q hq=>⟨(h.sB q hq).1,Nat.lt_of_lt_of_le (h.sB q hq).2 hs⟩⟩
theorem OT.later{v:TV}{t:T7}(h:OT w B v t PR PS)(hb:Below w.1.size w w'):OT w' B v t PR PS:=h.aM hb.size (fun q hq _=>hb.block q hq)
theorem OT.mono{v:TV}{t:T7}(h:OT w B v t PR PS)(hb:B'<=B):OT w B' v t PR PS:=⟨h.r,h.s,h.rs,fun q hq=>⟨Nat.le_trans hb (h.rB q hq).1,(h.rB q hq).2⟩,fun q hq=>⟨Nat.le_trans hb (h.sB q hq).1,(h.sB q hq).2⟩⟩
theorem OT.low{v:TV}{t:T7}(h:OT w B v t PR PS)(hb:∀q,lZ PR PS q->B'<=q):OT w B' v t PR PS:=⟨h.r,h.s,h.rs,fun q hq=>⟨hb q (.inl hq),(h.rB q hq).2⟩,fun q hq=>⟨hb q (.inr hq),(h.sB q hq).2⟩⟩
structure BT(X:World)(s:Nat)(v:TV)(t:T7):Prop where
 c0:X.cell? ⟨s,0,none⟩=some (vI t.id)
 c1:X.cell? ⟨s,1,none⟩=some (vI t.l)
 c2:X.cell? ⟨s,2,none⟩=some (vI t.o)
 c3:X.cell? ⟨s,3,none⟩=some (vI t.q)
 c4:X.cell? ⟨s,4,none⟩=some (.slice v.ar t.a.length v.cr)
 c5:X.cell? ⟨s,5,none⟩=some (.slice v.ah t.ai.length v.ch)
 c6:X.cell? ⟨s,6,none⟩=some (vI t.az)
 fz:∀j,X.frozen? ⟨s,j,none⟩=false
 lt:s<X.1.size
theorem BT.aj{v:TV}{t:T7}(h:BT X s v t)(hb:Y.1[s]?=X.1[s]?)(hs:X.1.size<=Y.1.size):BT Y s v t:=by
 have c:∀{j:Nat}{u:Value},X.cell? ⟨s,j,none⟩=some u->Y.cell? ⟨s,j,none⟩=some u:=fun {j u} h=>(World.cell?_of_block (a:=⟨s,j,none⟩) hb).trans h
 exact⟨c h.c0,c h.c1,c h.c2,c h.c3,c h.c4,c h.c5,c h.c6,fun j=>(World.frozen?_of_block (a:=⟨s,j,none⟩) hb).trans (h.fz j),Nat.lt_of_lt_of_le h.lt hs⟩
theorem BT.later{v:TV}{t:T7}(h:BT X s v t)(hb:Below X.1.size X Y):BT Y s v t:=h.aj (hb.block _ h.lt) hb.size
theorem BT.box(X:World)(v:TV)(t:T7)(T:TypeId):BT (X.alloc (.cells #[vI t.id,vI t.l,vI t.o,vI t.q,.slice v.ar t.a.length v.cr,.slice v.ah t.ai.length v.ch,vI t.az] T)) X.1.size v t:=by
 refine⟨by go_simp,by go_simp,by go_simp,by go_simp,by go_simp,by go_simp,by go_simp,fun j=>by go_simp,by simp⟩
theorem BT.zero(X:World)(T:TypeId):BT (X.alloc (.cells #[vI 0,vI 0,vI 0,vI 0,.slice none 0 0,.slice none 0 0,vI 0] T)) X.1.size ⟨none,0,none,0⟩ ⟨0,0,0,0,[],[],0⟩:=BT.box X ⟨none,0,none,0⟩ ⟨0,0,0,0,[],[],0⟩ T
def vz(t:T7):Nat:=t.a.length+t.ai.length
end tx
namespace tx
open Go.Proofs.Tryz
variable {X:World}{s:Nat}{t:T7}{v:TV}
theorem BT.dS(h:BT X s v t){p:Addr}(hp:p.block≠s)(u:Value):BT (X.setCell p u) s v t:=h.aj (Below.heap_setCell _ _ _ _ (fun e=>hp e.symm)) (by simp[World.setCell])
theorem BT.set0(h:BT X s v t)(z:Int):BT (X.setCell ⟨s,0,none⟩ (vI z)) s v ⟨z,t.l,t.o,t.q,t.a,t.ai,t.az⟩:=⟨ay h.c0,(ae (by omega)).trans h.c1,(ae (by omega)).trans h.c2,(ae (by omega)).trans h.c3,(ae (by omega)).trans h.c4,(ae (by omega)).trans h.c5,(ae (by omega)).trans h.c6,fun j=>by rw[World.frozen?_setCell];exact h.fz j,by simpa[World.setCell]using h.lt⟩
theorem BT.set1(h:BT X s v t)(z:Int):BT (X.setCell ⟨s,1,none⟩ (vI z)) s v ⟨t.id,z,t.o,t.q,t.a,t.ai,t.az⟩:=⟨(ae (by omega)).trans h.c0,ay h.c1,(ae (by omega)).trans h.c2,(ae (by omega)).trans h.c3,(ae (by omega)).trans h.c4,(ae (by omega)).trans h.c5,(ae (by omega)).trans h.c6,fun j=>by rw[World.frozen?_setCell];exact h.fz j,by simpa[World.setCell]using h.lt⟩
theorem BT.set2(h:BT X s v t)(z:Int):BT (X.setCell ⟨s,2,none⟩ (vI z)) s v ⟨t.id,t.l,z,t.q,t.a,t.ai,t.az⟩:=⟨(ae (by omega)).trans h.c0,(ae (by omega)).trans h.c1,ay h.c2,(ae (by omega)).trans h.c3,(ae (by omega)).trans h.c4,(ae (by omega)).trans h.c5,(ae (by omega)).trans h.c6,fun j=>by rw[World.frozen?_setCell];exact h.fz j,by simpa[World.setCell]using h.lt⟩
theorem BT.nq(h:BT X s v t)(z:Int):BT (X.setCell ⟨s,3,none⟩ (vI z)) s v ⟨t.id,t.l,t.o,z,t.a,t.ai,t.az⟩:=⟨(ae (by omega)).trans h.c0,(ae (by omega)).trans h.c1,(ae (by omega)).trans h.c2,ay h.c3,(ae (by omega)).trans h.c4,(ae (by omega)).trans h.c5,(ae (by omega)).trans h.c6,fun j=>by rw[World.frozen?_setCell];exact h.fz j,by simpa[World.setCell]using h.lt⟩
theorem BT.L8(h:BT X s v t)(a:OA)(c:Nat)(xs:List N5):BT (X.setCell ⟨s,4,none⟩ (.slice a xs.length c)) s ⟨a,c,v.ah,v.ch⟩ ⟨t.id,t.l,t.o,t.q,xs,t.ai,t.az⟩:=⟨(ae (by omega)).trans h.c0,(ae (by omega)).trans h.c1,(ae (by omega)).trans h.c2,(ae (by omega)).trans h.c3,ay h.c4,(ae (by omega)).trans h.c5,(ae (by omega)).trans h.c6,fun j=>by rw[World.frozen?_setCell];exact h.fz j,by simpa[World.setCell]using h.lt⟩
theorem BT.Dv(h:BT X s v t)(a:OA)(c:Nat)(xs:List S5):BT (X.setCell ⟨s,5,none⟩ (.slice a xs.length c)) s ⟨v.ar,v.cr,a,c⟩ ⟨t.id,t.l,t.o,t.q,t.a,xs,t.az⟩:=⟨(ae (by omega)).trans h.c0,(ae (by omega)).trans h.c1,(ae (by omega)).trans h.c2,(ae (by omega)).trans h.c3,(ae (by omega)).trans h.c4,ay h.c5,(ae (by omega)).trans h.c6,fun j=>by rw[World.frozen?_setCell];exact h.fz j,by simpa[World.setCell]using h.lt⟩
theorem BT.bo(h:BT X s v t)(z:Int):BT (X.setCell ⟨s,6,none⟩ (vI z)) s v ⟨t.id,t.l,t.o,t.q,t.a,t.ai,z⟩:=⟨(ae (by omega)).trans h.c0,(ae (by omega)).trans h.c1,(ae (by omega)).trans h.c2,(ae (by omega)).trans h.c3,(ae (by omega)).trans h.c4,(ae (by omega)).trans h.c5,ay h.c6,fun j=>by rw[World.frozen?_setCell];exact h.fz j,by simpa[World.setCell]using h.lt⟩
def iq(X:World)(s:Nat)(v:TV)(t:T7):World:=((((((X.setCell ⟨s,0,none⟩ (vI t.id)).setCell ⟨s,1,none⟩ (vI t.l)).setCell ⟨s,2,none⟩ (vI t.o)).setCell ⟨s,3,none⟩ (vI t.q)).setCell ⟨s,4,none⟩ (.slice v.ar t.a.length v.cr)).setCell ⟨s,5,none⟩ (.slice v.ah t.ai.length v.ch)).setCell ⟨s,6,none⟩ (vI t.az)
theorem BT.put{v0:TV}{t0:T7}(h:BT X s v0 t0)(v:TV)(t:T7):BT (iq X s v t) s v t:=((((((h.set0 t.id).set1 t.l).set2 t.o).nq t.q).L8 v.ar v.cr t.a).Dv v.ah v.ch t.ai).bo t.az
theorem jg(X:World)(s:Nat)(v:TV)(t:T7):(iq X s v t).1.size=X.1.size:=by simp[iq,World.setCell]
theorem fu{q:Nat}(hq:q≠s):(iq X s v t).1[q]?=X.1[q]?:=by
 unfold iq;exact(Below.heap_setCell _ _ _ _ hq).trans ((Below.heap_setCell _ _ _ _ hq).trans ((Below.heap_setCell _ _ _ _ hq).trans ((Below.heap_setCell _ _ _ _ hq).trans ((Below.heap_setCell _ _ _ _ hq).trans ((Below.heap_setCell _ _ _ _ hq).trans (Below.heap_setCell _ _ _ _ hq))))))
theorem cz{B:Nat}{w:World}(h:Below B w X)(hs:B<=s):Below B w (iq X s v t):=by
 unfold iq;exact((((((h.setCell (p:=⟨s,0,none⟩) hs _).setCell (p:=⟨s,1,none⟩) hs _).setCell (p:=⟨s,2,none⟩) hs _).setCell (p:=⟨s,3,none⟩) hs _).setCell (p:=⟨s,4,none⟩) hs _).setCell (p:=⟨s,5,none⟩) hs _).setCell (p:=⟨s,6,none⟩) hs _
end tx
namespace tx
open Go.Proofs.Tryz
end tx
namespace tx
open Go.Proofs.Tryz
def Yw(w:World)(t:T7)(e:Ending)(w':World):Prop:=∃(a4:OA) (c4:Nat) (h4:OA) (d4:Nat) (PR PS:Nat->Prop),e=.returned ((TV.mk a4 c4 h4 d4).val t)/\OT w' w.1.size ⟨a4,c4,h4,d4⟩ t PR PS/\Below w.1.size w w'/\t.a.length<=c4/\t.ai.length<=d4
theorem Pp(w:World)(v:TV)(t:T7)(hr:t.a.length<=1048576)(Vi:t.ai.length<=1048576)(h:uA w v t):
  Calls prog 53 #[v.val t] w (Yw w t):=by
 obtain⟨ar,cr,ah,ch⟩:=v;simp only[TV.val];obtain⟨W,hW⟩:=bO (((w.alloc (.cells #[vI t.id,vI t.l,vI t.o,vI t.q,.slice ar t.a.length cr,.slice ah t.ai.length ch,vI t.az] 81)).alloc (.cells #[vI 0,vI 0,vI 0,vI 0,.slice none 0 0,.slice none 0 0,vI 0] 91)).alloc (.cells #[vI t.id,vI t.l,vI t.o,vI t.q,.slice none 0 0,.slice none 0 0,vI 0] 91));obtain⟨W1,fA⟩:=bO ((w.alloc (.cells #[vI t.id,vI t.l,vI t.o,vI t.q,.slice ar t.a.length cr,.slice ah t.ai.length ch,vI t.az] 81)));have z1:W1.1.size=w.1.size+1:=by rw[fA];simp
 have x1:BT W1 w.1.size ⟨ar,cr,ah,ch⟩ t:=by rw[fA];exact BT.box w ⟨ar,cr,ah,ch⟩ t _
 have b1:Below w.1.size w W1:=by rw[fA];exact aK.alloc aU _
 obtain⟨W2,AU⟩:=bO (W1.alloc (.cells #[vI 0,vI 0,vI 0,vI 0,.slice none 0 0,.slice none 0 0,vI 0] 91));have b2:Below W1.1.size W1 W2:=by rw[AU];exact aK.alloc aU _
 have x2:BT W2 (w.1.size+1) ⟨none,0,none,0⟩ ⟨0,0,0,0,[],[],0⟩:=by rw[AU,<-z1];exact BT.zero W1 _
 have z2:W2.1.size=w.1.size+1+1:=by rw[AU];simp[z1]
 have UZ:W=W2.alloc (.cells #[vI t.id,vI t.l,vI t.o,vI t.q,.slice none 0 0,.slice none 0 0,vI 0] 91):=by rw[hW,AU,fA]
 have b3:Below W2.1.size W2 W:=by rw[UZ];exact aK.alloc aU _
 have yO:BT W (w.1.size+1+1) ⟨none,0,none,0⟩ ⟨t.id,t.l,t.o,t.q,[],[],0⟩:=by rw[UZ,<-z2];exact BT.box W2 ⟨none,0,none,0⟩ ⟨t.id,t.l,t.o,t.q,[],[],0⟩ _
 have sW:W.1.size=w.1.size+3:=by rw[UZ];simp[z2]
 have yA:=(x1.later b2).later b3;have yR:=x2.later b3;have bW:=(b1.trans (b2.mono b1.size)).trans (b3.mono (by omega));have c1:=GK W ar t.a.length cr t.a hr (h.r.later bW);have H:=QG yA yR yO sW bW h.s Vi;clear UZ x1 x2 z1 z2 b1 b2 b3 yA yR yO sW bW h Vi hr AU fA;go_enter func53,ntmps53;go_wp2_with fail;rw[<-hW];clear hW;refine c1.mono ?_;clear c1;rintro e w1 ⟨rfl,b1,l1,n1,r1⟩;obtain⟨yA,yR,yO,sW,bW,hs,hl⟩:=H.out;have Py:=yA.later b1;have VE:=yR.later b1;have eS:=yO.later b1;have c4:=eS.c4;have f4:=eS.fz 4;have a5:=(Py.dS (p:=⟨w.1.size+1+1,4,none⟩) (by dsimp only;omega) (.slice (some ⟨W.1.size,0,none⟩) t.a.length t.a.length)).c5;have B1:Below w.1.size w (w1.setCell ⟨w.1.size+1+1,4,none⟩ (.slice (some ⟨W.1.size,0,none⟩) t.a.length t.a.length)):=(bW.trans (b1.mono bW.size)).setCell (p:=⟨w.1.size+1+1,4,none⟩) (by dsimp only;omega) _;have c2:=uq (w1.setCell ⟨w.1.size+1+1,4,none⟩ (.slice (some ⟨W.1.size,0,none⟩) t.a.length t.a.length)) ah t.ai.length ch t.ai hl ((hs.later B1))
 have H1:Hid (BT (w1.setCell ⟨w.1.size+1+1,4,none⟩ (.slice (some ⟨W.1.size,0,none⟩) t.a.length t.a.length)) w.1.size ⟨ar,cr,ah,ch⟩ t/\BT (w1.setCell ⟨w.1.size+1+1,4,none⟩ (.slice (some ⟨W.1.size,0,none⟩) t.a.length t.a.length)) (w.1.size+1) ⟨none,0,none,0⟩ ⟨0,0,0,0,[],[],0⟩/\BT (w1.setCell ⟨w.1.size+1+1,4,none⟩ (.slice (some ⟨W.1.size,0,none⟩) t.a.length t.a.length)) (w.1.size+1+1) ⟨some ⟨W.1.size,0,none⟩,t.a.length,none,0⟩ ⟨t.id,t.l,t.o,t.q,t.a,[],0⟩/\W.1.size=w.1.size+3/\Below w.1.size w (w1.setCell ⟨w.1.size+1+1,4,none⟩ (.slice (some ⟨W.1.size,0,none⟩) t.a.length t.a.length))/\dK (w1.setCell ⟨w.1.size+1+1,4,none⟩ (.slice (some ⟨W.1.size,0,none⟩) t.a.length t.a.length)) W.1.size 0 t.a/\Room (w1.setCell ⟨w.1.size+1+1,4,none⟩ (.slice (some ⟨W.1.size,0,none⟩) t.a.length t.a.length)) W.1.size (t.a.length*5)/\W.1.size<(w1.setCell ⟨w.1.size+1+1,4,none⟩ (.slice (some ⟨W.1.size,0,none⟩) t.a.length t.a.length)).1.size):=
  ⟨Py.dS (by dsimp only;omega) _,VE.dS (by dsimp only;omega) _,eS.L8 _ _ t.a,sW,B1,n1.dS (by dsimp only;omega) _,r1.aj (Below.heap_setCell _ _ _ _ (by dsimp only;omega)),by simpa[World.setCell]using l1⟩
 clear yA yR yO sW bW hs hl Py VE eS B1 b1 l1 n1 r1 H;go_wp2_with fail;generalize (w1.setCell ⟨w.1.size+1+1,4,none⟩ (.slice (some ⟨W.1.size,0,none⟩) t.a.length t.a.length))=V1 at *;refine c2.mono ?_;clear c2 c4 f4 a5;rintro e w2 ⟨rfl,b2,l2,n2,r2⟩;obtain⟨yA,yR,yO,sW,bW,q1,q2,q3⟩:=H1.out;have SH:=yA.later b2;have VF:=yR.later b2;have eV:=yO.later b2;have eW:=eV.Dv (some ⟨V1.1.size,0,none⟩) t.ai.length t.ai;have PL:=SH.dS (p:=⟨w.1.size+1+1,5,none⟩) (by dsimp only;omega) (.slice (some ⟨V1.1.size,0,none⟩) t.ai.length t.ai.length);have VG:=VF.dS (p:=⟨w.1.size+1+1,5,none⟩) (by dsimp only;omega) (.slice (some ⟨V1.1.size,0,none⟩) t.ai.length t.ai.length);have zE:=eW.bo t.az;have VH:=VG.dS (p:=⟨w.1.size+1+1,6,none⟩) (by dsimp only;omega) (vI t.az);have jA:=VH.put ⟨some ⟨W.1.size,0,none⟩,t.a.length,some ⟨V1.1.size,0,none⟩,t.ai.length⟩ t;have k5:=eV.c5;have Vp:=eV.fz 5;have k6:=eW.c6;have AM:=eW.fz 6;have a6:=PL.c6;obtain⟨o0,o1,o2,o3,o4,o5,o6,_,_⟩:=zE;obtain⟨r0,r1,r2',r3,r4,r5,r6,fr,_⟩:=VH;have f0:=fr 0;have f1:=fr 1;have f2:=fr 2;have f3:=fr 3;have f4:=fr 4;have f5:=fr 5;have f6:=fr 6;simp only[iq]at jA;obtain⟨u0,u1,u2,u3,u4,u5,u6,_,_⟩:=jA;have KH:=xZ sW (bW.trans (b2.mono bW.size)) (q1.below b2 q3) (q2.below b2 q3) q3 l2 n2 r2;clear yA yR yO sW bW q1 q2 q3 SH VF eV eW PL VG b2 l2 n2 r2 fr H1;go_wp2
 refine bodyPost_ret (v:=.agg #[vI t.id,vI t.l,vI t.o,vI t.q,.slice (some ⟨W.1.size,0,none⟩) t.a.length t.a.length,.slice (some ⟨V1.1.size,0,none⟩) t.ai.length t.ai.length,vI t.az]) (by simp[results,results53,go_sem,u0,u1,u2,u3,u4,u5,u6]) rfl ?_;obtain⟨sW,bW,q1,q2,q3,q4,q5,q6⟩:=KH.out;refine⟨some ⟨W.1.size,0,none⟩,t.a.length,some ⟨V1.1.size,0,none⟩,t.ai.length,fun q=>q=W.1.size,fun q=>q=V1.1.size,rfl,?_,?_,Nat.le_refl _,Nat.le_refl _⟩
 ·have ot:OT w2 w.1.size ⟨some ⟨W.1.size,0,none⟩,t.a.length,some ⟨V1.1.size,0,none⟩,t.ai.length⟩ t (fun q=>q=W.1.size) (fun q=>q=V1.1.size):=
   ⟨.inr ⟨_,rfl,rfl,by omega,q1,q2⟩,.inr ⟨_,rfl,rfl,q4,q5,q6⟩,fun q hq hp=>by omega,fun q hq=>by omega,fun q hq=>by omega⟩
  have LH:=(ot.aM (w':=(w2.setCell ⟨w.1.size+1+1,5,none⟩ (.slice (some ⟨V1.1.size,0,none⟩) t.ai.length t.ai.length)).setCell ⟨w.1.size+1+1,6,none⟩ (vI t.az)) (by simp[World.setCell]) (fun q _ hq=>(Below.heap_setCell _ _ _ _ (by show q≠w.1.size+1+1;rcases hq with h|h<;>omega)).trans (Below.heap_setCell _ _ _ _ (by show q≠w.1.size+1+1;rcases hq with h|h<;>omega))))
  exact LH.aM (by simp[World.setCell]) (fun q _ hq=>fu (s:=w.1.size+1) (v:=⟨some ⟨W.1.size,0,none⟩,t.a.length,some ⟨V1.1.size,0,none⟩,t.ai.length⟩) (t:=t) (by rcases hq with h|h<;>omega))
 ·exact cz (s:=w.1.size+1) (v:=⟨some ⟨W.1.size,0,none⟩,t.a.length,some ⟨V1.1.size,0,none⟩,t.ai.length⟩) (t:=t) ((bW.setCell (p:=⟨w.1.size+1+1,5,none⟩) (by dsimp only;omega) _).setCell (p:=⟨w.1.size+1+1,6,none⟩) (by dsimp only;omega) _) (by omega)
end tx
namespace tx
open Go.Proofs.Tryz
theorem NU(w:World)(v v':TV)(t:T7)(hl:TL t)(h1:uA w v t)(h2:uA w v' t):Calls prog 66 #[v.val t,v'.val t] w fun e w'=>e=.returned (.bool true)/\Below w.1.size w w':=by
 obtain⟨ar,cr,ah,ch⟩:=v;obtain⟨cW,c9,cJ,ch'⟩:=v';simp only[TV.val];obtain⟨U,hU⟩:=bO (((w.alloc (.cells #[vI t.id,vI t.l,vI t.o,vI t.q,.slice ar t.a.length cr,.slice ah t.ai.length ch,vI t.az] 91)).alloc (.cells #[vI t.id,vI t.l,vI t.o,vI t.q,.slice cW t.a.length c9,.slice cJ t.ai.length ch',vI t.az] 91)));have z1:(w.alloc (.cells #[vI t.id,vI t.l,vI t.o,vI t.q,.slice ar t.a.length cr,.slice ah t.ai.length ch,vI t.az] 91)).1.size=w.1.size+1:=by simp
 have xB:BT U (w.1.size+1) ⟨cW,c9,cJ,ch'⟩ t:=by rw[hU,<-z1];exact BT.box _ ⟨cW,c9,cJ,ch'⟩ t _
 have xA:BT U w.1.size ⟨ar,cr,ah,ch⟩ t:=by rw[hU];exact(BT.box w ⟨ar,cr,ah,ch⟩ t _).later (aK.alloc aU _)
 have b0:Below w.1.size w U:=by rw[hU];exact(aK.alloc aU _).alloc (by simp) _
 have c1:=Ih U ar cW t.a.length cr c9 t.a hl.r (h1.later b0).r (h2.later b0).r;have H:=wL xA xB b0 h1 h2 hl;have q0:(t.id != t.id)=false:=by simp
 have q1:(t.l != t.l)=false:=by simp
 have q2:(t.o != t.o)=false:=by simp
 have q3:(t.q != t.q)=false:=by simp
 have q6:(t.az != t.az)=false:=by simp
 clear z1 xA xB b0 h1 h2 hl;go_enter func66,ntmps66;go_wp2_with fail;rw[<-hU];clear hU;refine c1.mono ?_;clear c1 q0 q1 q2 q3;rintro e w1 ⟨rfl,b1⟩;obtain⟨xA,xB,b0,h1,h2,hl⟩:=H.out;have bw:=b0.trans (b1.mono b0.size);have a5:=(xA.later b1).c5;have e5:=(xB.later b1).c5;have c2:=vL w1 ah cJ t.ai.length ch ch' t.ai hl.s (h1.later bw).s (h2.later bw).s;have H1:=fP (xA.later b1) (xB.later b1) bw;clear xA xB b0 h1 h2 hl b1 bw H;go_wp2_with fail;refine c2.mono ?_;clear c2 a5 e5;rintro e w2 ⟨rfl,b2⟩;have a6:=(H1.out.1.later b2).c6;have e6:=(H1.out.2.1.later b2).c6;have KE:=af (H1.out.2.2.trans (b2.mono H1.out.2.2.size));clear b2 H1;go_wp2;go_ret;exact⟨rfl,KE.out⟩
theorem Rn(w:World)(P:Nat->Prop)(a:OA)(cap:Nat)(xs:List N5)(k:Int)(hk:0<=k)(pJ:k<=1000000000)(hn:xs.length<=1048576)(h:oW w P a xs):
  Calls prog 70 #[.slice a xs.length cap,vI k] w fun e w'=>e=.returned (vI (k+5*(xs.length:Int)))/\aG P w w'/\oW w' P a (lv k xs.length):=by
 rcases h with rfl|⟨b,rfl,hp,hb,hx,hr⟩
 ·refine(Eo w a cap k).mono ?_;rintro e w' ⟨rfl,rfl⟩;exact⟨by simp,aG.refl _ _,.inl rfl⟩
 ·refine(Ja w b xs.length cap k hn hk pJ hr).mono ?_;rintro e w' ⟨rfl,ho,E8,yT⟩;exact⟨rfl,aG.jX ho hp,.inr ⟨b,rfl,hp,by rw[ho.size];exact hb,E8,by rw[nW];exact yT⟩⟩
theorem Ro(w:World)(P:Nat->Prop)(a:OA)(cap:Nat)(xs:List S5)(k:Int)(hk:0<=k)(pJ:k<=1000000000)(hn:xs.length<=1048576)(h:mO w P a xs):
  Calls prog 71 #[.slice a xs.length cap,vI k] w fun e w'=>e=.returned (vI (k+5*(xs.length:Int)))/\aG P w w'/\mO w' P a (iW k xs.length):=by
 rcases h with rfl|⟨b,rfl,hp,hb,hx,hr⟩
 ·refine(yn w a cap k).mono ?_;rintro e w' ⟨rfl,rfl⟩;exact⟨by simp,aG.refl _ _,.inl rfl⟩
 ·refine(vV w b xs.length cap k hn hk pJ hr).mono ?_;rintro e w' ⟨rfl,ho,E8,yT⟩;exact⟨rfl,aG.jX ho hp,.inr ⟨b,rfl,hp,by rw[ho.size];exact hb,E8,by rw[iX];exact yT⟩⟩
end tx
namespace tx
open Go.Proofs.Tryz
theorem XY(w:World)(v:TV)(t:T7)(l0:Nat)(Kz:l0<=1048576)(hl:TL t):Calls prog 44 #[v.val t,vI (l0:Int)] w fun e w'=>e=.returned (vI (gJ l0 (vz t)))/\Below w.1.size w w':=by
 obtain⟨ar,cr,ah,ch⟩:=v;simp only[TV.val];have b0:Below w.1.size w (w.alloc (.cells #[vI t.id,vI t.l,vI t.o,vI t.q,.slice ar t.a.length cr,.slice ah t.ai.length ch,vI t.az] 81)):=aK.alloc aU _;have B0:=af b0;have h1:=Pn (w.alloc (.cells #[vI t.id,vI t.l,vI t.o,vI t.q,.slice ar t.a.length cr,.slice ah t.ai.length ch,vI t.az] 81)) ar t.a.length cr l0 hl.r Kz;have h2:=fun W l=>DF W ah t.ai.length ch l hl.s
 have HS:Hid (vz t=t.a.length+t.ai.length):=rfl;clear b0 hl;by_cases g1:t.a.length<=l0
 ·rw[cu g1]at h1;have d1:decide (((l0-t.a.length:Nat):Int)<0)=false:=by simp
  have h3:=h2 (w.alloc (.cells #[vI t.id,vI t.l,vI t.o,vI t.q,.slice ar t.a.length cr,.slice ah t.ai.length ch,vI t.az] 81)) (l0-t.a.length) (by omega);by_cases g2:t.ai.length<=l0-t.a.length
  ·rw[cu g2]at h3;have d2:decide (((l0-t.a.length-t.ai.length:Nat):Int)<0)=false:=by simp
   have KE:Hid (gJ l0 (vz t)=((l0-t.a.length-t.ai.length:Nat):Int)):=by unfold Hid;rw[cu (by rw[HS.out];omega),HS.out];omega
   clear g1 g2;generalize l0-t.a.length-t.ai.length=l2 at *;generalize l0-t.a.length=l1 at *;go_enter func44,ntmps44;go_wp2_with fail;refine h1.mono ?_;rintro e w1 ⟨rfl,rfl⟩;go_wp2_with fail;refine h3.mono ?_;rintro e w2 ⟨rfl,rfl⟩;go_wp2;go_ret;exact⟨by rw[KE.out];rfl,B0.out⟩
  ·rw[bI g2]at h3;have KE:Hid (gJ l0 (vz t)=-1):=by unfold Hid;rw[bI (by rw[HS.out];omega)]
   clear g1 g2;generalize l0-t.a.length=l1 at *;go_enter func44,ntmps44;go_wp2_with fail;refine h1.mono ?_;rintro e w1 ⟨rfl,rfl⟩;go_wp2_with fail;refine h3.mono ?_;rintro e w2 ⟨rfl,rfl⟩;go_wp2;go_ret;exact⟨by rw[KE.out];rfl,B0.out⟩
 ·rw[bI g1]at h1;have KE:Hid (gJ l0 (vz t)=-1):=by unfold Hid;rw[bI (by rw[HS.out];omega)]
  clear g1;go_enter func44,ntmps44;go_wp2_with fail;refine h1.mono ?_;rintro e w1 ⟨rfl,rfl⟩;go_wp2;go_ret;exact⟨by rw[KE.out];rfl,B0.out⟩
end tx
section
open Go.Proofs.Tryz
variable {B b:Nat}{P:Nat->Prop}{a c:OA}{t:tx.T7}{w:World}
def KT.Ow(w:World)(B:Nat)(a:OA)(b:Nat)(c:OA)(d:Nat)(t:tx.T7)(P:Nat->Prop):Prop:=∃PR PS,tx.OT w B ⟨a,b,c,d⟩ t PR PS/\(∀q,tx.lZ PR PS q->P q)/\(∀q,P q->B<=q/\q<w.1.size)
theorem KT.Ow.of{d:Nat}(h:KT.Ow w B a b c d t P){q:Nat}(hq:P q):B<=q/\q<w.1.size:=by obtain⟨_,_,_,_,h3⟩:=h;exact h3 q hq
theorem KT.Ow.sl{d:Nat}(h:KT.Ow w B a b c d t P):tx.uA w ⟨a,b,c,d⟩ t:=by obtain⟨_,_,h1,_,_⟩:=h;exact h1.sl
theorem KT.Ow.aM{w:World}{B:Nat}{a:OA}{b:Nat}{c:OA}{d:Nat}{t:tx.T7}{P:Nat->Prop}{w':World}(h:KT.Ow w B a b c d t P)(hs:w.1.size<=w'.1.size)(hk:∀q,P q->w'.1[q]?=w.1[q]?):KT.Ow w' B a b c d t P:=by
 obtain⟨PR,PS,h1,h2,h3⟩:=h;exact⟨PR,PS,h1.aM hs (fun q _ hq=>hk q (h2 q hq)),h2,fun q hq=>⟨(h3 q hq).1,Nat.lt_of_lt_of_le (h3 q hq).2 hs⟩⟩
theorem KT.Ow.later{d:Nat}{w':World}(h:KT.Ow w B a b c d t P)(hb:Below w.1.size w w'):KT.Ow w' B a b c d t P:=h.aM hb.size (fun q hq=>hb.block q (h.of hq).2)
theorem KT.Ow.low{d:Nat}{B':Nat}(h:KT.Ow w B a b c d t P)(hb:B'<=B):KT.Ow w B' a b c d t P:=by
 obtain⟨PR,PS,h1,h2,h3⟩:=h;exact⟨PR,PS,h1.mono hb,h2,fun q hq=>⟨Nat.le_trans hb (h3 q hq).1,(h3 q hq).2⟩⟩
theorem KT.ow{d:Nat}{PR PS:Nat->Prop}(h:tx.OT w B ⟨a,b,c,d⟩ t PR PS):KT.Ow w B a b c d t (tx.lZ PR PS):=⟨PR,PS,h,fun _ hq=>hq,fun _ hq=>h.of hq⟩
def KT.S(t:tx.T7):Prop:=t.a.length<=1048576/\t.ai.length<=1048576
theorem KT.to(X:World)(a:OA)(b:Nat)(c:OA)(d:Nat)(t:tx.T7)(ht:KT.S t)(h:tx.uA X ⟨a,b,c,d⟩ t):Calls prog 53 #[.agg #[vI t.id,vI t.l,vI t.o,vI t.q,.slice a t.a.length b,.slice c t.ai.length d,vI t.az]] X fun e w'=>
  ∃(a:OA) (b:Nat) (c:OA) (d:Nat) (P:Nat->Prop),e=.returned (.agg #[vI t.id,vI t.l,vI t.o,vI t.q,.slice a t.a.length b,.slice c t.ai.length d,vI t.az])/\KT.Ow w' X.1.size a b c d t P/\Below X.1.size X w':=by
 have hh:=tx.Pp X ⟨a,b,c,d⟩ t ht.1 ht.2 h;simp only[tx.TV.val]at hh;refine hh.mono ?_;rintro e w' ⟨a,b,c,d,PR,PS,rfl,o,bl,_,_⟩;exact⟨a,b,c,d,_,rfl,KT.ow o,bl⟩
theorem KT.S.tl(h:KT.S t):tx.TL t:=⟨by have:=h.1;unfold maxLen;omega,by have:=h.2;unfold maxLen;omega⟩
theorem KT.eq(X:World)(a:OA)(b:Nat)(c:OA)(d:Nat)(a':OA)(b':Nat)(c':OA)(d':Nat)(t:tx.T7)(ht:KT.S t)(h1:tx.uA X ⟨a,b,c,d⟩ t)(h2:tx.uA X ⟨a',b',c',d'⟩ t):Calls prog 66 #[.agg #[vI t.id,vI t.l,vI t.o,vI t.q,.slice a t.a.length b,.slice c t.ai.length d,vI t.az],.agg #[vI t.id,vI t.l,vI t.o,vI t.q,.slice a' t.a.length b',.slice c' t.ai.length d',vI t.az]] X fun e w'=>e=.returned (.bool true)/\Below X.1.size X w':=by
 have hh:=tx.NU X ⟨a,b,c,d⟩ ⟨a',b',c',d'⟩ t ht.tl h1 h2;simp only[tx.TV.val]at hh;exact hh
theorem KT.nt(X:World)(a:OA)(b:Nat)(c:OA)(d:Nat)(t:tx.T7)(l:Nat)(Kz:l<=1048576)(hl:tx.TL t):Calls prog 44 #[.agg #[vI t.id,vI t.l,vI t.o,vI t.q,.slice a t.a.length b,.slice c t.ai.length d,vI t.az],vI (l:Int)] X fun e w'=>e=.returned (vI (gJ l (tx.vz t)))/\Below X.1.size X w':=by
 have hh:=tx.XY X ⟨a,b,c,d⟩ t l Kz hl;simp only[tx.TV.val]at hh;exact hh
def iO:Kd tx.T7 tx.TV where
 n:=7
 cells v t:=(tx.jJ v.ar v.cr v.ah v.ch t)
 len:=fun _ _=>rfl
 Rd:=tx.uA
 Ow w B v t P:=KT.Ow w B v.ar v.cr v.ah v.ch t P
 later:=fun h b=>h.later b
 sl:=fun h=>h.sl
 of:=fun h hq=>h.of hq
 aM:=fun h hs hk=>h.aM hs hk
 low:=fun h hb=>h.low hb
end
section
open Go.Proofs.Tryz
theorem Q7:(prog.info? 91).map (fun i=>(i.zero,i.size,i.bytes))=some (some (.agg #[vI 0,vI 0,vI 0,vI 0,.slice none 0 0,.slice none 0 0,vI 0]),7,88):=by kernel_rfl
theorem Rl(n:Nat)(hn:n<=1048576)(w:World):(Instr.makeSlice 30 (vI (n:Int)) (vI (n:Int))).run prog w=.ok (.slice (some ⟨w.1.size,0,none⟩) n n) (w.alloc (.cells (madeCells #[vI 0,vI 0,vI 0,vI 0,.slice none 0 0,.slice none 0 0,vI 0] (n*7)) 91)):=by
 obtain⟨i,hi,oQ⟩:=Option.map_eq_some_iff.1 Q7;simp only[Prod.mk.injEq]at oQ;obtain⟨hz,hs,hb⟩:=oQ;have:=run_make (P:=prog) w 30 91 i _ underlying30 hi hz .i64 .i64 (n:Int) (n:Int) (by omega) (by omega) (by rw[hb];omega) (by omega);rw[hs]at this;simpa[Value.cells]using this
theorem yP.to(w:World)(a:OA)(cap:Nat)(xs:List tx.T7)(hn:xs.length<=1048576)(ht:∀d∈xs,KT.S d)(hs:iO.vG w a xs):Calls prog 22 #[.slice a xs.length cap] w fun e w'=>
  ∃P,e=.returned (.slice (some ⟨w.1.size,0,none⟩) xs.length xs.length)/\iO.xm w' w.1.size (some ⟨w.1.size,0,none⟩) xs P/\Below w.1.size w w':=by
 have mQ:=Rl xs.length hn;go_enter func22,ntmps22;go_wp2;go_loopw[4] (fun i wr=>∃(j:Nat) (g:Nat->Nat->Prop),j<=xs.length/\i=vI j/\Below w.1.size w wr/\w.1.size<wr.1.size/\iO.Part wr w.1.size w.1.size xs.length (xs.take j) g) (fun i _=>xs.length-(intOf i).toNat)
 case atStart=>exact⟨0,fun _ _=>False,Nat.zero_le _,rfl,aK.alloc aU _,by simp,by rw[List.take_zero];exact Kd.Part.nil _ _ (iF _ _ _ _)⟩
 case round=>
  obtain⟨j,g,hj,rfl,aB,dQ,ze⟩:=hrel;by_cases aN:j<xs.length
  ·obtain⟨d,hd⟩:∃d,xs[j]?=some d:=⟨_,List.getElem?_eq_getElem aN⟩
   rcases hs with hs|⟨b,off,rfl,hb,h1⟩
   ·rw[hs]at aN;simp at aN
   obtain⟨⟨c0,c1,c2,c3⟩,bg,iw⟩:=h1 j d hd;have e0:=(aB.cell (p:=⟨b,off+j*7,none⟩) hb).trans (bg 0 _ rfl);have e1:=(aB.cell (p:=⟨b,off+j*7+1,none⟩) hb).trans (bg 1 _ rfl);have e2:=(aB.cell (p:=⟨b,off+j*7+2,none⟩) hb).trans (bg 2 _ rfl);have e3:=(aB.cell (p:=⟨b,off+j*7+3,none⟩) hb).trans (bg 3 _ rfl);have e4:=(aB.cell (p:=⟨b,off+j*7+4,none⟩) hb).trans (bg 4 _ rfl);have e5:=(aB.cell (p:=⟨b,off+j*7+5,none⟩) hb).trans (bg 5 _ rfl);have e6:=(aB.cell (p:=⟨b,off+j*7+6,none⟩) hb).trans (bg 6 _ rfl);have jo:=KT.to wr c0 c1 c2 c3 d (ht d (List.mem_of_getElem? hd)) (iO.later iw aB);have KH:=nE ze aB dQ (show xs.take (j+1)=xs.take j++[d] by rw[List.take_add_one,hd];rfl) (show(xs.take j).length=j by rw[List.length_take];omega);have jn:(j:Int)<(xs.length:Int):=by omega
   clear ze aB mQ h1 ht bg iw hd;go_wp2_with fail;refine jo.mono ?_;clear jo e0 e1 e2 e3 e4 e5 e6;rintro e w1 ⟨u0,u1,u2,u3,P,rfl,ho,b1⟩;have Oi:=KH.out.1.later b1 KH.out.2.2.1;have rU:=Oi.rm;have jt:j*7+7<=xs.length*7:=by omega
   obtain⟨z0,d0,f0⟩:∃v,w1.cell? ⟨w.1.size,j*7,none⟩=some v/\w1.frozen? ⟨w.1.size,j*7,none⟩=false:=rU (j*7+0) (show _<xs.length*7 by omega);obtain⟨z1,d1,f1⟩:∃v,w1.cell? ⟨w.1.size,j*7+1,none⟩=some v/\w1.frozen? ⟨w.1.size,j*7+1,none⟩=false:=rU (j*7+1) (show _<xs.length*7 by omega);obtain⟨z2,d2,f2⟩:∃v,w1.cell? ⟨w.1.size,j*7+2,none⟩=some v/\w1.frozen? ⟨w.1.size,j*7+2,none⟩=false:=rU (j*7+2) (show _<xs.length*7 by omega);obtain⟨z3,d3,f3⟩:∃v,w1.cell? ⟨w.1.size,j*7+3,none⟩=some v/\w1.frozen? ⟨w.1.size,j*7+3,none⟩=false:=rU (j*7+3) (show _<xs.length*7 by omega);obtain⟨z4,d4,f4⟩:∃v,w1.cell? ⟨w.1.size,j*7+4,none⟩=some v/\w1.frozen? ⟨w.1.size,j*7+4,none⟩=false:=rU (j*7+4) (show _<xs.length*7 by omega);obtain⟨z5,d5,f5⟩:∃v,w1.cell? ⟨w.1.size,j*7+5,none⟩=some v/\w1.frozen? ⟨w.1.size,j*7+5,none⟩=false:=rU (j*7+5) (show _<xs.length*7 by omega);obtain⟨z6,d6,f6⟩:∃v,w1.cell? ⟨w.1.size,j*7+6,none⟩=some v/\w1.frozen? ⟨w.1.size,j*7+6,none⟩=false:=rU (j*7+6) (show _<xs.length*7 by omega);have K1:Hid (iO.Part w1 w.1.size w.1.size xs.length (xs.take j) g/\iO.Ow w1 wr.1.size ⟨u0,u1,u2,u3⟩ d P/\Below wr.1.size wr w1):=⟨Oi,ho,b1⟩
   clear Oi ho b1 rU jt;go_wp2;obtain⟨k1,k2,k3,k4,k5⟩:=KH.out;obtain⟨p1,p2,p3⟩:=K1.out;have PE:=p1.push (by omega) ⟨u0,u1,u2,u3⟩ d P (iO.low p2 (Nat.le_of_lt k3)) (fun q hq=>by have:=(iO.of p2 hq).1;omega) (fun i q hi hq TJ=>by have:=(k1.gq hi hq).2;have:=(iO.of p2 TJ).1;omega);rw[k5,<-k4]at PE;have Wx:Below w.1.size w (cO w1 w.1.size (j*7) (tx.jJ u0 u1 u2 u3 d)):=aI aU _ _ _ (k2.trans (p3.mono k2.size));have WX:w.1.size<(cO w1 w.1.size (j*7) (tx.jJ u0 u1 u2 u3 d)).1.size:=by rw[aS];exact Nat.lt_of_lt_of_le k3 p3.size
   exact⟨⟨j+1,_,by omega,by simp,Wx,WX,PE⟩,by simp[intOf];omega⟩
  ·obtain rfl:j=xs.length:=by omega
   have hd:decide ((xs.length:Int)<(xs.length:Int))=false:=by simp
   rw[List.take_length]at ze;have KH:=fP ze aB dQ;clear ze aB hs mQ ht;go_wp2;go_ret;exact⟨_,rfl,KH.out.1.own aU KH.out.2.2,KH.out.2.1⟩
theorem yP.eq(w:World)(a a':OA)(cap aZ:Nat)(xs:List tx.T7)(hn:xs.length<=1048576)(ht:∀d∈xs,KT.S d)(h1:iO.vG w a xs)(h2:iO.vG w a' xs):Calls prog 31 #[.slice a xs.length cap,.slice a' xs.length aZ] w fun e w'=>e=.returned (.bool true)/\Below w.1.size w w':=by
 go_enter func31,ntmps31;go_wp2;go_loopw[5] (fun i wr=>∃j:Nat,j<=xs.length/\i=vI j/\Below w.1.size w wr) (fun i _=>xs.length-(intOf i).toNat)
 case atStart=>exact⟨0,Nat.zero_le _,rfl,aK⟩
 case round=>
  obtain⟨j,hj,rfl,aB⟩:=hrel;by_cases aN:j<xs.length
  ·obtain⟨d,hd⟩:∃d,xs[j]?=some d:=⟨_,List.getElem?_eq_getElem aN⟩
   rcases h1 with h1|⟨b,off,rfl,hb,h1⟩
   ·rw[h1]at aN;simp at aN
   ·rcases h2 with h2|⟨b',di,rfl,fB,h2⟩
    ·rw[h2]at aN;simp at aN
    ·obtain⟨⟨c0,c1,c2,c3⟩,bg,iw⟩:=h1 j d hd;obtain⟨⟨b0,b1,b2,b3⟩,uO,tJ⟩:=h2 j d hd;have x0:=fun dd os=>((below_regrown wr dd os).cell (p:=⟨b,off+j*7,none⟩) (Nat.lt_of_lt_of_le hb aB.size)).trans ((aB.cell (p:=⟨b,off+j*7,none⟩) hb).trans (bg 0 _ rfl))
     have x1:=fun dd os=>((below_regrown wr dd os).cell (p:=⟨b,off+j*7+1,none⟩) (Nat.lt_of_lt_of_le hb aB.size)).trans ((aB.cell (p:=⟨b,off+j*7+1,none⟩) hb).trans (bg 1 _ rfl))
     have x2:=fun dd os=>((below_regrown wr dd os).cell (p:=⟨b,off+j*7+2,none⟩) (Nat.lt_of_lt_of_le hb aB.size)).trans ((aB.cell (p:=⟨b,off+j*7+2,none⟩) hb).trans (bg 2 _ rfl))
     have x3:=fun dd os=>((below_regrown wr dd os).cell (p:=⟨b,off+j*7+3,none⟩) (Nat.lt_of_lt_of_le hb aB.size)).trans ((aB.cell (p:=⟨b,off+j*7+3,none⟩) hb).trans (bg 3 _ rfl))
     have x4:=fun dd os=>((below_regrown wr dd os).cell (p:=⟨b,off+j*7+4,none⟩) (Nat.lt_of_lt_of_le hb aB.size)).trans ((aB.cell (p:=⟨b,off+j*7+4,none⟩) hb).trans (bg 4 _ rfl))
     have x5:=fun dd os=>((below_regrown wr dd os).cell (p:=⟨b,off+j*7+5,none⟩) (Nat.lt_of_lt_of_le hb aB.size)).trans ((aB.cell (p:=⟨b,off+j*7+5,none⟩) hb).trans (bg 5 _ rfl))
     have x6:=fun dd os=>((below_regrown wr dd os).cell (p:=⟨b,off+j*7+6,none⟩) (Nat.lt_of_lt_of_le hb aB.size)).trans ((aB.cell (p:=⟨b,off+j*7+6,none⟩) hb).trans (bg 6 _ rfl))
     have y0:=fun dd os=>((below_regrown wr dd os).cell (p:=⟨b',di+j*7,none⟩) (Nat.lt_of_lt_of_le fB aB.size)).trans ((aB.cell (p:=⟨b',di+j*7,none⟩) fB).trans (uO 0 _ rfl))
     have y1:=fun dd os=>((below_regrown wr dd os).cell (p:=⟨b',di+j*7+1,none⟩) (Nat.lt_of_lt_of_le fB aB.size)).trans ((aB.cell (p:=⟨b',di+j*7+1,none⟩) fB).trans (uO 1 _ rfl))
     have y2:=fun dd os=>((below_regrown wr dd os).cell (p:=⟨b',di+j*7+2,none⟩) (Nat.lt_of_lt_of_le fB aB.size)).trans ((aB.cell (p:=⟨b',di+j*7+2,none⟩) fB).trans (uO 2 _ rfl))
     have y3:=fun dd os=>((below_regrown wr dd os).cell (p:=⟨b',di+j*7+3,none⟩) (Nat.lt_of_lt_of_le fB aB.size)).trans ((aB.cell (p:=⟨b',di+j*7+3,none⟩) fB).trans (uO 3 _ rfl))
     have y4:=fun dd os=>((below_regrown wr dd os).cell (p:=⟨b',di+j*7+4,none⟩) (Nat.lt_of_lt_of_le fB aB.size)).trans ((aB.cell (p:=⟨b',di+j*7+4,none⟩) fB).trans (uO 4 _ rfl))
     have y5:=fun dd os=>((below_regrown wr dd os).cell (p:=⟨b',di+j*7+5,none⟩) (Nat.lt_of_lt_of_le fB aB.size)).trans ((aB.cell (p:=⟨b',di+j*7+5,none⟩) fB).trans (uO 5 _ rfl))
     have y6:=fun dd os=>((below_regrown wr dd os).cell (p:=⟨b',di+j*7+6,none⟩) (Nat.lt_of_lt_of_le fB aB.size)).trans ((aB.cell (p:=⟨b',di+j*7+6,none⟩) fB).trans (uO 6 _ rfl))
     have cQ:=fun dd os=>Calls.regrown_of (KT.eq _ c0 c1 c2 c3 b0 b1 b2 b3 d (ht d (List.mem_of_getElem? hd)) (iO.later iw (aB.trans ((below_regrown wr dd os).mono aB.size))) (iO.later tJ (aB.trans ((below_regrown wr dd os).mono aB.size))))
     have K:Hid (Below w.1.size w wr):=aB;have jn:(j:Int)<(xs.length:Int):=by omega
     clear bg uO iw tJ aB h1 h2 ht hd;go_wp2_with fail;refine gy ?_;repeat (go_big_quiet_step (exact cQ _ _))
     refine jb fun dq bu=>?_
     have bq:=below_regrown wr dq bu;go_wp2;exact⟨⟨j+1,by omega,by simp,K.out.trans (bq.mono K.out.size)⟩,by simp[intOf];omega⟩
  ·obtain rfl:j=xs.length:=by omega
   have hd:decide ((xs.length:Int)<(xs.length:Int))=false:=by simp
   clear h1 h2 ht;go_wp2;go_ret;exact⟨rfl,aB⟩
def yP.nN(xs:List tx.T7):Nat:=(xs.map fun d=>tx.vz d).sum
theorem yP.sz(w:World)(a:OA)(cap:Nat)(xs:List tx.T7)(l:Nat)(Kz:l<=1048576)(hn:xs.length<=maxLen)(hl:∀d∈xs,tx.TL d)(hs:iO.vG w a xs):
  Calls prog 16 #[.slice a xs.length cap,vI (l:Int)] w fun e w'=>e=.returned (vI (gJ l (xs.length+yP.nN xs)))/\Below w.1.size w w':=by
 have Ec:=hn;unfold maxLen at Ec;by_cases h0:xs.length<=l
 ·have d0:decide ((l:Int)-(xs.length:Int)<0)=false:=by simp;omega
  go_enter func16,ntmps16;go_wp2;go_loopw[1,5] (fun v1 v5 wr=>∃j:Nat,j<=xs.length/\v5=vI j/\xs.length+yP.nN (xs.take j)<=l/\v1=vI ((l-(xs.length+yP.nN (xs.take j)):Nat):Int)/\Below w.1.size w wr) (fun _ v5 _=>xs.length-(intOf v5).toNat)
  case atStart=>exact⟨0,Nat.zero_le _,rfl,by simpa[yP.nN]using h0,by simp[yP.nN];try omega,aK⟩
  case round=>
   obtain⟨j,hj,rfl,hle,rfl,aB⟩:=hrel;have KL:Hid (xs.length+yP.nN (xs.take j)<=l):=hle;by_cases aN:j<xs.length
   ·obtain⟨d,hd⟩:∃d,xs[j]?=some d:=⟨_,List.getElem?_eq_getElem aN⟩
    rcases hs with hs|⟨b,off,rfl,hb,h1⟩
    ·rw[hs]at aN;simp at aN
    obtain⟨⟨c0,c1,c2,c3⟩,bg,iw⟩:=h1 j d hd;have e0:=(aB.cell (p:=⟨b,off+j*7,none⟩) hb).trans (bg 0 _ rfl);have e1:=(aB.cell (p:=⟨b,off+j*7+1,none⟩) hb).trans (bg 1 _ rfl);have e2:=(aB.cell (p:=⟨b,off+j*7+2,none⟩) hb).trans (bg 2 _ rfl);have e3:=(aB.cell (p:=⟨b,off+j*7+3,none⟩) hb).trans (bg 3 _ rfl);have e4:=(aB.cell (p:=⟨b,off+j*7+4,none⟩) hb).trans (bg 4 _ rfl);have e5:=(aB.cell (p:=⟨b,off+j*7+5,none⟩) hb).trans (bg 5 _ rfl);have e6:=(aB.cell (p:=⟨b,off+j*7+6,none⟩) hb).trans (bg 6 _ rfl);have hz:=KT.nt wr c0 c1 c2 c3 d (l-(xs.length+yP.nN (xs.take j))) (by omega) (hl d (List.mem_of_getElem? hd))
    have FM:Hid (yP.nN (xs.take (j+1))=yP.nN (xs.take j)+tx.vz d):=by
     unfold Hid yP.nN;rw[List.map_take,List.map_take];exact jV (by rw[List.getElem?_map,hd];rfl)
    have SN:Hid (yP.nN (xs.take (j+1))<=yP.nN xs):=by unfold Hid yP.nN;rw[List.map_take];exact lJ _ _
    have KB:Hid (Below w.1.size w wr):=aB;have jn:(j:Int)<(xs.length:Int):=by omega
    generalize dk:yP.nN (xs.take j)=LL at *;generalize tx.vz d=m at *;clear h1 aB hl hle bg iw hd;by_cases xY:m<=l-(xs.length+LL)
    ·rw[cu xY]at hz;have d1:decide (((l-(xs.length+LL)-m:Nat):Int)<0)=false:=by simp
     go_wp2_with fail;refine hz.mono ?_;clear hz;rintro e w1 ⟨rfl,b1⟩;go_wp2;have h1:=KL.out;refine⟨⟨j+1,by omega,by simp,by rw[FM.out];omega,by rw[FM.out];congr 2;omega,KB.out.trans (b1.mono KB.out.size)⟩,by simp[intOf];omega⟩
    ·rw[bI xY]at hz;go_wp2_with fail;refine hz.mono ?_;clear hz;rintro e w1 ⟨rfl,b1⟩;go_wp2;go_ret;have h2:=FM.out;have h3:=SN.out;refine⟨by rw[bI (by omega)];rfl,KB.out.trans (b1.mono KB.out.size)⟩
   ·obtain rfl:j=xs.length:=by omega
    have hd:decide ((xs.length:Int)<(xs.length:Int))=false:=by simp
    rw[List.take_length]at hle ⊢;clear hs hl KL;go_wp2;go_ret;exact⟨by rw[cu hle];rfl,aB⟩
 ·have d0:decide ((l:Int)-(xs.length:Int)<0)=true:=by simp;omega
  go_enter func16,ntmps16;go_wp2;go_ret;exact⟨by rw[bI (by omega)];rfl,aK⟩
end
section
open Go.Proofs.Tryz
variable {a:OA}{aR:List (List Int)}{g:Nat->Nat}{n:Nat}{w:World}
def oZ(w:World)(base:Nat)(a:OA)(n:Nat)(aR:List (List Int))(g:Nat->Nat):Prop:=
 (a=none/\n=0/\aR=[])\/∃b,a=some ⟨b,0,none⟩/\base<=b/\b<w.1.size/\lN w base b n aR g
theorem oZ.sl{w:World}{base:Nat}{a:OA}{n:Nat}{aR:List (List Int)}{g:Nat->Nat}(h:oZ w base a n aR g):yY w w.1.size a n aR:=by
 rcases h with ⟨rfl,rfl,rfl⟩|⟨b,rfl,_,hb,ho⟩
 ·exact⟨rfl,.inl rfl⟩
 ·exact ho.sl hb
theorem oZ.later{w w':World}{base:Nat}{a:OA}{n:Nat}{aR:List (List Int)}{g:Nat->Nat}(h:oZ w base a n aR g)(hb:Below w.1.size w w'):oZ w' base a n aR g:=by
 rcases h with h|⟨b,rfl,DW,kU,ho⟩
 ·exact .inl h
 ·exact .inr ⟨b,rfl,DW,Nat.lt_of_lt_of_le kU hb.size,ho.later hb kU⟩
theorem oZ.low{w:World}{base:Nat}{a:OA}{n:Nat}{aR:List (List Int)}{g:Nat->Nat}(h:oZ w base a n aR g):∀i,i<n->base<=g i:=by
 rcases h with ⟨_,rfl,_⟩|⟨b,rfl,_,_,ho⟩
 ·intro i hi;omega
 ·exact ho.low
theorem oZ.lt{w:World}{base:Nat}{a:OA}{n:Nat}{aR:List (List Int)}{g:Nat->Nat}(h:oZ w base a n aR g):∀i,i<n->g i<w.1.size:=by
 rcases h with ⟨_,rfl,_⟩|⟨b,rfl,_,_,ho⟩
 ·intro i hi;omega
 ·exact ho.lt
theorem oZ.kept{w':World}{base:Nat}(h:oZ w base a n aR g)(hs:w.1.size<=w'.1.size)(eb:∀b,a=some ⟨b,0,none⟩->w'.1[b]?=w.1[b]?)(eg:∀i,i<n->w'.1[g i]?=w.1[g i]?):oZ w' base a n aR g:=by
 rcases h with h|⟨b,rfl,DW,kU,ho⟩
 ·exact .inl h
 ·exact .inr ⟨b,rfl,DW,Nat.lt_of_lt_of_le kU hs,ho.jd hs (eb b rfl) eg⟩
theorem oZ.lower{base base':Nat}(h:oZ w base a n aR g)(hb:base'<=base):oZ w base' a n aR g:=by
 rcases h with h|⟨b,e,h1,h2,o⟩
 ·exact .inl h
 ·exact .inr ⟨b,e,Nat.le_trans hb h1,h2,⟨o.len,o.cell,fun i hi=>Nat.le_trans hb (o.low i hi),o.lt,o.ne,o.nums,o.room,o.inj⟩⟩
end
section
open Go.Proofs.Tryz
theorem JP(w:World)(a:OA)(n cap:Nat)(zs:List Int)(hn:n<=1048576)(hs:sD w w.1.size a n zs):Calls prog 51 #[.agg #[.slice a n cap]] w fun e w'=>
  ∃g,e=.returned (.agg #[.slice (some ⟨g,0,none⟩) n n])/\Below w.1.size w w'/\w.1.size<=g/\g<w'.1.size/\eY w' g 0 zs/\Room w' g n:=by
 go_enter func51,ntmps51;go_wp2_with fail;obtain⟨W,hW⟩:=bO (((w.alloc (.cells #[.slice a n cap] 71)).alloc (.cells #[.slice none 0 0] 102)).alloc (.cells #[.slice none 0 0] 102));have bW:Below w.1.size w W:=by rw[hW];exact((aK.alloc aU _).alloc (by simp) _).alloc (by simp;omega) _
 have zW:W.1.size=w.1.size+3:=by rw[hW];simp
 have c1:W.cell? ⟨w.1.size+1,0,none⟩=some (.slice none 0 0):=by rw[hW];go_simp
 have c2:W.cell? ⟨w.1.size+2,0,none⟩=some (.slice none 0 0):=by rw[hW];go_simp
 have f1:W.frozen? ⟨w.1.size+1,0,none⟩=false:=by rw[hW];go_simp
 have f2:W.frozen? ⟨w.1.size+2,0,none⟩=false:=by rw[hW];go_simp
 rw[<-hW];clear hW;refine(yL W a n cap zs hn (hs.later bW)).mono ?_;rintro e w1 ⟨rfl,b1,l1,n1,r1⟩;have c1:=(b1.cell (p:=⟨w.1.size+1,0,none⟩) (by simp;omega)).trans c1;have c2:=(b1.cell (p:=⟨w.1.size+2,0,none⟩) (by simp;omega)).trans c2;have f1:=(b1.frozen (p:=⟨w.1.size+1,0,none⟩) (by simp;omega)).trans f1;have f2:=(b1.frozen (p:=⟨w.1.size+2,0,none⟩) (by simp;omega)).trans f2;have K:=nE (bW.trans (b1.mono bW.size)) l1 n1 r1 zW;clear bW zW b1 l1 n1 r1 hs;generalize W.1.size=g at *;go_wp2;refine bodyPost_ret (v:=.agg #[.slice (some ⟨g,0,none⟩) n n]) (by simp[results,results51,go_sem,c1]) rfl ?_;obtain⟨b1,l1,n1,r1,zW⟩:=K.out;have dS:∀(V:World) (q o:Nat) (v:Value),q≠g->(V.setCell ⟨q,o,none⟩ v).1[g]?=V.1[g]?:=fun V q o v h=>Below.heap_setCell _ _ _ _ (fun e=>h e.symm)
 have he:=(dS (w1.setCell ⟨w.1.size+2,0,none⟩ (.slice (some ⟨g,0,none⟩) n n)) (w.1.size+1) 0 (.slice (some ⟨g,0,none⟩) n n) (by omega)).trans (dS w1 (w.1.size+2) 0 (.slice (some ⟨g,0,none⟩) n n) (by omega));exact⟨g,rfl,(b1.setCell (p:=⟨w.1.size+2,0,none⟩) (by simp) _).setCell (p:=⟨w.1.size+1,0,none⟩) (by simp) _,by omega,by simpa[World.setCell]using l1,n1.aj he,r1.aj he⟩
theorem I7(n:Nat)(hn:n<=1048576)(w:World):(Instr.makeSlice 28 (vI (n:Int)) (vI (n:Int))).run prog w=.ok (.slice (some ⟨w.1.size,0,none⟩) n n) (w.alloc (.cells (madeCells #[.slice none 0 0] n) 102)):=by
 have info:(prog.info? 102).map (fun i=>(i.zero,i.size,i.bytes))=some (some (.agg #[.slice none 0 0]),1,24):=by kernel_rfl
 obtain⟨i,hi,oQ⟩:=Option.map_eq_some_iff.1 info;simp only[Prod.mk.injEq]at oQ;obtain⟨hz,hs,hb⟩:=oQ;have:=run_make (P:=prog) w 28 102 i _ underlying28 hi hz .i64 .i64 (n:Int) (n:Int) (by omega) (by omega) (by rw[hb];omega) (by omega);rw[hs]at this;simpa[Value.cells]using this
theorem GM(w:World)(a:OA)(n cap:Nat)(aR:List (List Int))(hn:n<=1048576)(hl:∀zs∈aR,zs.length<=1048576)(hs:yY w w.1.size a n aR):Calls prog 20 #[.slice a n cap] w fun e w'=>
  ∃g,e=.returned (.slice (some ⟨w.1.size,0,none⟩) n n)/\Below w.1.size w w'/\w.1.size<w'.1.size/\lN w' w.1.size w.1.size n aR g:=by
 obtain⟨hx,hs⟩:=hs;have mQ:=I7 n hn;go_enter func20,ntmps20;go_wp2;go_loopw[4] (fun i wr=>∃(j:Nat) (g:Nat->Nat),j<=n/\i=vI j/\Below w.1.size w wr/\w.1.size<wr.1.size/\Room wr w.1.size n/\lN wr w.1.size w.1.size j (aR.take j) g) (fun i _=>n-(intOf i).toNat)
 case atStart=>exact⟨0,fun _=>0,Nat.zero_le _,rfl,aK.alloc aU _,by simp,iF _ _ _ _,by rw[List.take_zero];exact lN.nil _ _ _ _⟩
 case round=>
  obtain⟨j,g,hj,rfl,aB,dQ,eB,fG⟩:=hrel;by_cases aN:j<n
  ·rcases hs with hs|⟨b,off,rfl,hb,h1⟩
   ·omega
   ·obtain⟨a',aZ,hc,fI,_⟩:=h1 j _ (gB (by omega));have c:=(aB.cell (p:=⟨b,off+j,none⟩) hb).trans hc;have jo:=JP wr a' (eU aR j).length aZ (eU aR j) (hl _ (List.mem_of_getElem? (gB (by omega)))) ((fI.below aB).mono aB.size);have K:=nE eB fG aB dQ (show aR.take (j+1)=aR.take j++[eU aR j] by rw[List.take_add_one,gB (by omega)];rfl);clear eB fG aB mQ h1 hx hl fI hc;go_wp2_with fail;refine jo.mono ?_;clear jo;rintro e w1 ⟨q,rfl,b1,lq,hq,Gf,rU⟩;obtain⟨v,d,f⟩:=(K.out.1.below b1 K.out.2.2.2.1) j aN;have K1:=nE b1 lq hq Gf rU;clear b1 lq hq Gf rU;go_wp2;obtain⟨eB,fG,aB,dQ,IL⟩:=K.out;obtain⟨b1,lq,hq,Gf,rU⟩:=K1.out;have dS:∀(V:World) (x o:Nat) (v:Value),x≠w.1.size->(V.setCell ⟨w.1.size,o,none⟩ v).1[x]?=V.1[x]?:=fun V x o v h=>Below.heap_setCell _ _ _ _ h
    have mu:=Nat.lt_of_lt_of_le dQ b1.size
    have lf:lN (w1.setCell ⟨w.1.size,j,none⟩ (.slice (some ⟨q,0,none⟩) (eU aR j).length (eU aR j).length)) w.1.size w.1.size j (aR.take j) g:=by
     have h1:=fG.later b1 dQ;refine⟨h1.len,fun i zs e=>?_,h1.low,fun i hi=>by simpa[World.setCell]using h1.lt i hi,h1.ne,fun i zs e=>(h1.nums i zs e).aj (dS _ _ _ _ (h1.ne i ?_)),fun i zs e=>(h1.room i zs e).aj (dS _ _ _ _ (h1.ne i ?_)),h1.inj⟩
     ·obtain⟨cp,Wz,kz⟩:=h1.cell i zs e;have hi:i<j:=by have:=(List.getElem?_eq_some_iff.1 e).1;have:=h1.len;omega
      exact⟨cp,by rw[ae (by omega)];exact Wz,kz⟩
     ·have:=(List.getElem?_eq_some_iff.1 e).1;have:=h1.len;omega
     ·have:=(List.getElem?_eq_some_iff.1 e).1;have:=h1.len;omega
    have SC:=lf.snoc (zs:=eU aR j) (q:=q) (cap:=(eU aR j).length) (ay d) aU (by omega) (by simpa[World.setCell]using hq) (by omega) (Gf.aj (dS _ _ _ _ (by omega))) (rU.aj (dS _ _ _ _ (by omega))) (fun i hi e=>by have:=fG.lt i hi;omega);rw[<-IL]at SC;exact⟨⟨j+1,_,by omega,by simp,(aB.trans (b1.mono aB.size)).setCell (p:=⟨w.1.size,j,none⟩) aU _,by simpa[World.setCell]using mu,(eB.below b1 dQ).set _,SC⟩,by simp[intOf];omega⟩
  ·have:j=n:=by omega
   subst this;have hd:decide (j<j)=false:=by simp
   rw[<-hx,List.take_length,hx]at fG;have K:Hid (lN wr w.1.size w.1.size j aR g):=fG;clear fG hs eB;go_wp2;go_ret;exact⟨g,rfl,aB,dQ,K.out⟩
theorem F7(w:World)(a a':OA)(n cap aZ:Nat)(zs:List Int)(hn:n<=maxLen)(h1:sD w w.1.size a n zs)(h2:sD w w.1.size a' n zs):
  Calls prog 64 #[.agg #[.slice a n cap],.agg #[.slice a' n aZ]] w fun e w'=>e=.returned (.bool true)/\Below w.1.size w w':=by
 go_enter func64,ntmps64;go_wp2_with fail;have b0:Below w.1.size w ((w.alloc (.cells #[.slice a n cap] 102)).alloc (.cells #[.slice a' n aZ] 102)):=(aK.alloc aU _).alloc (by simp) _;refine(xK _ a a' n cap aZ zs hn (h1.later b0) (h2.later b0)).mono ?_;rintro e w' ⟨rfl,b1⟩;go_wp2;go_ret;exact⟨rfl,b0.trans (b1.mono b0.size)⟩
theorem F6(w:World)(a a':OA)(n cap aZ:Nat)(aR:List (List Int))(hn:n<=maxLen)(hl:∀zs∈aR,zs.length<=maxLen)(h1:yY w w.1.size a n aR)(h2:yY w w.1.size a' n aR):
  Calls prog 29 #[.slice a n cap,.slice a' n aZ] w fun e w'=>e=.returned (.bool true)/\Below w.1.size w w':=by
 unfold maxLen at hn;obtain⟨hx,h1⟩:=h1;obtain⟨_,h2⟩:=h2;go_enter func29,ntmps29;go_wp2;go_loopw[5] (fun i wr=>∃k:Nat,k<=n/\i=vI k/\Below w.1.size w wr) (fun i _=>n-(intOf i).toNat)
 case atStart=>exact⟨0,Nat.zero_le _,rfl,aK⟩
 case round=>
  obtain⟨k,hk,rfl,aB⟩:=hrel;by_cases aN:k<n
  ·rcases h1 with h1|⟨b,off,rfl,hb,h1⟩
   ·omega
   ·rcases h2 with h2|⟨b',di,rfl,fB,h2⟩
    ·omega
    ·obtain⟨a1,k1,d1,s1,_⟩:=h1 k _ (gB (by omega));obtain⟨a2,k2,d2,s2,_⟩:=h2 k _ (gB (by omega));have Vb:=hl _ (List.mem_of_getElem? (gB (aR:=aR) (i:=k) (by omega)));have sI:=Nat.lt_of_lt_of_le hb aB.size;have Gb:=Nat.lt_of_lt_of_le fB aB.size;have e1:=(aB.cell (p:=⟨b,off+k,none⟩) hb).trans d1;have e2:=(aB.cell (p:=⟨b',di+k,none⟩) fB).trans d2;have c1:=fun d os=>((below_regrown wr d os).cell (p:=⟨b,off+k,none⟩) sI).trans e1
     have c2:=fun d os=>((below_regrown wr d os).cell (p:=⟨b',di+k,none⟩) Gb).trans e2
     have t1:=(s1.below aB).mono aB.size;have t2:=(s2.below aB).mono aB.size;have cQ:=fun d os=>Calls.regrown_of (F7 _ a1 a2 _ k1 k2 (eU aR k) Vb (t1.later (below_regrown wr d os)) (t2.later (below_regrown wr d os)))
     have K:Hid (Below w.1.size w wr):=aB;clear t1 t2 aB h1 h2 s1 s2 e1 e2 d1 d2 hl Vb hx;go_wp2_with fail;refine gy ?_;repeat (go_big_quiet_step (exact cQ _ _))
     refine jb fun dq bu=>?_
     have bq:=below_regrown wr dq bu;go_wp2;exact⟨⟨k+1,by omega,by simp,K.out.trans (bq.mono K.out.size)⟩,by simp[intOf];omega⟩
  ·have:k=n:=by omega
   subst this;have hd:decide (k<k)=false:=by simp
   clear h1 h2;go_wp2;go_ret;exact⟨rfl,aB⟩
end
end Go.Proofs.YtbiigfbhhkiodaaGreatDoor
