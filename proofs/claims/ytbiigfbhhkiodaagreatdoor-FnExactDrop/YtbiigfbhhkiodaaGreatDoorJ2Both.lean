import Derived.Test.YtbiigfbhhkiodaaGreatDoorJ1Both
import Derived.TacticsInMore
set_option maxHeartbeats 16000000
set_option maxRecDepth 100000
namespace Go.Proofs.YtbiigfbhhkiodaaGreatDoor
open Go.RowKit
open Go.Sort (grow)
section
open Go.Proofs.Tryz
variable {B c1 q:Nat}{P:Nat->Prop}{a a1 a2 a3:OA}{aR:List (List Int)}{w w':World}
structure C6 where
 v:Int
 u:Int
 f:List (List Int)
 aa:List M4
 c:List tx.T7
 w:Bool
abbrev dU(a:Option Addr)(c:Nat)(b:Option Addr)(d:Nat)(e:Option Addr)(f:Nat)(k:C6):List Value:=[vI k.v,vI k.u,.slice a k.f.length c,.slice b k.aa.length d,.slice e k.c.length f,.bool k.w]
def KP.Ow(w:World)(B:Nat)(a:OA)(aR:List (List Int))(P:Nat->Prop):Prop:=(∃g,oZ w B a aR.length aR g/\(∀b,a=some ⟨b,0,none⟩->P b)/\(∀i,i<aR.length->P (g i)))/\(∀q,P q->B<=q/\q<w.1.size)
theorem KP.Ow.of(h:KP.Ow w B a aR P)(hq:P q):B<=q/\q<w.1.size:=h.2 q hq
theorem KP.Ow.sl(h:KP.Ow w B a aR P):yY w w.1.size a aR.length aR:=by obtain⟨⟨g,h,_⟩,_⟩:=h;exact h.sl
theorem KP.Ow.aM(h:KP.Ow w B a aR P)(hs:w.1.size<=w'.1.size)(hk:∀q,P q->w'.1[q]?=w.1[q]?):KP.Ow w' B a aR P:=by
 obtain⟨⟨g,h1,h2,h3⟩,h4⟩:=h;exact⟨⟨g,h1.kept hs (fun b e=>hk b (h2 b e)) (fun i hi=>hk _ (h3 i hi)),h2,h3⟩,fun q hq=>⟨(h4 q hq).1,Nat.lt_of_lt_of_le (h4 q hq).2 hs⟩⟩
theorem KP.Ow.later(h:KP.Ow w B a aR P)(hb:Below w.1.size w w'):KP.Ow w' B a aR P:=h.aM hb.size (fun q hq=>hb.block q (h.of hq).2)
theorem KP.to(w:World)(a:OA)(cap:Nat)(aR:List (List Int))(hn:aR.length<=1048576)(hl:∀zs∈aR,zs.length<=1048576)(hs:yY w w.1.size a aR.length aR):Calls prog 20 #[.slice a aR.length cap] w fun e w'=>
  ∃P,e=.returned (.slice (some ⟨w.1.size,0,none⟩) aR.length aR.length)/\KP.Ow w' w.1.size (some ⟨w.1.size,0,none⟩) aR P/\Below w.1.size w w':=by
 refine(GM w a aR.length cap aR hn hl hs).mono ?_;rintro e w' ⟨g,rfl,b,aN,ho⟩;have hq:oZ w' w.1.size (some ⟨w.1.size,0,none⟩) aR.length aR g:=.inr ⟨w.1.size,rfl,Nat.le_refl _,aN,ho⟩;refine⟨fun q=>q=w.1.size\/∃i,i<aR.length/\g i=q,rfl,⟨⟨g,hq,fun b e=>.inl (by cases e;rfl),fun i hi=>.inr ⟨i,hi,rfl⟩⟩,fun q h=>?_⟩,b⟩;rcases h with rfl|⟨i,hi,rfl⟩
 ·exact⟨Nat.le_refl _,aN⟩
 ·exact⟨hq.low i hi,hq.lt i hi⟩
structure df.Rd(X:World)(a1:OA)(_:Nat)(a2:OA)(_:Nat)(a3:OA)(_:Nat)(k:C6):Prop where
 p:yY X X.1.size a1 k.f.length k.f
 m:iN.vG X a2 k.aa
 t:iO.vG X a3 k.c
theorem df.Rd.later{X Y:World}{c2:Nat}{c3:Nat}{k:C6}(h:df.Rd X a1 c1 a2 c2 a3 c3 k)(b:Below X.1.size X Y):df.Rd Y a1 c1 a2 c2 a3 c3 k:=⟨h.p.later b,h.m.later b,h.t.later b⟩
def df.Ow(w:World)(B:Nat)(a1:OA)(_:Nat)(a2:OA)(_:Nat)(a3:OA)(_:Nat)(k:C6)(P:Nat->Prop):Prop:=(∃P1 P2 P3,KP.Ow w B a1 k.f P1/\iN.xm w B a2 k.aa P2/\iO.xm w B a3 k.c P3/\(∀q,P1 q->P q)/\(∀q,P2 q->P q)/\(∀q,P3 q->P q)/\(∀q,P1 q->¬P2 q)/\(∀q,P1 q->¬P3 q)/\(∀q,P2 q->¬P3 q))/\(∀q,P q->B<=q/\q<w.1.size)
theorem df.Ow.of{c2:Nat}{c3:Nat}{k:C6}(h:df.Ow w B a1 c1 a2 c2 a3 c3 k P)(hq:P q):B<=q/\q<w.1.size:=h.2 q hq
theorem df.Ow.sl{c2:Nat}{c3:Nat}{k:C6}(h:df.Ow w B a1 c1 a2 c2 a3 c3 k P):df.Rd w a1 c1 a2 c2 a3 c3 k:=by obtain⟨⟨_,_,_,h1,h2,h3,_⟩,_⟩:=h;exact⟨h1.sl,h2.sl,h3.sl⟩
theorem df.Ow.aM{w:World}{B:Nat}{a1:OA}{c1:Nat}{a2:OA}{c2:Nat}{a3:OA}{c3:Nat}{k:C6}{P:Nat->Prop}{w':World}(h:df.Ow w B a1 c1 a2 c2 a3 c3 k P)(hs:w.1.size<=w'.1.size)(hk:∀q,P q->w'.1[q]?=w.1[q]?):df.Ow w' B a1 c1 a2 c2 a3 c3 k P:=by
 obtain⟨⟨P1,P2,P3,h1,h2,h3,p1,p2,p3,h4⟩,h5⟩:=h;exact⟨⟨P1,P2,P3,h1.aM hs (fun q hq=>hk q (p1 q hq)),h2.aM hs (fun q hq=>hk q (p2 q hq)),h3.aM hs (fun q hq=>hk q (p3 q hq)),p1,p2,p3,h4⟩,fun q hq=>⟨(h5 q hq).1,Nat.lt_of_lt_of_le (h5 q hq).2 hs⟩⟩
theorem df.Ow.later{c2:Nat}{c3:Nat}{k:C6}(h:df.Ow w B a1 c1 a2 c2 a3 c3 k P)(hb:Below w.1.size w w'):df.Ow w' B a1 c1 a2 c2 a3 c3 k P:=h.aM hb.size (fun q hq=>hb.block q (h.of hq).2)
structure df.S(k:C6):Prop where
 p:k.f.length<=1048576
 ps:∀zs∈k.f,zs.length<=1048576
 m:k.aa.length<=1048576
 ms:∀m∈k.aa,MT m
 t:k.c.length<=1048576
 ts:∀t∈k.c,KT.S t
end
section
open Go.Proofs.Tryz
theorem Z7(v:Value)(w:World):(binOp .neq 20 (.iface 157 v) .nilIface).run prog w=.ok (.bool true) w:=by kernel_rfl
theorem rQ(p q:Nat)(n:Int)(y1 y2:Int)(a3:OA)(n3 c3:Nat)(a4:OA)(n4 c4:Nat)(a5:OA)(n5 c5:Nat)(y6:Bool)(old:List Value)(o1:Value)(w:World)(hg:HG w)(ho:old.length=6)(hp:Bx w p old)(hq:Bx w q [o1])(xi:p≠q):
  CallsD prog 54 #[.pointer (some ⟨p,0,none⟩),.pointer (some ⟨q,0,none⟩)] (.panicking [{ v:=.iface 157 (.agg #[.iface 67 (vI n),vI y1,vI y2,.slice a3 n3 c3,.slice a4 n4 c4,.slice a5 n5 c5,.bool y6]),recovered:=false }]) w fun e u' w'=>
   e=.returned (.tuple #[])/\u'=.panicking [{ v:=.iface 157 (.agg #[.iface 67 (vI n),vI y1,vI y2,.slice a3 n3 c3,.slice a4 n4 c4,.slice a5 n5 c5,.bool y6]),recovered:=true }]/\∃X,Below w.1.size w X/\w'=(cO X p 0 [vI y1,vI y2,.slice a3 n3 c3,.slice a4 n4 c4,.slice a5 n5 c5,.bool y6]).setCell ⟨q,0,none⟩ (vI n):=by
 have hN:=Z7;have cR:=Js w n y1 y2 a3 n3 c3 a4 n4 c4 a5 n5 c5 y6 hg;refine callsD_of_wpS func54 rfl fun c₀ cs hu=>?_
 apply wpS_seq;apply wpS_region;simp[wpOpsS,go_sem,recoverD,hu,ntmps54,Exit.thenS];refine wpS_of_wp ?_;go_wp2_with fail;refine cR.mono ?_;clear cR;rintro e X ⟨rfl,bX⟩;have xp:=hp.later bX;have xq:=hq.later bX;obtain⟨v0,r0⟩:∃v,X.cell? ⟨p,0,none⟩=some v:=⟨_,xp.1 0 _ (List.getElem?_eq_getElem (by omega))⟩
 obtain⟨v1,r1⟩:∃v,X.cell? ⟨p,1,none⟩=some v:=⟨_,xp.1 1 _ (List.getElem?_eq_getElem (by omega))⟩
 obtain⟨v2,r2⟩:∃v,X.cell? ⟨p,2,none⟩=some v:=⟨_,xp.1 2 _ (List.getElem?_eq_getElem (by omega))⟩
 obtain⟨v3,r3⟩:∃v,X.cell? ⟨p,3,none⟩=some v:=⟨_,xp.1 3 _ (List.getElem?_eq_getElem (by omega))⟩
 obtain⟨v4,r4⟩:∃v,X.cell? ⟨p,4,none⟩=some v:=⟨_,xp.1 4 _ (List.getElem?_eq_getElem (by omega))⟩
 obtain⟨v5,r5⟩:∃v,X.cell? ⟨p,5,none⟩=some v:=⟨_,xp.1 5 _ (List.getElem?_eq_getElem (by omega))⟩
 have f0:=xp.f6;have s0:=xq.1 0 _ rfl;have g0:=xq.2.1 0;have AK:q≠p:=fun e=>xi e.symm
 have BX:Hid (Below w.1.size w X):=bX;clear xp xq bX hp hq hg ho;go_wp2;exact⟨rfl,_,rfl,.tuple #[],by simp[results,results54],rfl,rfl,X,BX.out,rfl⟩
theorem BN(p q:Nat)(w:World):
  CallsD prog 54 #[.pointer (some ⟨p,0,none⟩),.pointer (some ⟨q,0,none⟩)] .returning w fun e u' w'=>e=.returned (.tuple #[])/\u'=.returning/\w'=w:=by
 have hN:∀w:World,(binOp .neq 20 .nilIface .nilIface).run prog w=.ok (.bool false) w:=fun w=>by kernel_rfl
 refine callsD_of_wpS func54 rfl fun c₀ cs hu=>?_
 apply wpS_seq;apply wpS_region;simp[wpOpsS,go_sem,recoverD,hu,ntmps54,Exit.thenS];refine wpS_of_wp ?_;go_wp2
 cases c₀;simp only at hu;subst hu;exact⟨rfl,_,rfl,.tuple #[],by simp[results,results54],rfl,rfl,rfl⟩
def xg(X:World)(k:C6)(n:Int)(e:Ending)(w':World):Prop:=∃(a1:OA) (c1:Nat) (a2:OA) (c2:Nat) (a3:OA) (c3:Nat) (P:Nat->Prop),((n=0/\e=.returned (.agg #[vI k.v,vI k.u,.slice a1 k.f.length c1,.slice a2 k.aa.length c2,.slice a3 k.c.length c3,.bool k.w]))\/(n≠0/\e=.panicked [{ v:=.iface 157 (.agg #[.iface 67 (vI n),vI k.v,vI k.u,.slice a1 k.f.length c1,.slice a2 k.aa.length c2,.slice a3 k.c.length c3,.bool k.w]),recovered:=false }]))/\df.Ow w' X.1.size a1 c1 a2 c2 a3 c3 k P/\Below X.1.size X w'
def jZ(X:World)(k:C6)(n:Int)(e:Ending)(w':World):Prop:=∃(a1:OA) (c1:Nat) (a2:OA) (c2:Nat) (a3:OA) (c3:Nat) (P:Nat->Prop),e=.returned (.tuple #[.agg #[vI k.v,vI k.u,.slice a1 k.f.length c1,.slice a2 k.aa.length c2,.slice a3 k.c.length c3,.bool k.w],vI n])/\df.Ow w' X.1.size a1 c1 a2 c2 a3 c3 k P/\Below X.1.size X w'
end
section
open Go.Proofs.Tryz
theorem KP.Ow.low{w:World}{B B':Nat}{a:OA}{aR:List (List Int)}{P:Nat->Prop}(h:KP.Ow w B a aR P)(hb:B'<=B):KP.Ow w B' a aR P:=by
 obtain⟨⟨g,h1,h2,h3⟩,h4⟩:=h;exact⟨⟨g,h1.lower hb,h2,h3⟩,fun q hq=>⟨Nat.le_trans hb (h4 q hq).1,(h4 q hq).2⟩⟩
theorem df.to(X:World)(a1:OA)(c1:Nat)(a2:OA)(c2:Nat)(a3:OA)(c3:Nat)(k:C6)(ht:df.S k)(h:df.Rd X a1 c1 a2 c2 a3 c3 k):Calls prog 7 #[.agg #[vI k.v,vI k.u,.slice a1 k.f.length c1,.slice a2 k.aa.length c2,.slice a3 k.c.length c3,.bool k.w]] X fun e w'=>
  ∃(a1:OA) (c1:Nat) (a2:OA) (c2:Nat) (a3:OA) (c3:Nat) (P:Nat->Prop),e=.returned (.agg #[vI k.v,vI k.u,.slice a1 k.f.length c1,.slice a2 k.aa.length c2,.slice a3 k.c.length c3,.bool k.w])/\df.Ow w' X.1.size a1 c1 a2 c2 a3 c3 k P/\Below X.1.size X w':=by
 obtain⟨U0,kN,b0,x0,z0⟩:=iI X (dU a1 c1 a2 c2 a3 c3 k) 26;obtain⟨U1,uN,b1,x1,-⟩:=iI U0 sH 32;have z1:U1.1.size=X.1.size+2:=by rw[uN];simp[z0]
 obtain⟨V0,Y8,b2,x2,-⟩:=iI U1 [vI k.v,vI k.u,.slice none 0 0,.slice none 0 0,.slice none 0 0,.bool false] 32;have zU:V0.1.size=X.1.size+3:=by rw[Y8];simp[z1]
 rw[z0]at x1;rw[z1]at x2;have bU:=au (au b0 b1) b2;have FA:Hid (Bx V0 X.1.size (dU a1 c1 a2 c2 a3 c3 k)):=(x0.later b1).later b2;have FZ:Hid (Bx V0 (X.1.size+1) sH):=x1.later b2;have Y0:Hid (Bx V0 (X.1.size+2) [vI k.v,vI k.u,.slice none 0 0,.slice none 0 0,.slice none 0 0,.bool false]):=x2;have E0:=fP (show Below (X.1.size+2) V0 V0 from aK) bU (show V0.1.size<=V0.1.size from Nat.le_refl _);have HZ:Hid (V0.1.size=X.1.size+3):=zU;have HR:=dw h ht;rw[uN,kN]at Y8;clear b0 x0 z0 b1 x1 z1 b2 x2 zU bU kN uN h ht;have q:=KP.to V0 a1 c1 k.f HR.out.2.p HR.out.2.ps (HR.out.1.later E0.out.2.1).p;have A0:=(FA.out.under E0.out.1 (by omega)).c3;rw[Y8]at A0;go_enter func7,ntmps7;go_wp2_with fail;rw[<-Y8];clear Y8 A0;refine q.mono ?_;clear q;rintro e w1 ⟨P1,rfl,o1,b⟩;obtain⟨V1,lL⟩:=bO (w1.setCell ⟨X.1.size+2,2,none⟩ (.slice (some ⟨V0.1.size,0,none⟩) k.f.length k.f.length));have sV:V1.1.size=w1.1.size:=by rw[lL];simp[World.setCell]
 have kV:∀q,q≠X.1.size+2->V1.1[q]?=w1.1[q]?:=fun q hq=>by rw[lL];exact Below.heap_setCell _ _ _ _ hq
 have lV:X.1.size+3<=V0.1.size:=by have:=E0.out.2.2;have:=HZ.out;omega
 have u:=(Y0.out.later b).1 2 _ rfl;have uf:=(Y0.out.later b).2.1 2
 have E1:Hid (Below (X.1.size+2) V0 V1/\Below X.1.size X V1/\V0.1.size<=V1.1.size):=by
  refine⟨?_,?_,by have:=b.size;have:=E0.out.2.2;omega⟩
  ·rw[lL];exact(E0.out.1.trans (b.mono (by omega))).setCell (p:=⟨X.1.size+2,2,none⟩) aU _
  ·rw[lL];exact(E0.out.2.1.trans (b.mono (by omega))).setCell (p:=⟨X.1.size+2,2,none⟩) (by show X.1.size<=X.1.size+2;omega) _
 have Y1:Hid (Bx V1 (X.1.size+2) [vI k.v,vI k.u,.slice (some ⟨V0.1.size,0,none⟩) k.f.length k.f.length,.slice none 0 0,.slice none 0 0,.bool false]):=by rw[lL];exact(Y0.out.later b).set (i:=2) (by simp) _
 have UT:Hid (KP.Ow V1 V0.1.size (some ⟨V0.1.size,0,none⟩) k.f P1):=o1.aM (Nat.le_of_eq sV.symm) (fun q hq=>kV q (by have:=(o1.of hq).1;have:=HZ.out;have:=E0.out.2.2;omega));have O1:=UT;clear UT;have tg:=fP b.size sV.symm (show(∀q,P1 q->V0.1.size<=q/\q<w1.1.size)from fun q hq=>o1.of hq);clear o1 b sV kV lV;have q:=yN.to V1 a2 c2 k.aa HR.out.2.m HR.out.2.ms (HR.out.1.later E1.out.2.1).m;have A3:=(FA.out.under E1.out.1 (by omega)).1 3 _ rfl;rw[lL]at A3;go_wp2_with fail;rw[<-lL];clear lL A3 u uf;refine q.mono ?_;clear q;rintro e w2 ⟨P2,rfl,o2,b⟩;obtain⟨V2,Ah⟩:=bO (w2.setCell ⟨X.1.size+2,3,none⟩ (.slice (some ⟨V1.1.size,0,none⟩) k.aa.length k.aa.length));have sV:V2.1.size=w2.1.size:=by rw[Ah];simp[World.setCell]
 have kV:∀q,q≠X.1.size+2->V2.1[q]?=w2.1[q]?:=fun q hq=>by rw[Ah];exact Below.heap_setCell _ _ _ _ hq
 have lV:X.1.size+3<=V1.1.size:=by have:=E1.out.2.2;have:=HZ.out;omega
 have u:=(Y1.out.later b).1 3 _ rfl;have uf:=(Y1.out.later b).2.1 3
 have E2:Hid (Below (X.1.size+2) V0 V2/\Below X.1.size X V2/\V0.1.size<=V2.1.size):=by
  refine⟨?_,?_,by have:=b.size;have:=E1.out.2.2;omega⟩
  ·rw[Ah];exact(E1.out.1.trans (b.mono (by omega))).setCell (p:=⟨X.1.size+2,3,none⟩) aU _
  ·rw[Ah];exact(E1.out.2.1.trans (b.mono (by omega))).setCell (p:=⟨X.1.size+2,3,none⟩) (by show X.1.size<=X.1.size+2;omega) _
 have Y2:Hid (Bx V2 (X.1.size+2) [vI k.v,vI k.u,.slice (some ⟨V0.1.size,0,none⟩) k.f.length k.f.length,.slice (some ⟨V1.1.size,0,none⟩) k.aa.length k.aa.length,.slice none 0 0,.bool false]):=by rw[Ah];exact(Y1.out.later b).set (i:=3) (by simp) _
 have UT:Hid (KP.Ow V2 V0.1.size (some ⟨V0.1.size,0,none⟩) k.f P1):=(O1.out.later b).aM (Nat.le_of_eq sV.symm) (fun q hq=>kV q (by have:=((O1.out.later b).of hq).1;have:=HZ.out;have:=E0.out.2.2;omega));have YE:Hid (iN.xm V2 V1.1.size (some ⟨V1.1.size,0,none⟩) k.aa P2):=o2.aM (Nat.le_of_eq sV.symm) (fun q hq=>kV q (by have:=(o2.of hq).1;have:=HZ.out;have:=E1.out.2.2;omega));have O1:=UT;clear UT;have O2:=YE;clear YE;have th:=fP b.size sV.symm (show(∀q,P2 q->V1.1.size<=q/\q<w2.1.size)from fun q hq=>o2.of hq);clear o2 b sV kV lV;have q:=yP.to V2 a3 c3 k.c HR.out.2.t HR.out.2.ts (HR.out.1.later E2.out.2.1).t;have A4:=(FA.out.under E2.out.1 (by omega)).1 4 _ rfl;rw[Ah]at A4;go_wp2_with fail;rw[<-Ah];clear Ah A4 u uf;refine q.mono ?_;clear q;rintro e w3 ⟨P3,rfl,o3,b⟩;obtain⟨V3,EX⟩:=bO (w3.setCell ⟨X.1.size+2,4,none⟩ (.slice (some ⟨V2.1.size,0,none⟩) k.c.length k.c.length));have sV:V3.1.size=w3.1.size:=by rw[EX];simp[World.setCell]
 have kV:∀q,q≠X.1.size+2->V3.1[q]?=w3.1[q]?:=fun q hq=>by rw[EX];exact Below.heap_setCell _ _ _ _ hq
 have lV:X.1.size+3<=V2.1.size:=by have:=E2.out.2.2;have:=HZ.out;omega
 have u:=(Y2.out.later b).1 4 _ rfl;have uf:=(Y2.out.later b).2.1 4
 have E3:Hid (Below (X.1.size+2) V0 V3/\Below X.1.size X V3/\V0.1.size<=V3.1.size):=by
  refine⟨?_,?_,by have:=b.size;have:=E2.out.2.2;omega⟩
  ·rw[EX];exact(E2.out.1.trans (b.mono (by omega))).setCell (p:=⟨X.1.size+2,4,none⟩) aU _
  ·rw[EX];exact(E2.out.2.1.trans (b.mono (by omega))).setCell (p:=⟨X.1.size+2,4,none⟩) (by show X.1.size<=X.1.size+2;omega) _
 have Y3:Hid (Bx V3 (X.1.size+2) [vI k.v,vI k.u,.slice (some ⟨V0.1.size,0,none⟩) k.f.length k.f.length,.slice (some ⟨V1.1.size,0,none⟩) k.aa.length k.aa.length,.slice (some ⟨V2.1.size,0,none⟩) k.c.length k.c.length,.bool false]):=by rw[EX];exact(Y2.out.later b).set (i:=4) (by simp) _
 have UT:Hid (KP.Ow V3 V0.1.size (some ⟨V0.1.size,0,none⟩) k.f P1):=(O1.out.later b).aM (Nat.le_of_eq sV.symm) (fun q hq=>kV q (by have:=((O1.out.later b).of hq).1;have:=HZ.out;have:=E0.out.2.2;omega));have YE:Hid (iN.xm V3 V1.1.size (some ⟨V1.1.size,0,none⟩) k.aa P2):=(O2.out.later b).aM (Nat.le_of_eq sV.symm) (fun q hq=>kV q (by have:=((O2.out.later b).of hq).1;have:=HZ.out;have:=E1.out.2.2;omega));have pe:Hid (iO.xm V3 V2.1.size (some ⟨V2.1.size,0,none⟩) k.c P3):=o3.aM (Nat.le_of_eq sV.symm) (fun q hq=>kV q (by have:=(o3.of hq).1;have:=HZ.out;have:=E2.out.2.2;omega));have O1:=UT;clear UT;have O2:=YE;clear YE;have O3:=pe;clear pe;have ti:=fP b.size sV.symm (show(∀q,P3 q->V2.1.size<=q/\q<w3.1.size)from fun q hq=>o3.of hq);clear o3 b sV kV lV;have A5:=(FA.out.under E3.out.1 (by omega)).1 5 _ rfl;rw[EX]at A5;obtain⟨V4,Ga⟩:=bO (V3.setCell ⟨X.1.size+2,5,none⟩ (.bool k.w));have Y4:Hid (Bx V4 (X.1.size+2) (dU (some ⟨V0.1.size,0,none⟩) k.f.length (some ⟨V1.1.size,0,none⟩) k.aa.length (some ⟨V2.1.size,0,none⟩) k.c.length k)):=by rw[Ga];exact Y3.out.set (i:=5) (by simp) _
 have v5:=Y3.out.1 5 _ rfl;have so:=Y3.out.2.1 5;rw[EX]at v5 so Ga;have ZZ:Hid (Bx V4 (X.1.size+1) sH):=by rw[Ga,<-EX];exact(FZ.out.under E3.out.1 (by omega)).dS (by omega) _
 have s4:V4.1.size=V3.1.size:=by rw[Ga,<-EX];simp[World.setCell]
 have k4:∀q,q≠X.1.size+2->V4.1[q]?=V3.1[q]?:=fun q hq=>by rw[Ga,<-EX];exact Below.heap_setCell _ _ _ _ hq
 have B4:Hid (Below X.1.size X V4):=by rw[Ga,<-EX];exact E3.out.2.1.setCell (p:=⟨X.1.size+2,5,none⟩) (by show X.1.size<=X.1.size+2;omega) _
 have KK:=dw s4 k4;clear s4 k4;go_upto_region 8 with fail
 rw[<-Ga];clear Ga EX A5 v5 so u uf;have y0:=Y4.out.1 0 _ rfl;have z0:=ZZ.out.1 0 _ rfl;have oi:=ZZ.out.2.1 0;have y1:=Y4.out.1 1 _ rfl;have z1:=ZZ.out.1 1 _ rfl;have ov:=ZZ.out.2.1 1;have y2:=Y4.out.1 2 _ rfl;have z2:=ZZ.out.1 2 _ rfl;have oy:=ZZ.out.2.1 2;have y3:=Y4.out.1 3 _ rfl;have z3:=ZZ.out.1 3 _ rfl;have oA:=ZZ.out.2.1 3;have y4:=Y4.out.1 4 _ rfl;have z4:=ZZ.out.1 4 _ rfl;have AW:=ZZ.out.2.1 4;have y5:=Y4.out.1 5 _ rfl;have z5:=ZZ.out.1 5 _ rfl;have A6:=ZZ.out.2.1 5;have BP:=ZZ.out.put (dU (some ⟨V0.1.size,0,none⟩) k.f.length (some ⟨V1.1.size,0,none⟩) k.aa.length (some ⟨V2.1.size,0,none⟩) k.c.length k) rfl;have r0:=BP.1 0 _ rfl;have r1:=BP.1 1 _ rfl;have r2:=BP.1 2 _ rfl;have r3:=BP.1 3 _ rfl;have r4:=BP.1 4 _ rfl;have r5:=BP.1 5 _ rfl;simp only[cO,Nat.zero_add]at r0 r1 r2 r3 r4 r5;have KR:=tx.af (And.intro r0 (And.intro r1 (And.intro r2 (And.intro r3 (And.intro r4 r5)))));clear BP r0 r1 r2 r3 r4 r5;go_wp2;obtain⟨r0,r1,r2,r3,r4,r5⟩:=KR.out;refine bodyPost_ret (v:=.agg #[vI k.v,vI k.u,.slice (some ⟨V0.1.size,0,none⟩) k.f.length k.f.length,.slice (some ⟨V1.1.size,0,none⟩) k.aa.length k.aa.length,.slice (some ⟨V2.1.size,0,none⟩) k.c.length k.c.length,.bool k.w]) (by simp[results,results7,go_sem,r0,r1,r2,r3,r4,r5]) rfl ?_;obtain⟨s4,k4⟩:=KK.out;obtain⟨n1,n2,n3⟩:=tg.out;obtain⟨m1,m2,m3⟩:=th.out;obtain⟨l1,l2,l3⟩:=ti.out;have hz:=HZ.out
 have hw:∀q,q≠X.1.size+1->q≠X.1.size+2->(cO V4 (X.1.size+1) 0 (dU (some ⟨V0.1.size,0,none⟩) k.f.length (some ⟨V1.1.size,0,none⟩) k.aa.length (some ⟨V2.1.size,0,none⟩) k.c.length k)).1[q]?=V3.1[q]?:=fun q h1 h2=>(aO h1 _ _ _).trans (k4 q h2)
 have Xb:V3.1.size<=(cO V4 (X.1.size+1) 0 (dU (some ⟨V0.1.size,0,none⟩) k.f.length (some ⟨V1.1.size,0,none⟩) k.aa.length (some ⟨V2.1.size,0,none⟩) k.c.length k)).1.size:=by rw[aS];omega
 refine⟨_,_,_,_,_,_,fun q=>P1 q\/P2 q\/P3 q,rfl,⟨⟨P1,P2,P3,?_,?_,?_,fun q h=>.inl h,fun q h=>.inr (.inl h),fun q h=>.inr (.inr h),fun q h h'=>?_,fun q h h'=>?_,fun q h h'=>?_⟩,fun q hq=>?_⟩,aI (by omega) (dU (some ⟨V0.1.size,0,none⟩) k.f.length (some ⟨V1.1.size,0,none⟩) k.aa.length (some ⟨V2.1.size,0,none⟩) k.c.length k) _ _ B4.out⟩
 ·exact(O1.out.aM (w':=cO V4 (X.1.size+1) 0 (dU (some ⟨V0.1.size,0,none⟩) k.f.length (some ⟨V1.1.size,0,none⟩) k.aa.length (some ⟨V2.1.size,0,none⟩) k.c.length k)) Xb (fun q hq=>by have:=n3 q hq;exact hw q (by omega) (by omega))).low (by omega)
 ·exact(O2.out.aM (Y:=cO V4 (X.1.size+1) 0 (dU (some ⟨V0.1.size,0,none⟩) k.f.length (some ⟨V1.1.size,0,none⟩) k.aa.length (some ⟨V2.1.size,0,none⟩) k.c.length k)) Xb (fun q hq=>by have:=m3 q hq;exact hw q (by omega) (by omega))).low (by omega)
 ·exact(O3.out.aM (Y:=cO V4 (X.1.size+1) 0 (dU (some ⟨V0.1.size,0,none⟩) k.f.length (some ⟨V1.1.size,0,none⟩) k.aa.length (some ⟨V2.1.size,0,none⟩) k.c.length k)) Xb (fun q hq=>by have:=l3 q hq;exact hw q (by omega) (by omega))).low (by omega)
 ·have:=n3 q h;have:=m3 q h';omega
 ·have:=n3 q h;have:=l3 q h';omega
 ·have:=m3 q h;have:=l3 q h';omega
 ·show X.1.size<=q/\q<(cO V4 (X.1.size+1) 0 (dU (some ⟨V0.1.size,0,none⟩) k.f.length (some ⟨V1.1.size,0,none⟩) k.aa.length (some ⟨V2.1.size,0,none⟩) k.c.length k)).1.size
  rw[aS];rcases hq with hq|hq|hq
  ·have:=n3 q hq;omega
  ·have:=m3 q hq;omega
  ·have:=l3 q hq;omega
theorem df.eq(X:World)(a1:OA)(c1:Nat)(a2:OA)(c2:Nat)(a3:OA)(c3:Nat)(a1':OA)(c1':Nat)(YN:OA)(c2':Nat)(a3':OA)(c3':Nat)(k:C6)(ht:df.S k)(h1:df.Rd X a1 c1 a2 c2 a3 c3 k)(h2:df.Rd X a1' c1' YN c2' a3' c3' k):Calls prog 9 #[.agg #[vI k.v,vI k.u,.slice a1 k.f.length c1,.slice a2 k.aa.length c2,.slice a3 k.c.length c3,.bool k.w],.agg #[vI k.v,vI k.u,.slice a1' k.f.length c1',.slice YN k.aa.length c2',.slice a3' k.c.length c3',.bool k.w]] X fun e w'=>e=.returned (.bool true)/\Below X.1.size X w':=by
 obtain⟨U0,kN,b0,x0,z0⟩:=iI X (dU a1 c1 a2 c2 a3 c3 k) 32;obtain⟨U,hU,b1,x1,-⟩:=iI U0 (dU a1' c1' YN c2' a3' c3' k) 32;rw[z0]at x1;have bU:=au b0 b1;have FA:Hid (Bx U X.1.size (dU a1 c1 a2 c2 a3 c3 k)):=x0.later b1;have FB:Hid (Bx U (X.1.size+1) (dU a1' c1' YN c2' a3' c3' k)):=x1;have HR:=pI (h1.later bU) (h2.later bU) ht bU;rw[kN]at hU;clear b0 x0 z0 b1 x1 bU kN h1 h2 ht;have d0:(k.v != k.v)=false:=by simp
 have d1:(k.u != k.u)=false:=by simp
 have d5:(k.w != k.w)=false:=by simp
 have p0:=FA.out.c3;have r0:=FB.out.c3;rw[hU]at p0 r0;go_enter func9,ntmps9;go_wp2_with fail;rw[<-hU];clear hU p0 r0;refine(F6 U a1 a1' k.f.length c1 c1' k.f (by have:=HR.out.2.2.1.p;unfold maxLen;omega) (fun z hz=>by have:=HR.out.2.2.1.ps z hz;unfold maxLen;omega) HR.out.1.p HR.out.2.1.p).mono ?_;rintro e w1 ⟨rfl,b1⟩;have B1:=tx.af b1;clear b1;have p3:=(FA.out.later B1.out).1 3 _ rfl;have r3:=(FB.out.later B1.out).1 3 _ rfl;go_wp2_with fail;refine(yN.eq w1 a2 YN c2 c2' k.aa HR.out.2.2.1.m HR.out.2.2.1.ms (HR.out.1.later B1.out).m (HR.out.2.1.later B1.out).m).mono ?_;rintro e w2 ⟨rfl,b2⟩;have B2:Hid (Below U.1.size U w2):=au B1.out b2;clear b2 p3 r3;have p4:=(FA.out.later B2.out).1 4 _ rfl;have r4:=(FB.out.later B2.out).1 4 _ rfl;go_wp2_with fail;refine(yP.eq w2 a3 a3' c3 c3' k.c HR.out.2.2.1.t HR.out.2.2.1.ts (HR.out.1.later B2.out).t (HR.out.2.1.later B2.out).t).mono ?_;rintro e w3 ⟨rfl,b3⟩;have B3:Hid (Below U.1.size U w3):=au B2.out b3;clear b3 p4 r4;have p5:=(FA.out.later B3.out).1 5 _ rfl;have r5:=(FB.out.later B3.out).1 5 _ rfl;go_wp2;go_ret;exact⟨rfl,au HR.out.2.2.2 B3.out⟩
end
section
open Go.Proofs.Tryz
theorem df.Ow.low{w:World}{B B':Nat}{a1:OA}{c1:Nat}{a2:OA}{c2:Nat}{a3:OA}{c3:Nat}{k:C6}{P:Nat->Prop}(h:df.Ow w B a1 c1 a2 c2 a3 c3 k P)(hb:B'<=B):df.Ow w B' a1 c1 a2 c2 a3 c3 k P:=by
 obtain⟨⟨P1,P2,P3,h1,h2,h3,h4⟩,h5⟩:=h;exact⟨⟨P1,P2,P3,h1.low hb,h2.low hb,h3.low hb,h4⟩,fun q hq=>⟨Nat.le_trans hb (h5 q hq).1,(h5 q hq).2⟩⟩
end
section
open Go.Proofs.Tryz
variable {g:Nat->Nat}{v:Value}{w:World}
def iB{α:Type}(hd:α->List Int)(ln:α->Nat)(r:α)(q cap:Nat):List Value:=(hd r).map (Value.int .i64)++[.slice (some ⟨q,0,none⟩) (ln r) cap]
def BO{α:Type}(hd:α->List Int)(ln:α->Nat)(rs:List α)(g nJ:Nat->Nat):List Value:=rs.zipIdx.flatMap fun p=>iB hd ln p.1 (g p.2) (nJ p.2)
theorem jK{β:Type}{f:β->List Value}{sz:Nat}:∀{l:List β} (_:∀x∈l,(f x).length=sz){i t:Nat}{x:β},l[i]?=some x->t<sz->(l.flatMap f)[i*sz+t]?=(f x)[t]?
 | [],_,i,t,x,h,_=>by simp at h
 | y::l,hf,0,t,x,h,ht=>by
  simp at h;subst h;rw[List.flatMap_cons,List.getElem?_append_left (by rw[hf y (by simp)];omega)];simp
 | y::l,hf,i+1,t,x,h,ht=>by
  have hl:=hf y (by simp);rw[List.flatMap_cons,List.getElem?_append_right (by rw[hl,Nat.add_mul];omega),hl,show(i+1)*sz+t-sz=i*sz+t by rw[Nat.add_mul];omega];exact jK (fun x hx=>hf x (by simp[hx])) (by simpa using h) ht
theorem Qx{α:Type}{hd:α->List Int}{ln:α->Nat}{sz:Nat}(hh:∀r,(hd r).length+1=sz){rs:List α}{nJ:Nat->Nat}{i t:Nat}{r:α}(h:rs[i]?=some r)(ht:t<sz):(BO hd ln rs g nJ)[i*sz+t]?=(iB hd ln r (g i) (nJ i))[t]?:=by
 have h':rs.zipIdx[i]?=some (r,i):=by simp[h]
 exact jK (f:=fun p:α×Nat=>iB hd ln p.1 (g p.2) (nJ p.2)) (fun x _=>by simp[iB,hh]) h' ht
theorem EU{β:Type}{f f':β->List Value}:∀{l:List β},(∀x∈l,f x=f' x)->l.flatMap f=l.flatMap f'
 | [],_=>rfl
 | y::l,h=>by rw[List.flatMap_cons,List.flatMap_cons,h y (by simp),EU (fun x hx=>h x (by simp[hx]))]
theorem Kk{α:Type}{hd:α->List Int}{ln:α->Nat}(rs:List α)(r:α)(g nJ:Nat->Nat)(q cap:Nat):BO hd ln (rs++[r]) (fun i=>if i=rs.length then q else g i) (fun i=>if i=rs.length then cap else nJ i)=BO hd ln rs g nJ++iB hd ln r q cap:=by
 unfold BO;rw[List.zipIdx_append,List.flatMap_append];congr 1
 ·have:∀p∈rs.zipIdx,p.2<rs.length:=fun p hp=>by
   have:=List.snd_lt_of_mem_zipIdx hp;omega
  refine EU fun p hp=>?_
  have:=this p hp;simp only[if_neg (show p.2≠rs.length by omega)]
 ·simp
structure iM{α:Type}(T:TypeId)(sz:Nat)(hd:α->List Int)(ln:α->Nat)(At:World->Nat->α->Prop)(w:World)(base:Nat)(v:Value)(rs:List α)(g:Nat->Nat):Prop where
 row:∃nJ:Nat->Nat,w.ownsRow base T sz v rs.length (BO hd ln rs g nJ)/\∀i r,rs[i]?=some r->ln r<=nJ i
 low:∀i,i<rs.length->base<=g i
 lt:∀i,i<rs.length->g i<w.1.size
 ne:∀i,i<rs.length->v.ownBlock≠some (g i)
 sub:∀i r,rs[i]?=some r->At w (g i) r
 inj:∀i j,i<rs.length->j<rs.length->g i=g j->i=j
theorem iM.nil{α:Type}{T:TypeId}{sz:Nat}{hd:α->List Int}{ln:α->Nat}{At:World->Nat->α->Prop}(w:World)(base:Nat)(g:Nat->Nat):iM T sz hd ln At w base (.slice none 0 0) [] g:=
 ⟨⟨fun _=>0,⟨by simp[BO],.inl ⟨rfl,rfl⟩⟩,fun i r e=>by simp at e⟩,fun i h=>by simp at h,fun i h=>by simp at h,fun i h=>by simp at h,fun i r e=>by simp at e,fun i j h=>by simp at h⟩
theorem iM.lies{α:Type}{T:TypeId}{sz:Nat}{hd:α->List Int}{ln:α->Nat}{At:World->Nat->α->Prop}{base:Nat}{rs:List α}(h:iM T sz hd ln At w base v rs g){q:Nat}(e:v.ownBlock=some q):base<=q/\q<w.1.size:=by
 obtain⟨nJ,ho,_⟩:=h.row;exact World.ownsRow.lt ho q e
theorem iM.aM{α:Type}{T:TypeId}{sz:Nat}{hd:α->List Int}{ln:α->Nat}{At:World->Nat->α->Prop}(MJ:∀(w w':World) (b:Nat) (r:α),w'.1[b]?=w.1[b]?->At w b r->At w' b r){w':World}{base:Nat}{rs:List α}(h:iM T sz hd ln At w base v rs g)(dQ:w.1.size<=w'.1.size)(hs:∀q,q<w.1.size->(v.ownBlock=some q\/∃i,i<rs.length/\g i=q)->w'.1[q]?=w.1[q]?):iM T sz hd ln At w' base v rs g:=by
 obtain⟨nJ,ho,hc⟩:=h.row;refine⟨⟨nJ,⟨ho.1,ho.2.imp id ?_⟩,hc⟩,h.low,fun i hi=>Nat.lt_of_lt_of_le (h.lt i hi) dQ,h.ne,fun i r e=>?_,h.inj⟩
 ·rintro ⟨q,cap,cur,rfl,l,hg,r⟩;exact⟨q,cap,cur,rfl,l,(hs q (World.ownsRow.lt ho q rfl).2 (.inl rfl)).trans hg,r⟩
 ·have hi:=(List.getElem?_eq_some_iff.1 e).1;exact MJ _ _ _ _ (hs _ (h.lt i hi) (.inr ⟨i,hi,rfl⟩)) (h.sub i r e)
theorem iM.own{α:Type}{T:TypeId}{sz:Nat}{hd:α->List Int}{ln:α->Nat}{At:World->Nat->α->Prop}(hh:∀r,(hd r).length+1=sz){base:Nat}{rs:List α}(h:iM T sz hd ln At w base v rs g)(eO:rs≠[]):
  ∃b cap,v=.slice (some ⟨b,0,none⟩) rs.length cap/\base<=b/\b<w.1.size/\rs.length<=cap/\Room w b (rs.length*sz)/\gT sz hd ln At w base b rs.length rs g:=by
 obtain⟨nJ,ho,hc⟩:=h.row;have vQ:=List.length_pos_iff.2 eO
 have xS:∃b cap,v=.slice (some ⟨b,0,none⟩) rs.length cap/\rs.length<=cap:=by
  rcases ho.2 with ⟨_,h0⟩|⟨b,cap,cur,rfl,_,_,hl,_⟩
  ·omega
  ·exact⟨b,cap,rfl,hl⟩
 obtain⟨b,cap,rfl,hl⟩:=xS;have hb:=World.ownsRow.lt ho b rfl;have hlen:∀i r,rs[i]?=some r->i<rs.length:=fun i r e=>(List.getElem?_eq_some_iff.1 e).1
 have bg:∀i r t,rs[i]?=some r->t<sz->w.cell? ⟨b,i*sz+t,none⟩=(iB hd ln r (g i) (nJ i))[t]?:=fun i r t e ht=>by
  have:(i+1)*sz<=rs.length*sz:=Nat.mul_le_mul_right sz (hlen i r e);rw[Nat.add_mul]at this;rw[World.ownsRow.cellAt ho _ (by omega)];exact Qx hh e ht
 refine⟨b,cap,rfl,hb.1,hb.2,hl,fun j hj=>?_,⟨rfl,fun i r e t z ht=>?_,fun i r e=>?_,h.low,h.lt,fun i hi e=>h.ne i hi (by rw[e];rfl),h.sub,h.inj⟩⟩
 ·have hx:j<(BO hd ln rs g nJ).length:=by rw[ho.1];exact hj
  exact⟨_,by rw[World.ownsRow.cellAt ho j hj];exact List.getElem?_eq_getElem hx,World.ownsRow.frozenAt ho j⟩
 ·have TM:=(List.getElem?_eq_some_iff.1 ht).1;have:=hh r;rw[bg i r t e (by omega),iB,List.getElem?_append_left (by simpa using TM),List.getElem?_map,ht];rfl
 ·have:=hh r;refine⟨nJ i,?_,hc i r e⟩;rw[bg i r (sz-1) e (by omega),iB,List.getElem?_append_right (by simp;omega)];simp[show sz-1-(hd r).length=0 by omega]
theorem iM.push{α:Type}{T ST:TypeId}{sz BA:Nat}{hd:α->List Int}{ln:α->Nat}{At:World->Nat->α->Prop}(MJ:∀(w w':World) (b:Nat) (r:α),w'.1[b]?=w.1[b]?->At w b r->At w' b r)(hh:∀r,(hd r).length+1=sz){P:Program}{i0:TypeInfo}{z:Value}(ht:P.underlying ST=some (.slice T))(hi:P.info? T=some i0)(hz:i0.zero=some z)(hs:i0.size=sz)(TC:i0.bytes=BA)(nM:z.cells.size=sz)(gu:BA<=1000)
  {W:World}{base e:Nat}{v:Value}{rs:List α}{g:Nat->Nat} (h:iM T sz hd ln At W base v rs g) (r:α) (q cap:Nat) (hm:rs.length<=100000) (ty:TypeId)
  (he:∀j u,(iB hd ln r q cap)[j]?=some u->W.cell? ⟨e,j,none⟩=some u) (bg:At W q r) (hc:ln r<=cap) (hq:base<=q) (WW:q<W.1.size) (hn:v.ownBlock≠some q) (hf:∀i,i<rs.length->g i≠q) (gW:base<=W.1.size):
  ∃v' W',(Builtin.append_ #[ST,ST] ty #[v,.slice (some ⟨e,0,none⟩) 1 1]).run P W=.ok v' W'/\iM T sz hd ln At W' base v' (rs++[r]) (fun i=>if i=rs.length then q else g i)/\W.grownBy W' v.ownBlock/\(v'.ownBlock=v.ownBlock\/v'.ownBlock=some W.1.size):=by
 obtain⟨nJ,ho,sJ⟩:=h.row;have vN:∀(b o j:Nat),(⟨b,o,none⟩:Addr).add j=⟨b,o+j,none⟩:=fun b o j=>by unfold Addr.add;split<;>simp_all
 obtain⟨v',W',kI,fG,hg,TH,iD⟩:=run_append_own_at (P:=P) W base ST ty T i0 z sz BA ht hi hz hs TC nM (by have:=hh r;omega)
  v rs.length _ ho ⟨e,0,none⟩ 1 1 (iB hd ln r q cap) (by simp[iB,hh]) (fun j u hu=>by rw[vN,Nat.zero_add];exact he j u hu)
  (fun u hu=>by
   simp only[iB,List.mem_append,List.mem_map,List.mem_singleton]at hu
   rcases hu with ⟨x,_,rfl⟩|rfl<;>rfl) (by unfold maxLen;omega) (by
   have:(rs.length+1)*BA<=100001*1000:=Nat.mul_le_mul (by omega) gu
   omega) gW
 have dS:∀x,x<W.1.size->v.ownBlock≠some x->W'.1[x]?=W.1[x]?:=fun x hx eO=>hg.block x hx (fun e'=>eO e'.symm)
 have Z8:∀x,x<W.1.size->v.ownBlock≠some x->v'.ownBlock≠some x:=fun x hx eO=>by
  rcases iD with e'|e'
  ·rw[e'];exact eO
  ·rw[e'];intro NT;cases NT;omega
 have split:∀i y,(rs++[r])[i]?=some y->(i<rs.length/\rs[i]?=some y)\/(i=rs.length/\y=r):=fun i y e=>by
  by_cases hi:i<rs.length
  ·rw[List.getElem?_append_left hi]at e;exact .inl ⟨hi,e⟩
  ·rw[List.getElem?_append_right (by omega)]at e
   have h0:i-rs.length=0:=by
    rcases Nat.eq_zero_or_pos (i-rs.length)with h|h
    ·exact h
    ·rw[List.getElem?_eq_none (by simp;omega)]at e;cases e
   rw[h0]at e;simp at e;exact .inr ⟨by omega,e.symm⟩
 have hlen:(rs++[r]).length=rs.length+1:=by simp
 refine⟨v',W',kI,⟨⟨fun i=>if i=rs.length then cap else nJ i,by rw[Kk,hlen];exact fG,fun i y e'=>?_⟩,fun i AV=>?_,fun i AV=>?_,fun i AV=>?_,fun i y e'=>?_,fun i j AV Od ee=>?_⟩,hg,iD⟩
 ·rcases split i y e' with ⟨AV,e'⟩|⟨rfl,rfl⟩
  ·show ln y<=if i=rs.length then cap else nJ i
   rw[if_neg (by omega)];exact sJ i y e'
  ·show ln y<=if rs.length=rs.length then cap else nJ rs.length
   rw[if_pos rfl];exact hc
 ·by_cases e':i=rs.length
  ·rw[if_pos e'];exact hq
  ·rw[if_neg e'];exact h.low i (by omega)
 ·by_cases e':i=rs.length
  ·rw[if_pos e'];exact Nat.lt_of_lt_of_le WW hg.size
  ·rw[if_neg e'];exact Nat.lt_of_lt_of_le (h.lt i (by omega)) hg.size
 ·by_cases e':i=rs.length
  ·rw[if_pos e'];exact Z8 q WW hn
  ·rw[if_neg e'];exact Z8 _ (h.lt i (by omega)) (h.ne i (by omega))
 ·rcases split i y e' with ⟨AV,e'⟩|⟨rfl,rfl⟩
  ·rw[if_neg (by omega)];exact MJ _ _ _ _ (dS _ (h.lt i AV) (h.ne i AV)) (h.sub i y e')
  ·rw[if_pos rfl];exact MJ _ _ _ _ (dS _ WW hn) bg
 ·by_cases ei:i=rs.length<;>by_cases ek:j=rs.length
  ·omega
  ·simp only[if_pos ei,if_neg ek]at ee;exact absurd ee.symm (hf j (by omega))
  ·simp only[if_neg ei,if_pos ek]at ee;exact absurd ee (hf i (by omega))
  ·simp only[if_neg ei,if_neg ek]at ee;exact h.inj i j (by omega) (by omega) ee
end
section
open Go.Proofs.Tryz
variable {B m q:Nat}{X:World}{a:OA}{g:Nat->Nat->Prop}{v:Value}
def Kd.flat{D V:Type}(K:Kd D V)(ps:List (V×D)):List Value:=ps.flatMap fun p=>K.cells p.1 p.2
theorem Kd.xO{D V:Type}(K:Kd D V)(ps:List (V×D)):(K.flat ps).length=ps.length*K.n:=by
 induction ps with
 | nil=>simp[Kd.flat]
 | cons p ps ih=>
  unfold Kd.flat at ih ⊢;rw[List.flatMap_cons,List.length_append,ih,K.len,List.length_cons,Nat.add_mul];omega
theorem Kd.jK{D V:Type}(K:Kd D V){ps:List (V×D)}{i t:Nat}{p:V×D}(h:ps[i]?=some p)(ht:t<K.n):(K.flat ps)[i*K.n+t]?=(K.cells p.1 p.2)[t]?:=Go.Proofs.YtbiigfbhhkiodaaGreatDoor.jK (f:=fun p:V×D=>K.cells p.1 p.2) (fun _ _=>K.len _ _) h ht
theorem Kd.NW{D V:Type}(K:Kd D V)(ps:List (V×D))(p:V×D):K.flat (ps++[p])=K.flat ps++K.cells p.1 p.2:=by simp[Kd.flat]
structure Kd.Grow{D V:Type}(K:Kd D V)(T:TypeId)(X:World)(B:Nat)(v:Value)(ps:List (V×D))(g:Nat->Nat->Prop):Prop where
 row:X.ownsRow B T K.n v ps.length (K.flat ps)
 sub:∀i p,ps[i]?=some p->K.Ow X B p.1 p.2 (g i)
 ne:∀i q,i<ps.length->g i q->v.ownBlock≠some q
 ap:∀i j q,i<ps.length->j<ps.length->i≠j->g i q->¬g j q
def Kd.lK{D V:Type}(v:Value)(ps:List (V×D))(g:Nat->Nat->Prop)(q:Nat):Prop:=v.ownBlock=some q\/∃i,i<ps.length/\g i q
theorem Kd.Grow.nil{D V:Type}(K:Kd D V)(T:TypeId)(X:World)(B:Nat)(g:Nat->Nat->Prop):K.Grow T X B (.slice none 0 0) [] g:=
 ⟨⟨by simp[Kd.flat],.inl ⟨rfl,rfl⟩⟩,fun i p e=>by simp at e,fun i q h=>by simp at h,fun i j q h=>by simp at h⟩
theorem Kd.Grow.blocks{D V:Type}{K:Kd D V}{T:TypeId}{ps:List (V×D)}(h:K.Grow T X B v ps g)(hq:Kd.lK v ps g q):B<=q/\q<X.1.size:=by
 rcases hq with e|⟨i,hi,hq⟩
 ·exact World.ownsRow.lt h.row q e
 ·exact K.of (h.sub i _ (List.getElem?_eq_getElem hi)) hq
theorem Kd.Grow.aM{D V:Type}{K:Kd D V}{T:TypeId}{X Y:World}{B:Nat}{v:Value}{ps:List (V×D)}{g:Nat->Nat->Prop}(h:K.Grow T X B v ps g)(hs:X.1.size<=Y.1.size)(hk:∀q,Kd.lK v ps g q->Y.1[q]?=X.1[q]?):K.Grow T Y B v ps g:=by
 refine⟨⟨h.row.1,h.row.2.imp id ?_⟩,fun i p e=>K.aM (h.sub i p e) hs (fun q hq=>hk q (.inr ⟨i,(List.getElem?_eq_some_iff.1 e).1,hq⟩)),h.ne,h.ap⟩;rintro ⟨q,cap,cur,rfl,l,hg,r⟩;exact⟨q,cap,cur,rfl,l,(hk q (.inl rfl)).trans hg,r⟩
theorem Kd.Grow.form{D V:Type}{K:Kd D V}{T:TypeId}{ps:List (V×D)}(h:K.Grow T X B v ps g):∃a cap,v=.slice a ps.length cap:=by
 rcases h.row.2 with ⟨rfl,h0⟩|⟨q,cap,cur,rfl,_⟩
 ·exact⟨none,0,by rw[h0]⟩
 ·exact⟨_,_,rfl⟩
theorem Kd.Grow.part{D V:Type}{K:Kd D V}{T:TypeId}{cap:Nat}{ps:List (V×D)}(h:K.Grow T X B (.slice a m cap) ps g){ds:List D}(hd:ps.map (·.2)=ds)(e:ps≠[]):∃b,a=some ⟨b,0,none⟩/\K.Part X B b ds.length ds g/\∀i p,ps[i]?=some p->At X b (i*K.n) (K.cells p.1 p.2):=by
 have vQ:=List.length_pos_iff.2 e;obtain⟨b,aZ,ev,hB,aN⟩:=World.ownsRow.form h.row vQ;have hl:ds.length=ps.length:=by rw[<-hd];simp
 have iV:=h.row;rw[ev]at iV;have ea:a=some ⟨b,0,none⟩:=by injection ev
 have eb:(Value.slice a m cap).ownBlock=some b:=by rw[ea];rfl
 have bg:∀i p,ps[i]?=some p->At X b (i*K.n) (K.cells p.1 p.2):=fun i p hp t u hu=>by
  have sK:=(List.getElem?_eq_some_iff.1 hp).1;have ht:t<K.n:=by have:=(List.getElem?_eq_some_iff.1 hu).1;rwa[K.len]at this
  have hm:i*K.n+K.n<=ps.length*K.n:=by rw[<-Nat.succ_mul];exact Nat.mul_le_mul_right _ sK
  rw[World.ownsRow.cellAt iV _ (by omega),K.jK hp ht];exact hu
 refine⟨b,ea,⟨fun j hj=>?_,fun i d hi=>?_,fun i q hi hq e'=>?_,fun i j q hi hj=>h.ap i j q (by omega) (by omega)⟩,bg⟩
 ·rw[hl]at hj;have hx:j<(K.flat ps).length:=by rw[K.xO];exact hj
  exact⟨_,by rw[World.ownsRow.cellAt iV j hj];exact List.getElem?_eq_getElem hx,World.ownsRow.frozenAt iV j⟩
 ·have sK:i<ps.length:=by have:=(List.getElem?_eq_some_iff.1 hi).1;omega
  have hp:=List.getElem?_eq_getElem sK
  have pZ:(ps[i]).2=d:=by
   rw[<-hd,List.getElem?_map,hp]at hi;simpa using hi
  exact⟨(ps[i]).1,by rw[<-pZ];exact bg i _ hp,by rw[<-pZ];exact h.sub i _ hp⟩
 ·subst e';exact h.ne i q (by omega) hq eb
theorem Kd.Grow.own{D V:Type}{K:Kd D V}{T:TypeId}{cap:Nat}{ps:List (V×D)}(h:K.Grow T X B (.slice a m cap) ps g){ds:List D}(hd:ps.map (·.2)=ds):K.xm X B a ds (Kd.lK (.slice a m cap) ps g):=by
 refine⟨?_,fun q hq=>h.blocks hq⟩;by_cases e:ps=[]
 ·left;rw[<-hd,e];rfl
 have hl:ds.length=ps.length:=by rw[<-hd];simp
 obtain⟨b,rfl,hp,_⟩:=h.part hd e;exact .inr ⟨b,g,rfl,.inl rfl,hp,fun i q hi hq=>.inr ⟨i,by omega,hq⟩⟩
theorem Kd.Grow.push{D V:Type}{K:Kd D V}{T ST:TypeId}{BA:Nat}{P:Program}{i0:TypeInfo}{z:Value}(ht:P.underlying ST=some (.slice T))(hi:P.info? T=some i0)(hz:i0.zero=some z)(hs:i0.size=K.n)(TC:i0.bytes=BA)(nM:z.cells.size=K.n)(gu:BA<=1000)(wv:0<K.n)
  {W:World}{B e:Nat}{v:Value}{ps:List (V×D)}{g:Nat->Nat->Prop} (h:K.Grow T W B v ps g) (x:V) (d:D) (Q:Nat->Prop) (hm:ps.length<=1100000) (ty:TypeId)
  (he:∀j u,(K.cells x d)[j]?=some u->W.cell? ⟨e,j,none⟩=some u) (h1:∀u∈K.cells x d,u.oneCell'=true) (ho:K.Ow W B x d Q) (hf:∀q,Q q->¬Kd.lK v ps g q) (hB:B<=W.1.size):
  ∃v' W',(Builtin.append_ #[ST,ST] ty #[v,.slice (some ⟨e,0,none⟩) 1 1]).run P W=.ok v' W'/\K.Grow T W' B v' (ps++[(x,d)]) (fun i=>if i=ps.length then Q else g i)/\W.grownBy W' v.ownBlock/\(v'.ownBlock=v.ownBlock\/v'.ownBlock=some W.1.size):=by
 have vN:∀(b o j:Nat),(⟨b,o,none⟩:Addr).add j=⟨b,o+j,none⟩:=fun b o j=>by unfold Addr.add;split<;>simp_all
 obtain⟨v',W',kI,fG,hg,TH,iD⟩:=run_append_own_at (P:=P) W B ST ty T i0 z K.n BA ht hi hz hs TC nM wv
  v ps.length _ h.row ⟨e,0,none⟩ 1 1 (K.cells x d) (by rw[K.len];omega) (fun j u hu=>by rw[vN,Nat.zero_add];exact he j u hu) h1 (by unfold maxLen;omega) (by
   have:(ps.length+1)*BA<=1100001*1000:=Nat.mul_le_mul (by omega) gu
   omega) hB
 have dS:∀q,q<W.1.size->v.ownBlock≠some q->W'.1[q]?=W.1[q]?:=fun q hq eO=>hg.block q hq (fun e'=>eO e'.symm)
 have Z8:∀q,q<W.1.size->v.ownBlock≠some q->v'.ownBlock≠some q:=fun q hq eO=>by
  rcases iD with e'|e'
  ·rw[e'];exact eO
  ·rw[e'];intro NT;cases NT;omega
 have hlen:(ps++[(x,d)]).length=ps.length+1:=by simp
 refine⟨v',W',kI,⟨by rw[K.NW,hlen];exact fG,fun i p e'=>?_,fun i q AV hq=>?_,fun i j q AV Od IC h1 h2=>?_⟩,hg,iD⟩
 ·by_cases hl:i<ps.length
  ·rw[List.getElem?_append_left hl]at e';simp only[if_neg (show i≠ps.length by omega)];have kR:=h.sub i p e';exact K.aM kR hg.size (fun q hq=>dS q (K.of kR hq).2 (h.ne i q hl hq))
  ·have dw:i=ps.length:=by have:=(List.getElem?_eq_some_iff.1 e').1;omega
   subst dw;rw[List.getElem?_append_right aU]at e';simp at e';subst e';simp only[if_pos];exact K.aM ho hg.size (fun q hq=>dS q (K.of ho hq).2 (fun NT=>hf q hq (.inl NT)))
 ·by_cases e1:i=ps.length
  ·simp only[if_pos e1]at hq;exact Z8 q (K.of ho hq).2 (fun NT=>hf q hq (.inl NT))
  ·simp only[if_neg e1]at hq;have dw:i<ps.length:=by omega
   exact Z8 q (h.blocks (.inr ⟨i,dw,hq⟩)).2 (h.ne i q dw hq)
 ·by_cases e1:i=ps.length
  ·by_cases e2:j=ps.length
   ·omega
   ·simp only[if_pos e1]at h1;simp only[if_neg e2]at h2;exact hf q h1 (.inr ⟨j,by omega,h2⟩)
  ·by_cases e2:j=ps.length
   ·simp only[if_neg e1]at h1;simp only[if_pos e2]at h2;exact hf q h2 (.inr ⟨i,by omega,h1⟩)
   ·simp only[if_neg e1]at h1;simp only[if_neg e2]at h2;exact h.ap i j q (by omega) (by omega) IC h1 h2
theorem Kd.Bu{D V:Type}{v':Value}{ps:List (V×D)}{p:V×D}{Q:Nat->Prop}{S:Nat}(hl:v'.ownBlock=v.ownBlock\/v'.ownBlock=some S)(h:Kd.lK v' (ps++[p]) (fun i=>if i=ps.length then Q else g i) q):Kd.lK v ps g q\/Q q\/q=S:=by
 rcases h with h|⟨i,hi,h⟩
 ·rcases hl with e|e
  ·rw[e]at h;exact .inl (.inl h)
  ·rw[e]at h;exact .inr (.inr (Option.some.inj h).symm)
 ·by_cases e:i=ps.length
  ·simp only[if_pos e]at h;exact .inr (.inl h)
  ·simp only[if_neg e]at h;simp at hi;exact .inl (.inr ⟨i,by omega,h⟩)
end
section
open Go.Proofs.Tryz
def R4.val(r:R4)(a:OA)(cap:Nat):Value:=.agg #[vI r.kind,vI r.tx,vI r.b,.slice a r.ai.length cap]
def K2.val(k:K2)(a:OA)(cap:Nat):Value:=.agg #[vI k.b,.slice a k.cells.length cap]
def eH(f:Nat->Bool)(n:Nat)(i:Int):Prop:=(i=-1/\∀j,j<n->f j=false)\/∃k:Nat,i=(k:Int)/\k<n/\f k=true/\∀j,j<k->f j=false
theorem iC{f:Nat->Bool}{n:Nat}{i:Int}(h:eH f n i):decide (0<=i)=!((List.range n).all fun j=>!f j):=by
 rcases h with ⟨rfl,h⟩|⟨k,rfl,hk,h,_⟩
 ·have:((List.range n).all fun j=>!f j)=true:=by
   rw[List.all_eq_true];intro j hj;rw[h j (List.mem_range.1 hj)];rfl
  rw[this];rfl
 ·have:((List.range n).all fun j=>!f j)=false:=by
   rw[List.all_eq_false];exact⟨k,List.mem_range.2 hk,by simp[h]⟩
  rw[this];simp
theorem af{p:Prop}(h:p):Hid p:=h
def MQ(w:World)(n:Nat)(rs:List R4)(f:Nat->Bool):Prop:=
 ∀(X:World) (i:Nat) (a':OA) (aZ:Nat),Below w.1.size w X->i<n->Sl X X.1.size a' (atR rs i).ai.length (atR rs i).ai->Calls prog 260 #[(atR rs i).val a' aZ] X fun e w'=>e=.returned (.bool (f i))/\Below X.1.size X w'
theorem Xj(w:World)(a:OA)(n cap:Nat)(rs:List R4)(f:Nat->Bool)(hn:n<=maxLen)(hs:J5 w w.1.size a n rs)(hf:MQ w n rs  f):
  Calls prog 276 #[.slice a n cap,.func (.func 260) #[] #[]] w fun e w'=>(∃i:Int,e=.returned (vI i)/\eH f n i)/\Below w.1.size w w':=by
 unfold maxLen at hn;obtain⟨hx,hs⟩:=hs;have HF:=af hf;clear hf;go_enter func276,ntmps276;go_wp2;go_loopw[8] (fun v wr=>∃j:Nat,j<=n/\v=vI j/\Below w.1.size w wr/\∀i,i<j->f i=false) (fun v _=>n-(intOf v).toNat)
 case atStart=>exact⟨0,Nat.zero_le _,rfl,aK,fun i h=>absurd h (by omega)⟩
 case round=>
  obtain⟨j,hj,rfl,aB,aQ⟩:=hrel;by_cases aN:j<n
  ·rcases hs with hs|⟨b,off,rfl,hb,h1⟩
   ·omega
   ·have hr:=(h1 j _ (jC (by omega))).below aB hb;have c0:=hr.c0;have c1:=hr.c1;have c2:=hr.c2;obtain⟨a',aZ,c3,fI,kz⟩:=hr.c3;have KA:=dw aQ aB;have hw:=HF.out wr j a' aZ aB aN (fI.mono aB.size);simp only[R4.val]at hw;clear h1 hr aQ fI aB kz;generalize (atR rs j).ai.length=ln at *
    cases hp:f j with
    | true=>
     rw[hp]at hw;go_wp2_with fail;refine hw.mono ?_;clear hw;rintro e w1 ⟨rfl,b1⟩;go_wp2;go_ret;exact⟨⟨_,rfl,.inr ⟨j,rfl,aN,hp,KA.out.1⟩⟩,KA.out.2.trans (b1.mono KA.out.2.size)⟩
    | false=>
     rw[hp]at hw;go_wp2_with fail;refine hw.mono ?_;clear hw;rintro e w1 ⟨rfl,b1⟩;go_wp2
     exact⟨⟨j+1,by omega,by simp,KA.out.2.trans (b1.mono KA.out.2.size),fun i hi=>by
      by_cases e:i=j
      ·rw[e];exact hp
      ·exact KA.out.1 i (by omega)⟩,by simp[intOf];omega⟩
  ·have:j=n:=by omega
   subst this;have hd:decide ((j:Int)<(j:Int))=false:=by simp
   have KA:=af (aQ);clear hs aQ;go_wp2;go_ret;exact⟨⟨_,rfl,.inl ⟨rfl,KA.out⟩⟩,aB⟩
theorem Ot(w:World)(a:OA)(n cap:Nat)(rs:List R4)(f:Nat->Bool)(hn:n<=maxLen)(hs:J5 w w.1.size a n rs)(hf:MQ w n rs f):
  Calls prog 262 #[.slice a n cap,.func (.func 260) #[] #[]] w fun e w'=>e=.returned (.bool (!((List.range n).all fun j=>!f j)))/\Below w.1.size w w':=by
 have hi:=Xj w a n cap rs f hn hs hf;clear hs hf;go_enter func262,ntmps262;go_wp2_with fail;refine hi.mono ?_;clear hi;rintro e w1 ⟨⟨i,rfl,uV⟩,b1⟩;have hb:=iC uV;clear uV;generalize hV:(!((List.range n).all fun j=>!f j))=V at hb;go_wp2;go_ret;exact⟨by rw[hV];rfl,b1⟩
def MP(w:World)(n:Nat)(rs:List K2)(f:Nat->Bool):Prop:=
 ∀(X:World) (i:Nat) (a':OA) (aZ:Nat),Below w.1.size w X->i<n->uz X X.1.size a' (dX rs i).cells.length (dX rs i).cells->Calls prog 256 #[(dX rs i).val a' aZ] X fun e w'=>e=.returned (.bool (f i))/\Below X.1.size X w'
theorem Xi(w:World)(a:OA)(n cap:Nat)(rs:List K2)(f:Nat->Bool)(hn:n<=maxLen)(hs:DR w w.1.size a n rs)(hf:MP w n rs  f):
  Calls prog 273 #[.slice a n cap,.func (.func 256) #[] #[]] w fun e w'=>(∃i:Int,e=.returned (vI i)/\eH f n i)/\Below w.1.size w w':=by
 unfold maxLen at hn;obtain⟨hx,hs⟩:=hs;have HF:=af hf;clear hf;go_enter func273,ntmps273;go_wp2;go_loopw[8] (fun v wr=>∃j:Nat,j<=n/\v=vI j/\Below w.1.size w wr/\∀i,i<j->f i=false) (fun v _=>n-(intOf v).toNat)
 case atStart=>exact⟨0,Nat.zero_le _,rfl,aK,fun i h=>absurd h (by omega)⟩
 case round=>
  obtain⟨j,hj,rfl,aB,aQ⟩:=hrel;by_cases aN:j<n
  ·rcases hs with hs|⟨b,off,rfl,hb,h1⟩
   ·omega
   ·have hr:=(h1 j _ (eZ (by omega))).below aB hb;have c0:=hr.c0;obtain⟨a',aZ,c1,fI,kz⟩:=hr.c1;have KA:=dw aQ aB;have hw:=HF.out wr j a' aZ aB aN (fI.mono aB.size);simp only[K2.val]at hw;clear h1 hr aQ fI aB kz;generalize (dX rs j).cells.length=ln at *
    cases hp:f j with
    | true=>
     rw[hp]at hw;go_wp2_with fail;refine hw.mono ?_;clear hw;rintro e w1 ⟨rfl,b1⟩;go_wp2;go_ret;exact⟨⟨_,rfl,.inr ⟨j,rfl,aN,hp,KA.out.1⟩⟩,KA.out.2.trans (b1.mono KA.out.2.size)⟩
    | false=>
     rw[hp]at hw;go_wp2_with fail;refine hw.mono ?_;clear hw;rintro e w1 ⟨rfl,b1⟩;go_wp2
     exact⟨⟨j+1,by omega,by simp,KA.out.2.trans (b1.mono KA.out.2.size),fun i hi=>by
      by_cases e:i=j
      ·rw[e];exact hp
      ·exact KA.out.1 i (by omega)⟩,by simp[intOf];omega⟩
  ·have:j=n:=by omega
   subst this;have hd:decide ((j:Int)<(j:Int))=false:=by simp
   have KA:=af (aQ);clear hs aQ;go_wp2;go_ret;exact⟨⟨_,rfl,.inl ⟨rfl,KA.out⟩⟩,aB⟩
theorem Oq(w:World)(a:OA)(n cap:Nat)(rs:List K2)(f:Nat->Bool)(hn:n<=maxLen)(hs:DR w w.1.size a n rs)(hf:MP w n rs f):
  Calls prog 259 #[.slice a n cap,.func (.func 256) #[] #[]] w fun e w'=>e=.returned (.bool (!((List.range n).all fun j=>!f j)))/\Below w.1.size w w':=by
 have hi:=Xi w a n cap rs f hn hs hf;clear hs hf;go_enter func259,ntmps259;go_wp2_with fail;refine hi.mono ?_;clear hi;rintro e w1 ⟨⟨i,rfl,uV⟩,b1⟩;have hb:=iC uV;clear uV;generalize hV:(!((List.range n).all fun j=>!f j))=V at hb;go_wp2;go_ret;exact⟨by rw[hV];rfl,b1⟩
def MS(w:World)(n:Nat)(rs:List Int)(f:Nat->Bool):Prop:=
 ∀(X:World) (i:Nat) ,Below w.1.size w X->i<n->True->Calls prog 263 #[vI (fC rs i)] X fun e w'=>e=.returned (.bool (f i))/\Below X.1.size X w'
theorem Xl(w:World)(a:OA)(n cap:Nat)(rs:List Int)(f:Nat->Bool)(hn:n<=maxLen)(hs:sD w w.1.size a n rs)(hf:MS w n rs  f):
  Calls prog 277 #[.slice a n cap,.func (.func 263) #[] #[]] w fun e w'=>(∃i:Int,e=.returned (vI i)/\eH f n i)/\Below w.1.size w w':=by
 unfold maxLen at hn;obtain⟨hx,hs⟩:=hs;have HF:=af hf;clear hf;go_enter func277,ntmps277;go_wp2;go_loopw[8] (fun v wr=>∃j:Nat,j<=n/\v=vI j/\Below w.1.size w wr/\∀i,i<j->f i=false) (fun v _=>n-(intOf v).toNat)
 case atStart=>exact⟨0,Nat.zero_le _,rfl,aK,fun i h=>absurd h (by omega)⟩
 case round=>
  obtain⟨j,hj,rfl,aB,aQ⟩:=hrel;by_cases aN:j<n
  ·rcases hs with hs|⟨b,off,rfl,hb,h1⟩
   ·omega
   ·have c0:=(aB.cell (p:=⟨b,off+j,none⟩) hb).trans (h1 j _ (jh (by omega)));have KA:=dw aQ aB;have hw:=HF.out wr j aB aN trivial;clear h1 aQ aB
    cases hp:f j with
    | true=>
     rw[hp]at hw;go_wp2_with fail;refine hw.mono ?_;clear hw;rintro e w1 ⟨rfl,b1⟩;go_wp2;go_ret;exact⟨⟨_,rfl,.inr ⟨j,rfl,aN,hp,KA.out.1⟩⟩,KA.out.2.trans (b1.mono KA.out.2.size)⟩
    | false=>
     rw[hp]at hw;go_wp2_with fail;refine hw.mono ?_;clear hw;rintro e w1 ⟨rfl,b1⟩;go_wp2
     exact⟨⟨j+1,by omega,by simp,KA.out.2.trans (b1.mono KA.out.2.size),fun i hi=>by
      by_cases e:i=j
      ·rw[e];exact hp
      ·exact KA.out.1 i (by omega)⟩,by simp[intOf];omega⟩
  ·have:j=n:=by omega
   subst this;have hd:decide ((j:Int)<(j:Int))=false:=by simp
   have KA:=af (aQ);clear hs aQ;go_wp2;go_ret;exact⟨⟨_,rfl,.inl ⟨rfl,KA.out⟩⟩,aB⟩
theorem Ou(w:World)(a:OA)(n cap:Nat)(rs:List Int)(f:Nat->Bool)(hn:n<=maxLen)(hs:sD w w.1.size a n rs)(hf:MS w n rs f):
  Calls prog 266 #[.slice a n cap,.func (.func 263) #[] #[]] w fun e w'=>e=.returned (.bool (!((List.range n).all fun j=>!f j)))/\Below w.1.size w w':=by
 have hi:=Xl w a n cap rs f hn hs hf;clear hs hf;go_enter func266,ntmps266;go_wp2_with fail;refine hi.mono ?_;clear hi;rintro e w1 ⟨⟨i,rfl,uV⟩,b1⟩;have hb:=iC uV;clear uV;generalize hV:(!((List.range n).all fun j=>!f j))=V at hb;go_wp2;go_ret;exact⟨by rw[hV];rfl,b1⟩
end
section
open Go.Proofs.Tryz
variable {P:Program}{z:Value}
theorem xD{α:Type}{cells:α->List Value}{T ST:TypeId}{sz BA:Nat}(hl:∀s,(cells s).length=sz)(h1:∀s,∀u∈cells s,u.oneCell'=true)(dQ:0<sz){i0:TypeInfo}(ht:P.underlying ST=some (.slice T))(hi:P.info? T=some i0)(hz:i0.zero=some z)(hs:i0.size=sz)(TC:i0.bytes=BA)(nM:z.cells.size=sz)(gu:BA<=1000)
  {W:World}{base:Nat}{v:Value} (h:W.ownsRow base T sz v 0 []) (xs:List α) (hx:0<xs.length) (hm:xs.length<=1048576) (ty:TypeId) (b off k:Nat) (src:∀i s,xs[i]?=some s->∀t u,(cells s)[t]?=some u->W.cell? ⟨b,off+i*sz+t,none⟩=some u) (gW:base<=W.1.size):
  ∃q cap W',(Builtin.append_ #[ST,ST] ty #[v,.slice (some ⟨b,off,none⟩) xs.length k]).run P W=.ok (.slice (some ⟨q,0,none⟩) xs.length cap) W'/\base<=q/\q<W'.1.size/\xs.length<=cap/\(∀i s,xs[i]?=some s->∀t u,(cells s)[t]?=some u->W'.cell? ⟨q,i*sz+t,none⟩=some u)/\Room W' q (xs.length*sz)/\W.grownBy W' v.ownBlock/\(v.ownBlock=some q\/q=W.1.size)/\W'.ownsRow base T sz (.slice (some ⟨q,0,none⟩) xs.length cap) xs.length (xs.flatMap cells):=by
 have vN:∀(b o j:Nat),(⟨b,o,none⟩:Addr).add j=⟨b,o+j,none⟩:=fun b o j=>by unfold Addr.add;split<;>simp_all
 have WH:∀l:List α,(l.flatMap cells).length=l.length*sz:=fun l=>by
  induction l with
  | nil=>simp
  | cons y l ih=>rw[List.flatMap_cons,List.length_append,ih,hl,List.length_cons,Nat.add_mul];omega
 obtain⟨v',W',kI,fG,hg,TH,iD⟩:=run_append_own_at (P:=P) W base ST ty T i0 z sz BA ht hi hz hs TC nM dQ
  v 0 [] h ⟨b,off,none⟩ xs.length k (xs.flatMap cells) (WH xs) (fun j u hu=>by
   have hj:j<xs.length*sz:=by rw[<-WH];exact(List.getElem?_eq_some_iff.1 hu).1
   have hi:j/sz<xs.length:=Nat.div_lt_of_lt_mul (by rw[Nat.mul_comm];exact hj);have rW:=List.getElem?_eq_getElem hi;have U8:j/sz*sz+j%sz=j:=Nat.div_add_mod' j sz;have:=jK (f:=cells) (l:=xs) (fun x _=>hl x) rW (Nat.mod_lt j dQ);rw[U8]at this;rw[vN,<-U8,<-Nat.add_assoc]
   exact src _ _ rW _ u (by rw[<-this];exact hu))
  (fun u hu=>by obtain⟨s,_,hs⟩:=List.mem_flatMap.1 hu;exact h1 s u hs) (by unfold maxLen;omega) (by
   have:(0+xs.length)*BA<=1048576*1000:=Nat.mul_le_mul (by omega) gu
   omega) gW
 rw[Nat.zero_add,List.nil_append]at fG
 have xS:∃q cap,v'=.slice (some ⟨q,0,none⟩) xs.length cap/\xs.length<=cap:=by
  rcases fG.2 with ⟨_,h0⟩|⟨q,cap,cur,rfl,_,_,hl,_⟩
  ·omega
  ·exact⟨q,cap,rfl,hl⟩
 obtain⟨q,cap,rfl,hc⟩:=xS;have hb:=World.ownsRow.lt fG q rfl;refine⟨q,cap,W',kI,hb.1,hb.2,hc,fun i s e t u hu=>?_,fun j hj=>?_,hg,?_,fG⟩
 ·have hi:=(List.getElem?_eq_some_iff.1 e).1;have ht:=(List.getElem?_eq_some_iff.1 hu).1;rw[hl]at ht;have:(i+1)*sz<=xs.length*sz:=Nat.mul_le_mul_right sz hi;rw[Nat.add_mul]at this;rw[World.ownsRow.cellAt fG _ (by omega),jK (fun x _=>hl x) e ht];exact hu
 ·exact⟨_,by rw[World.ownsRow.cellAt fG j hj];exact List.getElem?_eq_getElem (by rw[WH];exact hj),World.ownsRow.frozenAt fG j⟩
 ·rcases iD with e|e
  ·exact .inl e.symm
  ·exact .inr (Option.some.inj e)
theorem yl:(prog.info? 96).map (fun i=>(i.zero,i.size,i.bytes))=some (some (.agg #[vI 0,vI 0,vI 0,.bool false,vI 0]),5,40):=by kernel_rfl
theorem TY:(prog.info? 2).map (fun i=>(i.zero,i.size,i.bytes))=some (some (vI 0),1,8):=by kernel_rfl
theorem partsOf{t:TypeId}{s b:Nat}(h:(P.info? t).map (fun i=>(i.zero,i.size,i.bytes))=some (some z,s,b)):∃i,P.info? t=some i/\i.zero=some z/\i.size=s/\i.bytes=b:=by
 obtain⟨i,hi,oQ⟩:=Option.map_eq_some_iff.1 h;simp only[Prod.mk.injEq]at oQ;exact⟨i,hi,oQ.1,oQ.2.1,oQ.2.2⟩
theorem MC(W:World)(base:Nat)(v:Value)(h:W.ownsRow base 140 2 v 0 [])(xs:List C2)(hx:0<xs.length)(hm:xs.length<=1048576)(ty:TypeId)(b off k:Nat)(src:dJ W b off xs)(gW:base<=W.1.size):
  ∃q cap W',(Builtin.append_ #[141,141] ty #[v,.slice (some ⟨b,off,none⟩) xs.length k]).run prog W=.ok (.slice (some ⟨q,0,none⟩) xs.length cap) W'/\base<=q/\q<W'.1.size/\xs.length<=cap/\dJ W' q 0 xs/\Room W' q (xs.length*2)/\W.grownBy W' v.ownBlock/\(v.ownBlock=some q\/q=W.1.size):=by
 obtain⟨i0,uW,vS,mi,oP⟩:=partsOf E9
 obtain⟨q,cap,W',h1,h2,h3,h4,h5,h6,h7,h8,_⟩:=xD (cells:=C2.cells) (fun _=>rfl) (fun s u hu=>by
  simp only[C2.cells,List.mem_cons,List.not_mem_nil,or_false]at hu
  rcases hu with rfl|rfl<;>rfl) (by omega) underlying141 uW vS mi oP rfl (by omega) h xs hx hm ty b off k (fun i s e t u hu=>by
   obtain⟨c0,c1⟩:=src i s e;rcases t with _|_|t
   ·simp[C2.cells]at hu;subst hu;exact c0
   ·simp[C2.cells]at hu;subst hu;exact c1
   ·simp[C2.cells]at hu) gW
 refine⟨q,cap,W',h1,h2,h3,h4,fun i s e=>⟨?_,?_⟩,h6,h7,h8⟩
 ·rw[Nat.zero_add];exact h5 i s e 0 _ rfl
 ·rw[Nat.zero_add];exact h5 i s e 1 _ rfl
def S5.sS(s:S5):List Value:=[vI s.b,vI s.e,vI s.g,.bool s.j,vI s.i]
theorem FO(W:World)(base:Nat)(v:Value)(h:W.ownsRow base 96 5 v 0 [])(xs:List S5)(hx:0<xs.length)(hm:xs.length<=1048576)(ty:TypeId)(b off k:Nat)(src:aY W b off xs)(gW:base<=W.1.size):
  ∃q cap W',(Builtin.append_ #[89,89] ty #[v,.slice (some ⟨b,off,none⟩) xs.length k]).run prog W=.ok (.slice (some ⟨q,0,none⟩) xs.length cap) W'/\base<=q/\q<W'.1.size/\xs.length<=cap/\aY W' q 0 xs/\Room W' q (xs.length*5)/\W.grownBy W' v.ownBlock/\(v.ownBlock=some q\/q=W.1.size):=by
 obtain⟨i0,uW,vS,mi,oP⟩:=partsOf yl
 obtain⟨q,cap,W',h1,h2,h3,h4,h5,h6,h7,h8,_⟩:=xD (cells:=S5.sS) (fun _=>rfl) (fun s u hu=>by
  simp only[S5.sS,List.mem_cons,List.not_mem_nil,or_false]at hu
  rcases hu with rfl|rfl|rfl|rfl|rfl<;>rfl) (by omega) underlying89 uW vS mi oP rfl (by omega) h xs hx hm ty b off k (fun i s e t u hu=>by
   obtain⟨c0,c1,c2,c3,c4⟩:=src i s e;rcases t with _|_|_|_|_|t
   ·simp[S5.sS]at hu;subst hu;exact c0
   ·simp[S5.sS]at hu;subst hu;exact c1
   ·simp[S5.sS]at hu;subst hu;exact c2
   ·simp[S5.sS]at hu;subst hu;exact c3
   ·simp[S5.sS]at hu;subst hu;exact c4
   ·simp[S5.sS]at hu) gW
 refine⟨q,cap,W',h1,h2,h3,h4,fun i s e=>⟨?_,?_,?_,?_,?_⟩,h6,h7,h8⟩
 ·rw[Nat.zero_add];exact h5 i s e 0 _ rfl
 ·rw[Nat.zero_add];exact h5 i s e 1 _ rfl
 ·rw[Nat.zero_add];exact h5 i s e 2 _ rfl
 ·rw[Nat.zero_add];exact h5 i s e 3 _ rfl
 ·rw[Nat.zero_add];exact h5 i s e 4 _ rfl
theorem yx(W:World)(base:Nat)(T:TypeId)(sz:Nat):W.ownsRow base T sz (.slice none 0 0) 0 []:=⟨by simp,.inl ⟨rfl,rfl⟩⟩
theorem yw(w:World)(a:OA)(cap:Nat)(xs:List C2)(hx:0<xs.length)(hm:xs.length<=1048576)(hs:uz w w.1.size a xs.length xs):
  Calls prog 161 #[.slice a xs.length cap] w fun e w'=>∃q cp,e=.returned (.slice (some ⟨q,0,none⟩) xs.length cp)/\w.1.size<=q/\q<w'.1.size/\xs.length<=cp/\dJ w' q 0 xs/\Room w' q (xs.length*2)/\Below w.1.size w w':=by
 obtain⟨_,hs⟩:=hs;rcases hs with hs|⟨b,off,rfl,hb,h1⟩
 ·omega
 obtain⟨q,cp,W',hr,h2,h3,h4,h5,h6,h7,h8⟩:=MC w w.1.size (.slice none 0 0) (yx _ _ _ _) xs hx hm 141 b off cap h1 aU;have K:=wL h2 h3 h4 h5 h6 (show Below w.1.size w W' from aK.grown h7 aU (fun k h=>by cases h));clear h1 h2 h3 h4 h5 h6 h7 h8 hx hm;generalize xs.length=n at *;go_enter func161,ntmps161;go_wp2_with (at_builtin;refine eD _ rfl (.const (.slice none 0 0)) (.tmp 3) 141 rfl _ _ _ _ rfl rfl hr ?_);go_ret;exact⟨q,cp,rfl,K.out.1,K.out.2.1,K.out.2.2.1,K.out.2.2.2.1,K.out.2.2.2.2.1,K.out.2.2.2.2.2⟩
theorem K9(w:World)(a:OA)(cap:Nat)(xs:List C2)(hx:0<xs.length)(hm:xs.length<=1048576)(hs:uz w w.1.size a xs.length xs):
  Calls prog 135 #[.slice a xs.length cap] w fun e w'=>∃q cp,e=.returned (.slice (some ⟨q,0,none⟩) xs.length cp)/\w.1.size<=q/\q<w'.1.size/\xs.length<=cp/\dJ w' q 0 xs/\Room w' q (xs.length*2)/\Below w.1.size w w':=by
 obtain⟨_,hs⟩:=hs;rcases hs with hs|⟨b,off,rfl,hb,h1⟩
 ·omega
 have b0:Below w.1.size w (w.alloc (.cells #[] 140)):=aK.alloc aU _;obtain⟨q,cp,W',hr,h2,h3,h4,h5,h6,h7,h8⟩:=MC (w.alloc (.cells #[] 140)) w.1.size (.slice (some ⟨w.1.size,0,none⟩) 0 0) (World.ownsRow_made w #[] 0 aU (Nat.zero_le _) rfl) xs hx hm 141 b off cap (h1.below b0 hb) b0.size;have K:=wL h2 h3 h4 h5 h6 (show Below w.1.size w W' from b0.grown h7 b0.size (fun k h=>by cases h;exact Nat.le_refl _));clear h1 h2 h3 h4 h5 h6 h7 h8 hx hm b0;generalize xs.length=n at *;go_enter func135,ntmps135;go_wp2_with (at_builtin;refine eD _ rfl (.tmp 3) (.tmp 4) 141 rfl _ _ _ _ rfl rfl hr ?_);go_ret;exact⟨q,cp,rfl,K.out.1,K.out.2.1,K.out.2.2.1,K.out.2.2.2.1,K.out.2.2.2.2.1,K.out.2.2.2.2.2⟩
end
section
open Go.Proofs.Tryz
structure TR(s:Nat)(k t r:Int)(u:Value)(X:World):Prop where
 d0:X.cell? ⟨s,0,none⟩=some (vI k)
 d1:X.cell? ⟨s,1,none⟩=some (vI t)
 d2:X.cell? ⟨s,2,none⟩=some (vI r)
 d3:X.cell? ⟨s,3,none⟩=some u
 fd:∀j,X.frozen? ⟨s,j,none⟩=false
 e0:X.cell? ⟨s+1,0,none⟩=some (vI 0)
 e1:X.cell? ⟨s+1,1,none⟩=some (vI 0)
 e2:X.cell? ⟨s+1,2,none⟩=some (vI 0)
 e3:X.cell? ⟨s+1,3,none⟩=some (.slice none 0 0)
 fe:∀j,X.frozen? ⟨s+1,j,none⟩=false
theorem TR.aM{s:Nat}{k t r:Int}{u:Value}{X Y:World}(h:TR s k t r u X)(ea:Y.1[s]?=X.1[s]?)(eb:Y.1[s+1]?=X.1[s+1]?):TR s k t r u Y:=by
 have c:∀{b j:Nat}{u:Value},Y.1[b]?=X.1[b]?->X.cell? ⟨b,j,none⟩=some u->Y.cell? ⟨b,j,none⟩=some u:=fun {b j u} e h=>(World.cell?_of_block (a:=⟨b,j,none⟩) e).trans h
 exact⟨c ea h.d0,c ea h.d1,c ea h.d2,c ea h.d3,fun j=>(World.frozen?_of_block (a:=⟨s,j,none⟩) ea).trans (h.fd j),c eb h.e0,c eb h.e1,c eb h.e2,c eb h.e3,fun j=>(World.frozen?_of_block (a:=⟨s+1,j,none⟩) eb).trans (h.fe j)⟩
theorem AtR.dS{w:World}{q:Nat}{r:R4}(h:AtR w q r){p:Addr}(hp:p.block≠q)(v:Value):AtR (w.setCell p v) q r:=AtR.aj _ _ _ _ (Below.heap_setCell _ _ _ _ (fun e=>hp e.symm)) h
theorem Ev(w:World)(r:R4)(a:OA)(cap:Nat)(hx:0<r.ai.length)(hm:r.ai.length<=1048576)(hs:Sl w w.1.size a r.ai.length r.ai):
  Calls prog 162 #[r.val a cap] w fun e w'=>∃q cp,e=.returned (r.val (some ⟨q,0,none⟩) cp)/\w.1.size<=q/\q<w'.1.size/\r.ai.length<=cp/\AtR w' q r/\Below w.1.size w w':=by
 simp only[R4.val];obtain⟨_,hs⟩:=hs;rcases hs with hs|⟨b,off,rfl,hb,h1⟩
 ·omega
 obtain⟨W,hW⟩:=bO ((w.alloc (.cells #[vI r.kind,vI r.tx,vI r.b,.slice (some ⟨b,off,none⟩) r.ai.length cap] 188)).alloc (.cells #[vI 0,vI 0,vI 0,.slice none 0 0] 188));have dQ:W.1.size=w.1.size+2:=by subst hW;simp
 have bW:Below w.1.size w W:=by subst hW;exact(aK.alloc aU _).alloc (by simp) _
 have tW:TR w.1.size r.kind r.tx r.b (.slice (some ⟨b,off,none⟩) r.ai.length cap) W:=by
  subst hW;refine⟨?_,?_,?_,?_,?_,?_,?_,?_,?_,?_⟩;all_goals first|(intro j;go_simp;done)|(go_simp;done)
 obtain⟨q,cp,W',hr,h2,h3,h4,h5,h6,h7,h8⟩:=FO W W.1.size (.slice none 0 0) (yx _ _ _ _) r.ai hx hm 89 b off cap (h1.below bW hb) aU;have b7:Below W.1.size W W':=aK.grown h7 aU (fun k h=>by cases h);have nv:=tW.aM (Y:=W') (b7.block _ (by omega)) (b7.block _ (by omega));have K:=nE (show w.1.size+2<=q by omega) h3 h4 (show AtR W' q r from⟨h5,h6⟩) (bW.trans (b7.mono bW.size));obtain⟨d0,d1,d2,d3,fd,e0,e1,e2,e3,fe⟩:=nv;have z3:=tW.d3;have f3:=fd 3;have g0:=fe 0;have g1:=fe 1;have g2:=fe 2;have g3:=fe 3;clear h1 h2 h3 h4 h5 h6 h7 h8 hx hm bW tW b7 dQ fd fe;generalize r.ai.length=n at *;subst hW;go_enter func162,ntmps162;go_wp2_with (at_builtin;refine eD _ rfl (.const (.slice none 0 0)) (.tmp 4) 89 rfl _ _ _ _ rfl rfl hr ?_);obtain⟨k1,k2,k3,k4,k5⟩:=K.out;refine bodyPost_ret (v:=.agg #[vI r.kind,vI r.tx,vI r.b,.slice (some ⟨q,0,none⟩) n cp]) (by simp[results,results162,go_sem,e0,e1,e2,e3]) rfl ⟨q,cp,rfl,by omega,?_,k3,?_,?_⟩
 ·simpa[World.setCell]using k2
 ·exact((((k4.dS (by simp;omega) _).dS (by simp;omega) _).dS (by simp;omega) _).dS (by simp;omega) _).dS (by simp;omega) _
 ·exact((((k5.setCell (p:=⟨_,_,none⟩) (by simp) _).setCell (p:=⟨_,_,none⟩) (by simp) _).setCell (p:=⟨_,_,none⟩) (by simp) _).setCell (p:=⟨_,_,none⟩) (by simp) _).setCell (p:=⟨_,_,none⟩) (by simp) _
theorem Gn(w:World)(r:R4)(a:OA)(cap:Nat)(hx:0<r.ai.length)(hm:r.ai.length<=1048576)(hs:Sl w w.1.size a r.ai.length r.ai):
  Calls prog 136 #[r.val a cap] w fun e w'=>∃q cp,e=.returned (r.val (some ⟨q,0,none⟩) cp)/\w.1.size<=q/\q<w'.1.size/\r.ai.length<=cp/\AtR w' q r/\Below w.1.size w w':=by
 simp only[R4.val];obtain⟨_,hs⟩:=hs;rcases hs with hs|⟨b,off,rfl,hb,h1⟩
 ·omega
 obtain⟨W0,dO⟩:=bO ((w.alloc (.cells #[vI r.kind,vI r.tx,vI r.b,.slice (some ⟨b,off,none⟩) r.ai.length cap] 188)).alloc (.cells #[vI 0,vI 0,vI 0,.slice none 0 0] 188));have dQ:W0.1.size=w.1.size+2:=by subst dO;simp
 have bW:Below w.1.size w W0:=by subst dO;exact(aK.alloc aU _).alloc (by simp) _
 have tW:TR w.1.size r.kind r.tx r.b (.slice (some ⟨b,off,none⟩) r.ai.length cap) W0:=by
  subst dO;refine⟨?_,?_,?_,?_,?_,?_,?_,?_,?_,?_⟩;all_goals first|(intro j;go_simp;done)|(go_simp;done)
 have b0:Below W0.1.size W0 (W0.alloc (.cells #[] 96)):=aK.alloc aU _;have iV:(W0.alloc (.cells #[] 96)).ownsRow W0.1.size 96 5 (.slice (some ⟨W0.1.size,0,none⟩) 0 0) 0 []:=World.ownsRow_made W0 #[] 0 aU (Nat.zero_le _) rfl;obtain⟨q,cp,W',hr,h2,h3,h4,h5,h6,h7,h8⟩:=FO (W0.alloc (.cells #[] 96)) W0.1.size _ iV r.ai hx hm 89 b off cap ((h1.below bW hb).below b0 (Nat.lt_of_lt_of_le hb bW.size)) b0.size;have b7:Below W0.1.size W0 W':=b0.grown h7 b0.size (fun k h=>by cases h;exact Nat.le_refl _);have tA:=tW.aM (Y:=W0.alloc (.cells #[] 96)) (b0.block _ (by omega)) (b0.block _ (by omega));have nv:=tW.aM (Y:=W') (b7.block _ (by omega)) (b7.block _ (by omega));have K:=nE (show w.1.size+2<=q by omega) h3 h4 (show AtR W' q r from⟨h5,h6⟩) (bW.trans (b7.mono bW.size));obtain⟨d0,d1,d2,d3,fd,e0,e1,e2,e3,fe⟩:=nv;have z3:=tA.d3;have f3:=fd 3;have g0:=fe 0;have g1:=fe 1;have g2:=fe 2;have g3:=fe 3;rw[dQ]at hr;clear h1 h2 h3 h4 h5 h6 h7 h8 hx hm bW tW tA b7 b0 iV dQ fd fe;generalize r.ai.length=n at *;subst dO;go_enter func136,ntmps136;go_wp2_with (at_builtin;refine eD _ rfl (.tmp 3) (.tmp 5) 89 rfl _ _ _ _ rfl rfl hr ?_);obtain⟨k1,k2,k3,k4,k5⟩:=K.out;refine bodyPost_ret (v:=.agg #[vI r.kind,vI r.tx,vI r.b,.slice (some ⟨q,0,none⟩) n cp]) (by simp[results,results136,go_sem,e0,e1,e2,e3]) rfl ⟨q,cp,rfl,by omega,?_,k3,?_,?_⟩
 ·simpa[World.setCell]using k2
 ·exact((((k4.dS (by simp;omega) _).dS (by simp;omega) _).dS (by simp;omega) _).dS (by simp;omega) _).dS (by simp;omega) _
 ·exact((((k5.setCell (p:=⟨_,_,none⟩) (by simp) _).setCell (p:=⟨_,_,none⟩) (by simp) _).setCell (p:=⟨_,_,none⟩) (by simp) _).setCell (p:=⟨_,_,none⟩) (by simp) _).setCell (p:=⟨_,_,none⟩) (by simp) _
end
section
open Go.Proofs.Tryz
variable {W X:World}{g gk gr:Nat->Nat}{ks:List K2}{p q:Nat}{rs:List R4}{v vd vk vr:Value}{zs:List Int}
def gU{α:Type}(v:Value)(rs:List α)(g:Nat->Nat)(q:Nat):Prop:=v.ownBlock=some q\/∃i,i<rs.length/\g i=q
theorem iM.blocks{α:Type}{T:TypeId}{sz:Nat}{hd:α->List Int}{ln:α->Nat}{At:World->Nat->α->Prop}{w:World}{base:Nat}{rs:List α}(h:iM T sz hd ln At w base v rs g)(hq:gU v rs g q):base<=q/\q<w.1.size:=by
 rcases hq with hq|⟨i,hi,rfl⟩
 ·exact h.lies hq
 ·exact⟨h.low i hi,h.lt i hi⟩
theorem zT{α:Type}{v':Value}{rs:List α}{r:α}{S:Nat}(hl:v'.ownBlock=v.ownBlock\/v'.ownBlock=some S){x:Nat}(h:gU v' (rs++[r]) (fun i=>if i=rs.length then q else g i) x):gU v rs g x\/x=q\/x=S:=by
 rcases h with h|⟨i,hi,h⟩
 ·rcases hl with e|e
  ·rw[e]at h;exact .inl (.inl h)
  ·rw[e]at h;exact .inr (.inr (Option.some.inj h).symm)
 ·by_cases e:i=rs.length
  ·simp only[if_pos e]at h;exact .inr (.inl h.symm)
  ·simp only[if_neg e]at h;simp at hi;exact .inl (.inr ⟨i,by omega,h⟩)
structure MR(base p:Nat)(X:World)(vk vr vd:Value)(ks:List K2)(rs:List R4)(zs:List Int)(gk gr:Nat->Nat):Prop where
 gK:iM 143 2 wK D5 oN X base vk ks gk
 gR:iM 188 4 uP El AtR X base vr rs gr
 gD:X.ownsRow base 2 1 vd zs.length (zs.map (Value.int .i64))
 kr:∀q,gU vk ks gk q->¬gU vr rs gr q
 kd:∀q,gU vk ks gk q->vd.ownBlock≠some q
 rd:∀q,gU vr rs gr q->vd.ownBlock≠some q
 kp:∀q,gU vk ks gk q->q≠p
 rp:∀q,gU vr rs gr q->q≠p
 dp:vd.ownBlock≠some p
theorem MR.aM{base p:Nat}{X Y:World}{vk vr vd:Value}{ks:List K2}{rs:List R4}{zs:List Int}{gk gr:Nat->Nat}(h:MR base p X vk vr vd ks rs zs gk gr)(hs:X.1.size<=Y.1.size)(hk:∀q,q<X.1.size->base<=q->q≠p->Y.1[q]?=X.1[q]?):MR base p Y vk vr vd ks rs zs gk gr:=by
 refine⟨h.gK.aM oN.aj hs (fun q hq hb=>hk q hq (h.gK.blocks hb).1 (h.kp q hb)),h.gR.aM AtR.aj hs (fun q hq hb=>hk q hq (h.gR.blocks hb).1 (h.rp q hb)),⟨h.gD.1,h.gD.2.imp id ?_⟩,h.kr,h.kd,h.rd,h.kp,h.rp,h.dp⟩;rintro ⟨q,cap,cur,rfl,l,hg,r⟩;exact⟨q,cap,cur,rfl,l,(hk q (World.ownsRow.lt h.gD q rfl).2 l (fun e=>h.dp (by rw[<-e];rfl))).trans hg,r⟩
theorem MR.later{base:Nat}{Y:World}(h:MR base p X vk vr vd ks rs zs gk gr)(hb:Below X.1.size X Y):MR base p Y vk vr vd ks rs zs gk gr:=h.aM hb.size (fun q hq _ _=>hb.block q hq)
theorem MR.set{base o:Nat}{u:Value}(h:MR base p X vk vr vd ks rs zs gk gr):MR base p (X.setCell ⟨p,o,none⟩ u) vk vr vd ks rs zs gk gr:=h.aM (by simp[World.setCell]) (fun q _ _ hp=>Below.heap_setCell _ _ _ _ hp)
theorem MR.Vy{base:Nat}(h:MR base p X vk vr vd ks rs zs gk gr)(hb:Below X.1.size X W)(hX:base<=X.1.size)(Ve:p<X.1.size)(k:K2)(q cap e:Nat)(hm:ks.length<=100000)(ty:TypeId)
  (e0:W.cell? ⟨e,0,none⟩=some (vI k.b)) (e1:W.cell? ⟨e,1,none⟩=some (.slice (some ⟨q,0,none⟩) k.cells.length cap)) (bg:oN W q k) (hc:k.cells.length<=cap) (hq:X.1.size<=q) (WW:q<W.1.size):
  ∃v' Y,(Builtin.append_ #[84,84] ty #[vk,.slice (some ⟨e,0,none⟩) 1 1]).run prog W=.ok v' Y/\MR base p Y v' vr vd (ks++[k]) rs zs (fun i=>if i=ks.length then q else gk i) gr/\W.grownBy Y vk.ownBlock/\(∀x,vk.ownBlock=some x->base<=x/\x<X.1.size/\x≠p):=by
 have hW:=h.later hb;obtain⟨i0,uW,vS,mi,oP⟩:=partsOf Fa;have old:∀x,gU vk ks gk x->x<X.1.size:=fun x hx=>(h.gK.blocks hx).2
 obtain⟨v',Y,hr,hg,gP,hl⟩:=iM.push (hd:=wK) (ln:=D5) (sz:=2) (e:=e) oN.aj (fun _=>rfl) underlying84 uW vS mi oP rfl (by omega) hW.gK k q cap hm ty (fun j u hu=>by
  rcases j with _|_|j
  ·simp[iB,wK]at hu;subst hu;exact e0
  ·simp[iB,wK,D5]at hu;subst hu;exact e1
  ·simp[iB,wK]at hu) bg hc (by omega) WW (fun e'=>by have:=old q (.inl e');omega) (fun i hi e'=>by have:=old q (.inr ⟨i,hi,e'⟩);omega) (Nat.le_trans hX hb.size)
 have new:∀x,gU v' (ks++[k]) (fun i=>if i=ks.length then q else gk i) x->gU vk ks gk x\/X.1.size<=x:=fun x hx=>by
  rcases zT hl hx with h|h|h
  ·exact .inl h
  ·exact .inr (by omega)
  ·exact .inr (by have:=hb.size;omega)
 have fR:∀x,x<W.1.size->vk.ownBlock≠some x->Y.1[x]?=W.1[x]?:=fun x hx eO=>gP.block x hx (fun e'=>eO e'.symm)
 refine⟨v',Y,hr,⟨hg,hW.gR.aM AtR.aj gP.size (fun x hx bL=>fR x hx (fun e'=>h.kr x (.inl e') bL)),⟨hW.gD.1,hW.gD.2.imp id ?_⟩,fun x hx bL=>?_,fun x hx bL=>?_,h.rd,fun x hx bL=>?_,h.rp,h.dp⟩,gP,fun x hx=>⟨(h.gK.lies hx).1,(h.gK.lies hx).2,h.kp x (.inl hx)⟩⟩
 ·rintro ⟨x,cp,cur,rfl,l,iS,r⟩;exact⟨x,cp,cur,rfl,l,(fR x (World.ownsRow.lt hW.gD x rfl).2 (fun e'=>h.kd x (.inl e') rfl)).trans iS,r⟩
 ·rcases new x hx with hn|hn
  ·exact h.kr x hn bL
  ·have:=(h.gR.blocks bL).2;omega
 ·rcases new x hx with hn|hn
  ·exact h.kd x hn bL
  ·have:=(World.ownsRow.lt h.gD x bL).2;omega
 ·rcases new x hx with hn|hn
  ·exact h.kp x hn bL
  ·omega
theorem MR.Vz{base:Nat}(h:MR base p X vk vr vd ks rs zs gk gr)(hb:Below X.1.size X W)(hX:base<=X.1.size)(Ve:p<X.1.size)(k:R4)(q cap e:Nat)(hm:rs.length<=100000)(ty:TypeId)
  (e0:W.cell? ⟨e,0,none⟩=some (vI k.kind)) (e1:W.cell? ⟨e,1,none⟩=some (vI k.tx)) (e2:W.cell? ⟨e,2,none⟩=some (vI k.b)) (e3:W.cell? ⟨e,3,none⟩=some (.slice (some ⟨q,0,none⟩) k.ai.length cap)) (bg:AtR W q k) (hc:k.ai.length<=cap) (hq:X.1.size<=q) (WW:q<W.1.size):
  ∃v' Y,(Builtin.append_ #[85,85] ty #[vr,.slice (some ⟨e,0,none⟩) 1 1]).run prog W=.ok v' Y/\MR base p Y vk v' vd ks (rs++[k]) zs gk (fun i=>if i=rs.length then q else gr i)/\W.grownBy Y vr.ownBlock/\(∀x,vr.ownBlock=some x->base<=x/\x<X.1.size/\x≠p):=by
 have hW:=h.later hb;obtain⟨i0,uW,vS,mi,oP⟩:=partsOf Fb;have old:∀x,gU vr rs gr x->x<X.1.size:=fun x hx=>(h.gR.blocks hx).2
 obtain⟨v',Y,hr,hg,gP,hl⟩:=iM.push (hd:=uP) (ln:=El) (sz:=4) (e:=e) AtR.aj (fun _=>rfl) underlying85 uW vS mi oP rfl (by omega) hW.gR k q cap hm ty (fun j u hu=>by
  rcases j with _|_|_|_|j
  ·simp[iB,uP]at hu;subst hu;exact e0
  ·simp[iB,uP]at hu;subst hu;exact e1
  ·simp[iB,uP]at hu;subst hu;exact e2
  ·simp[iB,uP,El]at hu;subst hu;exact e3
  ·simp[iB,uP]at hu) bg hc (by omega) WW (fun e'=>by have:=old q (.inl e');omega) (fun i hi e'=>by have:=old q (.inr ⟨i,hi,e'⟩);omega) (Nat.le_trans hX hb.size)
 have new:∀x,gU v' (rs++[k]) (fun i=>if i=rs.length then q else gr i) x->gU vr rs gr x\/X.1.size<=x:=fun x hx=>by
  rcases zT hl hx with h|h|h
  ·exact .inl h
  ·exact .inr (by omega)
  ·exact .inr (by have:=hb.size;omega)
 have fR:∀x,x<W.1.size->vr.ownBlock≠some x->Y.1[x]?=W.1[x]?:=fun x hx eO=>gP.block x hx (fun e'=>eO e'.symm)
 refine⟨v',Y,hr,⟨hW.gK.aM oN.aj gP.size (fun x hx bL=>fR x hx (fun e'=>h.kr x bL (.inl e'))),hg,⟨hW.gD.1,hW.gD.2.imp id ?_⟩,fun x bL hx=>?_,h.kd,fun x hx bL=>?_,h.kp,fun x hx bL=>?_,h.dp⟩,gP,fun x hx=>⟨(h.gR.lies hx).1,(h.gR.lies hx).2,h.rp x (.inl hx)⟩⟩
 ·rintro ⟨x,cp,cur,rfl,l,iS,r⟩;exact⟨x,cp,cur,rfl,l,(fR x (World.ownsRow.lt hW.gD x rfl).2 (fun e'=>h.rd x (.inl e') rfl)).trans iS,r⟩
 ·rcases new x hx with hn|hn
  ·exact h.kr x bL hn
  ·have:=(h.gK.blocks bL).2;omega
 ·rcases new x hx with hn|hn
  ·exact h.rd x hn bL
  ·have:=(World.ownsRow.lt h.gD x bL).2;omega
 ·rcases new x hx with hn|hn
  ·exact h.rp x hn bL
  ·omega
theorem MR.om{base:Nat}{v:MV}{m:M4}(h:MR base p X (.slice v.ac m.ag.length v.cc) (.slice v.al m.h.length v.cl) (.slice v.ad m.ax.length v.cd) m.ag m.h m.ax gk gr):
  OM X base v m (gU (.slice v.ac m.ag.length v.cc) m.ag gk) (gU (.slice v.al m.h.length v.cl) m.h gr) (fun q=>(Value.slice v.ad m.ax.length v.cd).ownBlock=some q):=by
 refine⟨?_,?_,?_,h.kr,h.kd,h.rd,fun q hq=>(h.gK.blocks hq).1,fun q hq=>(h.gR.blocks hq).1,fun q hq=>(World.ownsRow.lt h.gD q hq).1⟩
 ·by_cases e:m.ag=[]
  ·exact .inl e
  ·obtain⟨b,cap,ev,h1,h2,h3,h4,h5⟩:=iM.own (hd:=wK) (sz:=2) (fun _=>rfl) h.gK e;have ea:v.ac=some ⟨b,0,none⟩:=by injection ev
   exact .inr ⟨b,gk,ea,.inl (by rw[ea];rfl),fun i hi=>.inr ⟨i,hi,rfl⟩,h2,h4,h5.base⟩
 ·by_cases e:m.h=[]
  ·exact .inl e
  ·obtain⟨b,cap,ev,h1,h2,h3,h4,h5⟩:=iM.own (hd:=uP) (sz:=4) (fun _=>rfl) h.gR e;have ea:v.al=some ⟨b,0,none⟩:=by injection ev
   exact .inr ⟨b,gr,ea,.inl (by rw[ea];rfl),fun i hi=>.inr ⟨i,hi,rfl⟩,h2,h4,h5.base⟩
 ·by_cases e:m.ax=[]
  ·exact .inl e
  ·have vQ:=List.length_pos_iff.2 e;obtain⟨b,cap,ev,h1,h2⟩:=World.ownsRow.form h.gD vQ;have ea:v.ad=some ⟨b,0,none⟩:=by injection ev
   have ec:v.cd=cap:=by injection ev
   have hg:=h.gD;rw[ea]at hg;refine .inr ⟨b,ea,by rw[ea];rfl,h2,fun i z ez=>?_,fun j hj=>⟨vI (m.ax[j]'hj),?_,World.ownsRow.frozenAt hg j⟩⟩
   ·have hi:=(List.getElem?_eq_some_iff.1 ez).1;rw[Nat.zero_add,World.ownsRow.cellAt hg i (by omega),List.getElem?_map,ez];rfl
   ·rw[World.ownsRow.cellAt hg j (by omega),List.getElem?_map,List.getElem?_eq_getElem hj];rfl
end
section
open Go.Proofs.Tryz
variable {W X:World}{gm gp gt:Nat->Nat->Prop}{ms:List (MV×M4)}{p:Nat}{ps:List ((Nat×Nat)×List Int)}{ts:List (tx.TV×tx.T7)}{vm vp vt:Value}
def pd.Ow(w:World)(B:Nat)(v:Nat×Nat)(zs:List Int)(P:Nat->Prop):Prop:=(P v.1/\eY w v.1 0 zs/\Room w v.1 zs.length/\zs.length<=v.2)/\(∀q,P q->B<=q/\q<w.1.size)
def EI:Kd (List Int) (Nat×Nat) where
 n:=1
 cells v zs:=[.slice (some ⟨v.1,0,none⟩) zs.length v.2]
 len:=fun _ _=>rfl
 Rd X v zs:=v.1<X.1.size/\eY X v.1 0 zs
 Ow:=pd.Ow
 later:=fun h b=>⟨Nat.lt_of_lt_of_le h.1 b.size,h.2.aj (b.block _ h.1)⟩
 sl:=fun h=>⟨(h.2 _ h.1.1).2,h.1.2.1⟩
 of:=fun h hq=>h.2 _ hq
 aM:=fun h hs hk=>⟨⟨h.1.1,h.1.2.1.aj (hk _ h.1.1),h.1.2.2.1.aj (hk _ h.1.1),h.1.2.2.2⟩,fun q hq=>⟨(h.2 q hq).1,Nat.lt_of_lt_of_le (h.2 q hq).2 hs⟩⟩
 low:=fun h hb=>⟨h.1,fun q hq=>⟨Nat.le_trans hb (h.2 q hq).1,(h.2 q hq).2⟩⟩
theorem Fv{B:Nat}{a:OA}{m cap:Nat}{g:Nat->Nat->Prop}(h:EI.Grow 102 X B (.slice a m cap) ps g){aR:List (List Int)}(hd:ps.map (·.2)=aR):KP.Ow X B a aR (Kd.lK (.slice a m cap) ps g):=by
 refine⟨?_,fun q hq=>h.blocks hq⟩;have hl:aR.length=ps.length:=by rw[<-hd];simp
 by_cases e:ps=[]
 ·refine⟨fun _=>0,?_,fun b e'=>.inl (by rw[e'];rfl),fun i hi=>by rw[hl,e]at hi;simp at hi⟩;have hz:aR=[]:=by rw[<-hd,e];rfl
  rcases h.row.2 with ⟨e',_⟩|⟨q,aZ,cur,e',hB,hg,r⟩
  ·left;exact⟨by injection e',by rw[hz];rfl,hz⟩
  ·right;have ea:a=some ⟨q,0,none⟩:=by injection e'
   refine⟨q,ea,hB,(World.ownsRow.lt h.row q (by rw[e'];rfl)).2,?_⟩;rw[hz];exact lN.nil X B q _
 have vQ:=List.length_pos_iff.2 e;obtain⟨b,aZ,ev,hB,aN⟩:=World.ownsRow.form h.row vQ;have iV:=h.row;rw[ev]at iV;have ea:a=some ⟨b,0,none⟩:=by injection ev
 have eb:(Value.slice a m cap).ownBlock=some b:=by rw[ea];rfl
 have hx:∀i zs,aR[i]?=some zs->∃hi:i<ps.length,(ps[i]).2=zs:=fun i zs hi=>by
  have sK:i<ps.length:=by have:=(List.getElem?_eq_some_iff.1 hi).1;omega
  refine⟨sK,?_⟩;rw[<-hd,List.getElem?_map,List.getElem?_eq_getElem sK]at hi;simpa using hi
 have hs:∀i (hi:i<ps.length),pd.Ow X B (ps[i]).1 (ps[i]).2 (g i):=fun i hi=>h.sub i _ (List.getElem?_eq_getElem hi)
 have gq:∀i (hi:i<ps.length),(ps[i]?.getD ((0,0),[])).1.1=(ps[i]).1.1:=fun i hi=>by simp[List.getElem?_eq_getElem hi]
 refine⟨fun i=>((ps[i]?.getD ((0,0),[])).1.1),.inr ⟨b,ea,hB,aN,⟨rfl,fun i zs hi=>?_,fun i hi=>?_,fun i hi=>?_,fun i hi=>?_,fun i zs hi=>?_,fun i zs hi=>?_,fun i j hi hj ee=>?_⟩⟩,fun b' e'=>.inl (by rw[e'];rfl),fun i hi=>?_⟩
 ·obtain⟨sK,hz⟩:=hx i zs hi;refine⟨(ps[i]).1.2,?_,?_⟩
  ·rw[gq i sK,<-hz];have hc:=World.ownsRow.cellAt iV i (by show i<ps.length*1;omega);rw[hc];have:=EI.jK (t:=0) (List.getElem?_eq_getElem sK) (by decide);simpa[EI]using this
  ·rw[<-hz];exact(hs i sK).1.2.2.2
 ·have sK:i<ps.length:=by omega
  rw[gq i sK];exact((hs i sK).2 _ (hs i sK).1.1).1
 ·have sK:i<ps.length:=by omega
  rw[gq i sK];exact((hs i sK).2 _ (hs i sK).1.1).2
 ·have sK:i<ps.length:=by omega
  rw[gq i sK];intro e';exact h.ne i b sK (by rw[<-e'];exact(hs i sK).1.1) eb
 ·obtain⟨sK,hz⟩:=hx i zs hi;rw[gq i sK,<-hz];exact(hs i sK).1.2.1
 ·obtain⟨sK,hz⟩:=hx i zs hi;rw[gq i sK,<-hz];exact(hs i sK).1.2.2.1
 ·have sK:i<ps.length:=by omega
  have ju:j<ps.length:=by omega
  rw[gq i sK,gq j ju]at ee;by_cases IC:i=j
  ·exact IC
  ·exact absurd (by rw[ee];exact(hs j ju).1.1) (h.ap i j _ sK ju IC (hs i sK).1.1)
 ·have sK:i<ps.length:=by omega
  show Kd.lK _ _ _ ((ps[i]?.getD ((0,0),[])).1.1)
  rw[gq i sK];exact .inr ⟨i,sK,(hs i sK).1.1⟩
structure xe(base p:Nat)(X:World)(vp vm vt:Value)(ps:List ((Nat×Nat)×List Int))(gp:Nat->Nat->Prop)(ms:List (MV×M4))(gm:Nat->Nat->Prop)(ts:List (tx.TV×tx.T7))(gt:Nat->Nat->Prop):Prop where
 P:EI.Grow 102 X base vp ps gp
 M:iN.Grow 87 X base vm ms gm
 T:iO.Grow 91 X base vt ts gt
 pm:∀q,Kd.lK vp ps gp q->¬Kd.lK vm ms gm q
 pt:∀q,Kd.lK vp ps gp q->¬Kd.lK vt ts gt q
 mt:∀q,Kd.lK vm ms gm q->¬Kd.lK vt ts gt q
 pp:∀q,Kd.lK vp ps gp q->q≠p
 mp:∀q,Kd.lK vm ms gm q->q≠p
 tp:∀q,Kd.lK vt ts gt q->q≠p
theorem xe.aM{base p:Nat}{X Y:World}{vp vm vt:Value}{ps:List ((Nat×Nat)×List Int)}{gp:Nat->Nat->Prop}{ms:List (MV×M4)}{gm:Nat->Nat->Prop}{ts:List (tx.TV×tx.T7)}{gt:Nat->Nat->Prop}(h:xe base p X vp vm vt ps gp ms gm ts gt)(hs:X.1.size<=Y.1.size)(hk:∀q,q<X.1.size->base<=q->q≠p->Y.1[q]?=X.1[q]?):xe base p Y vp vm vt ps gp ms gm ts gt:=
 ⟨h.P.aM hs (fun q hq=>hk q (h.P.blocks hq).2 (h.P.blocks hq).1 (h.pp q hq)),h.M.aM hs (fun q hq=>hk q (h.M.blocks hq).2 (h.M.blocks hq).1 (h.mp q hq)),h.T.aM hs (fun q hq=>hk q (h.T.blocks hq).2 (h.T.blocks hq).1 (h.tp q hq)),h.pm,h.pt,h.mt,h.pp,h.mp,h.tp⟩
theorem xe.later{base:Nat}{Y:World}(h:xe base p X vp vm vt ps gp ms gm ts gt)(hb:Below X.1.size X Y):xe base p Y vp vm vt ps gp ms gm ts gt:=h.aM hb.size (fun q hq _ _=>hb.block q hq)
theorem xe.set{base o:Nat}{u:Value}(h:xe base p X vp vm vt ps gp ms gm ts gt):xe base p (X.setCell ⟨p,o,none⟩ u) vp vm vt ps gp ms gm ts gt:=h.aM (by simp[World.setCell]) (fun q _ _ hp=>Below.heap_setCell _ _ _ _ hp)
def jM:Nat->Nat->Prop:=fun _ _=>False
theorem uB{D V:Type}{q:Nat}(h:Kd.lK (D:=D) (V:=V) (.slice none 0 0) [] jM q):False:=by
 rcases h with h|⟨i,hi,_⟩
 ·cases h
 ·simp at hi
theorem xe.nil(base p:Nat)(X:World):xe base p X (.slice none 0 0) (.slice none 0 0) (.slice none 0 0) [] jM [] jM [] jM:=
 ⟨Kd.Grow.nil _ _ _ _ _,Kd.Grow.nil _ _ _ _ _,Kd.Grow.nil _ _ _ _ _,fun _ h=>(uB h).elim,fun _ h=>(uB h).elim,fun _ h=>(uB h).elim,fun _ h=>(uB h).elim,fun _ h=>(uB h).elim,fun _ h=>(uB h).elim⟩
theorem xe.ow{base:Nat}{a1:OA}{c1:Nat}{a2:OA}{c2:Nat}{a3:OA}{c3:Nat}{k:C6}(h:xe base p X (.slice a1 k.f.length c1) (.slice a2 k.aa.length c2) (.slice a3 k.c.length c3) ps gp ms gm ts gt)(e1:ps.map (·.2)=k.f)(e2:ms.map (·.2)=k.aa)(e3:ts.map (·.2)=k.c):
  df.Ow X base a1 c1 a2 c2 a3 c3 k (fun q=>Kd.lK (.slice a1 k.f.length c1) ps gp q\/Kd.lK (.slice a2 k.aa.length c2) ms gm q\/Kd.lK (.slice a3 k.c.length c3) ts gt q):=
 ⟨⟨_,_,_,Fv h.P e1,h.M.own e2,h.T.own e3,fun _ hq=>.inl hq,fun _ hq=>.inr (.inl hq),fun _ hq=>.inr (.inr hq),h.pm,h.pt,h.mt⟩,fun q hq=>by rcases hq with hq|hq|hq;exact h.P.blocks hq;exact h.M.blocks hq;exact h.T.blocks hq⟩
theorem Ox:(prog.info? 102).map (fun i=>(i.zero,i.size,i.bytes))=some (some (.agg #[.slice none 0 0]),1,24):=by kernel_rfl
theorem IY:(prog.info? 87).map (fun i=>(i.zero,i.size,i.bytes))=some (some (.agg #[.bool false,.slice none 0 0,.slice none 0 0,.slice none 0 0]),4,80):=by kernel_rfl
theorem Xm:(prog.info? 91).map (fun i=>(i.zero,i.size,i.bytes))=some (some (.agg #[vI 0,vI 0,vI 0,vI 0,.slice none 0 0,.slice none 0 0,vI 0]),7,88):=by kernel_rfl
theorem xe.Nj{base:Nat}(h:xe base p X vp vm vt ps gp ms gm ts gt)(hb:Below X.1.size X W)(hX:base<=X.1.size)(Ve:p<X.1.size)(x:Nat×Nat)(d:List Int)(Q:Nat->Prop)(e:Nat)(hm:ps.length<=1000)(ty:TypeId)
  (he:∀j u,(EI.cells x d)[j]?=some u->W.cell? ⟨e,j,none⟩=some u) (ho:EI.Ow W X.1.size x d Q):
  ∃v' Y,(Builtin.append_ #[28,28] ty #[vp,.slice (some ⟨e,0,none⟩) 1 1]).run prog W=.ok v' Y/\xe base p Y v' vm vt (ps++[(x,d)]) (fun i=>if i=ps.length then Q else gp i) ms gm ts gt/\W.grownBy Y vp.ownBlock/\(∀y,vp.ownBlock=some y->base<=y/\y<X.1.size/\y≠p):=by
 have hW:=h.later hb;obtain⟨i0,uW,vS,mi,oP⟩:=partsOf Ox;have old:∀y,Kd.lK vp ps gp y->y<X.1.size:=fun y hy=>(h.P.blocks hy).2
 obtain⟨v',Y,hr,hg,gP,hl⟩:=Kd.Grow.push (K:=EI) (e:=e) underlying28 uW vS mi oP rfl (by omega) (by decide) hW.P x d Q (by omega) ty he (by intro u hu;simp only[EI,List.mem_cons,List.not_mem_nil,or_false]at hu;subst hu;rfl) (EI.low ho hX) (fun y hy fB=>by have:=(EI.of ho hy).1;have:=old y fB;omega) (Nat.le_trans hX hb.size)
 have new:∀y,Kd.lK v' (ps++[(x,d)]) (fun i=>if i=ps.length then Q else gp i) y->Kd.lK vp ps gp y\/X.1.size<=y:=fun y hy=>by
  rcases Kd.Bu hl hy with h'|h'|h'
  ·exact .inl h'
  ·exact .inr (EI.of ho h').1
  ·exact .inr (by have:=hb.size;omega)
 have dS:∀y,y<W.1.size->vp.ownBlock≠some y->Y.1[y]?=W.1[y]?:=fun y hy eO=>gP.block y hy (fun e'=>eO e'.symm)
 exact⟨v',Y,hr,⟨hg,hW.M.aM gP.size (fun y hy=>dS y (hW.M.blocks hy).2 (fun e'=>h.pm y (.inl e') hy)),hW.T.aM gP.size (fun y hy=>dS y (hW.T.blocks hy).2 (fun e'=>h.pt y (.inl e') hy)),fun y hy hz=>by rcases new y hy with hn|hn;exact h.pm y hn hz;have:=(h.M.blocks hz).2;omega,fun y hy hz=>by rcases new y hy with hn|hn;exact h.pt y hn hz;have:=(h.T.blocks hz).2;omega,h.mt,fun y hy=>by rcases new y hy with hn|hn;exact h.pp y hn;omega,h.mp,h.tp⟩,gP,fun y hy=>⟨(h.P.blocks (.inl hy)).1,(h.P.blocks (.inl hy)).2,h.pp y (.inl hy)⟩⟩
theorem xe.Ni{base:Nat}(h:xe base p X vp vm vt ps gp ms gm ts gt)(hb:Below X.1.size X W)(hX:base<=X.1.size)(Ve:p<X.1.size)(x:MV)(d:M4)(Q:Nat->Prop)(e:Nat)(hm:ms.length<=1000)(ty:TypeId)
  (he:∀j u,(iN.cells x d)[j]?=some u->W.cell? ⟨e,j,none⟩=some u) (ho:iN.Ow W X.1.size x d Q):
  ∃v' Y,(Builtin.append_ #[29,29] ty #[vm,.slice (some ⟨e,0,none⟩) 1 1]).run prog W=.ok v' Y/\xe base p Y vp v' vt ps gp (ms++[(x,d)]) (fun i=>if i=ms.length then Q else gm i) ts gt/\W.grownBy Y vm.ownBlock/\(∀y,vm.ownBlock=some y->base<=y/\y<X.1.size/\y≠p):=by
 have hW:=h.later hb;obtain⟨i0,uW,vS,mi,oP⟩:=partsOf IY;have old:∀y,Kd.lK vm ms gm y->y<X.1.size:=fun y hy=>(h.M.blocks hy).2
 obtain⟨v',Y,hr,hg,gP,hl⟩:=Kd.Grow.push (K:=iN) (e:=e) underlying29 uW vS mi oP rfl (by omega) (by decide) hW.M x d Q (by omega) ty he (by intro u hu;simp only[iN,List.mem_cons,List.not_mem_nil,or_false]at hu;rcases hu with rfl|rfl|rfl|rfl<;>rfl) (iN.low ho hX) (fun y hy fB=>by have:=(iN.of ho hy).1;have:=old y fB;omega) (Nat.le_trans hX hb.size)
 have new:∀y,Kd.lK v' (ms++[(x,d)]) (fun i=>if i=ms.length then Q else gm i) y->Kd.lK vm ms gm y\/X.1.size<=y:=fun y hy=>by
  rcases Kd.Bu hl hy with h'|h'|h'
  ·exact .inl h'
  ·exact .inr (iN.of ho h').1
  ·exact .inr (by have:=hb.size;omega)
 have dS:∀y,y<W.1.size->vm.ownBlock≠some y->Y.1[y]?=W.1[y]?:=fun y hy eO=>gP.block y hy (fun e'=>eO e'.symm)
 exact⟨v',Y,hr,⟨hW.P.aM gP.size (fun y hy=>dS y (hW.P.blocks hy).2 (fun e'=>h.pm y hy (.inl e'))),hg,hW.T.aM gP.size (fun y hy=>dS y (hW.T.blocks hy).2 (fun e'=>h.mt y (.inl e') hy)),fun y hy hz=>by rcases new y hz with hn|hn;exact h.pm y hy hn;have:=(h.P.blocks hy).2;omega,h.pt,fun y hy hz=>by rcases new y hy with hn|hn;exact h.mt y hn hz;have:=(h.T.blocks hz).2;omega,h.pp,fun y hy=>by rcases new y hy with hn|hn;exact h.mp y hn;omega,h.tp⟩,gP,fun y hy=>⟨(h.M.blocks (.inl hy)).1,(h.M.blocks (.inl hy)).2,h.mp y (.inl hy)⟩⟩
theorem xe.Nk{base:Nat}(h:xe base p X vp vm vt ps gp ms gm ts gt)(hb:Below X.1.size X W)(hX:base<=X.1.size)(Ve:p<X.1.size)(x:tx.TV)(d:tx.T7)(Q:Nat->Prop)(e:Nat)(hm:ts.length<=1000)(ty:TypeId)
  (he:∀j u,(iO.cells x d)[j]?=some u->W.cell? ⟨e,j,none⟩=some u) (ho:iO.Ow W X.1.size x d Q):
  ∃v' Y,(Builtin.append_ #[30,30] ty #[vt,.slice (some ⟨e,0,none⟩) 1 1]).run prog W=.ok v' Y/\xe base p Y vp vm v' ps gp ms gm (ts++[(x,d)]) (fun i=>if i=ts.length then Q else gt i)/\W.grownBy Y vt.ownBlock/\(∀y,vt.ownBlock=some y->base<=y/\y<X.1.size/\y≠p):=by
 have hW:=h.later hb;obtain⟨i0,uW,vS,mi,oP⟩:=partsOf Xm;have old:∀y,Kd.lK vt ts gt y->y<X.1.size:=fun y hy=>(h.T.blocks hy).2
 obtain⟨v',Y,hr,hg,gP,hl⟩:=Kd.Grow.push (K:=iO) (e:=e) underlying30 uW vS mi oP rfl (by omega) (by decide) hW.T x d Q (by omega) ty he (by intro u hu;simp only[iO,List.mem_cons,List.not_mem_nil,or_false]at hu;rcases hu with rfl|rfl|rfl|rfl|rfl|rfl|rfl<;>rfl) (iO.low ho hX) (fun y hy fB=>by have:=(iO.of ho hy).1;have:=old y fB;omega) (Nat.le_trans hX hb.size)
 have new:∀y,Kd.lK v' (ts++[(x,d)]) (fun i=>if i=ts.length then Q else gt i) y->Kd.lK vt ts gt y\/X.1.size<=y:=fun y hy=>by
  rcases Kd.Bu hl hy with h'|h'|h'
  ·exact .inl h'
  ·exact .inr (iO.of ho h').1
  ·exact .inr (by have:=hb.size;omega)
 have dS:∀y,y<W.1.size->vt.ownBlock≠some y->Y.1[y]?=W.1[y]?:=fun y hy eO=>gP.block y hy (fun e'=>eO e'.symm)
 exact⟨v',Y,hr,⟨hW.P.aM gP.size (fun y hy=>dS y (hW.P.blocks hy).2 (fun e'=>h.pt y hy (.inl e'))),hW.M.aM gP.size (fun y hy=>dS y (hW.M.blocks hy).2 (fun e'=>h.mt y hy (.inl e'))),hg,h.pm,fun y hy hz=>by rcases new y hz with hn|hn;exact h.pt y hy hn;have:=(h.P.blocks hy).2;omega,fun y hy hz=>by rcases new y hz with hn|hn;exact h.mt y hy hn;have:=(h.M.blocks hy).2;omega,h.pp,h.mp,fun y hy=>by rcases new y hy with hn|hn;exact h.tp y hn;omega⟩,gP,fun y hy=>⟨(h.T.blocks (.inl hy)).1,(h.T.blocks (.inl hy)).2,h.tp y (.inl hy)⟩⟩
end
section
open Go.Proofs.Tryz
theorem yK(w:World)(a:OA)(n cap:Nat)(l:Nat)(hn:n<=maxLen)(hl:l<=1048576):Calls prog 79 #[.slice a n cap,vI (l:Int)] w fun e w'=>e=.returned (vI (if n<=l then((l-n:Nat):Int)else -1))/\w'=w:=by
 unfold maxLen at hn;by_cases h:n<=l
 ·rw[if_pos h];have d0:decide ((l:Int)-(n:Int)<0)=false:=by simp;omega
  go_enter func79,ntmps79;go_wp2;go_ret;have e:((l-n:Nat):Int)=(l:Int)-(n:Int):=by omega
  exact⟨by rw[e];rfl,rfl⟩
 ·rw[if_neg h];have d0:decide ((l:Int)-(n:Int)<0)=true:=by simp;omega
  go_enter func79,ntmps79;go_wp2;go_ret;exact⟨rfl,rfl⟩
theorem JL(w:World)(a:OA)(n cap:Nat)(l:Nat)(hn:n<=maxLen)(hl:l<=1048576):Calls prog 42 #[.agg #[.slice a n cap],vI (l:Int)] w fun e w'=>e=.returned (vI (if n<=l then((l-n:Nat):Int)else -1))/\Below w.1.size w w':=by
 by_cases h:n<=l
 ·rw[if_pos h];go_enter func42,ntmps42;go_wp2_with fail;have hz:=yK (w.alloc (.cells #[.slice a n cap] 71)) a n cap l hn hl;rw[if_pos h]at hz;refine hz.mono ?_;rintro e w1 ⟨rfl,rfl⟩;have d0:decide (((l-n:Nat):Int)<0)=false:=by simp
  go_wp2;go_ret;exact⟨rfl,aK.alloc aU _⟩
 ·rw[if_neg h];go_enter func42,ntmps42;go_wp2_with fail;have hz:=yK (w.alloc (.cells #[.slice a n cap] 71)) a n cap l hn hl;rw[if_neg h]at hz;refine hz.mono ?_;rintro e w1 ⟨rfl,rfl⟩;go_wp2;go_ret;exact⟨rfl,aK.alloc aU _⟩
def Yr(n:Nat)(aR:List (List Int)):Int:=if n+lens aR<=1048576 then((1048576-(n+lens aR):Nat):Int)else -1
theorem GH(w:World)(a:OA)(n cap:Nat)(aR:List (List Int))(hn:n<=maxLen)(hs:yY w w.1.size a n aR)(hl:∀zs∈aR,zs.length<=maxLen):
  Calls prog 14 #[.slice a n cap,vI 1048576] w fun e w'=>e=.returned (vI (Yr n aR))/\Below w.1.size w w':=by
 obtain⟨hx,hs⟩:=hs;have Ec:=hn;unfold maxLen at Ec;by_cases h0:n<=1048576
 ·have d0:decide ((1048576:Int)-(n:Int)<0)=false:=by simp;omega
  go_enter func14,ntmps14;go_wp2;go_loopw[1,5] (fun v1 v5 wr=>∃j:Nat,j<=n/\v5=vI j/\n+lens (aR.take j)<=1048576/\v1=vI ((1048576-(n+lens (aR.take j)):Nat):Int)/\Below w.1.size w wr) (fun _ v5 _=>n-(intOf v5).toNat)
  case atStart=>exact⟨0,Nat.zero_le _,rfl,by simpa[lens]using h0,by simp[lens];omega,aK⟩
  case round=>
   obtain⟨j,hj,rfl,hle,rfl,aB⟩:=hrel;have KL:=fP hle hx hl;by_cases aN:j<n
   ·rcases hs with hs|⟨b,off,rfl,hb,h1⟩
    ·omega
    ·obtain⟨a',aZ,hc,_,_⟩:=h1 j _ (gB (by omega));have c:=(aB.cell (p:=⟨b,off+j,none⟩) hb).trans hc;have hz:=JL wr a' (eU aR j).length aZ (1048576-(n+lens (aR.take j))) (hl _ (List.mem_of_getElem? (gB (by omega)))) (by omega);have FM:Hid (lens (aR.take (j+1))=lens (aR.take j)+(eU aR j).length):=lens_take_succ (by omega);have SN:Hid (lens (aR.take (j+1))<=lens aR):=lens_take_le _ _;have KB:Hid (Below w.1.size w wr):=aB;generalize dk:lens (aR.take j)=LL at *;generalize (eU aR j).length=m at *;clear h1 hc aB hl hx hle;by_cases xY:m<=1048576-(n+LL)
     ·rw[if_pos xY]at hz;have d1:decide (((1048576-(n+LL)-m:Nat):Int)<0)=false:=by simp
      go_wp2_with fail;refine hz.mono ?_;clear hz;rintro e w1 ⟨rfl,b1⟩;go_wp2;have h1:=KL.out.1;refine⟨⟨j+1,by omega,by simp,by rw[FM.out];omega,by rw[FM.out];congr 2;omega,KB.out.trans (b1.mono KB.out.size)⟩,by simp[intOf];omega⟩
     ·rw[if_neg xY]at hz;go_wp2_with fail;refine hz.mono ?_;clear hz;rintro e w1 ⟨rfl,b1⟩;go_wp2;go_ret;have h2:=FM.out;have h3:=SN.out;refine⟨by rw[Yr,if_neg (by omega)];rfl,KB.out.trans (b1.mono KB.out.size)⟩
   ·have:j=n:=by omega
    subst this;have hd:decide ((j:Int)<(j:Int))=false:=by simp
    have ht:aR.take j=aR:=List.take_of_length_le (by omega);rw[ht]at hle ⊢;clear hs hl KL ht;go_wp2;go_ret;exact⟨by rw[Yr,if_pos hle];rfl,aB⟩
 ·have d0:decide ((1048576:Int)-(n:Int)<0)=true:=by simp;omega
  go_enter func14,ntmps14;go_wp2;go_ret;exact⟨by rw[Yr,if_neg (by omega)];rfl,aK⟩
end
section
open Go.Proofs.Tryz
def vv(k:C6):Nat:=(k.f.length+lens k.f)+(k.aa.length+yN.nN k.aa)+(k.c.length+yP.nN k.c)
structure df.L(k:C6):Prop where
 p:k.f.length<=maxLen
 ps:∀zs∈k.f,zs.length<=maxLen
 m:k.aa.length<=maxLen
 ms:∀m∈k.aa,ML m
 t:k.c.length<=maxLen
 ts:∀t∈k.c,tx.TL t
theorem GD{α:Type}(f:α->Nat){x:α}:∀{l:List α},x∈l->f x<=(l.map f).sum
 | y::l,h=>by
  simp only[List.map_cons,List.sum_cons];rcases List.mem_cons.1 h with rfl|h
  ·omega
  ·have:=GD f h;omega
theorem df.S.of{k:C6}(h:vv k<=1048576):df.S k:=by
 unfold vv at h;refine⟨by omega,fun zs hz=>?_,by omega,fun m hm=>MT.aq ?_,by omega,fun t ht=>?_⟩
 ·have:=Rf hz;omega
 ·have:=GD (fun m=>Ma m) hm;unfold yN.nN at h;omega
 ·have h1:=GD (fun t=>tx.vz t) ht;unfold yP.nN at h;have h2:tx.vz t=t.a.length+t.ai.length:=rfl;exact⟨by omega,by omega⟩
theorem df.sz(X:World)(a1:OA)(c1:Nat)(a2:OA)(c2:Nat)(a3:OA)(c3:Nat)(k:C6)(hl:df.L k)(h:df.Rd X a1 c1 a2 c2 a3 c3 k):Calls prog 5 #[.agg #[vI k.v,vI k.u,.slice a1 k.f.length c1,.slice a2 k.aa.length c2,.slice a3 k.c.length c3,.bool k.w],vI 1048576] X fun e w'=>e=.returned (vI (gJ 1048576 (vv k)))/\Below X.1.size X w':=by
 obtain⟨U,hU⟩:=bO (X.alloc (.cells #[vI k.v,vI k.u,.slice a1 k.f.length c1,.slice a2 k.aa.length c2,.slice a3 k.c.length c3,.bool k.w] 26));have b0:Below X.1.size X U:=by rw[hU];exact aK.alloc aU _
 have FA:Hid (Bx U X.1.size (dU a1 c1 a2 c2 a3 c3 k)):=by rw[hU];exact Bx.made X (dU a1 c1 a2 c2 a3 c3 k) _
 have HR:=fP (h.later b0) hl b0;have mi:=GH U a1 k.f.length c1 k.f hl.p (h.later b0).p hl.ps;have e1:Yr k.f.length k.f=gJ 1048576 (k.f.length+lens k.f):=by unfold Yr gJ;rfl
 rw[e1]at mi;have HS:Hid (vv k=(k.f.length+lens k.f)+(k.aa.length+yN.nN k.aa)+(k.c.length+yP.nN k.c)):=rfl;have HM:Hid (∀(w:World) (l:Nat),Below U.1.size U w->l<=1048576->Calls prog 15 #[.slice a2 k.aa.length c2,vI (l:Int)] w fun e w'=>e=.returned (vI (gJ l (k.aa.length+yN.nN k.aa)))/\Below w.1.size w w'):=fun w l hb Kz=>yN.sz w a2 c2 k.aa l Kz hl.m hl.ms ((h.later b0).later hb).m
 have HT:Hid (∀(w:World) (l:Nat),Below U.1.size U w->l<=1048576->Calls prog 16 #[.slice a3 k.c.length c3,vI (l:Int)] w fun e w'=>e=.returned (vI (gJ l (k.c.length+yP.nN k.c)))/\Below w.1.size w w'):=fun w l hb Kz=>yP.sz w a3 c3 k.c l Kz hl.t hl.ts ((h.later b0).later hb).t
 rw[HS.out];generalize k.f.length+lens k.f=n1 at *;generalize k.aa.length+yN.nN k.aa=n2 at *;generalize k.c.length+yP.nN k.c=n3 at *;have p2:=FA.out.1 2 _ rfl;rw[hU]at p2;clear b0 hl h e1 HS;go_enter func5,ntmps5;go_wp2_with fail;rw[<-hU];clear hU p2;refine mi.mono ?_;clear mi;rintro e w1 ⟨rfl,b1⟩;have B1:=tx.af b1;clear b1;by_cases g1:n1<=1048576
 ·rw[cu g1];have d1:decide (((1048576-n1:Nat):Int)<0)=false:=by simp
  have p3:=(FA.out.later B1.out).1 3 _ rfl;have hz:=HM.out w1 (1048576-n1) B1.out (by omega);go_wp2_with fail;refine hz.mono ?_;clear hz p3;rintro e w2 ⟨rfl,b2⟩;have B2:Hid (Below U.1.size U w2):=au B1.out b2;clear b2;by_cases g2:n2<=1048576-n1
  ·rw[cu g2];have d2:decide (((1048576-n1-n2:Nat):Int)<0)=false:=by simp
   have p4:=(FA.out.later B2.out).1 4 _ rfl;have hz:=HT.out w2 (1048576-n1-n2) B2.out (by omega);go_wp2_with fail;refine hz.mono ?_;clear hz p4;rintro e w3 ⟨rfl,b3⟩;have B3:Hid (Below U.1.size U w3):=au B2.out b3;clear b3;by_cases g3:n3<=1048576-n1-n2
   ·rw[cu g3];have d3:decide (((1048576-n1-n2-n3:Nat):Int)<0)=false:=by simp
    go_wp2;go_ret;exact⟨by rw[cu (by omega),show 1048576-(n1+n2+n3)=1048576-n1-n2-n3 by omega];rfl,au HR.out.2.2 B3.out⟩
   ·rw[bI g3];go_wp2;go_ret;exact⟨by rw[bI (by omega)];rfl,au HR.out.2.2 B3.out⟩
  ·rw[bI g2];go_wp2;go_ret;exact⟨by rw[bI (by omega)];rfl,au HR.out.2.2 B2.out⟩
 ·rw[bI g1];go_wp2;go_ret;exact⟨by rw[bI (by omega)];rfl,au HR.out.2.2 B1.out⟩
end
section
open Go.Proofs.Tryz
variable {f:Nat->Bool}{j k:Nat}{zs:List Int}
theorem RY(w:World)(x:Int):Calls prog 84 #[vI x] w fun e w'=>e=.returned (.bool (aW 1 1000000 x))/\Below w.1.size w w':=by
 go_enter func84,ntmps84;go_wp2_with (go_at_call 77;refine(fw _ _ _ _).mono ?_;rintro e w' ⟨rfl,rfl⟩);go_ret;exact⟨rfl,aK⟩
def Cc(zs:List Int)(i:Nat):Bool:=aW 1 1000000 (fC zs i)&&(decide (i=0)||decide (fC zs (i-1)<fC zs i))
def Ee(zs:List Int):Bool:=(List.range zs.length).all (Cc zs)
theorem ni(h:(List.range k).all f=true)(h':f k=true):(List.range (k+1)).all f=true:=by
 rw[List.range_succ,List.all_append,h];simp[h']
theorem pQ{n:Nat}(hk:k<n)(h:f k=false):(List.range n).all f=false:=by
 rw[List.all_eq_false];exact⟨k,List.mem_range.2 hk,by simp[h]⟩
theorem Xf(h:aW 1 1000000 (fC zs k)=false):Cc zs k=false:=by simp[Cc,h]
theorem Xg(h:fC zs (j+1)<=fC zs j):Cc zs (j+1)=false:=by simp[Cc];intro _;omega
theorem Q3(h:aW 1 1000000 (fC zs 0)=true):Cc zs 0=true:=by simp[Cc,h]
theorem TS(h:aW 1 1000000 (fC zs (j+1))=true)(h':¬fC zs (j+1)<=fC zs j):Cc zs (j+1)=true:=by simp[Cc,h];omega
theorem I5(w:World)(a:OA)(n cap:Nat)(zs:List Int)(hn:n<=maxLen)(hs:sD w w.1.size a n zs):
  Calls prog 130 #[.slice a n cap] w fun e w'=>e=.returned (.bool (Ee zs))/\Below w.1.size w w':=by
 unfold maxLen at hn;obtain⟨hx,hs⟩:=hs;go_enter func130,ntmps130;go_wp2;go_loopw[3] (fun i wr=>∃k:Nat,k<=n/\i=vI k/\Below w.1.size w wr/\(List.range k).all (Cc zs)=true) (fun i _=>n-(intOf i).toNat)
 case atStart=>exact⟨0,Nat.zero_le _,rfl,aK,rfl⟩
 case round=>
  obtain⟨k,hk,rfl,aB,aQ⟩:=hrel;have K:=fP aB aQ hx;by_cases aN:k<n
  ·rcases hs with hs|⟨b,off,rfl,hb,h1⟩
   ·omega
   have sI:=Nat.lt_of_lt_of_le hb aB.size;have t1:=(h1.below aB hb) k _ (jh (by omega));have c0:=fun d os=>((below_regrown wr d os).cell (p:=⟨b,off+k,none⟩) sI).trans t1
   have cQ:∀d os,Calls prog 84 #[vI (fC zs k)] (grow (redrawn wr d) os) fun e gH=>e=.returned (.bool (aW 1 1000000 (fC zs k)))/\∃p:Regrown,gH=grow (redrawn wr p.d) p.os:=fun d os=>Calls.regrown_of (RY _ (fC zs k))
   cases il:aW 1 1000000 (fC zs k)with
   | false=>
    rw[il]at cQ;clear t1 aB aQ h1 hx;go_wp2_with fail;refine gy ?_;repeat (go_big_quiet_step (exact cQ _ _))
    refine jb fun dq bu=>?_
    have bq:=below_regrown wr dq bu;go_wp2;go_ret;exact⟨by rw[Ee,K.out.2.2,pQ aN (Xf il)];rfl,K.out.1.trans (bq.mono K.out.1.size)⟩
   | true=>
    rw[il]at cQ;rcases k with _|j
    ·simp only[Nat.add_zero]at c0;clear t1 aB aQ h1 hx;go_wp2_with fail;refine gy ?_;repeat (go_big_quiet_step (exact cQ _ _))
     refine jb fun dq bu=>?_
     have bq:=below_regrown wr dq bu;go_wp2;exact⟨⟨1,by omega,by simp,K.out.1.trans (bq.mono K.out.1.size),ni K.out.2.1 (Q3 il)⟩,by simp[intOf];omega⟩
    ·have t2:=(h1.below aB hb) j _ (jh (by omega));have e1:=fun d os=>((below_regrown wr d os).cell (p:=⟨b,off+j,none⟩) sI).trans t2
     have hj:(j:Int)<(n:Int):=by omega
     by_cases hq:fC zs (j+1)<=fC zs j
     ·clear t1 t2 aB aQ h1 hx;go_wp2_with fail;refine gy ?_;repeat (go_big_quiet_step (exact cQ _ _))
      refine jb fun dq bu=>?_
      have bq:=below_regrown wr dq bu;go_wp2;go_ret;exact⟨by rw[Ee,K.out.2.2,pQ aN (Xg hq)];rfl,K.out.1.trans (bq.mono K.out.1.size)⟩
     ·have TJ:decide (fC zs (j+1)<=fC zs j)=false:=by simp;omega
      clear t1 t2 aB aQ h1 hx;go_wp2_with fail;refine gy ?_;repeat (go_big_quiet_step (exact cQ _ _))
      refine jb fun dq bu=>?_
      have bq:=below_regrown wr dq bu;go_wp2;exact⟨⟨j+1+1,by omega,by simp,K.out.1.trans (bq.mono K.out.1.size),ni K.out.2.1 (TS il (Int.not_le.2 hq))⟩,by simp[intOf];omega⟩
  ·have:k=n:=by omega
   subst this;have hd:decide (k<k)=false:=by simp
   go_wp2;go_ret;exact⟨by rw[Ee,hx,aQ];rfl,aB⟩
end
section
open Go.Proofs.Tryz
theorem wrap_i64_small(n:Nat)(h:n<4294967296):IntKind.i64.wrap (n:Int)=(n:Int):=by
 simp[IntKind.wrap,IntKind.bits,IntKind.signed];omega
theorem Fs(a:Nat)(ha:a<4294967296):(BitVec.ofInt 64 (a:Int)).toNat=a:=by
 rw[BitVec.ofInt_natCast,BitVec.toNat_ofNat];exact Nat.mod_eq_of_lt (by omega)
theorem Ac(a b:Nat)(ha:a<4294967296)(hb:b<4294967296):bits .and .i64 (a:Int) (b:Int)=((a &&& b:Nat):Int):=by
 have hx:a &&& b<2 ^ 32:=Nat.and_lt_two_pow _ (by omega);show IntKind.i64.wrap ((BitVec.ofInt 64 (a:Int) &&& BitVec.ofInt 64 (b:Int)).toNat:Int)=_
 rw[BitVec.toNat_and,Fs a ha,Fs b hb,wrap_i64_small _ (by omega)]
theorem and_2(x:Int)(h1:0<=x)(h2:x<=4000003):bits .and .i64 x 2=x/2%2*2:=by
 obtain⟨n,rfl⟩:=Int.eq_ofNat_of_zero_le h1;have h:=Ac n 2 (by omega) (by omega);rw[show n &&& 2=n/2%2*2 from nat_bit 1 n]at h;simpa using h
theorem and_1(x:Int)(h1:0<=x)(h2:x<=4000003):bits .and .i64 x 1=x%2:=by
 obtain⟨n,rfl⟩:=Int.eq_ofNat_of_zero_le h1;have h:=Ac n 1 (by omega) (by omega);rw[nat_mask1 n]at h;simpa using h
def dI(h:Int):Bool:=decide (h/2%2=1)
def jW(h:Int):Bool:=decide (h%2=1)
theorem UM(h:Int):(h/2%2*2 != 0)=dI h:=by
 unfold dI;rw[Bool.eq_iff_iff];simp;omega
theorem OB(h:Int):(h%2 != 0)=jW h:=by
 unfold jW;rw[Bool.eq_iff_iff];simp;omega
theorem Nn{a b:Bool}(h:a=b):Ending.returned (.bool a)=.returned (.bool b):=by rw[h]
end
section
open Go.Proofs.Tryz
theorem Cf(h:Int)(w:World)(h1:0<=h)(h2:h<=4000003):
  Calls prog 269 #[vI h] w fun e w'=>e=.returned (.bool true)/\w'=w:=by
 go_enter func269,ntmps269;go_wp2;go_ret;exact⟨by simp[*],rfl⟩
theorem Ef(h:Int)(w:World)(hh:h<0\/4000003<h):
  Calls prog 269 #[vI h] w fun e w'=>e=.returned (.bool false)/\w'=w:=by
 rcases hh with hh|hh
 all_goals
  go_enter func269,ntmps269;go_wp2;go_ret;exact⟨by simp;try omega,rfl⟩
theorem Dx(h:Int)(w:World)(h1:0<=h)(h2:h<=4000003):
  Calls prog 137 #[vI h] w fun e w'=>e=.returned (.bool true)/\w'=w:=by
 go_enter func137,ntmps137;go_wp2;go_ret;exact⟨by simp[*],rfl⟩
theorem Ex(h:Int)(w:World)(hh:h<0\/4000003<h):
  Calls prog 137 #[vI h] w fun e w'=>e=.returned (.bool false)/\w'=w:=by
 rcases hh with hh|hh
 all_goals
  go_enter func137,ntmps137;go_wp2;go_ret;exact⟨by simp;try omega,rfl⟩
theorem Gl(h:Int)(w:World)(h1:0<=h)(h2:h<=4000003):
  Calls prog 216 #[vI h] w fun e w'=>e=.returned (.bool (dI h))/\w'=w:=by
 ·have b2:=and_2 h h1 h2;go_enter func216,ntmps216;go_wp2;go_ret;exact⟨Nn (UM h),rfl⟩
theorem IU(h:Int)(w:World)(hh:h<0\/4000003<h):
  Calls prog 216 #[vI h] w fun e w'=>e=.returned (.bool false)/\w'=w:=by
 rcases hh with hh|hh
 ·have d:decide (0<=h)=false:=by simp;omega
  go_enter func216,ntmps216;go_wp2;go_ret;exact⟨rfl,rfl⟩
 ·have d:decide (h<=4000003)=false:=by simp;omega
  go_enter func216,ntmps216;go_wp2;go_ret;exact⟨rfl,rfl⟩
theorem GA(h:Int)(w:World)(h1:0<=h)(h2:h<=4000003):
  Calls prog 97 #[vI h] w fun e w'=>e=.returned (.bool (dI h))/\w'=w:=by
 ·go_enter func97,ntmps97;go_wp2;go_ret;exact⟨rfl,rfl⟩
theorem JJ(h:Int)(w:World)(hh:h<0\/4000003<h):
  Calls prog 97 #[vI h] w fun e w'=>e=.returned (.bool false)/\w'=w:=by
 rcases hh with hh|hh
 ·have d:decide (0<=h)=false:=by simp;omega
  go_enter func97,ntmps97;go_wp2;go_ret;exact⟨rfl,rfl⟩
 ·have d:decide (h<=4000003)=false:=by simp;omega
  go_enter func97,ntmps97;go_wp2;go_ret;exact⟨rfl,rfl⟩
theorem Ce(h:Int)(w:World):Calls prog 269 #[vI h] w fun e w'=>e=.returned (.bool (aW 0 4000003 h))/\w'=w:=by
 by_cases hh:0<=h/\h<=4000003
 ·rw[jq hh.1 hh.2];exact Cf h w hh.1 hh.2
 ·have e:aW 0 4000003 h=false:=by simp[aW];omega
  rw[e];exact Ef h w (by omega)
theorem yj(h:Int)(w:World):Calls prog 216 #[vI h] w fun e w'=>e=.returned (.bool (aW 0 4000003 h&&dI h))/\w'=w:=by
 by_cases hh:0<=h/\h<=4000003
 ·rw[jq hh.1 hh.2,Bool.true_and];exact Gl h w hh.1 hh.2
 ·have e:aW 0 4000003 h=false:=by simp[aW];omega
  rw[e,Bool.false_and];exact IU h w (by omega)
theorem Dw(h:Int)(w:World):Calls prog 137 #[vI h] w fun e w'=>e=.returned (.bool (aW 0 4000003 h))/\w'=w:=by
 by_cases hh:0<=h/\h<=4000003
 ·rw[jq hh.1 hh.2];exact Dx h w hh.1 hh.2
 ·have e:aW 0 4000003 h=false:=by simp[aW];omega
  rw[e];exact Ex h w (by omega)
theorem mq(h:Int)(w:World):Calls prog 97 #[vI h] w fun e w'=>e=.returned (.bool (aW 0 4000003 h&&dI h))/\w'=w:=by
 by_cases hh:0<=h/\h<=4000003
 ·rw[jq hh.1 hh.2,Bool.true_and];exact GA h w hh.1 hh.2
 ·have e:aW 0 4000003 h=false:=by simp[aW];omega
  rw[e,Bool.false_and];exact JJ h w (by omega)
end
section
open Go.Proofs.Tryz
variable {xs:List C2}
def kT(c:C2):Bool:=aW 0 4000003 c.head&&aW (-1000000000) 1000000000 c.g&&(dI c.head||decide (c.g=0))
def gM(xs:List C2):Bool:=decide (xs.length=6)&&xs.all kT
theorem ER(h:∀i,i<xs.length->kT (at2 xs i)=true):xs.all kT=true:=by
 rw[List.all_eq_true];intro s hs;obtain⟨i,hi,rfl⟩:=List.getElem_of_mem hs;have:=h i hi;rw[at2,List.getElem?_eq_getElem hi]at this;simpa using this
theorem ES{i:Nat}(hi:i<xs.length)(h:kT (at2 xs i)=false):xs.all kT=false:=by
 rw[List.all_eq_false];refine⟨xs[i],List.getElem_mem hi,?_⟩;rw[at2,List.getElem?_eq_getElem hi]at h;simpa using h
theorem K8(w:World)(s:C2):Calls prog 241 #[.agg #[vI s.head,vI s.g]] w fun e w'=>e=.returned (.bool (kT s))/\Below w.1.size w w':=by
 obtain⟨h,v⟩:=s;unfold kT;go_enter func241,ntmps241
 cases g1:aW 0 4000003 h<;>cases g2:aW (-1000000000) 1000000000 v<;>cases g3:dI h;all_goals go_wp2_with (first|(go_at_call 269;refine(Ce _ _).mono ?_;rw[g1];rintro e w' ⟨rfl,rfl⟩)|(go_at_call 40;refine(uF _ _).mono ?_;rw[g2];rintro e w' ⟨rfl,rfl⟩)|(go_at_call 216;refine(yj _ _).mono ?_;rw[g1,g3];rintro e w' ⟨rfl,rfl⟩))
 all_goals (go_ret;refine⟨dW ?_,aK.alloc aU _⟩;simp)
theorem FI(w:World)(s:C2):Calls prog 240 #[.agg #[vI s.head,vI s.g]] w fun e w'=>e=.returned (.bool (!kT s))/\Below w.1.size w w':=by
 go_enter func240,ntmps240;go_wp2_with fail;refine(K8 _ s).mono ?_;rintro e w1 ⟨rfl,b1⟩;go_wp2;go_ret;exact⟨rfl,(aK.alloc aU _).trans (b1.mono (by simp))⟩
theorem Aq(w:World)(b off cap n:Nat)(xs:List C2)(hx:xs.length=n)(hn:n<=maxLen)(h1:dJ w b off xs)(hb:b<w.1.size):
  Calls prog 270 #[.slice (some ⟨b,off,none⟩) n cap,.func (.func 240) #[] #[]] w fun e w'=>∃i:Int,e=.returned (vI i)/\(0<=i↔xs.all kT=false)/\Below w.1.size w w':=by
 unfold maxLen at hn;go_enter func270,ntmps270;go_wp2;go_loopw[8] (fun i wr=>∃k:Nat,k<=n/\i=vI k/\Below w.1.size w wr/\∀i,i<k->kT (at2 xs i)=true) (fun i _=>n-(intOf i).toNat)
 case atStart=>exact⟨0,Nat.zero_le _,rfl,aK,fun i h=>absurd h (by omega)⟩
 case round=>
  obtain⟨k,hk,rfl,aB,aQ⟩:=hrel;have K:=fP aB aQ hx;by_cases aN:k<n
  ·obtain⟨c0,c1⟩:=(h1.get (i:=k) (by omega)).below aB hb;clear aB aQ h1 hx
   cases hr:kT (at2 xs k)with
   | true=>
    go_wp2_with fail;refine(FI _ (at2 xs k)).mono ?_;rw[hr];rintro e w1 ⟨rfl,b1⟩;go_wp2;refine⟨⟨k+1,by omega,by simp,K.out.1.trans (b1.mono K.out.1.size),fun i hi=>?_⟩,by simp[intOf];omega⟩;by_cases e:i=k
    ·rw[e];exact hr
    ·exact K.out.2.1 i (by omega)
   | false=>
    go_wp2_with fail;refine(FI _ (at2 xs k)).mono ?_;rw[hr];rintro e w1 ⟨rfl,b1⟩;go_wp2;go_ret;exact⟨(k:Int),rfl,by simp[ES (xs:=xs) (i:=k) (by rw[K.out.2.2];exact aN) hr],K.out.1.trans (b1.mono K.out.1.size)⟩
  ·have:k=n:=by omega
   subst this;have hd:decide (k<k)=false:=by simp
   go_wp2;go_ret;exact⟨-1,rfl,by simp[ER (xs:=xs) (by rw[hx];exact aQ)],aB⟩
theorem vK(w:World)(b off cap n:Nat)(xs:List C2)(hx:xs.length=n)(hn:n<=maxLen)(h1:dJ w b off xs)(hb:b<w.1.size):
  Calls prog 242 #[.slice (some ⟨b,off,none⟩) n cap,.func (.func 240) #[] #[]] w fun e w'=>e=.returned (.bool (!xs.all kT))/\Below w.1.size w w':=by
 go_enter func242,ntmps242;go_wp2_with fail;refine(Aq w b off cap n xs hx hn h1 hb).mono ?_;rintro e w1 ⟨i,rfl,hi,b1⟩;have HI:Hid (0<=i↔xs.all kT=false):=hi;clear hi;go_wp2;go_ret;refine⟨dW ?_,b1⟩;rw[decide_eq_true_eq,HI.out,Bool.not_eq_true']
theorem rY(w:World)(a:OA)(n cap:Nat)(xs:List C2)(hn:n<=maxLen)(hs:uz w w.1.size a n xs):
  Calls prog 213 #[.slice a n cap] w fun e w'=>e=.returned (.bool (gM xs))/\Below w.1.size w w':=by
 obtain⟨hx,hs⟩:=hs;unfold gM;rw[hx];by_cases h6:n=6
 ·subst h6;rcases hs with hs|⟨b,off,rfl,hb,h1⟩
  ·omega
  ·go_enter func213,ntmps213;go_wp2_with fail;refine(vK w b off cap 6 xs hx hn h1 hb).mono ?_;rintro e w1 ⟨rfl,b1⟩;go_wp2;go_ret;exact⟨dW (by simp),b1⟩
 ·have q:((n:Int)==6)=false:=by simp;omega
  go_enter func213,ntmps213;go_wp2;go_ret;exact⟨dW (by simp[h6]),aK⟩
theorem AL(w:World)(b off cap:Nat)(xs:List C2)(hx:xs.length=6)(h1:dJ w b off xs)(hb:b<w.1.size):
  Calls prog 132 #[.slice (some ⟨b,off,none⟩) 6 cap] w fun e w'=>e=.returned (.bool (xs.all kT))/\Below w.1.size w w':=by
 go_enter func132,ntmps132;go_wp2;go_loopw[3] (fun i wr=>∃k:Nat,k<=6/\i=vI k/\Below w.1.size w wr/\∀i,i<k->kT (at2 xs i)=true) (fun i _=>6-(intOf i).toNat)
 case atStart=>exact⟨0,Nat.zero_le _,rfl,aK,fun i h=>absurd h (by omega)⟩
 case round=>
  obtain⟨k,hk,rfl,aB,aQ⟩:=hrel;have K:=fP aB aQ hx;by_cases aN:k<6
  ·obtain⟨c0,c1⟩:=(h1.get (i:=k) (by omega)).below aB hb;clear aB aQ h1 hx;generalize hC:at2 xs k=C at c0 c1;obtain⟨h,v⟩:=C;have KC:Hid (at2 xs k=⟨h,v⟩):=hC;have KG:(k:Int)<6:=by omega
   clear hC
   cases g1:aW 0 4000003 h<;>cases g2:aW (-1000000000) 1000000000 v<;>cases g3:dI h
   all_goals
    have HB:Hid (kT (at2 xs k)=(aW 0 4000003 h&&aW (-1000000000) 1000000000 v&&(dI h||decide (v=0)))):=by unfold Hid;rw[KC.out];rfl
    rw[g1,g2,g3]at HB;go_wp2_with (first|(go_at_call 137;refine(Dw _ _).mono ?_;rw[g1];rintro e w' ⟨rfl,rfl⟩)|(go_at_call 38;refine(uJ _ _).mono ?_;rw[g2];rintro e w' ⟨rfl,rfl⟩)|(go_at_call 97;refine(mq _ _).mono ?_;rw[g1,g3];rintro e w' ⟨rfl,rfl⟩))
   all_goals first
    | (go_ret
       exact⟨by rw[ES (xs:=xs) (i:=k) (by rw[K.out.2.2];exact aN) (by rw[HB.out];simp;try simpa using ‹(v != 0)=true›)];rfl,(K.out.1.alloc K.out.1.size _)⟩)
    | (refine⟨⟨k+1,by omega,by simp,K.out.1.alloc K.out.1.size _,fun i hi=>?_⟩,by simp[intOf];omega⟩
       by_cases e:i=k
       ·rw[e,HB.out];simp;try simpa using ‹(v != 0)=false›
       ·exact K.out.2.1 i (by omega))
  ·have:k=6:=by omega
   subst this;go_wp2;go_ret;exact⟨by rw[ER (xs:=xs) (by rw[hx];exact aQ)];rfl,aB⟩
theorem AJ(w:World)(a:OA)(n cap:Nat)(xs:List C2)(hn:n<=maxLen)(hs:uz w w.1.size a n xs):
  Calls prog 132 #[.slice a n cap] w fun e w'=>e=.returned (.bool (gM xs))/\Below w.1.size w w':=by
 obtain⟨hx,hs⟩:=hs;unfold gM;rw[hx];unfold maxLen at hn;by_cases h6:n=6
 ·subst h6;rcases hs with hs|⟨b,off,rfl,hb,h1⟩
  ·omega
  ·exact AL w b off cap xs hx h1 hb
 ·have q:((n:Int)==6)=false:=by simp;omega
  go_enter func132,ntmps132;go_wp2;go_ret;exact⟨dW (by simp[h6]),aK⟩
end
section
open Go.Proofs.Tryz
variable {f:Nat->Bool}{i j k:Nat}{xs:List S5}
def fH(xs:List S5)(i:Nat):S5:=xs[i]?.getD ⟨0,0,0,false,0⟩
def nA(xs:List S5)(i:Nat):Bool:=bK (fH xs i)&&(decide (i=0)||decide ((fH xs (i-1)).e<(fH xs i).e))
def I1(xs:List S5)(i:Nat):Bool:=nA xs i&&(decide (i=0)||decide ((fH xs i).b=(fH xs 0).b))
def ve(xs:List S5):Bool:=(List.range xs.length).all (nA xs)
def Ub(xs:List S5):Bool:=(List.range xs.length).all (I1 xs)
def yC(r:Int)(xs:List S5):Bool:=xs.all (fun s=>decide (s.b=r))
theorem xw(h:(List.range k).all f=true)(h':f k=true):(List.range (k+1)).all f=true:=by
 rw[List.range_succ,List.all_append,h];simp[h']
theorem pg{n:Nat}(hk:k<n)(h:f k=false):(List.range n).all f=false:=by
 rw[List.all_eq_false];exact⟨k,by simpa using hk,by simp[h]⟩
theorem VS(h:i<xs.length):xs[i]?=some (fH xs i):=by
 simp[fH,List.getElem?_eq_getElem h]
theorem aY.get{w:World}{b off:Nat}(h:aY w b off xs)(hi:i<xs.length):aV w b (off+i*5) (fH xs i):=h i _ (VS hi)
theorem Dk(h:bK (fH xs k)=false):nA xs k=false:=by simp[nA,h]
theorem FD(h:(fH xs (j+1)).e<=(fH xs j).e):nA xs (j+1)=false:=by simp[nA];intro _;omega
theorem Dl(h:bK (fH xs 0)=true):nA xs 0=true:=by simp[nA,h]
theorem FC(h:bK (fH xs (j+1))=true)(h':(fH xs j).e<(fH xs (j+1)).e):nA xs (j+1)=true:=by simp[nA,h,h']
theorem I4(w:World)(b off cap n:Nat)(xs:List S5)(hx:xs.length=n)(hn:n<=maxLen)(h1:aY w b off xs)(hb:b<w.1.size):
  Calls prog 168 #[.slice (some ⟨b,off,none⟩) n cap] w fun e w'=>e=.returned (.bool (Ub xs))/\Below w.1.size w w':=by
 unfold maxLen at hn;go_enter func168,ntmps168;go_wp2;go_loopw[3] (fun i wr=>∃k:Nat,k<=n/\i=vI k/\Below w.1.size w wr/\(List.range k).all (I1 xs)=true) (fun i _=>n-(intOf i).toNat)
 case atStart=>exact⟨0,Nat.zero_le _,rfl,aK,rfl⟩
 case round=>
  obtain⟨k,hk,rfl,aB,aQ⟩:=hrel;have K:=fP aB aQ hx;by_cases aN:k<n
  ·have t1:=((h1.get (i:=k) (by omega)).below aB hb).iA;have c0:=fun d os=>(t1 d os).c0
   have c1:=fun d os=>(t1 d os).c1
   have c2:=fun d os=>(t1 d os).c2
   have c3:=fun d os=>(t1 d os).c3
   have c4:=fun d os=>(t1 d os).c4
   have cQ:∀d os,Calls prog 98 #[.agg #[vI (fH xs k).b,vI (fH xs k).e,vI (fH xs k).g,.bool (fH xs k).j,vI (fH xs k).i]] (grow (redrawn wr d) os) fun e gH=>e=.returned (.bool (bK (fH xs k)))/\∃p:Regrown,gH=grow (redrawn wr p.d) p.os:=fun d os=>Calls.regrown_of (qf _ (fH xs k))
   cases il:bK (fH xs k)with
   | false=>
    rw[il]at cQ;clear t1 aB aQ h1 hx;go_wp2_with fail;refine gy ?_;repeat (go_big_quiet_step (exact cQ _ _))
    refine jb fun dq bu=>?_
    have bq:=below_regrown wr dq bu;go_wp2;go_ret;exact⟨by rw[Ub,K.out.2.2,pg aN (by simp[I1,Dk il])];rfl,K.out.1.trans (bq.mono K.out.1.size)⟩
   | true=>
    rw[il]at cQ;rcases k with _|j
    ·simp only[Nat.zero_mul,Nat.add_zero]at c0 c1 c2 c3 c4;clear t1 aB aQ h1 hx;go_wp2_with fail;refine gy ?_;repeat (go_big_quiet_step (exact cQ _ _))
     refine jb fun dq bu=>?_
     have bq:=below_regrown wr dq bu;go_wp2;exact⟨⟨1,by omega,by simp,K.out.1.trans (bq.mono K.out.1.size),xw K.out.2.1 (by simp[I1,Dl il])⟩,by simp[intOf];omega⟩
    ·have t2:=((h1.get (i:=j) (by omega)).below aB hb).iA;have t3:=((h1.get (i:=0) (by omega)).below aB hb).iA;have e1:=fun d os=>(t2 d os).c1
     have f0:=fun d os=>(t3 d os).c0
     simp only[Nat.zero_mul,Nat.add_zero]at f0;have hj:(j:Int)<(n:Int):=by omega
     have AD:(0:Int)<(n:Int):=by omega
     by_cases hs:(fH xs (j+1)).e<=(fH xs j).e
     ·clear t1 t2 t3 aB aQ h1 hx;go_wp2_with fail;refine gy ?_;repeat (go_big_quiet_step (exact cQ _ _))
      refine jb fun dq bu=>?_
      have bq:=below_regrown wr dq bu;go_wp2;go_ret;exact⟨by rw[Ub,K.out.2.2,pg aN (by simp[I1,FD hs])];rfl,K.out.1.trans (bq.mono K.out.1.size)⟩
     ·have IJ:decide ((fH xs (j+1)).e<=(fH xs j).e)=false:=by simp;omega
      by_cases hr:(fH xs (j+1)).b=(fH xs 0).b
      ·clear t1 t2 t3 aB aQ h1 hx;have yT:((fH xs (j+1)).b==(fH xs 0).b)=true:=by simp[hr]
       have HR:Hid ((fH xs (j+1)).b=(fH xs 0).b):=hr;clear hr;go_wp2_with fail;refine gy ?_;repeat (go_big_quiet_step (exact cQ _ _))
       refine jb fun dq bu=>?_
       have bq:=below_regrown wr dq bu;go_wp2;exact⟨⟨j+1+1,by omega,by simp,K.out.1.trans (bq.mono K.out.1.size),xw K.out.2.1 (by simp[I1,FC il hs,HR.out])⟩,by simp[intOf];omega⟩
      ·clear t1 t2 t3 aB aQ h1 hx;have yT:((fH xs (j+1)).b==(fH xs 0).b)=false:=by simp[hr]
       have HR:Hid (¬(fH xs (j+1)).b=(fH xs 0).b):=hr;clear hr;go_wp2_with fail;refine gy ?_;repeat (go_big_quiet_step (exact cQ _ _))
       refine jb fun dq bu=>?_
       have bq:=below_regrown wr dq bu;go_wp2;go_ret;exact⟨by rw[Ub,K.out.2.2,pg aN (by simp[I1,HR.out])];rfl,K.out.1.trans (bq.mono K.out.1.size)⟩
  ·have:k=n:=by omega
   subst this;have hd:decide (k<k)=false:=by simp
   go_wp2;go_ret;exact⟨by rw[Ub,hx,aQ];rfl,aB⟩
theorem Ew(w:World)(b off cap n:Nat)(xs:List S5)(hx:xs.length=n)(hn:n<=maxLen)(h1:aY w b off xs)(hb:b<w.1.size):
  Calls prog 275 #[.slice (some ⟨b,off,none⟩) n cap] w fun e w'=>e=.returned (.bool (ve xs))/\Below w.1.size w w':=by
 unfold maxLen at hn;go_enter func275,ntmps275;go_wp2;go_loopw[7] (fun i wr=>∃k:Nat,k<=n/\i=vI k/\Below w.1.size w wr/\(List.range k).all (nA xs)=true) (fun i _=>n-(intOf i).toNat)
 case atStart=>exact⟨0,Nat.zero_le _,rfl,aK,rfl⟩
 case round=>
  obtain⟨k,hk,rfl,aB,aQ⟩:=hrel;have K:=fP aB aQ hx;by_cases aN:k<n
  ·obtain⟨c0,c1,c2,c3,c4⟩:=(h1.get (i:=k) (by omega)).below aB hb;have Vg:∀j,k=j+1->wr.cell? ⟨b,off+j*5+1,none⟩=some (vI (fH xs j).e):=fun j e=>((h1.get (i:=j) (by omega)).below aB hb).c1
   have KP:Hid (∀j,k=j+1->wr.cell? ⟨b,off+j*5+1,none⟩=some (vI (fH xs j).e)):=Vg;have vj:=Nat.lt_of_lt_of_le hb aB.size;clear Vg aB aQ h1 hx;have tz:aV (wr.alloc (.cells #[vI (fH xs k).b,vI (fH xs k).e,vI (fH xs k).g,.bool (fH xs k).j,vI (fH xs k).i] 96)) wr.1.size 0 (fH xs k):=⟨by go_simp,by go_simp,by go_simp,by go_simp,by go_simp⟩
   have TZ:Hid (aV (wr.alloc (.cells #[vI (fH xs k).b,vI (fH xs k).e,vI (fH xs k).g,.bool (fH xs k).j,vI (fH xs k).i] 96)) wr.1.size 0 (fH xs k)):=tz;clear tz;rcases k with _|j
   ·simp only[Nat.zero_mul,Nat.add_zero]at c0 c1 c2 c3 c4;go_wp2_with fail;generalize hW:wr.alloc (.cells #[vI (fH xs 0).b,vI (fH xs 0).e,vI (fH xs 0).g,.bool (fH xs 0).j,vI (fH xs 0).i] 96)=W at TZ ⊢;have bW:Below wr.1.size wr W:=by subst hW;exact aK.alloc aU _
    have t1:=TZ.out.iA;have d0:=fun d os=>(t1 d os).c0
    have d1:=fun d os=>(t1 d os).c1
    have d2:=fun d os=>(t1 d os).c2
    have d3:=fun d os=>(t1 d os).c3
    have d4:=fun d os=>(t1 d os).c4
    simp only[Nat.zero_add]at d1 d2 d3 d4;have cQ:∀d os,Calls prog 156 #[.agg #[vI (fH xs 0).b,vI (fH xs 0).e,vI (fH xs 0).g,.bool (fH xs 0).j,vI (fH xs 0).i]] (grow (redrawn W d) os) fun e gH=>e=.returned (.bool (bK (fH xs 0)))/\∃p:Regrown,gH=grow (redrawn W p.d) p.os:=fun d os=>Calls.regrown_of (uE _ (fH xs 0))
    clear hW c0 c1 c2 c3 c4 t1
    cases il:bK (fH xs 0)with
    | false=>
     rw[il]at cQ;refine gy ?_;repeat (go_big_quiet_step (exact cQ _ _))
     refine jb fun dq bu=>?_
     have bq:=below_regrown W dq bu;go_wp2;go_ret;exact⟨by rw[ve,K.out.2.2,pg aN (Dk il)];rfl,K.out.1.trans ((bW.trans (bq.mono bW.size)).mono K.out.1.size)⟩
    | true=>
     rw[il]at cQ;refine gy ?_;repeat (go_big_quiet_step (exact cQ _ _))
     refine jb fun dq bu=>?_
     have bq:=below_regrown W dq bu;go_wp2;exact⟨⟨1,by omega,by simp,K.out.1.trans ((bW.trans (bq.mono bW.size)).mono K.out.1.size),xw K.out.2.1 (Dl il)⟩,by simp[intOf];omega⟩
   ·have hj:(j:Int)<(n:Int):=by omega
    have hp:=KP.out j rfl;go_wp2_with fail;generalize hW:wr.alloc (.cells #[vI (fH xs (j+1)).b,vI (fH xs (j+1)).e,vI (fH xs (j+1)).g,.bool (fH xs (j+1)).j,vI (fH xs (j+1)).i] 96)=W at TZ ⊢;have bW:Below wr.1.size wr W:=by subst hW;exact aK.alloc aU _
    have t1:=TZ.out.iA;have d0:=fun d os=>(t1 d os).c0
    have d1:=fun d os=>(t1 d os).c1
    have d2:=fun d os=>(t1 d os).c2
    have d3:=fun d os=>(t1 d os).c3
    have d4:=fun d os=>(t1 d os).c4
    simp only[Nat.zero_add]at d1 d2 d3 d4;have p1:=cell_regrown ((bW.cell (p:=⟨b,off+j*5+1,none⟩) vj).trans hp);have cQ:∀d os,Calls prog 156 #[.agg #[vI (fH xs (j+1)).b,vI (fH xs (j+1)).e,vI (fH xs (j+1)).g,.bool (fH xs (j+1)).j,vI (fH xs (j+1)).i]] (grow (redrawn W d) os) fun e gH=>e=.returned (.bool (bK (fH xs (j+1))))/\∃p:Regrown,gH=grow (redrawn W p.d) p.os:=fun d os=>Calls.regrown_of (uE _ (fH xs (j+1)))
    clear hW c0 c1 c2 c3 c4 t1 hp
    cases il:bK (fH xs (j+1))with
    | false=>
     rw[il]at cQ;refine gy ?_;repeat (go_big_quiet_step (exact cQ _ _))
     refine jb fun dq bu=>?_
     have bq:=below_regrown W dq bu;go_wp2;go_ret;exact⟨by rw[ve,K.out.2.2,pg aN (Dk il)];rfl,K.out.1.trans ((bW.trans (bq.mono bW.size)).mono K.out.1.size)⟩
    | true=>
     rw[il]at cQ;by_cases hs:(fH xs (j+1)).e<=(fH xs j).e
     ·skip
      refine gy ?_;repeat (go_big_quiet_step (exact cQ _ _))
      refine jb fun dq bu=>?_
      have bq:=below_regrown W dq bu;go_wp2;go_ret;exact⟨by rw[ve,K.out.2.2,pg aN (FD hs)];rfl,K.out.1.trans ((bW.trans (bq.mono bW.size)).mono K.out.1.size)⟩
     ·have IJ:decide ((fH xs (j+1)).e<=(fH xs j).e)=false:=by simp;omega
      refine gy ?_;repeat (go_big_quiet_step (exact cQ _ _))
      refine jb fun dq bu=>?_
      have bq:=below_regrown W dq bu;go_wp2;exact⟨⟨j+1+1,by omega,by simp,K.out.1.trans ((bW.trans (bq.mono bW.size)).mono K.out.1.size),xw K.out.2.1 (FC il (by omega))⟩,by simp[intOf];omega⟩
  ·have:k=n:=by omega
   subst this;have hd:decide (k<k)=false:=by simp
   go_wp2;go_ret;exact⟨by rw[ve,hx,aQ];rfl,aB⟩
end
section
open Go.Proofs.Tryz
variable {r:Int}{xs:List S5}
theorem elsewhere(w:World)(g:Nat)(r:Int)(s:S5)(hg:w.cell? ⟨g,2,none⟩=some (vI r))(Yk:g<w.1.size):
  Calls prog 274 #[.agg #[vI s.b,vI s.e,vI s.g,.bool s.j,vI s.i],.pointer (some ⟨g,0,none⟩)] w fun e w'=>e=.returned (.bool (!decide (s.b=r)))/\Below w.1.size w w':=by
 go_enter func274,ntmps274;go_wp2;go_ret;exact⟨dW (by simp),aK.alloc aU _⟩
theorem Jy(h:∀i,i<xs.length->(fH xs i).b=r):yC r xs=true:=by
 rw[yC,List.all_eq_true];intro s hs;obtain⟨i,hi,rfl⟩:=List.getElem_of_mem hs;have:=h i hi;rw[fH,List.getElem?_eq_getElem hi]at this;simpa using this
theorem Jz{i:Nat}(hi:i<xs.length)(h:¬(fH xs i).b=r):yC r xs=false:=by
 rw[yC,List.all_eq_false];refine⟨xs[i],List.getElem_mem hi,?_⟩;rw[fH,List.getElem?_eq_getElem hi]at h;simpa using h
theorem Ci(w:World)(g:Nat)(r:Int)(b off cap n:Nat)(xs:List S5)(hx:xs.length=n)(hn:n<=maxLen)(h1:aY w b off xs)(hb:b<w.1.size)(hg:w.cell? ⟨g,2,none⟩=some (vI r))(Yk:g<w.1.size):
  Calls prog 254 #[.slice (some ⟨b,off,none⟩) n cap,.func (.func 274) #[] #[.pointer (some ⟨g,0,none⟩)]] w fun e w'=>∃i:Int,e=.returned (vI i)/\(0<=i↔yC r xs=false)/\Below w.1.size w w':=by
 unfold maxLen at hn;go_enter func254,ntmps254;go_wp2;go_loopw[8] (fun i wr=>∃k:Nat,k<=n/\i=vI k/\Below w.1.size w wr/\∀i,i<k->(fH xs i).b=r) (fun i _=>n-(intOf i).toNat)
 case atStart=>exact⟨0,Nat.zero_le _,rfl,aK,fun i h=>absurd h (by omega)⟩
 case round=>
  obtain⟨k,hk,rfl,aB,aQ⟩:=hrel;have K:=fP aB aQ hx;by_cases aN:k<n
  ·obtain⟨c0,c1,c2,c3,c4⟩:=(h1.get (i:=k) (by omega)).below aB hb;have qk:=(aB.cell (p:=⟨g,2,none⟩) Yk).trans hg;clear aB aQ h1 hx;by_cases hr:(fH xs k).b=r
   ·have hd:(!decide ((fH xs k).b=r))=false:=by simp[hr]
    have HR:Hid ((fH xs k).b=r):=hr;clear hr;go_wp2_with fail;refine(elsewhere _ g r (fH xs k) qk (Nat.lt_of_lt_of_le Yk K.out.1.size)).mono ?_;rw[hd];rintro e w1 ⟨rfl,b1⟩;clear hd;go_wp2;refine⟨⟨k+1,by omega,by simp,K.out.1.trans (b1.mono K.out.1.size),fun i hi=>?_⟩,by simp[intOf];omega⟩;by_cases e:i=k
    ·rw[e];exact HR.out
    ·exact K.out.2.1 i (by omega)
   ·have hd:(!decide ((fH xs k).b=r))=true:=by simp[hr]
    go_wp2_with fail;refine(elsewhere _ g r (fH xs k) qk (Nat.lt_of_lt_of_le Yk K.out.1.size)).mono ?_;rw[hd];rintro e w1 ⟨rfl,b1⟩;clear hd;go_wp2;go_ret;exact⟨(k:Int),rfl,by simp[Jz (xs:=xs) (i:=k) (by rw[K.out.2.2];exact aN) hr],K.out.1.trans (b1.mono K.out.1.size)⟩
  ·have:k=n:=by omega
   subst this;have hd:decide (k<k)=false:=by simp
   go_wp2;go_ret;exact⟨-1,rfl,by simp[Jy (r:=r) (xs:=xs) (by rw[hx];exact aQ)],aB⟩
theorem xI(w:World)(g:Nat)(r:Int)(b off cap n:Nat)(xs:List S5)(hx:xs.length=n)(hn:n<=maxLen)(h1:aY w b off xs)(hb:b<w.1.size)(hg:w.cell? ⟨g,2,none⟩=some (vI r))(Yk:g<w.1.size):
  Calls prog 226 #[.slice (some ⟨b,off,none⟩) n cap,.func (.func 274) #[] #[.pointer (some ⟨g,0,none⟩)]] w fun e w'=>e=.returned (.bool (!yC r xs))/\Below w.1.size w w':=by
 go_enter func226,ntmps226;go_wp2_with fail;refine(Ci w g r b off cap n xs hx hn h1 hb hg Yk).mono ?_;rintro e w1 ⟨i,rfl,hi,b1⟩;go_wp2;go_ret;refine⟨dW ?_,b1⟩;simp
theorem RX(w:World)(x:Int):Calls prog 84 #[vI x] w fun e w'=>e=.returned (.bool (aW 1 1000000 x))/\w'=w:=by
 go_enter func84,ntmps84;go_wp2_with (go_at_call 77;refine(fw _ _ _ _).mono ?_;rintro e w' ⟨rfl,rfl⟩);go_ret;exact⟨rfl,rfl⟩
theorem jO(w:World)(x:Int):Calls prog 188 #[vI x] w fun e w'=>e=.returned (.bool (aW 1 1000000 x))/\w'=w:=by
 go_enter func188,ntmps188;go_wp2;all_goals (go_ret;refine⟨dW ?_,rfl⟩;simp[dD];try omega)
def oL(k t r:Int)(xs:List S5):Bool:=aW 1 3 k&&aW 1 1000000 t&&aW 0 5 r&&decide (1<=xs.length)&&decide (xs.length<=12)&&ve xs&&yC r xs
def ma(k t r:Int)(xs:List S5):Bool:=aW 1 3 k&&aW 1 1000000 t&&aW 0 5 r&&decide (1<=xs.length)&&decide (xs.length<=12)&&Ub xs&&decide ((fH xs 0).b=r)
theorem RV(k t r:Int)(xs:List S5):ma k t r xs=oL k t r xs:=by
 unfold ma oL;by_cases h:1<=xs.length
 ·have:(Ub xs&&decide ((fH xs 0).b=r))=(ve xs&&yC r xs):=by
   rw[Bool.eq_iff_iff];simp only[Bool.and_eq_true,decide_eq_true_eq,Ub,ve,List.all_eq_true,List.mem_range,I1,Bool.or_eq_true];constructor
   ·rintro ⟨h1,h2⟩;refine⟨fun i hi=>(h1 i hi).1,Jy fun i hi=>?_⟩;rcases(h1 i hi).2 with e|e
    ·rw[e];exact h2
    ·rw[e];exact h2
   ·rintro ⟨h1,h2⟩
    have ha:∀i,i<xs.length->(fH xs i).b=r:=fun i hi=>by
     by_cases e:(fH xs i).b=r
     ·exact e
     ·rw[Jz hi e]at h2;cases h2
    exact⟨fun i hi=>⟨h1 i hi,.inr (by rw[ha i hi,ha 0 (by omega)])⟩,ha 0 (by omega)⟩
  simp only[Bool.and_assoc,this]
 ·simp[h]
theorem yJ(w:World)(k t r:Int)(b off cap n:Nat)(xs:List S5)(hx:xs.length=n)(hn:n<=maxLen)(h1:aY w b off xs)(hb:b<w.1.size):
  Calls prog 133 #[.agg #[vI k,vI t,vI r,.slice (some ⟨b,off,none⟩) n cap]] w fun e w'=>e=.returned (.bool (ma k t r xs))/\Below w.1.size w w':=by
 go_enter func133,ntmps133;go_wp2_with fail;have e0:(w.alloc (.cells #[vI k,vI t,vI r,.slice (some ⟨b,off,none⟩) n cap] 188)).cell? ⟨w.1.size,0,none⟩=some (vI k):=by go_simp
 have e1:(w.alloc (.cells #[vI k,vI t,vI r,.slice (some ⟨b,off,none⟩) n cap] 188)).cell? ⟨w.1.size,1,none⟩=some (vI t):=by go_simp
 have e2:(w.alloc (.cells #[vI k,vI t,vI r,.slice (some ⟨b,off,none⟩) n cap] 188)).cell? ⟨w.1.size,2,none⟩=some (vI r):=by go_simp
 have e3:(w.alloc (.cells #[vI k,vI t,vI r,.slice (some ⟨b,off,none⟩) n cap] 188)).cell? ⟨w.1.size,3,none⟩=some (.slice (some ⟨b,off,none⟩) n cap):=by go_simp
 generalize hW:w.alloc (.cells #[vI k,vI t,vI r,.slice (some ⟨b,off,none⟩) n cap] 188)=W at e0 e1 e2 e3 ⊢;have bW:Below w.1.size w W:=by subst hW;exact aK.alloc aU _
 clear hW;have Wo:=h1.below bW hb;have fB:=Nat.lt_of_lt_of_le hb bW.size;have d0:=cell_regrown e0;have d1:=cell_regrown e1;have d2:=cell_regrown e2;have d3:=cell_regrown e3;have cK:∀d os,Calls prog 77 #[vI k,vI 1,vI 3] (grow (redrawn W d) os) fun e gH=>e=.returned (.bool (aW 1 3 k))/\∃p:Regrown,gH=grow (redrawn W p.d) p.os:=fun d os=>Calls.regrown_of ((fw _ _ _ _).mono fun _ _ ⟨h,h'⟩=>⟨h,by rw[h'];exact aK⟩)
 have cT:∀d os,Calls prog 84 #[vI t] (grow (redrawn W d) os) fun e gH=>e=.returned (.bool (aW 1 1000000 t))/\∃p:Regrown,gH=grow (redrawn W p.d) p.os:=fun d os=>Calls.regrown_of ((RX _ _).mono fun _ _ ⟨h,h'⟩=>⟨h,by rw[h'];exact aK⟩)
 have cR:∀d os,Calls prog 131 #[vI r] (grow (redrawn W d) os) fun e gH=>e=.returned (.bool (aW 0 5 r))/\∃p:Regrown,gH=grow (redrawn W p.d) p.os:=fun d os=>Calls.regrown_of ((nC _ _).mono fun _ _ ⟨h,h'⟩=>⟨h,by rw[h'];exact aK⟩)
 have cS:=fun d os=>Calls.regrown_of (I4 _ b off cap n xs hx hn (Wo.below (below_regrown W d os) fB) (Nat.lt_of_lt_of_le fB (below_regrown W d os).size))
 have Ec:=hn;clear e0 e1 e2 e3
 cases g1:aW 1 3 k with
 | false=>
  rw[g1]at cK;refine gy ?_;repeat (go_big_quiet_step (first|(go_at_call 77;exact cK _ _)|(go_at_call 84;exact cT _ _)|(go_at_call 131;exact cR _ _)|(go_at_call 168;exact cS _ _)))
  refine jb fun dq bu=>?_
  have bq:=below_regrown W dq bu;go_wp2;go_ret;exact⟨by rw[ma,g1];rfl,bW.trans (bq.mono bW.size)⟩
 | true=>
  rw[g1]at cK
  cases g2:aW 1 1000000 t with
  | false=>
   rw[g2]at cT;refine gy ?_;repeat (go_big_quiet_step (first|(go_at_call 77;exact cK _ _)|(go_at_call 84;exact cT _ _)|(go_at_call 131;exact cR _ _)|(go_at_call 168;exact cS _ _)))
   refine jb fun dq bu=>?_
   have bq:=below_regrown W dq bu;go_wp2;go_ret;exact⟨by rw[ma,g1,g2];rfl,bW.trans (bq.mono bW.size)⟩
  | true=>
   rw[g2]at cT
   cases g3:aW 0 5 r with
   | false=>
    rw[g3]at cR;refine gy ?_;repeat (go_big_quiet_step (first|(go_at_call 77;exact cK _ _)|(go_at_call 84;exact cT _ _)|(go_at_call 131;exact cR _ _)|(go_at_call 168;exact cS _ _)))
    refine jb fun dq bu=>?_
    have bq:=below_regrown W dq bu;go_wp2;go_ret;exact⟨by rw[ma,g1,g2,g3];rfl,bW.trans (bq.mono bW.size)⟩
   | true=>
    rw[g3]at cR;by_cases g4:1<=n
    ·have z:=(Wo.get (i:=0) (by omega)).c0;simp only[Nat.zero_mul,Nat.add_zero]at z;have dz:=cell_regrown z;have HX:Hid (xs.length=n):=hx;have g4':(1:Int)<=(n:Int):=by omega
     have tR:(0:Int)<(n:Int):=by omega
     clear z hx h1 Wo;by_cases g5:n<=12
     ·have tS:(n:Int)<=12:=by omega
      cases g6:Ub xs with
      | false=>
       rw[g6]at cS;refine gy ?_;repeat (go_big_quiet_step (first|(go_at_call 77;exact cK _ _)|(go_at_call 84;exact cT _ _)|(go_at_call 131;exact cR _ _)|(go_at_call 168;exact cS _ _)))
       refine jb fun dq bu=>?_
       have bq:=below_regrown W dq bu;go_wp2;go_ret;exact⟨by rw[ma,g1,g2,g3,HX.out,decide_eq_true g4,decide_eq_true g5,g6];rfl,bW.trans (bq.mono bW.size)⟩
      | true=>
       rw[g6]at cS;by_cases g7:(fH xs 0).b=r
       ·have ua:((fH xs 0).b==r)=true:=by simp[g7]
        have H7:Hid ((fH xs 0).b=r):=g7;clear g7;refine gy ?_;repeat (go_big_quiet_step (first|(go_at_call 77;exact cK _ _)|(go_at_call 84;exact cT _ _)|(go_at_call 131;exact cR _ _)|(go_at_call 168;exact cS _ _)))
        refine jb fun dq bu=>?_
        have bq:=below_regrown W dq bu;go_wp2;go_ret;exact⟨by rw[ma,g1,g2,g3,HX.out,decide_eq_true g4,decide_eq_true g5,g6,decide_eq_true H7.out];rfl,bW.trans (bq.mono bW.size)⟩
       ·have ua:((fH xs 0).b==r)=false:=by simp[g7]
        refine gy ?_;repeat (go_big_quiet_step (first|(go_at_call 77;exact cK _ _)|(go_at_call 84;exact cT _ _)|(go_at_call 131;exact cR _ _)|(go_at_call 168;exact cS _ _)))
        refine jb fun dq bu=>?_
        have bq:=below_regrown W dq bu;go_wp2;go_ret;exact⟨by rw[ma,g1,g2,g3,HX.out,decide_eq_true g4,decide_eq_true g5,g6,decide_eq_false g7];rfl,bW.trans (bq.mono bW.size)⟩
     ·have tS:decide ((n:Int)<=12)=false:=by simp;omega
      refine gy ?_;repeat (go_big_quiet_step (first|(go_at_call 77;exact cK _ _)|(go_at_call 84;exact cT _ _)|(go_at_call 131;exact cR _ _)|(go_at_call 168;exact cS _ _)))
      refine jb fun dq bu=>?_
      have bq:=below_regrown W dq bu;go_wp2;go_ret;exact⟨by rw[ma,g1,g2,g3,HX.out,decide_eq_true g4,decide_eq_false (show ¬n<=12 by omega)];rfl,bW.trans (bq.mono bW.size)⟩
    ·have g4':decide (1<=(n:Int))=false:=by simp;omega
     have HX:Hid (xs.length=n):=hx;clear hx h1 Wo;refine gy ?_;repeat (go_big_quiet_step (first|(go_at_call 77;exact cK _ _)|(go_at_call 84;exact cT _ _)|(go_at_call 131;exact cR _ _)|(go_at_call 168;exact cS _ _)))
     refine jb fun dq bu=>?_
     have bq:=below_regrown W dq bu;go_wp2;go_ret;exact⟨by rw[ma,g1,g2,g3,HX.out,decide_eq_false (show ¬1<=n by omega)];rfl,bW.trans (bq.mono bW.size)⟩
theorem yI(w:World)(k t r:Int)(a:OA)(cap:Nat):
  Calls prog 133 #[.agg #[vI k,vI t,vI r,.slice a 0 cap]] w fun e w'=>e=.returned (.bool (ma k t r []))/\Below w.1.size w w':=by
 go_enter func133,ntmps133;go_wp2_with fail;have e0:(w.alloc (.cells #[vI k,vI t,vI r,.slice a 0 cap] 188)).cell? ⟨w.1.size,0,none⟩=some (vI k):=by go_simp
 have e1:(w.alloc (.cells #[vI k,vI t,vI r,.slice a 0 cap] 188)).cell? ⟨w.1.size,1,none⟩=some (vI t):=by go_simp
 have e2:(w.alloc (.cells #[vI k,vI t,vI r,.slice a 0 cap] 188)).cell? ⟨w.1.size,2,none⟩=some (vI r):=by go_simp
 have e3:(w.alloc (.cells #[vI k,vI t,vI r,.slice a 0 cap] 188)).cell? ⟨w.1.size,3,none⟩=some (.slice a 0 cap):=by go_simp
 generalize hW:w.alloc (.cells #[vI k,vI t,vI r,.slice a 0 cap] 188)=W at e0 e1 e2 e3 ⊢;have bW:Below w.1.size w W:=by subst hW;exact aK.alloc aU _
 clear hW;have d0:=cell_regrown e0;have d1:=cell_regrown e1;have d2:=cell_regrown e2;have d3:=cell_regrown e3;have cK:∀d os,Calls prog 77 #[vI k,vI 1,vI 3] (grow (redrawn W d) os) fun e gH=>e=.returned (.bool (aW 1 3 k))/\∃p:Regrown,gH=grow (redrawn W p.d) p.os:=fun d os=>Calls.regrown_of ((fw _ _ _ _).mono fun _ _ ⟨h,h'⟩=>⟨h,by rw[h'];exact aK⟩)
 have cT:∀d os,Calls prog 84 #[vI t] (grow (redrawn W d) os) fun e gH=>e=.returned (.bool (aW 1 1000000 t))/\∃p:Regrown,gH=grow (redrawn W p.d) p.os:=fun d os=>Calls.regrown_of ((RX _ _).mono fun _ _ ⟨h,h'⟩=>⟨h,by rw[h'];exact aK⟩)
 have cR:∀d os,Calls prog 131 #[vI r] (grow (redrawn W d) os) fun e gH=>e=.returned (.bool (aW 0 5 r))/\∃p:Regrown,gH=grow (redrawn W p.d) p.os:=fun d os=>Calls.regrown_of ((nC _ _).mono fun _ _ ⟨h,h'⟩=>⟨h,by rw[h'];exact aK⟩)
 clear e0 e1 e2 e3
 cases g1:aW 1 3 k with
 | false=>
  rw[g1]at cK;refine gy ?_;repeat (go_big_quiet_step (first|(go_at_call 77;exact cK _ _)|(go_at_call 84;exact cT _ _)|(go_at_call 131;exact cR _ _)))
  refine jb fun dq bu=>?_
  have bq:=below_regrown W dq bu;go_wp2;go_ret;exact⟨by rw[ma,g1];rfl,bW.trans (bq.mono bW.size)⟩
 | true=>
  rw[g1]at cK
  cases g2:aW 1 1000000 t with
  | false=>
   rw[g2]at cT;refine gy ?_;repeat (go_big_quiet_step (first|(go_at_call 77;exact cK _ _)|(go_at_call 84;exact cT _ _)|(go_at_call 131;exact cR _ _)))
   refine jb fun dq bu=>?_
   have bq:=below_regrown W dq bu;go_wp2;go_ret;exact⟨by rw[ma,g1,g2];rfl,bW.trans (bq.mono bW.size)⟩
  | true=>
   rw[g2]at cT
   cases g3:aW 0 5 r with
   | false=>
    rw[g3]at cR;refine gy ?_;repeat (go_big_quiet_step (first|(go_at_call 77;exact cK _ _)|(go_at_call 84;exact cT _ _)|(go_at_call 131;exact cR _ _)))
    refine jb fun dq bu=>?_
    have bq:=below_regrown W dq bu;go_wp2;go_ret;exact⟨by rw[ma,g1,g2,g3];rfl,bW.trans (bq.mono bW.size)⟩
   | true=>
    rw[g3]at cR;refine gy ?_;repeat (go_big_quiet_step (first|(go_at_call 77;exact cK _ _)|(go_at_call 84;exact cT _ _)|(go_at_call 131;exact cR _ _)))
    refine jb fun dq bu=>?_
    have bq:=below_regrown W dq bu;go_wp2;go_ret;exact⟨by rw[ma,g1,g2,g3];rfl,bW.trans (bq.mono bW.size)⟩
theorem zF(w:World)(k t r:Int)(a:OA)(n cap:Nat)(xs:List S5)(hn:n<=maxLen)(hs:Sl w w.1.size a n xs):
  Calls prog 133 #[.agg #[vI k,vI t,vI r,.slice a n cap]] w fun e w'=>e=.returned (.bool (oL k t r xs))/\Below w.1.size w w':=by
 obtain⟨h1,h2⟩:=hs;rw[<-RV];rcases h2 with rfl|⟨b,off,rfl,hb,hx⟩
 ·rw[List.eq_nil_of_length_eq_zero h1];exact yI w k t r a cap
 ·exact yJ w k t r b off cap n xs h1 hn hx hb
end
section
open Go.Proofs.Tryz
variable {j:Nat}{ks:List K2}
def ou(ks:List K2)(i:Nat):Bool:=aW 0 5 (dX ks i).b&&gM (dX ks i).cells&&(decide (i=0)||decide ((dX ks (i-1)).b<(dX ks i).b))
def Ar(rs:List R4)(i:Nat):Bool:=oL (atR rs i).kind (atR rs i).tx (atR rs i).b (atR rs i).ai
def fF(m:M4):Bool:=decide (m.ag.length<=6)&&decide (m.h.length<=200)&&decide (m.ax.length<=60)&&Ee m.ax&&(List.range m.ag.length).all (ou m.ag)&&(List.range m.h.length).all (Ar m.h)
theorem Tn(h:(dX ks (j+1)).b<=(dX ks j).b):ou ks (j+1)=false:=by
 have:decide ((dX ks j).b<(dX ks (j+1)).b)=false:=by simp;omega
 simp[ou,this]
theorem NQ(h:aW 0 5 (dX ks 0).b=true)(h':gM (dX ks 0).cells=true):ou ks 0=true:=by simp[ou,h,h']
theorem Qo(h:aW 0 5 (dX ks (j+1)).b=true)(h':gM (dX ks (j+1)).cells=true)(hq:(dX ks j).b<(dX ks (j+1)).b):ou ks (j+1)=true:=by simp[ou,h,h',hq]
theorem Gz(w:World)(x:Int):Calls prog 131 #[vI x] w fun e w'=>e=.returned (.bool (aW 0 5 x))/\Below w.1.size w w':=(nC w x).mono (by rintro e w' ⟨h,rfl⟩;exact⟨h,aK⟩)
theorem yG(w:World)(v:MV)(m:M4)(hk:m.ag.length<=maxLen)(hr:m.h.length<=maxLen)(hn:m.ax.length<=maxLen)(Ca:∀r∈m.ag,r.cells.length<=maxLen)(nR:∀r∈m.h,r.ai.length<=maxLen)(hs:Ag w v m):
  Calls prog 86 #[v.val m] w fun e w'=>e=.returned (.bool (fF m))/\Below w.1.size w w':=by
 obtain⟨ac,cc,al,cl,ad,cd⟩:=v;simp only[MV.val];have H:=pI hs Ca nR hn;clear hs Ca nR;unfold maxLen at hk hr hn;have BW:Hid (Below w.1.size w (w.alloc (.cells #[.bool m.x,.slice ac m.ag.length cc,.slice al m.h.length cl,.slice ad m.ax.length cd] 87))):=aK.alloc aU _;by_cases g1:m.ag.length<=6
 case neg=>
  have hb:fF m=false:=by simp[fF,g1]
  have d1:decide ((6:Int)<(m.ag.length:Int))=true:=by simp;omega
  rw[hb];go_enter func86,ntmps86;go_wp2;go_ret;exact⟨rfl,BW.out⟩
 have d1:decide ((6:Int)<(m.ag.length:Int))=false:=by simp;omega
 by_cases g2:m.h.length<=200
 case neg=>
  have hb:fF m=false:=by simp[fF,g2]
  have d2:decide ((200:Int)<(m.h.length:Int))=true:=by simp;omega
  rw[hb];go_enter func86,ntmps86;go_wp2;go_ret;exact⟨rfl,BW.out⟩
 have d2:decide ((200:Int)<(m.h.length:Int))=false:=by simp;omega
 by_cases g3:m.ax.length<=60
 case neg=>
  have hb:fF m=false:=by simp[fF,g3]
  have d3:decide ((60:Int)<(m.ax.length:Int))=true:=by simp;omega
  rw[hb];go_enter func86,ntmps86;go_wp2;go_ret;exact⟨rfl,BW.out⟩
 have d3:decide ((60:Int)<(m.ax.length:Int))=false:=by simp;omega
 have HM:Hid (fF m=(Ee m.ax&&(List.range m.ag.length).all (ou m.ag)&&(List.range m.h.length).all (Ar m.h))):=by unfold Hid;simp[fF,g1,g2,g3]
 have q1:(w.alloc (.cells #[.bool m.x,.slice ac m.ag.length cc,.slice al m.h.length cl,.slice ad m.ax.length cd] 87)).cell? ⟨w.1.size,1,none⟩=some (.slice ac m.ag.length cc):=by go_simp
 have q2:(w.alloc (.cells #[.bool m.x,.slice ac m.ag.length cc,.slice al m.h.length cl,.slice ad m.ax.length cd] 87)).cell? ⟨w.1.size,2,none⟩=some (.slice al m.h.length cl):=by go_simp
 have qz:w.1.size<(w.alloc (.cells #[.bool m.x,.slice ac m.ag.length cc,.slice al m.h.length cl,.slice ad m.ax.length cd] 87)).1.size:=by simp
 have Q:=fP q1 q2 qz;clear q1 q2 qz;go_enter func86,ntmps86;go_wp2_with fail;generalize w.alloc (.cells #[.bool m.x,.slice ac m.ag.length cc,.slice al m.h.length cl,.slice ad m.ax.length cd] 87)=W at *;refine(I5 W ad m.ax.length cd m.ax H.out.2.2.2 (H.out.1.later BW.out).n).mono ?_;rintro e w1 ⟨rfl,b1⟩;have q1:=(b1.cell (p:=⟨w.1.size,1,none⟩) Q.out.2.2).trans Q.out.1;have q2:=(b1.cell (p:=⟨w.1.size,2,none⟩) Q.out.2.2).trans Q.out.2.1;have B1:=fP (BW.out.trans (b1.mono BW.out.size)) (Nat.lt_of_lt_of_le Q.out.2.2 b1.size) ((H.out.1.later BW.out).later b1);clear b1
 cases gi:Ee m.ax with
 | false=>
  go_wp2;go_ret;exact⟨by rw[HM.out,gi];rfl,B1.out.1⟩
 | true=>
  have HN:Hid (fF m=((List.range m.ag.length).all (ou m.ag)&&(List.range m.h.length).all (Ar m.h))):=by unfold Hid;rw[HM.out,gi];rfl
  clear gi HM;have QQ:=dw q1 q2;go_wp2;go_loopw[3] (fun v3 wr=>∃k:Nat,k<=m.ag.length/\v3=vI k/\Below w1.1.size w1 wr/\(List.range k).all (ou m.ag)=true) (fun v3 _=>m.ag.length-(intOf v3).toNat)
  case atStart=>exact⟨0,Nat.zero_le _,rfl,aK,rfl⟩
  case round=>
   obtain⟨k,WR,rfl,aB,aQ⟩:=hrel;clear q1 q2;have p1:=(aB.cell (p:=⟨w.1.size,1,none⟩) B1.out.2.1).trans QQ.out.1;have p2:=(aB.cell (p:=⟨w.1.size,2,none⟩) B1.out.2.1).trans QQ.out.2;have QZ:=Nat.lt_of_lt_of_le B1.out.2.1 aB.size;have K:=dw aB aQ;have KF:Hid (∀V,Below wr.1.size wr V->Below w.1.size w V):=fun V h=>B1.out.1.trans ((K.out.1.trans (h.mono K.out.1.size)).mono B1.out.1.size)
   by_cases aN:k<m.ag.length
   ·obtain⟨_,fQ⟩:=(B1.out.2.2.later aB).k;rcases fQ with fQ|⟨b,off,rfl,hb,h1⟩
    ·omega
    have t1:=h1 k _ (eZ aN);obtain⟨a',aZ,e1,s1,kz⟩:=t1.c1;have x1:=fun d os=>((below_regrown wr d os).cell (p:=⟨w.1.size,1,none⟩) QZ).trans p1
    have y0:=fun d os=>((below_regrown wr d os).cell (p:=⟨b,off+k*2,none⟩) hb).trans t1.c0
    have y1:=fun d os=>((below_regrown wr d os).cell (p:=⟨b,off+k*2+1,none⟩) hb).trans e1
    have jo:=H.out.2.1 _ (List.mem_of_getElem? (eZ aN));have cR:∀d os,Calls prog 131 #[vI (dX m.ag k).b] (grow (redrawn wr d) os) fun e gH=>e=.returned (.bool (aW 0 5 (dX m.ag k).b))/\∃p:Regrown,gH=grow (redrawn wr p.d) p.os:=fun d os=>Calls.regrown_of (Gz _ _)
    have cC:=fun d os=>Calls.regrown_of (AJ _ a' _ aZ _ jo ((s1.below (below_regrown wr d os)).mono (below_regrown wr d os).size))
    have HF:Hid (ou m.ag k=false->fF m=false):=fun h=>by rw[HN.out,pQ aN h];rfl
    cases gr:aW 0 5 (dX m.ag k).b with
    | false=>
     rw[gr]at cR;clear t1 aB aQ h1 s1 e1 jo;go_wp2_with fail;refine gy ?_;repeat (go_big_quiet_step (first|exact cR _ _|exact cC _ _))
     refine jb fun dq bu=>?_
     have bq:=below_regrown wr dq bu;go_wp2;go_ret;exact⟨by rw[HF.out (by simp[ou,gr])];rfl,KF.out _ bq⟩
    | true=>
     rw[gr]at cR
     cases gc:gM (dX m.ag k).cells with
     | false=>
      rw[gc]at cC;clear t1 aB aQ h1 s1 e1 jo;go_wp2_with fail;refine gy ?_;repeat (go_big_quiet_step (first|exact cR _ _|exact cC _ _))
      refine jb fun dq bu=>?_
      have bq:=below_regrown wr dq bu;go_wp2;go_ret;exact⟨by rw[HF.out (by simp[ou,gc])];rfl,KF.out _ bq⟩
     | true=>
      rw[gc]at cC;rcases k with _|j
      ·simp only[Nat.zero_mul,Nat.add_zero]at y0 y1;clear t1 aB aQ h1 s1 e1 jo;go_wp2_with fail;refine gy ?_;repeat (go_big_quiet_step (first|exact cR _ _|exact cC _ _))
       refine jb fun dq bu=>?_
       have bq:=below_regrown wr dq bu;go_wp2;exact⟨⟨1,by omega,by simp,K.out.1.trans (bq.mono K.out.1.size),ni K.out.2 (NQ gr gc)⟩,by simp[intOf];omega⟩
      ·have t2:=h1 j _ (eZ (by omega));have z0:=fun d os=>((below_regrown wr d os).cell (p:=⟨b,off+j*2,none⟩) hb).trans t2.c0
       have hj:(j:Int)<(m.ag.length:Int):=by omega
       by_cases hq:(dX m.ag (j+1)).b<=(dX m.ag j).b
       ·clear t1 t2 aB aQ h1 s1 e1 jo;go_wp2_with fail;refine gy ?_;repeat (go_big_quiet_step (first|exact cR _ _|exact cC _ _))
        refine jb fun dq bu=>?_
        have bq:=below_regrown wr dq bu;go_wp2;go_ret;exact⟨by rw[HF.out (Tn hq)];rfl,KF.out _ bq⟩
       ·have TJ:decide ((dX m.ag (j+1)).b<=(dX m.ag j).b)=false:=by simp;omega
        have HQ:Hid ((dX m.ag j).b<(dX m.ag (j+1)).b):=by unfold Hid;omega
        clear t1 t2 aB aQ h1 s1 e1 jo hq;go_wp2_with fail;refine gy ?_;repeat (go_big_quiet_step (first|exact cR _ _|exact cC _ _))
        refine jb fun dq bu=>?_
        have bq:=below_regrown wr dq bu;go_wp2;exact⟨⟨j+1+1,by omega,by simp,K.out.1.trans (bq.mono K.out.1.size),ni K.out.2 (Qo gr gc HQ.out)⟩,by simp[intOf];omega⟩
   ·have:k=m.ag.length:=by omega
    subst this;have hd:decide ((m.ag.length:Int)<(m.ag.length:Int))=false:=by simp
    have HL:Hid (fF m=(List.range m.h.length).all (Ar m.h)):=by unfold Hid;rw[HN.out,aQ];rfl
    have SR:=fP (B1.out.2.2.later aB) QZ p2;clear aQ aB;go_wp2;generalize wr=W2 at *;go_loopw[4] (fun v4 wr=>∃k:Nat,k<=m.h.length/\v4=vI k/\Below W2.1.size W2 wr/\(List.range k).all (Ar m.h)=true) (fun v4 _=>m.h.length-(intOf v4).toNat)
    case atStart=>exact⟨0,Nat.zero_le _,rfl,aK,rfl⟩
    case round=>
     obtain⟨j,hj,rfl,kU,Wv⟩:=hrel;have p3:=(kU.cell (p:=⟨w.1.size,2,none⟩) SR.out.2.1).trans SR.out.2.2;by_cases aN:j<m.h.length
     ·obtain⟨_,rn⟩:=(SR.out.1.later kU).r;rcases rn with rn|⟨b,off,rfl,hb,h1⟩
      ·omega
      have t1:=h1 j _ (jC aN);obtain⟨a',aZ,e1,s1,kz⟩:=t1.c3;have c0:=t1.c0;have c1:=t1.c1;have c2:=t1.c2;have HC:=pI s1 (H.out.2.2.1 _ (List.mem_of_getElem? (jC aN))) kU Wv;have HF:Hid (Ar m.h j=false->fF m=false):=fun h=>by rw[HL.out];exact pQ aN h
      clear t1 h1 s1 kU Wv;go_wp2_with fail;refine(zF wr (atR m.h j).kind (atR m.h j).tx (atR m.h j).b a' _ aZ (atR m.h j).ai HC.out.2.1 HC.out.1).mono ?_;rintro e w3 ⟨rfl,b3⟩
      cases gl:oL (atR m.h j).kind (atR m.h j).tx (atR m.h j).b (atR m.h j).ai with
      | false=>
       go_wp2;go_ret;exact⟨by rw[HF.out gl];rfl,KF.out _ (HC.out.2.2.1.trans (b3.mono HC.out.2.2.1.size))⟩
      | true=>
       go_wp2;exact⟨⟨j+1,by omega,by simp,HC.out.2.2.1.trans (b3.mono HC.out.2.2.1.size),ni HC.out.2.2.2 gl⟩,by simp[intOf];omega⟩
     ·have:j=m.h.length:=by omega
      subst this;have AE:decide ((m.h.length:Int)<(m.h.length:Int))=false:=by simp
      go_wp2;go_ret;exact⟨by rw[HL.out,Wv];rfl,KF.out _ kU⟩
end
end Go.Proofs.YtbiigfbhhkiodaaGreatDoor
