import Derived.Test.YtajmlpgodcfghaaGreatDoorJ7Alloc
set_option maxHeartbeats 16000000
set_option maxRecDepth 100000
namespace Go.Proofs.YtajmlpgodcfghaaGreatDoor
open Go.RowKit
open Go.Sort (grow)
namespace tx
open Go.Proofs.Tryz
def BS(X:World)(s:Nat)(n:S5):Prop:=aR X s 0 n/\∀j,X.frozen? ⟨s,j,none⟩=false
theorem BS.below{w w':World}{B s:Nat}{n:S5}(h:BS w s n)(hb:Below B w w')(hB:s<B):BS w' s n:=⟨h.1.below hb hB,fun j=>(hb.frozen (p:=⟨s,j,none⟩) hB).trans (h.2 j)⟩
theorem BS.box(X:World)(n:S5)(T:TypeId):BS (X.alloc (.cells #[vI n.a,vI n.e,vI n.h,.bool n.j,vI n.i] T)) X.1.size n:=⟨aR.box X n T,fun j=>by go_simp⟩
theorem Bo(w:World)(v:TV)(t:T7)(n:S5)(hl:TL t)(hs:kR w v t)(hc:t.ag.length<=v.ch):
  Calls prog 24 #[v.val t,.agg #[vI n.a,vI n.e,vI n.h,.bool n.j,vI n.i]] w (uM w (dw t n) (fV t n)):=by
 obtain⟨ar,cr,ah,ch⟩:=v;simp only[TV.val];dsimp only at hc;obtain⟨W0,dS⟩:∃W,W=w.alloc (.cells #[vI t.id,vI t.l,vI t.o,vI t.u,.slice ar t.b.length cr,.slice ah t.ag.length ch,vI t.az] 53):=⟨_,rfl⟩
 have z0:W0.1.size=w.1.size+1:=by rw[dS];simp
 have x0:BT W0 w.1.size ⟨ar,cr,ah,ch⟩ t:=by rw[dS];exact BT.box w ⟨ar,cr,ah,ch⟩ t _
 have b0:Below w.1.size w W0:=by rw[dS];exact aN.alloc aU _
 obtain⟨W1,gZ⟩:∃W,W=W0.alloc (.cells #[vI n.a,vI n.e,vI n.h,.bool n.j,vI n.i] 73):=⟨_,rfl⟩
 have z1:W1.1.size=w.1.size+2:=by rw[gZ];simp[z0]
 have x1:BS W1 (w.1.size+1) n:=by rw[gZ,<-z0];exact BS.box W0 _ _
 have b1:Below W0.1.size W0 W1:=by rw[gZ];exact aN.alloc aU _
 obtain⟨W,hW⟩:∃W,W=W1.alloc (.cells #[vI 0,vI 0,vI 0,vI 0,.slice none 0 0,.slice none 0 0,vI 0] 53):=⟨_,rfl⟩
 have zW:W.1.size=w.1.size+3:=by rw[hW];simp[z1]
 have x2:BT W (w.1.size+2) ⟨none,0,none,0⟩ ⟨0,0,0,0,[],[],0⟩:=by rw[hW,<-z1];exact BT.zero W1 _
 have b2:Below W1.1.size W1 W:=by rw[hW];exact aN.alloc aU _
 have bW:Below w.1.size w W:=(b0.trans (b1.mono b0.size)).trans (b2.mono (by omega));have c1:=qD W ⟨ar,cr,ah,ch⟩ t hl (hs.later bW);simp only[TV.val]at c1;have H:Hid (BT W w.1.size ⟨ar,cr,ah,ch⟩ t/\BS W (w.1.size+1) n/\BT W (w.1.size+2) ⟨none,0,none,0⟩ ⟨0,0,0,0,[],[],0⟩/\Below w.1.size w W/\kR W ⟨ar,cr,ah,ch⟩ t/\W.1.size=w.1.size+3):=⟨(x0.later b1).later b2,x1.below b2 (by omega),x2,bW,hs.later bW,zW⟩
 rw[gZ,dS]at hW;clear dS gZ z0 x0 b0 z1 x1 b1 zW x2 b2 bW hs hl
 cases hB:ky t with
 | false=>
  rw[hB]at c1;have HN:Hid (dw t n=kC/\fV t n=false):=⟨by simp[dw,hB],by simp[fV,hB]⟩
  go_enter func24,ntmps24;go_wp2_with fail;rw[<-hW];clear hW;refine c1.mono ?_;clear c1;rintro e w1 ⟨rfl,b1⟩;have KZ:Hid (BT w1 (w.1.size+2) ⟨none,0,none,0⟩ ⟨0,0,0,0,[],[],0⟩/\Below w.1.size w w1):=⟨H.out.2.2.1.later b1,H.out.2.2.2.1.trans (b1.mono H.out.2.2.2.1.size)⟩
  clear b1 H;obtain⟨r0,r1,r2,r3,r4,r5,r6,fr,-⟩:=KZ.out.1;have jq:=KZ.out.1.put ⟨none,0,none,0⟩ kC;simp only[iw,kC,List.length_nil]at jq;obtain⟨u0,u1,u2,u3,u4,u5,u6,-,-⟩:=jq;have KU:=ay (And.intro u0 (And.intro u1 (And.intro u2 (And.intro u3 (And.intro u4 (And.intro u5 u6))))));clear u0 u1 u2 u3 u4 u5 u6;have f0:=fr 0;have f1:=fr 1;have f2:=fr 2;have f3:=fr 3;have f4:=fr 4;have f5:=fr 5;have f6:=fr 6;clear fr;simp only[List.length_nil]at r4 r5;go_wp2;obtain⟨u0,u1,u2,u3,u4,u5,u6⟩:=KU.out;refine bodyPost_ret (v:=.tuple #[.agg #[vI 0,vI 0,vI 0,vI 0,.slice none 0 0,.slice none 0 0,vI 0],.bool false]) (by simp[results,results24,go_sem,u0,u1,u2,u3,u4,u5,u6]) rfl ?_;rw[HN.out.1,HN.out.2];exact uM.zero (bS (s:=w.1.size+2) (v:=⟨none,0,none,0⟩) (t:=kC) KZ.out.2 (by omega))
 | true=>
  rw[hB]at c1;go_enter func24,ntmps24;go_wp2_with fail;rw[<-hW];clear hW;refine c1.mono ?_;clear c1;rintro e w1 ⟨rfl,b1⟩;obtain⟨⟨n0,n1,n2,n3,n4⟩,-⟩:=H.out.2.1.below b1 (by have:=H.out.2.2.2.2.2;omega);simp only[Nat.zero_add]at n1 n2 n3 n4;have c2:=pF w1 n;have H1:Hid (BT w1 w.1.size ⟨ar,cr,ah,ch⟩ t/\BS w1 (w.1.size+1) n/\BT w1 (w.1.size+2) ⟨none,0,none,0⟩ ⟨0,0,0,0,[],[],0⟩/\Below w.1.size w w1/\kR w1 ⟨ar,cr,ah,ch⟩ t/\w.1.size+3<=w1.1.size):=⟨H.out.1.later b1,H.out.2.1.below b1 (by have:=H.out.2.2.2.2.2;omega),H.out.2.2.1.later b1,H.out.2.2.2.1.trans (b1.mono H.out.2.2.2.1.size),H.out.2.2.2.2.1.later b1,by have:=H.out.2.2.2.2.2;have:=b1.size;omega⟩
  clear b1 H;go_wp2_with fail;refine c2.mono ?_;clear c2 n0 n1 n2 n3 n4;rintro e w2 ⟨rfl,b2⟩;have H2:Hid (BT w2 w.1.size ⟨ar,cr,ah,ch⟩ t/\BS w2 (w.1.size+1) n/\BT w2 (w.1.size+2) ⟨none,0,none,0⟩ ⟨0,0,0,0,[],[],0⟩/\Below w.1.size w w2/\kR w2 ⟨ar,cr,ah,ch⟩ t/\w.1.size+3<=w2.1.size):=⟨H1.out.1.later b2,H1.out.2.1.below b2 (by have:=H1.out.2.2.2.2.2;omega),H1.out.2.2.1.later b2,H1.out.2.2.2.1.trans (b2.mono H1.out.2.2.2.1.size),H1.out.2.2.2.2.1.later b2,by have:=H1.out.2.2.2.2.2;have:=b2.size;omega⟩
  clear b2 H1
  cases hO:bf n with
  | false=>
   have HN:Hid (dw t n=kC/\fV t n=false):=⟨by simp[dw,hO],by simp[fV,hO]⟩
   have KZ:Hid (BT w2 (w.1.size+2) ⟨none,0,none,0⟩ ⟨0,0,0,0,[],[],0⟩/\Below w.1.size w w2):=⟨H2.out.2.2.1,H2.out.2.2.2.1⟩
   clear H2;obtain⟨r0,r1,r2,r3,r4,r5,r6,fr,-⟩:=KZ.out.1;have jq:=KZ.out.1.put ⟨none,0,none,0⟩ kC;simp only[iw,kC,List.length_nil]at jq;obtain⟨u0,u1,u2,u3,u4,u5,u6,-,-⟩:=jq;have KU:=ay (And.intro u0 (And.intro u1 (And.intro u2 (And.intro u3 (And.intro u4 (And.intro u5 u6))))));clear u0 u1 u2 u3 u4 u5 u6;have f0:=fr 0;have f1:=fr 1;have f2:=fr 2;have f3:=fr 3;have f4:=fr 4;have f5:=fr 5;have f6:=fr 6;clear fr;simp only[List.length_nil]at r4 r5;go_wp2;obtain⟨u0,u1,u2,u3,u4,u5,u6⟩:=KU.out;refine bodyPost_ret (v:=.tuple #[.agg #[vI 0,vI 0,vI 0,vI 0,.slice none 0 0,.slice none 0 0,vI 0],.bool false]) (by simp[results,results24,go_sem,u0,u1,u2,u3,u4,u5,u6]) rfl ?_;rw[HN.out.1,HN.out.2];exact uM.zero (bS (s:=w.1.size+2) (v:=⟨none,0,none,0⟩) (t:=kC) KZ.out.2 (by omega))
  | true=>
   have fW:=(jT hB).1;have Vq:=(jT hB).2;have c3:=Jf w2 ⟨ar,cr,ah,ch⟩ t (by omega) (by omega) H2.out.2.2.2.2.1;simp only[TV.val]at c3;obtain⟨p0,p1,p2,p3,p4,p5,p6,-,-⟩:=H2.out.1;dsimp only at p4 p5;go_wp2_with fail;refine c3.mono ?_;clear c3 p0 p1 p2 p3 p4 p5 p6;rintro e w3 ⟨a4,c4,h4,d4,PR,PS,rfl,o3,b3⟩;simp only[TV.val];obtain⟨X3,nK⟩:∃X,X=w3.alloc (.cells #[vI t.id,vI t.l,vI t.o,vI t.u,.slice a4 t.b.length c4,.slice h4 t.ag.length d4,vI t.az] 53):=⟨_,rfl⟩
   have b3':Below w3.1.size w3 X3:=by rw[nK];exact aN.alloc aU _
   have zF:Below w2.1.size w2 X3:=b3.trans (b3'.mono b3.size);have x3:BT X3 w3.1.size ⟨a4,c4,h4,d4⟩ t:=by rw[nK];exact BT.box w3 ⟨a4,c4,h4,d4⟩ t _
   have H3:Hid (BT X3 w.1.size ⟨ar,cr,ah,ch⟩ t/\BS X3 (w.1.size+1) n/\BT X3 (w.1.size+2) ⟨none,0,none,0⟩ ⟨0,0,0,0,[],[],0⟩/\Below w.1.size w X3/\kR X3 ⟨ar,cr,ah,ch⟩ t/\w.1.size+3<=w3.1.size/\BT X3 w3.1.size ⟨a4,c4,h4,d4⟩ t/\OT X3 w2.1.size ⟨a4,c4,h4,d4⟩ t PR PS/\(∀q,nC PR PS q->w.1.size+3<=q/\q<w3.1.size)):=⟨H2.out.1.later zF,H2.out.2.1.below zF (by have:=H2.out.2.2.2.2.2;omega),H2.out.2.2.1.later zF,H2.out.2.2.2.1.trans (zF.mono H2.out.2.2.2.1.size),H2.out.2.2.2.2.1.later zF,by have:=H2.out.2.2.2.2.2;have:=b3.size;omega,x3,o3.later b3',fun q hq=>⟨by have:=(o3.of hq).1;have:=H2.out.2.2.2.2.2;omega,(o3.of hq).2⟩⟩
   clear b3 b3' zF x3 o3 H2;obtain⟨p0,p1,p2,p3,p4,p5,p6,-,-⟩:=H3.out.1;dsimp only at p4 p5;obtain⟨⟨n0,n1,-,-,-⟩,-⟩:=H3.out.2.1;simp only[Nat.zero_add]at n1;have BI:=Dp X3 ⟨ar,cr,ah,ch⟩ t n.a n.e (by omega) H3.out.2.2.2.2.1;simp only[TV.val]at BI;obtain⟨A,hA⟩:∃A,A=setAt t.ag n.a n.e:=⟨_,rfl⟩
   rw[<-hA]at BI;rw[nK]at p0 p1 p2 p3 p4 p5 p6 n0 n1;go_wp2_with fail;rw[<-nK];clear nK p0 p1 p2 p3 p4 p5 p6 n0 n1;refine BI.mono ?_;clear BI;rintro e w4 ⟨rfl,b4⟩;have H4:Hid (BT w4 w.1.size ⟨ar,cr,ah,ch⟩ t/\BS w4 (w.1.size+1) n/\BT w4 (w.1.size+2) ⟨none,0,none,0⟩ ⟨0,0,0,0,[],[],0⟩/\Below w.1.size w w4/\kR w4 ⟨ar,cr,ah,ch⟩ t/\w.1.size+3<=w3.1.size/\BT w4 w3.1.size ⟨a4,c4,h4,d4⟩ t/\OT w4 w2.1.size ⟨a4,c4,h4,d4⟩ t PR PS/\(∀q,nC PR PS q->w.1.size+3<=q/\q<w3.1.size)/\w3.1.size<w4.1.size):=⟨H3.out.1.later b4,H3.out.2.1.below b4 (by have:=H3.out.2.2.2.2.2.1;have:=H3.out.2.2.2.2.2.2.1.lt;omega),H3.out.2.2.1.later b4,H3.out.2.2.2.1.trans (b4.mono H3.out.2.2.2.1.size),H3.out.2.2.2.2.1.later b4,H3.out.2.2.2.2.2.1,H3.out.2.2.2.2.2.2.1.later b4,H3.out.2.2.2.2.2.2.2.1.later b4,H3.out.2.2.2.2.2.2.2.2,(H3.out.2.2.2.2.2.2.1.later b4).lt⟩
   clear b4 H3
   cases hW:mi t.ag n.a n.e with
   | some i=>
    obtain⟨hi,-,-⟩:=xG hW;obtain rfl:A=(i:Int):=by rw[hA];simp[setAt,hW]
    clear hA;have HN:Hid (dw t n=(⟨t.id,t.l,t.o,t.u,t.b,pz t.ag i n,t.az⟩:T7)/\fV t n=true):=⟨by simp[dw,hB,hO,hW],by simp[fV,hB,hO,hW]⟩
    have dA:decide ((0:Int)<=(i:Int))=true:=by simp
    obtain⟨_,gu⟩:=H4.out.2.2.2.2.1.s;dsimp only at gu;rcases gu with gu|⟨b,off,rfl,hb,hx⟩
    ·omega
    rcases H4.out.2.2.2.2.2.2.2.1.s with oQ|⟨b',kc,Dh,aD,Yk,qH⟩
    ·rw[oQ]at hi;simp at hi
    dsimp only at kc;subst kc;obtain⟨-,-,-,-,k4⟩:=hx i _ (eT hi);have p5:=H4.out.1.c5;dsimp only at p5;obtain⟨⟨n0,n1,n2,n3,n4⟩,nf⟩:=H4.out.2.1;simp only[Nat.zero_add]at n1 n2 n3 n4;have ZG:=nf 4;have O0:b'≠w.1.size+1:=by have:=(H4.out.2.2.2.2.2.2.2.2.1 b' (.inr Dh)).1;omega
    have eS:b'≠w.1.size+2:=by have:=(H4.out.2.2.2.2.2.2.2.2.1 b' (.inr Dh)).1;omega
    have eV:b'≠w3.1.size:=by have:=(H4.out.2.2.2.2.2.2.2.2.1 b' (.inr Dh)).2;omega
    have ii:(i:Int)<(t.ag.length:Int):=by omega
    have ob:aQ (w.1.size+1) w4 (w4.setCell ⟨w.1.size+1,4,none⟩ (vI (aB t.ag i).i)):=(aQ.refl _ _).setCell 4 _;have a3:BT (w4.setCell ⟨w.1.size+1,4,none⟩ (vI (aB t.ag i).i)) w3.1.size ⟨a4,c4,some ⟨b',0,none⟩,d4⟩ t:=H4.out.2.2.2.2.2.2.1.dX (by dsimp only;have:=H4.out.2.2.2.2.2.1;omega) _
    have KA:Hid (BT (w4.setCell ⟨w.1.size+1,4,none⟩ (vI (aB t.ag i).i)) w3.1.size ⟨a4,c4,some ⟨b',0,none⟩,d4⟩ t/\BT (w4.setCell ⟨w.1.size+1,4,none⟩ (vI (aB t.ag i).i)) (w.1.size+2) ⟨none,0,none,0⟩ ⟨0,0,0,0,[],[],0⟩/\aR (w4.setCell ⟨w.1.size+1,4,none⟩ (vI (aB t.ag i).i)) (w.1.size+1) 0 (vV n (aB t.ag i).i)/\aV (w4.setCell ⟨w.1.size+1,4,none⟩ (vI (aB t.ag i).i)) b' 0 t.ag/\Room (w4.setCell ⟨w.1.size+1,4,none⟩ (vI (aB t.ag i).i)) b' (t.ag.length*5)/\b'<(w4.setCell ⟨w.1.size+1,4,none⟩ (vI (aB t.ag i).i)).1.size/\OT (w4.setCell ⟨w.1.size+1,4,none⟩ (vI (aB t.ag i).i)) w2.1.size ⟨a4,c4,some ⟨b',0,none⟩,d4⟩ t PR PS/\Below w.1.size w (w4.setCell ⟨w.1.size+1,4,none⟩ (vI (aB t.ag i).i))):=
     ⟨a3,H4.out.2.2.1.dX (by dsimp only;omega) _,⟨(ae (by omega)).trans n0,(ae (by omega)).trans n1,(ae (by omega)).trans n2,(ae (by omega)).trans n3,ax n4⟩,Yk.aj (ob.block b' O0),qH.aj (ob.block b' O0),by simpa[World.setCell]using aD,H4.out.2.2.2.2.2.2.2.1.aL (by simp[World.setCell]) (fun q _ hq=>ob.block q (by have:=(H4.out.2.2.2.2.2.2.2.2.1 q hq).1;omega)),H4.out.2.2.2.1.setCell (p:=⟨w.1.size+1,4,none⟩) (by dsimp only;omega) _⟩
    have HQ:Hid ((∀q,nC PR PS q->w.1.size+3<=q/\q<w3.1.size)/\w.1.size+3<=w3.1.size):=⟨H4.out.2.2.2.2.2.2.2.2.1,H4.out.2.2.2.2.2.1⟩
    clear nf hx a3 ob Yk qH aD H4 hb;go_upto_region 7 with fail
    clear k4 p5 n0 n1 n2 n3 n4 ZG dA;generalize (w4.setCell ⟨w.1.size+1,4,none⟩ (vI (aB t.ag i).i))=Wa at *;obtain⟨k1,k2,⟨m0,m1,m2,m3,m4⟩,k4,k5,k6,k7,k8⟩:=KA.out;simp only[Nat.zero_add,vV]at m0 m1 m2 m3 m4;have q5:=k1.c5;dsimp only at q5;obtain⟨v0,d0,g0⟩:=k5 (i*5) (by omega);obtain⟨v1,d1,g1⟩:=k5 (i*5+1) (by omega);obtain⟨v2,d2,g2⟩:=k5 (i*5+2) (by omega);obtain⟨v3,d3,g3⟩:=k5 (i*5+3) (by omega);obtain⟨v4,pL,g4⟩:=k5 (i*5+4) (by omega);have ob:aQ b' Wa ((((((Wa).setCell ⟨b',i*5,none⟩ (vI n.a)).setCell ⟨b',i*5+1,none⟩ (vI n.e)).setCell ⟨b',i*5+2,none⟩ (vI n.h)).setCell ⟨b',i*5+3,none⟩ (.bool n.j)).setCell ⟨b',i*5+4,none⟩ (vI (aB t.ag i).i)):=(((((aQ.refl _ _).setCell _ _).setCell _ _).setCell _ _).setCell _ _).setCell _ _;have o5:=mP.GV (P:=PS) Dh k6 k4 k5 hi (vV n (aB t.ag i).i);simp only[vV]at o5;have dO:((((((Wa).setCell ⟨b',i*5,none⟩ (vI n.a)).setCell ⟨b',i*5+1,none⟩ (vI n.e)).setCell ⟨b',i*5+2,none⟩ (vI n.h)).setCell ⟨b',i*5+3,none⟩ (.bool n.j)).setCell ⟨b',i*5+4,none⟩ (vI (aB t.ag i).i)).1.size=Wa.1.size:=by simp[World.setCell]
    have KB:Hid (BT ((((((Wa).setCell ⟨b',i*5,none⟩ (vI n.a)).setCell ⟨b',i*5+1,none⟩ (vI n.e)).setCell ⟨b',i*5+2,none⟩ (vI n.h)).setCell ⟨b',i*5+3,none⟩ (.bool n.j)).setCell ⟨b',i*5+4,none⟩ (vI (aB t.ag i).i)) w3.1.size ⟨a4,c4,some ⟨b',0,none⟩,d4⟩ (⟨t.id,t.l,t.o,t.u,t.b,pz t.ag i n,t.az⟩:T7)/\BT ((((((Wa).setCell ⟨b',i*5,none⟩ (vI n.a)).setCell ⟨b',i*5+1,none⟩ (vI n.e)).setCell ⟨b',i*5+2,none⟩ (vI n.h)).setCell ⟨b',i*5+3,none⟩ (.bool n.j)).setCell ⟨b',i*5+4,none⟩ (vI (aB t.ag i).i)) (w.1.size+2) ⟨none,0,none,0⟩ ⟨0,0,0,0,[],[],0⟩/\OT ((((((Wa).setCell ⟨b',i*5,none⟩ (vI n.a)).setCell ⟨b',i*5+1,none⟩ (vI n.e)).setCell ⟨b',i*5+2,none⟩ (vI n.h)).setCell ⟨b',i*5+3,none⟩ (.bool n.j)).setCell ⟨b',i*5+4,none⟩ (vI (aB t.ag i).i)) w2.1.size ⟨a4,c4,some ⟨b',0,none⟩,d4⟩ (⟨t.id,t.l,t.o,t.u,t.b,pz t.ag i n,t.az⟩:T7) PR PS/\Below w.1.size w ((((((Wa).setCell ⟨b',i*5,none⟩ (vI n.a)).setCell ⟨b',i*5+1,none⟩ (vI n.e)).setCell ⟨b',i*5+2,none⟩ (vI n.h)).setCell ⟨b',i*5+3,none⟩ (.bool n.j)).setCell ⟨b',i*5+4,none⟩ (vI (aB t.ag i).i))):=by
     have x1:=k1.aj (ob.block _ eV.symm) (Nat.le_of_eq dO.symm);refine⟨⟨x1.c0,x1.c1,x1.c2,x1.c3,x1.c4,by rw[A8];exact x1.c5,x1.c6,x1.fz,x1.lt⟩,k2.aj (ob.block _ eS.symm) (Nat.le_of_eq dO.symm),⟨k7.r.aL (Nat.le_of_eq dO.symm) (fun q _ hq=>ob.block q (fun e=>k7.rs q hq (e▸Dh))),o5,k7.rs,fun q hq=>⟨(k7.rB q hq).1,by rw[dO];exact(k7.rB q hq).2⟩,fun q hq=>⟨(k7.sB q hq).1,by rw[dO];exact(k7.sB q hq).2⟩⟩,?_⟩;have hB:w.1.size<=b':=by have:=(HQ.out.1 b' (.inr Dh)).1;omega
     exact((((k8.setCell (p:=⟨b',_,none⟩) hB _).setCell (p:=⟨b',_,none⟩) hB _).setCell (p:=⟨b',_,none⟩) hB _).setCell (p:=⟨b',_,none⟩) hB _).setCell (p:=⟨b',_,none⟩) hB _
    clear k1 k2 k4 k5 k6 k7 k8 ob o5 dO KA;go_upto_region 8 with fail
    clear m0 m1 m2 m3 m4 q5 d0 d1 d2 d3 pL g0 g1 g2 g3 g4;generalize ((((((Wa).setCell ⟨b',i*5,none⟩ (vI n.a)).setCell ⟨b',i*5+1,none⟩ (vI n.e)).setCell ⟨b',i*5+2,none⟩ (vI n.h)).setCell ⟨b',i*5+3,none⟩ (.bool n.j)).setCell ⟨b',i*5+4,none⟩ (vI (aB t.ag i).i))=Wb at *;obtain⟨o0,o1,o2,o3,o4,o5,o6,-,-⟩:=KB.out.1;obtain⟨r0,r1,r2,r3,r4,r5,r6,fr,-⟩:=KB.out.2.1;have jq:=KB.out.2.1.put ⟨a4,c4,some ⟨b',0,none⟩,d4⟩ (⟨t.id,t.l,t.o,t.u,t.b,pz t.ag i n,t.az⟩:T7);simp only[iw]at jq;obtain⟨u0,u1,u2,u3,u4,u5,u6,-,-⟩:=jq;have KU:=ay (And.intro u0 (And.intro u1 (And.intro u2 (And.intro u3 (And.intro u4 (And.intro u5 u6))))));clear u0 u1 u2 u3 u4 u5 u6;have f0:=fr 0;have f1:=fr 1;have f2:=fr 2;have f3:=fr 3;have f4:=fr 4;have f5:=fr 5;have f6:=fr 6;clear fr;dsimp only at o0 o1 o2 o3 o4 o5 o6 r4 r5;go_wp2;obtain⟨u0,u1,u2,u3,u4,u5,u6⟩:=KU.out;refine bodyPost_ret (v:=.tuple #[.agg #[vI t.id,vI t.l,vI t.o,vI t.u,.slice a4 t.b.length c4,.slice (some ⟨b',0,none⟩) (pz t.ag i n).length d4,vI t.az],.bool true]) (by simp[results,results24,go_sem,u0,u1,u2,u3,u4,u5,u6]) rfl ?_;rw[HN.out.1,HN.out.2];obtain⟨-,-,g8,g4⟩:=KB.out;have hQ:=HQ.out;refine⟨a4,c4,some ⟨b',0,none⟩,d4,PR,PS,rfl,?_,bS (s:=w.1.size+2) (v:=⟨a4,c4,some ⟨b',0,none⟩,d4⟩) (t:=(⟨t.id,t.l,t.o,t.u,t.b,pz t.ag i n,t.az⟩:T7)) g4 (by omega)⟩
    exact(g8.aL (w':=iw Wb (w.1.size+2) ⟨a4,c4,some ⟨b',0,none⟩,d4⟩ (⟨t.id,t.l,t.o,t.u,t.b,pz t.ag i n,t.az⟩:T7)) (by rw[je];exact Nat.le_refl _) (fun q _ hq=>fq (by have:=(hQ.1 q hq).1;omega))).low (fun q hq=>by have:=(hQ.1 q hq).1;omega)
   | none=>
    have dA:decide ((0:Int)<=A)=false:=by rw[hA];simp[setAt,hW]
    clear hA;have p4:=H4.out.1.c5;dsimp only at p4;by_cases uI:t.ag.length=12
    ·have d12:((t.ag.length:Int)==12)=true:=by simp;omega
     have HN:Hid (dw t n=kC/\fV t n=false):=⟨by simp[dw,hB,hO,hW,uI],by simp[fV,hB,hO,hW,uI]⟩
     have KZ:Hid (BT w4 (w.1.size+2) ⟨none,0,none,0⟩ ⟨0,0,0,0,[],[],0⟩/\Below w.1.size w w4):=⟨H4.out.2.2.1,H4.out.2.2.2.1⟩
     clear H4;obtain⟨r0,r1,r2,r3,r4,r5,r6,fr,-⟩:=KZ.out.1;have jq:=KZ.out.1.put ⟨none,0,none,0⟩ kC;simp only[iw,kC,List.length_nil]at jq;obtain⟨u0,u1,u2,u3,u4,u5,u6,-,-⟩:=jq;have KU:=ay (And.intro u0 (And.intro u1 (And.intro u2 (And.intro u3 (And.intro u4 (And.intro u5 u6))))));clear u0 u1 u2 u3 u4 u5 u6;have f0:=fr 0;have f1:=fr 1;have f2:=fr 2;have f3:=fr 3;have f4:=fr 4;have f5:=fr 5;have f6:=fr 6;clear fr;simp only[List.length_nil]at r4 r5;go_wp2;obtain⟨u0,u1,u2,u3,u4,u5,u6⟩:=KU.out;refine bodyPost_ret (v:=.tuple #[.agg #[vI 0,vI 0,vI 0,vI 0,.slice none 0 0,.slice none 0 0,vI 0],.bool false]) (by simp[results,results24,go_sem,u0,u1,u2,u3,u4,u5,u6]) rfl ?_;rw[HN.out.1,HN.out.2];exact uM.zero (bS (s:=w.1.size+2) (v:=⟨none,0,none,0⟩) (t:=kC) KZ.out.2 (by omega))
    ·have d12:((t.ag.length:Int)==12)=false:=by simp;omega
     have HN:Hid (dw t n=⟨t.id,t.l,t.o,t.u,t.b,rP t.ag n,t.az⟩/\fV t n=true):=⟨by simp[dw,hB,hO,hW,uI],by simp[fV,hB,hO,hW,uI]⟩
     obtain⟨V,hV⟩:∃V,V=w4.alloc (.cells #[] 73):=⟨_,rfl⟩
     have bV:Below w4.1.size w4 V:=by rw[hV];exact aN.alloc aU _
     have rV:fC V w4.1.size (.slice (some ⟨w4.1.size,0,none⟩) 0 0) []:=by rw[hV];exact fC.made w4
     have K4:Hid (fC V w4.1.size (.slice (some ⟨w4.1.size,0,none⟩) 0 0) []/\Below w4.1.size w4 V):=⟨rV,bV⟩
     clear rV bV;go_wp2;rw[<-hV];clear hV p4 d12 dA;go_loopw[8,9] (fun v7 v8 wr=>∃k:Nat,k<=t.ag.length/\v8=vI k/\fC wr w4.1.size v7 (t.ag.take k)/\Below w4.1.size w4 wr/\(∀j,j<k->nk t.ag n j=true)) (fun _ v8 _=>t.ag.length-(intOf v8).toNat)
     case atStart=>exact⟨0,Nat.zero_le _,rfl,by simpa using K4.out.1,K4.out.2,fun j h=>by omega⟩
     case round=>
      obtain⟨k,hk,rfl,eX,aD,aO⟩:=hrel;obtain⟨a7,c7,e7,-⟩:=eX.form;rw[show(t.ag.take k).length=k by rw[List.length_take];omega]at e7;subst e7;have KA:Hid (fC wr w4.1.size (.slice a7 k c7) (t.ag.take k)/\Below w4.1.size w4 wr/\(∀j,j<k->nk t.ag n j=true)):=⟨eX,aD,aO⟩
      have UD:=H4.out.1.later aD;have eE:=UD.lt;have p4:=UD.c5;dsimp only at p4;have gM:=(H4.out.2.2.2.2.1.later aD).s;have oG:=H4.out.2.1.below aD (by have:=H4.out.2.2.2.2.2.1;have:=H4.out.2.2.2.2.2.2.2.2.2;omega);have sy:w.1.size+1<wr.1.size:=by have:=H4.out.2.2.2.2.2.1;have:=H4.out.2.2.2.2.2.2.2.2.2;have:=aD.size;omega
      clear eX aD aO UD;by_cases aK:k<t.ag.length
      ·obtain⟨_,gu⟩:=gM;dsimp only at gu;rcases gu with gu|⟨b,off,rfl,hb,hx⟩
       ·omega
       obtain⟨c0,c1,c2,c3,BI⟩:=hx k _ (eT aK);obtain⟨⟨n0,n1,-,-,-⟩,-⟩:=oG;simp only[Nat.zero_add]at n1;have ew:(k:Int)<(t.ag.length:Int):=by omega
       have ey:decide ((k:Int)<(t.ag.length:Int))=true:=by simpa using ew
       have q4:=@cell_regrown wr ⟨w.1.size,5,none⟩ (.slice (some ⟨b,off,none⟩) t.ag.length ch) p4;have m0:=@cell_regrown wr ⟨b,off+k*5,none⟩ (vI (aB t.ag k).a) c0;have m1:=@cell_regrown wr ⟨b,off+k*5+1,none⟩ (vI (aB t.ag k).e) c1;have m2:=@cell_regrown wr ⟨b,off+k*5+2,none⟩ (vI (aB t.ag k).h) c2;have m3:=@cell_regrown wr ⟨b,off+k*5+3,none⟩ (.bool (aB t.ag k).j) c3;have m4:=@cell_regrown wr ⟨b,off+k*5+4,none⟩ (vI (aB t.ag k).i) BI;have g0:=@cell_regrown wr ⟨w.1.size+1,0,none⟩ (vI n.a) n0;have g1:=@cell_regrown wr ⟨w.1.size+1,1,none⟩ (vI n.e) n1;have cL:∀d os,Calls prog 57 #[vI (aB t.ag k).a,vI (aB t.ag k).e,vI n.a,vI n.e] (grow (redrawn wr d) os) fun e eU=>e=.returned (.bool (nk t.ag n k))/\∃p:Regrown,eU=grow (redrawn wr p.d) p.os:=fun d os=>Calls.regrown_of (vN _ _ _ _ _)
       clear c0 c1 c2 c3 BI hx n0 n1 p4
       cases gl:nk t.ag n k with
       | true=>
        rw[gl]at cL;go_wp2_with fail;refine gP ?_;repeat (go_big_quiet_step (exact cL _ _))
        refine iW fun dq aZ=>?_
        have bq:=below_regrown wr dq aZ;have e4:=q4 dq aZ;have e0:=m0 dq aZ;have e1:=m1 dq aZ;have e2:=m2 dq aZ;have e3:=m3 dq aZ;have e5:=m4 dq aZ;clear q4 m0 m1 m2 m3 m4 g0 g1 cL;generalize grow (redrawn wr dq) aZ=U at *;obtain⟨V',hV⟩:∃V,V=U.alloc (.cells #[vI (aB t.ag k).a,vI (aB t.ag k).e,vI (aB t.ag k).h,.bool (aB t.ag k).j,vI (aB t.ag k).i] 73):=⟨_,rfl⟩
        have bU:Below U.1.size U V':=by rw[hV];exact aN.alloc aU _
        have bV:Below wr.1.size wr V':=bq.trans (bU.mono bq.size);have gG:aV V' U.1.size 0 [aB t.ag k]:=by rw[hV];exact(aR.box U _ _).one
        obtain⟨v',Y,wJ,iY,fI,-⟩:=uD (KA.out.1.later bV) [aB t.ag k] (by rw[List.length_take];simp;omega) 51 U.1.size 0 1 gG (Nat.le_trans KA.out.2.1.size bV.size)
        have KE:Hid (fC Y w4.1.size v' (t.ag.take (k+1))/\Below w4.1.size w4 Y/\(∀j,j<k+1->nk t.ag n j=true)):=by
         refine⟨by rw[List.take_add_one,eT aK];exact iY,?_,fun j hj=>?_⟩
         ·exact(KA.out.2.1.trans (bV.mono KA.out.2.1.size)).grown fI (Nat.le_trans KA.out.2.1.size bV.size) (fun q e=>(KA.out.1.lt e).1)
         ·by_cases ej:j=k
          ·rw[ej];exact gl
          ·exact KA.out.2.2 j (by omega)
        rw[hV]at wJ;clear hV bV bU bq gG iY fI;simp only[List.length_cons,List.length_nil,Nat.zero_add]at wJ;go_wp2_with (at_builtin;refine dF _ rfl (.tmp 74) (.tmp 80) 51 rfl _ _ _ _ rfl rfl wJ ?_);exact⟨⟨k+1,by omega,by simp,KE.out.1,KE.out.2.1,KE.out.2.2⟩,by simp[intOf];omega⟩
       | false=>
        rw[gl]at cL;go_wp2_with fail;refine gP ?_;repeat (go_big_quiet_step (exact cL _ _))
        refine iW fun dq aZ=>?_
        have bq:=below_regrown wr dq aZ;have KT:Hid (fC (grow (redrawn wr dq) aZ) w4.1.size (.slice a7 k c7) (t.ag.take k)/\Below w4.1.size w4 (grow (redrawn wr dq) aZ)):=⟨KA.out.1.later bq,KA.out.2.1.trans (bq.mono KA.out.2.1.size)⟩
        have HC:Hid (kH t.ag n=k):=Ox aK gl KA.out.2.2;clear bq q4 m0 m1 m2 m3 m4 g0 g1 cL KA;generalize grow (redrawn wr dq) aZ=U at *;have KD:Hid (Below U.1.size U U.drew):=aN.drew;have bD:Below w4.1.size w4 U.drew:=KT.out.2.trans (KD.out.mono KT.out.2.size);have SF:Hid (∀X,Below w4.1.size w4 X->(fun X:World=>aR X (w.1.size+1) 0 n/\X.cell? ⟨w.1.size,5,none⟩=some (.slice (some ⟨b,off,none⟩) t.ag.length ch)) X):=fun X hX=>⟨(H4.out.2.1.below hX (by have:=H4.out.2.2.2.2.2.1;have:=H4.out.2.2.2.2.2.2.2.2.2;omega)).1,(H4.out.1.later hX).c5⟩
        have hS:(fun X:World=>aR X (w.1.size+1) 0 n/\X.cell? ⟨w.1.size,5,none⟩=some (.slice (some ⟨b,off,none⟩) t.ag.length ch)) U.drew:=SF.out _ bD;have rD:fC U.drew w4.1.size (.slice a7 k c7) (t.ag.take k):=KT.out.1.later KD.out;clear KD;go_wp2_with fail;refine aY (fun z=>z==11) (fun X:World=>aR X (w.1.size+1) 0 n/\X.cell? ⟨w.1.size,5,none⟩=some (.slice (some ⟨b,off,none⟩) t.ag.length ch)) (by kernel_rfl) ?_;generalize U.drew=Ud at *;obtain⟨V1,lK⟩:∃V,V=Ud.alloc (.cells #[vI n.a,vI n.e,vI n.h,.bool n.j,vI n.i] 73):=⟨_,rfl⟩
        have tZ:Below Ud.1.size Ud V1:=by rw[lK];exact aN.alloc aU _
        have gG:aV V1 Ud.1.size 0 [n]:=by rw[lK];exact(aR.box Ud _ _).one
        have lT:(t.ag.take k).length=k:=by rw[List.length_take];omega
        obtain⟨v1,Y1,kK,jB,F3,-⟩:=uD (rD.later tZ) [n] (by rw[lT];simp;omega) 51 Ud.1.size 0 1 gG (Nat.le_trans bD.size tZ.size);have pO:Below w4.1.size w4 V1:=bD.trans (tZ.mono bD.size);have pR:Below w4.1.size w4 Y1:=pO.grown F3 pO.size (fun q e=>(rD.lt e).1);obtain⟨a1,c1,rfl,-⟩:=jB.form;have sS:(t.ag.take k++[n]).length=k+1:=by simp[lT]
        obtain⟨a8,IW⟩:∃a8:OA,a8=(if ch=k then(some (⟨b,off,none⟩:Addr))else Option.map (fun x=>x.add (k*5)) (some (⟨b,off,none⟩:Addr))):=⟨_,rfl⟩
        have src:Sl Y1 Y1.1.size a8 (t.ag.drop k).length (t.ag.drop k):=by
         refine⟨rfl,?_⟩;by_cases hz:(t.ag.drop k).length=0
         ·exact .inl hz
         ·rw[List.length_drop]at hz;obtain⟨-,hq⟩:=(H4.out.2.2.2.2.1.later pR).s;dsimp only at hq;rcases hq with hq|⟨b',bR,e',gJ,BN⟩
          ·omega
          ·refine .inr ⟨b',bR+k*5,?_,gJ,fun i s hi=>?_⟩
           ·rw[IW,if_neg (by omega),e',Option.map_some];congr 1;unfold Addr.add;split<;>simp_all
           ·rw[List.getElem?_drop]at hi;have:=BN (k+i) s hi;rwa[show bR+k*5+i*5=bR+(k+i)*5 by omega]
        have Bg:=xC jB (t.ag.drop k) (by rw[sS,List.length_drop];omega) 51 a8 (ch-k) src pR.size;obtain⟨a2,c2,Y2,oC,rX,F4,-⟩:=Bg;have qM:Below w4.1.size w4 Y2:=pR.grown F4 pR.size (fun q e=>(jB.lt e).1);rw[sS,List.length_drop]at oC;generalize l8:t.ag.take k++[n]++t.ag.drop k=zs at *;have HZ:=ay l8;clear l8;rw[sS]at kK;simp only[List.length_cons,List.length_nil,Nat.zero_add]at kK;have xB:BT Y2 w3.1.size ⟨a4,c4,h4,d4⟩ t:=H4.out.2.2.2.2.2.2.1.later qM;have k4:=xB.c5;have Fu:=xB.fz 5;dsimp only at k4;have yB:BT (Y2.setCell ⟨w3.1.size,5,none⟩ (.slice a2 zs.length c2)) w3.1.size ⟨a4,c4,a2,c2⟩ (⟨t.id,t.l,t.o,t.u,t.b,zs,t.az⟩:T7):=xB.Bl a2 c2 zs;have yR:BT (Y2.setCell ⟨w3.1.size,5,none⟩ (.slice a2 zs.length c2)) (w.1.size+2) ⟨none,0,none,0⟩ ⟨0,0,0,0,[],[],0⟩:=(H4.out.2.2.1.later qM).dX (by dsimp only;have:=H4.out.2.2.2.2.2.1;omega) _;have KF:Hid (BT (Y2.setCell ⟨w3.1.size,5,none⟩ (.slice a2 zs.length c2)) w3.1.size ⟨a4,c4,a2,c2⟩ (⟨t.id,t.l,t.o,t.u,t.b,zs,t.az⟩:T7)/\BT (Y2.setCell ⟨w3.1.size,5,none⟩ (.slice a2 zs.length c2)) (w.1.size+2) ⟨none,0,none,0⟩ ⟨0,0,0,0,[],[],0⟩/\fC Y2 w4.1.size (.slice a2 zs.length c2) zs/\Below w4.1.size w4 Y2):=⟨yB,yR,rX,qM⟩
        have S1:=ay (SF.out _ pO);have S2:=ay (SF.out _ pR);have S3:=ay (SF.out _ qM);have ik:(k:Int)<=(t.ag.length:Int):=by omega
        clear tZ gG F3 pO pR jB src F4 qM rX rD bD xB yB yR SF sS lT;refine cu 0 rfl hS ?_;simp only[Act.put];refine iZ 1 ?_ rfl ?_ hS ?_;rotate_left
        ·(intro X aH;obtain⟨⟨s0,s1,s2,s3,s4⟩,s5⟩:=aH;simp only[Nat.zero_add]at s1 s2 s3 s4;go_simp;first|done|with_reducible rfl)
        simp only[Act.put];refine cu 4 rfl hS ?_;simp only[Act.put];refine iZ 5 ?_ rfl ?_ hS ?_;rotate_left
        ·(intro X aH;obtain⟨⟨s0,s1,s2,s3,s4⟩,s5⟩:=aH;simp only[Nat.zero_add]at s1 s2 s3 s4;go_simp;first|done|with_reducible rfl)
        simp only[Act.put];refine cu 6 rfl hS ?_;simp only[Act.put];refine cu 7 rfl hS ?_;simp only[Act.put];refine TF 8 (.slice a8 (t.ag.length-k) (ch-k)) rfl ?_ hS ?_
        ·(intro X _;rw[IW];go_simp;first|done|with_reducible rfl|rfl)
        clear IW;simp only[Act.put];refine dJ 2 rfl (fun K hK=>?_);go_simp;refine hK.out _ _ (fun _=>by rw[<-lK];exact S1.out) ?_;clear hK K;rw[<-lK];clear lK S1;refine dJ 3 rfl (fun K hK=>?_);refine bJ _ rfl (.tmp 82) (.tmp 84) 51 rfl _ _ _ _ (by first|rfl|simp[Act.eval,Act.put]) (by first|rfl|simp[Act.eval,Act.put]) kK ?_;refine hK.out _ _ (fun _=>S2.out) ?_;clear hK K;clear S2 kK;simp only[Act.put];refine dJ 9 rfl (fun K hK=>?_);refine bJ _ rfl (.tmp 85) (.tmp 90) 51 rfl _ _ _ _ (by first|rfl|simp[Act.eval,Act.put]) (by first|rfl|simp[Act.eval,Act.put]) oC ?_;refine hK.out _ _ (fun _=>S3.out) ?_;clear hK K;clear oC;simp only[Act.put];have hS:=S3.out;refine cu 10 rfl hS ?_;simp only[Act.put];refine dJ 11 rfl (fun K hK=>?_);go_simp;refine hK.out _ _ (fun h=>absurd (show false=true from h.symm.trans (by kernel_rfl)) (by decide)) ?_;clear hK K;refine df (by kernel_rfl) ?_ _;clear S3 hS k4 Fu;have jq:=KF.out.2.1.put ⟨a4,c4,a2,c2⟩ (⟨t.id,t.l,t.o,t.u,t.b,zs,t.az⟩:T7);simp only[iw]at jq;obtain⟨u0,u1,u2,u3,u4,u5,u6,-,-⟩:=jq;have KU:=ay (And.intro u0 (And.intro u1 (And.intro u2 (And.intro u3 (And.intro u4 (And.intro u5 u6))))));clear u0 u1 u2 u3 u4 u5 u6;obtain⟨o0,o1,o2,o3,o4,o5,o6,-,-⟩:=KF.out.1;obtain⟨r0,r1,r2,r3,r4,r5,r6,fr,-⟩:=KF.out.2.1;have f0:=fr 0;have f1:=fr 1;have f2:=fr 2;have f3:=fr 3;have f4:=fr 4;have f5:=fr 5;have f6:=fr 6;clear fr;dsimp only at o0 o1 o2 o3 o4 o5 o6 r4 r5;go_wp2;obtain⟨u0,u1,u2,u3,u4,u5,u6⟩:=KU.out
        refine bodyPost_ret (v:=.tuple #[.agg #[vI t.id,vI t.l,vI t.o,vI t.u,.slice a4 t.b.length c4,.slice a2 zs.length c2,vI t.az],.bool true]) (by simp[results,results24,go_sem,u0,u1,u2,u3,u4,u5,u6]) rfl ?_;rw[HN.out.1,HN.out.2,rP,HC.out,HZ.out];obtain⟨g1,g2,g3,g4⟩:=KF.out;obtain⟨-,-,-,j4,-,j6,-,j8,j9,j10⟩:=H4.out;have bX:Below w.1.size w (Y2.setCell ⟨w3.1.size,5,none⟩ (.slice a2 zs.length c2)):=(j4.trans (g4.mono j4.size)).setCell (p:=⟨w3.1.size,5,none⟩) (by dsimp only;omega) _;refine⟨a4,c4,a2,c2,PR,fun q=>(Value.slice a2 zs.length c2).ownBlock=some q,rfl,?_,bS (s:=w.1.size+2) (v:=⟨a4,c4,a2,c2⟩) (t:=(⟨t.id,t.l,t.o,t.u,t.b,zs,t.az⟩:T7)) bX (by omega)⟩;obtain⟨_,_,e2,MX⟩:=g3.form
        cases e2;have ot:OT Y2 w.1.size ⟨a4,c4,a2,c2⟩ (⟨t.id,t.l,t.o,t.u,t.b,zs,t.az⟩:T7) PR (fun q=>(Value.slice a2 zs.length c2).ownBlock=some q):=⟨(j8.later g4).r,MX,fun q h1 h2=>by have:=(g3.lt h2).1;have:=(j9 q (.inl h1)).2;omega,fun q h1=>⟨by have:=(j9 q (.inl h1)).1;omega,((j8.later g4).rB q h1).2⟩,fun q h1=>⟨by have:=(g3.lt h1).1;omega,(g3.lt h1).2⟩⟩
        have eO:∀q,nC PR (fun q=>(Value.slice a2 zs.length c2).ownBlock=some q) q->q≠w3.1.size/\q≠w.1.size+2:=fun q hq=>by
         rcases hq with hq|hq
         ·have:=j9 q (.inl hq);omega
         ·have:=(g3.lt hq).1;omega
        have JF:OT (Y2.setCell ⟨w3.1.size,5,none⟩ (.slice a2 zs.length c2)) w.1.size ⟨a4,c4,a2,c2⟩ (⟨t.id,t.l,t.o,t.u,t.b,zs,t.az⟩:T7) PR (fun q=>(Value.slice a2 zs.length c2).ownBlock=some q):=ot.aL (by simp[World.setCell]) (fun q _ hq=>Below.heap_setCell _ _ _ _ (eO q hq).1);exact JF.aL (w':=iw (Y2.setCell ⟨w3.1.size,5,none⟩ (.slice a2 zs.length c2)) (w.1.size+2) ⟨a4,c4,a2,c2⟩ (⟨t.id,t.l,t.o,t.u,t.b,zs,t.az⟩:T7)) (by rw[je];exact Nat.le_refl _) (fun q _ hq=>fq (eO q hq).2)
      ·have ey:decide ((k:Int)<(t.ag.length:Int))=false:=by simp;omega
       have q4:=@cell_regrown wr ⟨w.1.size,5,none⟩ (.slice ah t.ag.length ch) p4;clear p4 oG gM;go_wp2_with fail;refine gP ?_;repeat (go_big_quiet_step (fail))
       refine iW fun dq aZ=>?_
       have bq:=below_regrown wr dq aZ;have KT:Hid (fC (grow (redrawn wr dq) aZ) w4.1.size (.slice a7 k c7) (t.ag.take k)/\Below w4.1.size w4 (grow (redrawn wr dq) aZ)):=⟨KA.out.1.later bq,KA.out.2.1.trans (bq.mono KA.out.2.1.size)⟩
       have HC:Hid (kH t.ag n=k):=(Md (fun j hj=>KA.out.2.2 j (by omega))).trans (by omega);clear bq q4 KA;generalize grow (redrawn wr dq) aZ=U at *;have KD:Hid (Below U.1.size U U.drew):=aN.drew;have bD:Below w4.1.size w4 U.drew:=KT.out.2.trans (KD.out.mono KT.out.2.size);have SF:Hid (∀X,Below w4.1.size w4 X->(fun X:World=>aR X (w.1.size+1) 0 n/\X.cell? ⟨w.1.size,5,none⟩=some (.slice ah t.ag.length ch)) X):=fun X hX=>⟨(H4.out.2.1.below hX (by have:=H4.out.2.2.2.2.2.1;have:=H4.out.2.2.2.2.2.2.2.2.2;omega)).1,(H4.out.1.later hX).c5⟩
       have hS:(fun X:World=>aR X (w.1.size+1) 0 n/\X.cell? ⟨w.1.size,5,none⟩=some (.slice ah t.ag.length ch)) U.drew:=SF.out _ bD;have rD:fC U.drew w4.1.size (.slice a7 k c7) (t.ag.take k):=KT.out.1.later KD.out;clear KD;go_wp2_with fail;refine aY (fun z=>z==11) (fun X:World=>aR X (w.1.size+1) 0 n/\X.cell? ⟨w.1.size,5,none⟩=some (.slice ah t.ag.length ch)) (by kernel_rfl) ?_;generalize U.drew=Ud at *;obtain⟨V1,lK⟩:∃V,V=Ud.alloc (.cells #[vI n.a,vI n.e,vI n.h,.bool n.j,vI n.i] 73):=⟨_,rfl⟩
       have tZ:Below Ud.1.size Ud V1:=by rw[lK];exact aN.alloc aU _
       have gG:aV V1 Ud.1.size 0 [n]:=by rw[lK];exact(aR.box Ud _ _).one
       have lT:(t.ag.take k).length=k:=by rw[List.length_take];omega
       obtain⟨v1,Y1,kK,jB,F3,-⟩:=uD (rD.later tZ) [n] (by rw[lT];simp;omega) 51 Ud.1.size 0 1 gG (Nat.le_trans bD.size tZ.size);have pO:Below w4.1.size w4 V1:=bD.trans (tZ.mono bD.size);have pR:Below w4.1.size w4 Y1:=pO.grown F3 pO.size (fun q e=>(rD.lt e).1);obtain⟨a1,c1,rfl,-⟩:=jB.form;have sS:(t.ag.take k++[n]).length=k+1:=by simp[lT]
       obtain⟨a8,IW⟩:∃a8:OA,a8=(if ch=k then ah else Option.map (fun x=>x.add (k*5)) ah):=⟨_,rfl⟩
       have src:Sl Y1 Y1.1.size a8 (t.ag.drop k).length (t.ag.drop k):=by
        refine⟨rfl,?_⟩;by_cases hz:(t.ag.drop k).length=0
        ·exact .inl hz
        ·rw[List.length_drop]at hz;obtain⟨-,hq⟩:=(H4.out.2.2.2.2.1.later pR).s;dsimp only at hq;rcases hq with hq|⟨b',bR,e',gJ,BN⟩
         ·omega
         ·refine .inr ⟨b',bR+k*5,?_,gJ,fun i s hi=>?_⟩
          ·rw[IW,if_neg (by omega),e',Option.map_some];congr 1;unfold Addr.add;split<;>simp_all
          ·rw[List.getElem?_drop]at hi;have:=BN (k+i) s hi;rwa[show bR+k*5+i*5=bR+(k+i)*5 by omega]
       have Bg:=xC jB (t.ag.drop k) (by rw[sS,List.length_drop];omega) 51 a8 (ch-k) src pR.size;obtain⟨a2,c2,Y2,oC,rX,F4,-⟩:=Bg;have qM:Below w4.1.size w4 Y2:=pR.grown F4 pR.size (fun q e=>(jB.lt e).1);rw[sS,List.length_drop]at oC;generalize l8:t.ag.take k++[n]++t.ag.drop k=zs at *;have HZ:=ay l8;clear l8;rw[sS]at kK;simp only[List.length_cons,List.length_nil,Nat.zero_add]at kK;have xB:BT Y2 w3.1.size ⟨a4,c4,h4,d4⟩ t:=H4.out.2.2.2.2.2.2.1.later qM;have k4:=xB.c5;have Fu:=xB.fz 5;dsimp only at k4;have yB:BT (Y2.setCell ⟨w3.1.size,5,none⟩ (.slice a2 zs.length c2)) w3.1.size ⟨a4,c4,a2,c2⟩ (⟨t.id,t.l,t.o,t.u,t.b,zs,t.az⟩:T7):=xB.Bl a2 c2 zs;have yR:BT (Y2.setCell ⟨w3.1.size,5,none⟩ (.slice a2 zs.length c2)) (w.1.size+2) ⟨none,0,none,0⟩ ⟨0,0,0,0,[],[],0⟩:=(H4.out.2.2.1.later qM).dX (by dsimp only;have:=H4.out.2.2.2.2.2.1;omega) _;have KF:Hid (BT (Y2.setCell ⟨w3.1.size,5,none⟩ (.slice a2 zs.length c2)) w3.1.size ⟨a4,c4,a2,c2⟩ (⟨t.id,t.l,t.o,t.u,t.b,zs,t.az⟩:T7)/\BT (Y2.setCell ⟨w3.1.size,5,none⟩ (.slice a2 zs.length c2)) (w.1.size+2) ⟨none,0,none,0⟩ ⟨0,0,0,0,[],[],0⟩/\fC Y2 w4.1.size (.slice a2 zs.length c2) zs/\Below w4.1.size w4 Y2):=⟨yB,yR,rX,qM⟩
       have S1:=ay (SF.out _ pO);have S2:=ay (SF.out _ pR);have S3:=ay (SF.out _ qM);have ik:(k:Int)<=(t.ag.length:Int):=by omega
       clear tZ gG F3 pO pR jB src F4 qM rX rD bD xB yB yR SF sS lT;refine cu 0 rfl hS ?_;simp only[Act.put];refine iZ 1 ?_ rfl ?_ hS ?_;rotate_left
       ·(intro X aH;obtain⟨⟨s0,s1,s2,s3,s4⟩,s5⟩:=aH;simp only[Nat.zero_add]at s1 s2 s3 s4;go_simp;first|done|with_reducible rfl)
       simp only[Act.put];refine cu 4 rfl hS ?_;simp only[Act.put];refine iZ 5 ?_ rfl ?_ hS ?_;rotate_left
       ·(intro X aH;obtain⟨⟨s0,s1,s2,s3,s4⟩,s5⟩:=aH;simp only[Nat.zero_add]at s1 s2 s3 s4;go_simp;first|done|with_reducible rfl)
       simp only[Act.put];refine cu 6 rfl hS ?_;simp only[Act.put];refine cu 7 rfl hS ?_;simp only[Act.put];refine TF 8 (.slice a8 (t.ag.length-k) (ch-k)) rfl ?_ hS ?_
       ·(intro X _;rw[IW];go_simp;first|done|with_reducible rfl|rfl)
       clear IW;simp only[Act.put];refine dJ 2 rfl (fun K hK=>?_);go_simp;refine hK.out _ _ (fun _=>by rw[<-lK];exact S1.out) ?_;clear hK K;rw[<-lK];clear lK S1;refine dJ 3 rfl (fun K hK=>?_);refine bJ _ rfl (.tmp 82) (.tmp 84) 51 rfl _ _ _ _ (by first|rfl|simp[Act.eval,Act.put]) (by first|rfl|simp[Act.eval,Act.put]) kK ?_;refine hK.out _ _ (fun _=>S2.out) ?_;clear hK K;clear S2 kK;simp only[Act.put];refine dJ 9 rfl (fun K hK=>?_);refine bJ _ rfl (.tmp 85) (.tmp 90) 51 rfl _ _ _ _ (by first|rfl|simp[Act.eval,Act.put]) (by first|rfl|simp[Act.eval,Act.put]) oC ?_;refine hK.out _ _ (fun _=>S3.out) ?_;clear hK K;clear oC;simp only[Act.put];have hS:=S3.out;refine cu 10 rfl hS ?_;simp only[Act.put];refine dJ 11 rfl (fun K hK=>?_);go_simp;refine hK.out _ _ (fun h=>absurd (show false=true from h.symm.trans (by kernel_rfl)) (by decide)) ?_;clear hK K;refine df (by kernel_rfl) ?_ _;clear S3 hS k4 Fu;have jq:=KF.out.2.1.put ⟨a4,c4,a2,c2⟩ (⟨t.id,t.l,t.o,t.u,t.b,zs,t.az⟩:T7);simp only[iw]at jq;obtain⟨u0,u1,u2,u3,u4,u5,u6,-,-⟩:=jq;have KU:=ay (And.intro u0 (And.intro u1 (And.intro u2 (And.intro u3 (And.intro u4 (And.intro u5 u6))))));clear u0 u1 u2 u3 u4 u5 u6;obtain⟨o0,o1,o2,o3,o4,o5,o6,-,-⟩:=KF.out.1;obtain⟨r0,r1,r2,r3,r4,r5,r6,fr,-⟩:=KF.out.2.1;have f0:=fr 0;have f1:=fr 1;have f2:=fr 2;have f3:=fr 3;have f4:=fr 4;have f5:=fr 5;have f6:=fr 6;clear fr;dsimp only at o0 o1 o2 o3 o4 o5 o6 r4 r5;go_wp2;obtain⟨u0,u1,u2,u3,u4,u5,u6⟩:=KU.out
       refine bodyPost_ret (v:=.tuple #[.agg #[vI t.id,vI t.l,vI t.o,vI t.u,.slice a4 t.b.length c4,.slice a2 zs.length c2,vI t.az],.bool true]) (by simp[results,results24,go_sem,u0,u1,u2,u3,u4,u5,u6]) rfl ?_;rw[HN.out.1,HN.out.2,rP,HC.out,HZ.out];obtain⟨g1,g2,g3,g4⟩:=KF.out;obtain⟨-,-,-,j4,-,j6,-,j8,j9,j10⟩:=H4.out;have bX:Below w.1.size w (Y2.setCell ⟨w3.1.size,5,none⟩ (.slice a2 zs.length c2)):=(j4.trans (g4.mono j4.size)).setCell (p:=⟨w3.1.size,5,none⟩) (by dsimp only;omega) _;refine⟨a4,c4,a2,c2,PR,fun q=>(Value.slice a2 zs.length c2).ownBlock=some q,rfl,?_,bS (s:=w.1.size+2) (v:=⟨a4,c4,a2,c2⟩) (t:=(⟨t.id,t.l,t.o,t.u,t.b,zs,t.az⟩:T7)) bX (by omega)⟩;obtain⟨_,_,e2,MX⟩:=g3.form
       cases e2;have ot:OT Y2 w.1.size ⟨a4,c4,a2,c2⟩ (⟨t.id,t.l,t.o,t.u,t.b,zs,t.az⟩:T7) PR (fun q=>(Value.slice a2 zs.length c2).ownBlock=some q):=⟨(j8.later g4).r,MX,fun q h1 h2=>by have:=(g3.lt h2).1;have:=(j9 q (.inl h1)).2;omega,fun q h1=>⟨by have:=(j9 q (.inl h1)).1;omega,((j8.later g4).rB q h1).2⟩,fun q h1=>⟨by have:=(g3.lt h1).1;omega,(g3.lt h1).2⟩⟩
       have eO:∀q,nC PR (fun q=>(Value.slice a2 zs.length c2).ownBlock=some q) q->q≠w3.1.size/\q≠w.1.size+2:=fun q hq=>by
        rcases hq with hq|hq
        ·have:=j9 q (.inl hq);omega
        ·have:=(g3.lt hq).1;omega
       have JF:OT (Y2.setCell ⟨w3.1.size,5,none⟩ (.slice a2 zs.length c2)) w.1.size ⟨a4,c4,a2,c2⟩ (⟨t.id,t.l,t.o,t.u,t.b,zs,t.az⟩:T7) PR (fun q=>(Value.slice a2 zs.length c2).ownBlock=some q):=ot.aL (by simp[World.setCell]) (fun q _ hq=>Below.heap_setCell _ _ _ _ (eO q hq).1);exact JF.aL (w':=iw (Y2.setCell ⟨w3.1.size,5,none⟩ (.slice a2 zs.length c2)) (w.1.size+2) ⟨a4,c4,a2,c2⟩ (⟨t.id,t.l,t.o,t.u,t.b,zs,t.az⟩:T7)) (by rw[je];exact Nat.le_refl _) (fun q _ hq=>fq (eO q hq).2)
end tx
namespace tx
open Go.Proofs.Tryz
def iD(xs:List S5)(r s:Int):S5:=match mi xs r s with|some i=>aB xs i|none=>⟨0,0,0,false,0⟩
theorem BS.Bl{X:World}{q:Nat}{y0:S5}(h:BS X q y0)(y:S5):BS ((((((X).setCell ⟨q,0,none⟩ (vI y.a)).setCell ⟨q,0+1,none⟩ (vI y.e)).setCell ⟨q,0+2,none⟩ (vI y.h)).setCell ⟨q,0+3,none⟩ (.bool y.j)).setCell ⟨q,0+4,none⟩ (vI y.i)) q y:=by
 obtain⟨⟨c0,c1,c2,c3,c4⟩,f⟩:=h;simp only[Nat.zero_add]at *;refine⟨?_,fun j=>by simp only[World.frozen?_setCell];exact f j⟩;have:=aR.put (o:=0) y c0 (by simpa using c1) (by simpa using c2) (by simpa using c3) (by simpa using c4);simpa using this
theorem Hf(w:World)(base p mb n:Nat)(v:Value)(xs:List S5)(r s:Int)(h:jO w base p mb n v xs)(_:xs.length<=1000)(h1:bH 0 5 r=true)(h2:bH 0 5 s=true):
  Calls prog 167 #[.pointer (some ⟨p,0,none⟩),.agg #[vI r,vI s]] w fun e w'=>e=.returned (.tuple #[.agg #[vI (iD xs r s).a,vI (iD xs r s).e,vI (iD xs r s).h,.bool (iD xs r s).j,vI (iD xs r s).i],.bool (mi xs r s).isSome])/\Below w.1.size w w':=by
 obtain⟨W1,gZ⟩:∃W,W=w.alloc (.cells #[vI r,vI s] 126):=⟨_,rfl⟩
 have b1:Below w.1.size w W1:=by rw[gZ];exact aN.alloc aU _
 have z1:W1.1.size=w.1.size+1:=by rw[gZ];simp
 obtain⟨W0,dS⟩:∃W,W=W1.alloc (.cells #[vI 0,vI 0,vI 0,.bool false,vI 0] 73):=⟨_,rfl⟩
 have b2:Below W1.1.size W1 W0:=by rw[dS];exact aN.alloc aU _
 have b0:Below w.1.size w W0:=b1.trans (b2.mono b1.size);have z0:W0.1.size=w.1.size+2:=by rw[dS];simp[z1]
 have y0:BS W0 (w.1.size+1) ⟨0,0,0,false,0⟩:=by rw[dS,<-z1];exact BS.box W1 ⟨0,0,0,false,0⟩ _
 have h0:=h.later b0;have lk:∀d os,(Instr.lookup 278 (.map (some mb)) (jE r s) true).run prog (grow (redrawn W0 d) os)=.ok (.tuple #[vI (((mi xs r s).getD 0:Nat):Int),.bool (mi xs r s).isSome]) (grow (redrawn W0 d) os):=fun d os=>((h0.mp).later (below_regrown W0 d os)).look h1 h2
 have m1:=@cell_regrown W0 ⟨p,1,none⟩ (.map (some mb)) h0.c1;have t0:=@cell_regrown W0 ⟨w.1.size,0,none⟩ (vI r) ((b2.cell (p:=⟨w.1.size,0,none⟩) (by rw[z1];simp)).trans (by rw[gZ];go_simp));have t1:=@cell_regrown W0 ⟨w.1.size,1,none⟩ (vI s) ((b2.cell (p:=⟨w.1.size,1,none⟩) (by rw[z1];simp)).trans (by rw[gZ];go_simp));have H:Hid (Below w.1.size w W0/\jO W0 base p mb n v xs/\BS W0 (w.1.size+1) ⟨0,0,0,false,0⟩/\W0.1.size=w.1.size+2):=⟨b0,h0,y0,z0⟩
 rw[gZ]at dS;clear h h0 b0 z0 h1 h2 b1 b2 y0 z1 gZ W1;simp only[jE]at lk
 cases hW:mi xs r s with
 | none=>
  have e1:iD xs r s=⟨0,0,0,false,0⟩:=by simp[iD,hW]
  rw[e1];rw[hW]at lk;simp only[Option.getD_none,Option.isSome_none]at lk ⊢;go_enter func167,ntmps167;go_wp2_with fail;rw[<-dS];clear dS;refine gP ?_;repeat (go_big_quiet_step (fail))
  refine wpQuiet_nil ?_;intro _ wP;obtain⟨⟨jZ,aZ⟩,kW⟩:=wP;subst kW;have bq:=below_regrown W0 jZ aZ;have K1:Hid (Below w.1.size w (grow (redrawn W0 jZ) aZ)/\BS (grow (redrawn W0 jZ) aZ) (w.1.size+1) ⟨0,0,0,false,0⟩/\w.1.size+2<=(grow (redrawn W0 jZ) aZ).1.size):=⟨H.out.1.trans (bq.mono H.out.1.size),H.out.2.2.1.below bq (by have:=H.out.2.2.2;omega),by have:=bq.size;have:=H.out.2.2.2;omega⟩
  clear bq lk m1 t0 t1;generalize grow (redrawn W0 jZ) aZ=U at *;obtain⟨V,hV⟩:∃V,V=U.alloc (.cells #[vI 0,vI 0,vI 0,.bool false,vI 0] 73):=⟨_,rfl⟩
  have bV:Below U.1.size U V:=by rw[hV];exact aN.alloc aU _
  obtain⟨⟨n0,n1,n2,n3,n4⟩,nf⟩:=K1.out.2.1.below bV (by have:=K1.out.2.2;omega);simp only[Nat.zero_add]at n0 n1 n2 n3 n4;have f0:=nf 0;have f1:=nf 1;have f2:=nf 2;have f3:=nf 3;have f4:=nf 4;have u:=(K1.out.2.1.below bV (by have:=K1.out.2.2;omega)).Bl ⟨0,0,0,false,0⟩;obtain⟨⟨u0,u1,u2,u3,u4⟩,-⟩:=u;simp only[Nat.zero_add]at u0 u1 u2 u3 u4;have KU:=ay (And.intro u0 (And.intro u1 (And.intro u2 (And.intro u3 u4))));have KV:Hid (Below w.1.size w V):=K1.out.1.trans (bV.mono K1.out.1.size);clear nf bV u0 u1 u2 u3 u4;rw[hV]at n0 n1 n2 n3 n4 f0 f1 f2 f3 f4;go_wp2;rw[<-hV];obtain⟨u0,u1,u2,u3,u4⟩:=KU.out;refine bodyPost_ret (v:=.tuple #[.agg #[vI 0,vI 0,vI 0,.bool false,vI 0],.bool false]) (by simp[results,results167,go_sem,u0,u1,u2,u3,u4]) rfl ⟨rfl,?_⟩;exact((((KV.out.setCell (p:=⟨w.1.size+1,0,none⟩) (by simp) _).setCell (p:=⟨w.1.size+1,1,none⟩) (by simp) _).setCell (p:=⟨w.1.size+1,2,none⟩) (by simp) _).setCell (p:=⟨w.1.size+1,3,none⟩) (by simp) _).setCell (p:=⟨w.1.size+1,4,none⟩) (by simp) _
 | some i=>
  have e1:iD xs r s=aB xs i:=by simp[iD,hW]
  obtain⟨hi,-,-⟩:=xG hW;rw[e1];rw[hW]at lk;simp only[Option.getD_some,Option.isSome_some]at lk ⊢;go_enter func167,ntmps167;go_wp2_with fail;rw[<-dS];clear dS;refine gP ?_;repeat (go_big_quiet_step (fail))
  refine wpQuiet_nil ?_;intro _ wP;obtain⟨⟨jZ,aZ⟩,kW⟩:=wP;subst kW;have bq:=below_regrown W0 jZ aZ;have K1:Hid (Below w.1.size w (grow (redrawn W0 jZ) aZ)/\BS (grow (redrawn W0 jZ) aZ) (w.1.size+1) ⟨0,0,0,false,0⟩/\w.1.size+2<=(grow (redrawn W0 jZ) aZ).1.size/\jO (grow (redrawn W0 jZ) aZ) base p mb n v xs):=⟨H.out.1.trans (bq.mono H.out.1.size),H.out.2.2.1.below bq (by have:=H.out.2.2.2;omega),by have:=bq.size;have:=H.out.2.2.2;omega,H.out.2.1.later bq⟩
  clear bq lk m1 t0 t1;generalize grow (redrawn W0 jZ) aZ=U at *;obtain⟨⟨n0,n1,n2,n3,n4⟩,nf⟩:=K1.out.2.1;simp only[Nat.zero_add]at n0 n1 n2 n3 n4;have f0:=nf 0;have f1:=nf 1;have f2:=nf 2;have f3:=nf 3;have f4:=nf 4;obtain⟨⟨u0,u1,u2,u3,u4⟩,-⟩:=K1.out.2.1.Bl (aB xs i);simp only[Nat.zero_add]at u0 u1 u2 u3 u4;have KU:=ay (And.intro u0 (And.intro u1 (And.intro u2 (And.intro u3 u4))));obtain⟨a,c,rfl,ho⟩:=K1.out.2.2.2.row.form;rcases ho with ho|⟨q,rfl,hq,sg,Yk,-⟩
  ·rw[ho]at hi;simp at hi
  have m0:=K1.out.2.2.2.c0;obtain⟨c0,c1,c2,c3,c4⟩:=Yk i _ (eT hi);simp only[Nat.zero_add]at c0 c1 c2 c3 c4;have ii:(i:Int)<(xs.length:Int):=by omega
  clear nf u0 u1 u2 u3 u4 Yk hq sg;go_wp2;obtain⟨u0,u1,u2,u3,u4⟩:=KU.out;refine bodyPost_ret (v:=.tuple #[.agg #[vI (aB xs i).a,vI (aB xs i).e,vI (aB xs i).h,.bool (aB xs i).j,vI (aB xs i).i],.bool true]) (by simp[results,results167,go_sem,u0,u1,u2,u3,u4]) rfl ⟨rfl,?_⟩;exact((((K1.out.1.setCell (p:=⟨w.1.size+1,0,none⟩) (by simp) _).setCell (p:=⟨w.1.size+1,1,none⟩) (by simp) _).setCell (p:=⟨w.1.size+1,2,none⟩) (by simp) _).setCell (p:=⟨w.1.size+1,3,none⟩) (by simp) _).setCell (p:=⟨w.1.size+1,4,none⟩) (by simp) _
theorem Na(w:World)(base p mb n:Nat)(v:Value)(xs:List S5)(x:S5)(i:Nat)(h:jO w base p mb n v xs)(_:n<=1000)(_:xs.length<=100)(jG:bf x=true)(Mt:mi xs x.a x.e=some i)(Ej:base<=w.1.size):
  Calls prog 170 #[.pointer (some ⟨p,0,none⟩),.agg #[vI x.a,vI x.e,vI x.h,.bool x.j,vI x.i]] w fun e w'=>e=.returned (.tuple #[])/\∃q cap,lG w' base p q mb n cap (xs.set i x)/\Below base w w':=by
 obtain⟨W0,dS⟩:∃W,W=w.alloc (.cells #[vI x.a,vI x.e,vI x.h,.bool x.j,vI x.i] 73):=⟨_,rfl⟩
 have b0:Below w.1.size w W0:=by rw[dS];exact aN.alloc aU _
 have z0:W0.1.size=w.1.size+1:=by rw[dS];simp
 have x0:aR W0 w.1.size 0 x:=by rw[dS];exact aR.box w x _
 have h0:=h.later b0;have hk:=fU jG;have wI:p<w.1.size:=h.lp;have Zz:mb<w.1.size:=h.mp.lt
 have lk:∀d os,(Instr.lookup 278 (.map (some mb)) (jE x.a x.e) true).run prog (grow (redrawn W0 d) os)=.ok (.tuple #[vI (i:Int),.bool true]) (grow (redrawn W0 d) os):=fun d os=>by
  have hu:=((h0.mp).later (below_regrown W0 d os)).look hk.1 hk.2;rw[Mt]at hu;exact hu
 have lift:∀{b o:Nat}{u:Value},b<W0.1.size->W0.cell? ⟨b,o,none⟩=some u->∀d os,(grow (redrawn W0 d) os).cell? ⟨b,o,none⟩=some u:=fun {b o u} hb hh d os=>((below_regrown W0 d os).cell (p:=⟨b,o,none⟩) hb).trans hh
 have m1:=lift (by omega) h0.c1;have t0:=lift (by omega) x0.c0;have t1:=lift (by omega) x0.c1;have t2:=lift (by omega) x0.c2;have t3:=lift (by omega) x0.c3;have t4:=lift (by omega) x0.c4;have cC:∀d os,Calls prog 168 #[.agg #[vI x.a,vI x.e,vI x.h,.bool x.j,vI x.i]] (grow (redrawn W0 d) os) fun e eU=>e=.returned (.agg #[vI x.a,vI x.e])/\∃p:Regrown,eU=grow (redrawn W0 p.d) p.os:=fun d os=>Calls.regrown_of (fH _ _)
 have hm:∀w:World,(method 452 73 (.agg #[vI x.a,vI x.e,vI x.h,.bool x.j,vI x.i]) "loop.example/g00153/impl.cell").run prog w=.ok (168,.agg #[vI x.a,vI x.e,vI x.h,.bool x.j,vI x.i]) w:=fun _=>by kernel_rfl
 have hi:=(xG Mt).1;have H:Hid (jO W0 base p mb n v xs/\aR W0 w.1.size 0 x/\Below w.1.size w W0/\W0.1.size=w.1.size+1/\base<=w.1.size/\bf x=true/\v.ownBlock≠some w.1.size):=⟨h0,x0,b0,z0,Ej,jG,fun e=>by have:=(h.row.lt e).2;omega⟩
 clear h h0 x0 b0 z0 Ej jG lift Mt hk;simp only[jE,Nat.zero_add]at lk t0 t1 t2 t3 t4;go_enter func170,ntmps170;go_wp2_with fail;rw[<-dS];clear dS;refine gP ?_;repeat (go_big_quiet_step (exact cC _ _))
 refine wpQuiet_nil ?_;intro _ wP;obtain⟨⟨jZ,aZ⟩,kW⟩:=wP;subst kW;have bq:=below_regrown W0 jZ aZ
 have K1:Hid (jO (grow (redrawn W0 jZ) aZ) base p mb n v xs/\aR (grow (redrawn W0 jZ) aZ) w.1.size 0 x/\Below w.1.size w (grow (redrawn W0 jZ) aZ)/\w.1.size<(grow (redrawn W0 jZ) aZ).1.size):=by
  obtain⟨g1,g2,g3,g4,_⟩:=H.out;have:=bq.size;exact⟨g1.later bq,g2.below bq (by omega),g3.trans (bq.mono g3.size),by omega⟩
 clear bq m1 t0 t1 t2 t3 t4 cC lk;obtain⟨q,cap,hv,P1⟩:=K1.out.1.WW (fun e=>by rw[e]at hi;simp at hi);go_upto_region 3 with fail
 generalize grow (redrawn W0 jZ) aZ=W1 at *;have bd:Below W1.1.size W1 W1.drew:=aN.drew;have P2:=P1.later bd;have hS:(fun X:World=>X.cell? ⟨p,0,none⟩=some (.slice (some ⟨q,0,none⟩) xs.length cap)/\aR X w.1.size 0 x) W1.drew:=⟨P2.c0,K1.out.2.1.below bd K1.out.2.2.2⟩
 have rd:=P2.rm;have KP:Hid (lG W1.drew base p q mb n cap xs/\Below W1.1.size W1 W1.drew):=⟨P2,bd⟩
 clear P1 P2 bd hm;refine aY (fun z=>z==7) (fun X:World=>X.cell? ⟨p,0,none⟩=some (.slice (some ⟨q,0,none⟩) xs.length cap)/\aR X w.1.size 0 x) (by kernel_rfl) ?_;generalize W1.drew=Wd at *;obtain⟨v0,c0,f0⟩:=rd (i*5) (by omega);obtain⟨v1,c1,f1⟩:=rd (i*5+1) (by omega);obtain⟨v2,c2,f2⟩:=rd (i*5+2) (by omega);obtain⟨v3,c3,f3⟩:=rd (i*5+3) (by omega);obtain⟨v4,c4,f4⟩:=rd (i*5+4) (by omega);have ii:(i:Int)<(xs.length:Int):=by omega
 clear rd;refine cu 0 rfl hS ?_;simp only[Act.put];refine cu 1 rfl hS ?_;simp only[Act.put];refine cu 2 rfl hS ?_;simp only[Act.put];refine iZ 3 ?_ rfl ?_ hS ?_;rotate_left
 ·(intro w aH;obtain⟨s0,⟨a0,a1,a2,a3,a4⟩⟩:=aH;simp only[Nat.zero_add]at a0 a1 a2 a3 a4;go_simp;first|done|with_reducible rfl)
 simp only[Act.put];refine cu 4 rfl hS ?_;simp only[Act.put];refine iZ 5 ?_ rfl ?_ hS ?_;rotate_left
 ·(intro w aH;obtain⟨s0,⟨a0,a1,a2,a3,a4⟩⟩:=aH;simp only[Nat.zero_add]at a0 a1 a2 a3 a4;go_simp;first|done|with_reducible rfl)
 simp only[Act.put];refine cu 6 rfl hS ?_;simp only[Act.put];refine dJ 7 rfl (fun K hK=>?_);go_simp;refine hK.out _ _ (fun h=>absurd (show false=true from h.symm.trans (by kernel_rfl)) (by decide)) ?_;clear hK K;refine df (by kernel_rfl) ?_ _;have hx:xs[i]?=some (aB xs i):=eT hi;have P3:=KP.out.1.GV hx x H.out.2.2.2.2.2.1
 have b3:Below base w ((((((Wd).setCell ⟨q,i*5,none⟩ (vI x.a)).setCell ⟨q,i*5+1,none⟩ (vI x.e)).setCell ⟨q,i*5+2,none⟩ (vI x.h)).setCell ⟨q,i*5+3,none⟩ (.bool x.j)).setCell ⟨q,i*5+4,none⟩ (vI x.i)):=by
  have bW:Below base w Wd:=(K1.out.2.2.1.trans (KP.out.2.mono K1.out.2.2.1.size)).mono H.out.2.2.2.2.1;have hB:=KP.out.1.bq;exact((((bW.setCell (p:=⟨q,_,none⟩) hB _).setCell (p:=⟨q,_,none⟩) hB _).setCell (p:=⟨q,_,none⟩) hB _).setCell (p:=⟨q,_,none⟩) hB _).setCell (p:=⟨q,_,none⟩) hB _
 have KE:=ay (And.intro P3 b3);clear P3 b3 hx hS c0 c1 c2 c3 c4 f0 f1 f2 f3 f4;go_wp2;refine bodyPost_ret (v:=.tuple #[]) (by simp[results,results170,go_sem]) rfl ⟨rfl,q,cap,KE.out⟩
end tx
namespace tx
open Go.Proofs.Tryz
theorem Sb{r s q t:Int}(h1:bH 0 5 s=true)(h2:bH 0 5 t=true)(h:rk r s=rk q t):r=q/\s=t:=by
 rw[dI]at h1 h2;unfold rk at h;omega
theorem Ah(xs:List S5)(n:S5):(rP xs n).Perm (xs++[n]):=by
 unfold rP;rw[List.append_assoc];refine((List.Perm.refl _).append (List.perm_append_comm (l₁:=[n]) (l₂:=xs.drop (kH xs n)))).trans ?_;rw[<-List.append_assoc,List.take_append_drop]
theorem Ps{xs:List S5}{n:S5}(h:tV xs)(jG:∀s∈xs,bf s=true)(hn:bf n=true)(oG:mi xs n.a n.e=none):(rP xs n).Pairwise (fun a b=>jD a<jD b):=by
 have BK:=fU hn
 have Il:∀x∈xs.take (kH xs n),jD x<jD n:=fun x hx=>by
  obtain⟨i,hi,rfl⟩:=List.getElem_of_mem hx;have Ci:i<kH xs n:=by rw[List.length_take]at hi;omega
  have XY:i<xs.length:=by rw[List.length_take]at hi;omega
  have:=List.not_of_lt_findIdx (p:=fun x:S5=>!jk x.a x.e n.a n.e) (xs:=xs) Ci;rw[List.getElem_take];have hk:=(fU (jG _ (List.getElem_mem XY))).2;simp only[Bool.not_eq_false']at this;rw[nR hk BK.2]at this;simpa[jD]using this
 have QJ:∀x∈xs.drop (kH xs n),jD n<jD x:=fun x hx=>by
  obtain⟨i,hi,rfl⟩:=List.getElem_of_mem hx;rw[List.length_drop]at hi;have hc:kH xs n<xs.length:=by omega
  have h1:=List.findIdx_getElem (p:=fun x:S5=>!jk x.a x.e n.a n.e) (xs:=xs) (w:=hc);have hm:xs[kH xs n]∈xs:=List.getElem_mem hc;have hk:=(fU (jG _ hm)).2;change (!jk xs[kH xs n].a xs[kH xs n].e n.a n.e)=true at h1;rw[nR hk BK.2]at h1;simp only[Bool.not_eq_true',decide_eq_false_iff_not]at h1
  have h2:jD n≠jD xs[kH xs n]:=fun e=>by
   have:=Sb hk BK.2 e.symm;exact Bj.1 oG _ hm this
  have h3:jD n<jD xs[kH xs n]:=by
   have:¬jD xs[kH xs n]<jD n:=h1;omega
  rw[List.getElem_drop];rcases i with _|i
  ·simpa using h3
  ·exact Int.lt_trans h3 (List.pairwise_iff_getElem.1 h _ _ hc (by omega) (by omega))
 unfold rP;rw[List.pairwise_append,List.pairwise_append];refine⟨⟨h.sublist (List.take_sublist _ _),by simp,fun a ha b hb=>by simp at hb;subst hb;exact Il a ha⟩,h.sublist (List.drop_sublist _ _),fun a ha b hb=>?_⟩;rcases List.mem_append.1 ha with ha|ha
 ·exact Int.lt_trans (Il a ha) (QJ b hb)
 ·simp at ha;subst ha;exact QJ b hb
end tx
namespace tx
open Go.Proofs.Tryz
variable {B:Nat}{X Y:World}{t:T7}{v:TV}
theorem BT.under{s:Nat}(h:BT X s v t)(hb:Below B X Y)(hs:s<B):BT Y s v t:=h.aj (hb.block _ hs) hb.size
theorem OT.under{B0:Nat}{PR PS:Nat->Prop}(h:OT X B0 v t PR PS)(hb:Below B X Y)(hq:∀q,nC PR PS q->q<B):OT Y B0 v t PR PS:=h.aL hb.size (fun q _ ho=>hb.block q (hq q ho))
theorem rM(w:World)(v:TV)(t:T7)(n:S5)(hl:TL t)(hs:kR w v t):
  Calls prog 123 #[v.val t,.agg #[vI n.a,vI n.e,vI n.h,.bool n.j,vI n.i]] w (uM w (dw t n) (fV t n)):=by
 obtain⟨ar,cr,ah,ch⟩:=v;simp only[TV.val];obtain⟨W0,dS⟩:∃W,W=w.alloc (.cells #[vI t.id,vI t.l,vI t.o,vI t.u,.slice ar t.b.length cr,.slice ah t.ag.length ch,vI t.az] 53):=⟨_,rfl⟩
 have z0:W0.1.size=w.1.size+1:=by rw[dS];simp
 have x0:BT W0 w.1.size ⟨ar,cr,ah,ch⟩ t:=by rw[dS];exact BT.box w ⟨ar,cr,ah,ch⟩ t _
 have b0:Below w.1.size w W0:=by rw[dS];exact aN.alloc aU _
 obtain⟨W1,gZ⟩:∃W,W=W0.alloc (.cells #[vI n.a,vI n.e,vI n.h,.bool n.j,vI n.i] 73):=⟨_,rfl⟩
 have z1:W1.1.size=w.1.size+2:=by rw[gZ];simp[z0]
 have x1:BS W1 (w.1.size+1) n:=by rw[gZ,<-z0];exact BS.box W0 _ _
 have b1:Below W0.1.size W0 W1:=by rw[gZ];exact aN.alloc aU _
 obtain⟨W,hW⟩:∃W,W=W1.alloc (.cells #[vI 0,vI 0,vI 0,vI 0,.slice none 0 0,.slice none 0 0,vI 0] 53):=⟨_,rfl⟩
 have zW:W.1.size=w.1.size+3:=by rw[hW];simp[z1]
 have x2:BT W (w.1.size+2) ⟨none,0,none,0⟩ ⟨0,0,0,0,[],[],0⟩:=by rw[hW,<-z1];exact BT.zero W1 _
 have b2:Below W1.1.size W1 W:=by rw[hW];exact aN.alloc aU _
 have bW:Below w.1.size w W:=(b0.trans (b1.mono b0.size)).trans (b2.mono (by omega));have c1:=qf W ⟨ar,cr,ah,ch⟩ t hl (hs.later bW);simp only[TV.val]at c1;have H:Hid (BT W w.1.size ⟨ar,cr,ah,ch⟩ t/\BS W (w.1.size+1) n/\BT W (w.1.size+2) ⟨none,0,none,0⟩ ⟨0,0,0,0,[],[],0⟩/\Below w.1.size w W/\kR W ⟨ar,cr,ah,ch⟩ t/\W.1.size=w.1.size+3):=⟨(x0.later b1).later b2,x1.below b2 (by omega),x2,bW,hs.later bW,zW⟩
 rw[gZ,dS]at hW;clear dS gZ z0 x0 b0 z1 x1 b1 zW x2 b2 bW hs hl
 cases hB:ky t with
 | false=>
  rw[hB]at c1;have HN:Hid (dw t n=kC/\fV t n=false):=⟨by simp[dw,hB],by simp[fV,hB]⟩
  go_enter func123,ntmps123;go_wp2_with fail;rw[<-hW];clear hW;refine c1.mono ?_;clear c1;rintro e w1 ⟨rfl,b1⟩;have KZ:Hid (BT w1 (w.1.size+2) ⟨none,0,none,0⟩ ⟨0,0,0,0,[],[],0⟩/\Below w.1.size w w1):=⟨H.out.2.2.1.later b1,H.out.2.2.2.1.trans (b1.mono H.out.2.2.2.1.size)⟩
  clear b1 H;obtain⟨r0,r1,r2,r3,r4,r5,r6,fr,-⟩:=KZ.out.1;have jq:=KZ.out.1.put ⟨none,0,none,0⟩ kC;simp only[iw,kC,List.length_nil]at jq;obtain⟨u0,u1,u2,u3,u4,u5,u6,-,-⟩:=jq;have KU:=ay (And.intro u0 (And.intro u1 (And.intro u2 (And.intro u3 (And.intro u4 (And.intro u5 u6))))));clear u0 u1 u2 u3 u4 u5 u6;have f0:=fr 0;have f1:=fr 1;have f2:=fr 2;have f3:=fr 3;have f4:=fr 4;have f5:=fr 5;have f6:=fr 6;clear fr;simp only[List.length_nil]at r4 r5;go_wp2;obtain⟨u0,u1,u2,u3,u4,u5,u6⟩:=KU.out;refine bodyPost_ret (v:=.tuple #[.agg #[vI 0,vI 0,vI 0,vI 0,.slice none 0 0,.slice none 0 0,vI 0],.bool false]) (by simp[results,results123,go_sem,u0,u1,u2,u3,u4,u5,u6]) rfl ?_;rw[HN.out.1,HN.out.2];exact uM.zero (bS (s:=w.1.size+2) (v:=⟨none,0,none,0⟩) (t:=kC) KZ.out.2 (by omega))
 | true=>
  rw[hB]at c1;go_enter func123,ntmps123;go_wp2_with fail;rw[<-hW];clear hW;refine c1.mono ?_;clear c1;rintro e w1 ⟨rfl,b1⟩;obtain⟨⟨n0,n1,n2,n3,n4⟩,-⟩:=H.out.2.1.below b1 (by have:=H.out.2.2.2.2.2;omega);simp only[Nat.zero_add]at n1 n2 n3 n4;have c2:=sG w1 n;have H1:Hid (BT w1 w.1.size ⟨ar,cr,ah,ch⟩ t/\BS w1 (w.1.size+1) n/\BT w1 (w.1.size+2) ⟨none,0,none,0⟩ ⟨0,0,0,0,[],[],0⟩/\Below w.1.size w w1/\kR w1 ⟨ar,cr,ah,ch⟩ t/\w.1.size+3<=w1.1.size):=⟨H.out.1.later b1,H.out.2.1.below b1 (by have:=H.out.2.2.2.2.2;omega),H.out.2.2.1.later b1,H.out.2.2.2.1.trans (b1.mono H.out.2.2.2.1.size),H.out.2.2.2.2.1.later b1,by have:=H.out.2.2.2.2.2;have:=b1.size;omega⟩
  clear b1 H;go_wp2_with fail;refine c2.mono ?_;clear c2 n0 n1 n2 n3 n4;rintro e w2 ⟨rfl,b2⟩;have H2:Hid (BT w2 w.1.size ⟨ar,cr,ah,ch⟩ t/\BS w2 (w.1.size+1) n/\BT w2 (w.1.size+2) ⟨none,0,none,0⟩ ⟨0,0,0,0,[],[],0⟩/\Below w.1.size w w2/\kR w2 ⟨ar,cr,ah,ch⟩ t/\w.1.size+3<=w2.1.size):=⟨H1.out.1.later b2,H1.out.2.1.below b2 (by have:=H1.out.2.2.2.2.2;omega),H1.out.2.2.1.later b2,H1.out.2.2.2.1.trans (b2.mono H1.out.2.2.2.1.size),H1.out.2.2.2.2.1.later b2,by have:=H1.out.2.2.2.2.2;have:=b2.size;omega⟩
  clear b2 H1
  cases hO:bf n with
  | false=>
   have HN:Hid (dw t n=kC/\fV t n=false):=⟨by simp[dw,hO],by simp[fV,hO]⟩
   have KZ:Hid (BT w2 (w.1.size+2) ⟨none,0,none,0⟩ ⟨0,0,0,0,[],[],0⟩/\Below w.1.size w w2):=⟨H2.out.2.2.1,H2.out.2.2.2.1⟩
   clear H2;obtain⟨r0,r1,r2,r3,r4,r5,r6,fr,-⟩:=KZ.out.1;have jq:=KZ.out.1.put ⟨none,0,none,0⟩ kC;simp only[iw,kC,List.length_nil]at jq;obtain⟨u0,u1,u2,u3,u4,u5,u6,-,-⟩:=jq;have KU:=ay (And.intro u0 (And.intro u1 (And.intro u2 (And.intro u3 (And.intro u4 (And.intro u5 u6))))));clear u0 u1 u2 u3 u4 u5 u6;have f0:=fr 0;have f1:=fr 1;have f2:=fr 2;have f3:=fr 3;have f4:=fr 4;have f5:=fr 5;have f6:=fr 6;clear fr;simp only[List.length_nil]at r4 r5;go_wp2;obtain⟨u0,u1,u2,u3,u4,u5,u6⟩:=KU.out;refine bodyPost_ret (v:=.tuple #[.agg #[vI 0,vI 0,vI 0,vI 0,.slice none 0 0,.slice none 0 0,vI 0],.bool false]) (by simp[results,results123,go_sem,u0,u1,u2,u3,u4,u5,u6]) rfl ?_;rw[HN.out.1,HN.out.2];exact uM.zero (bS (s:=w.1.size+2) (v:=⟨none,0,none,0⟩) (t:=kC) KZ.out.2 (by omega))
  | true=>
   have fW:=(jT hB).1;have Vq:=(jT hB).2;have HT:Hid ((∀s∈t.ag,bf s=true)/\tV t.ag/\bf n=true):=⟨(Qr hB).1,(Qr hB).2,hO⟩
   have c3:=sH w2 ⟨ar,cr,ah,ch⟩ t (by omega) (by omega) H2.out.2.2.2.2.1;simp only[TV.val]at c3;obtain⟨p0,p1,p2,p3,p4,p5,p6,-,-⟩:=H2.out.1;dsimp only at p4 p5;go_wp2_with fail;refine c3.mono ?_;clear c3 p0 p1 p2 p3 p4 p5 p6;rintro e w3 ⟨a4,c4,h4,d4,PR,PS,rfl,o3,b3⟩;simp only[TV.val];obtain⟨X3,nK⟩:∃X,X=w3.alloc (.cells #[vI t.id,vI t.l,vI t.o,vI t.u,.slice a4 t.b.length c4,.slice h4 t.ag.length d4,vI t.az] 53):=⟨_,rfl⟩
   have b3':Below w3.1.size w3 X3:=by rw[nK];exact aN.alloc aU _
   have zF:Below w2.1.size w2 X3:=b3.trans (b3'.mono b3.size);have x3:BT X3 w3.1.size ⟨a4,c4,h4,d4⟩ t:=by rw[nK];exact BT.box w3 ⟨a4,c4,h4,d4⟩ t _
   have H3:Hid (BS X3 (w.1.size+1) n/\BT X3 (w.1.size+2) ⟨none,0,none,0⟩ ⟨0,0,0,0,[],[],0⟩/\Below w.1.size w X3/\w.1.size+3<=w3.1.size/\BT X3 w3.1.size ⟨a4,c4,h4,d4⟩ t/\OT X3 w2.1.size ⟨a4,c4,h4,d4⟩ t PR PS/\(∀q,nC PR PS q->w.1.size+3<=q/\q<w3.1.size)/\w3.1.size<X3.1.size):=⟨H2.out.2.1.below zF (by have:=H2.out.2.2.2.2.2;omega),H2.out.2.2.1.later zF,H2.out.2.2.2.1.trans (zF.mono H2.out.2.2.2.1.size),by have:=H2.out.2.2.2.2.2;have:=b3.size;omega,x3,o3.later b3',fun q hq=>⟨by have:=(o3.of hq).1;have:=H2.out.2.2.2.2.2;omega,(o3.of hq).2⟩,x3.lt⟩
   clear b3 b3' zF x3 o3 H2;have BI:=EI X3 h4 d4 t.ag (by omega) H3.out.2.2.2.2.2.1.sl.s HT.out.1 HT.out.2.1;have k4:=H3.out.2.2.2.2.1.c5;dsimp only at k4;rw[nK]at k4;go_wp2_with fail;rw[<-nK];clear nK k4;refine BI.mono ?_;clear BI;rintro e w4 ⟨p,mb,m,pv,rfl,hp,hm,b4⟩;obtain⟨⟨n0,n1,n2,n3,n4⟩,-⟩:=H3.out.1.below b4 (by have:=H3.out.2.2.2.1;have:=H3.out.2.2.2.2.2.2.2;omega);simp only[Nat.zero_add]at n1 n2 n3 n4;have cC:=fH w4 n;have H4:Hid (jO w4 X3.1.size p mb m pv t.ag/\Below X3.1.size X3 w4):=⟨hp,b4⟩
   clear hp b4;go_wp2_with fail;refine cC.mono ?_;clear cC n0 n1 n2 n3 n4;rintro e w5 ⟨rfl,b5⟩;have cH:=Hf w5 X3.1.size p mb m pv t.ag n.a n.e (H4.out.1.later b5) (by omega) (fU HT.out.2.2).1 (fU HT.out.2.2).2;have H5:Hid (jO w5 X3.1.size p mb m pv t.ag/\Below X3.1.size X3 w5):=⟨H4.out.1.later b5,H4.out.2.trans (b5.mono H4.out.2.size)⟩
   clear b5 H4;go_wp2_with fail;refine cH.mono ?_;clear cH;rintro e QP ⟨rfl,Zn⟩;obtain⟨w6,Rz⟩:∃X,X=QP.alloc (.cells #[vI (iD t.ag n.a n.e).a,vI (iD t.ag n.a n.e).e,vI (iD t.ag n.a n.e).h,.bool (iD t.ag n.a n.e).j,vI (iD t.ag n.a n.e).i] 73):=⟨_,rfl⟩
   have bA:Below QP.1.size QP w6:=by rw[Rz];exact aN.alloc aU _
   have b6:Below w5.1.size w5 w6:=Zn.trans (bA.mono Zn.size);have e6:BS w6 QP.1.size (iD t.ag n.a n.e):=by rw[Rz];exact BS.box QP _ _
   have l6:X3.1.size<=QP.1.size:=Nat.le_trans H5.out.2.size Zn.size;have z6:QP.1.size<w6.1.size:=by rw[Rz];simp
   have H6:Hid (jO w6 X3.1.size p mb m pv t.ag/\Below X3.1.size X3 w6/\BS w6 QP.1.size (iD t.ag n.a n.e)/\X3.1.size<=QP.1.size/\QP.1.size<w6.1.size):=⟨H5.out.1.later b6,H5.out.2.trans (b6.mono H5.out.2.size),e6,l6,z6⟩
   clear b6 Zn bA e6 l6 z6 H5
   cases hW:mi t.ag n.a n.e with
   | some i=>
    have HN:Hid (dw t n=(⟨t.id,t.l,t.o,t.u,t.b,pz t.ag i n,t.az⟩:T7)/\fV t n=true):=⟨by simp[dw,hB,hO,hW],by simp[fV,hB,hO,hW]⟩
    have hi:=(xG hW).1;have e1:iD t.ag n.a n.e=aB t.ag i:=by simp[iD,hW]
    simp only[e1]at Rz H6 ⊢;obtain⟨⟨-,-,-,-,k4⟩,-⟩:=H6.out.2.2.1;obtain⟨⟨n0,n1,n2,n3,n4⟩,nf⟩:=H3.out.1.below H6.out.2.1 (by have:=H3.out.2.2.2.1;have:=H3.out.2.2.2.2.2.2.2;omega);simp only[Nat.zero_add]at n1 n2 n3 n4 k4;have ZG:=nf 4;obtain⟨Wa,QH⟩:∃X,X=w6.setCell ⟨w.1.size+1,4,none⟩ (vI (aB t.ag i).i):=⟨_,rfl⟩
    have ob:aQ (w.1.size+1) w6 Wa:=by rw[QH];exact(aQ.refl _ _).setCell 4 _
    have nK:w.1.size+3<X3.1.size:=by have:=H3.out.2.2.2.1;have:=H3.out.2.2.2.2.2.2.2;omega
    have pD:Below (w.1.size+2) X3 Wa->True:=fun _=>trivial
    have Mt:mi t.ag (vV n (aB t.ag i).i).a (vV n (aB t.ag i).i).e=some i:=hW;have Ya:=R5 HT.out.1 HT.out.2.2 hW
    have iS:jO Wa X3.1.size p mb m pv t.ag:=by
     have P:=H6.out.1;have nb:∀x,X3.1.size<=x->Wa.1[x]?=w6.1[x]?:=fun x hx=>ob.block x (by omega)
     exact⟨(World.cell?_of_block (a:=⟨p,0,none⟩) (nb p P.bp)).trans P.c0,(World.cell?_of_block (a:=⟨p,1,none⟩) (nb p P.bp)).trans P.c1,fun j=>(World.frozen?_of_block (a:=⟨p,j,none⟩) (nb p P.bp)).trans (P.fz j),P.row.aL (fun x hx _ _=>nb x hx),P.mp.aj (nb mb P.bm),P.ok,P.vp,P.vm,P.pm,P.bp,P.bm,by rw[ob.size];exact P.lp⟩
    have cP:=Na Wa X3.1.size p mb m pv t.ag (vV n (aB t.ag i).i) i iS (by omega) (by omega) Ya Mt (by rw[ob.size];exact H6.out.2.1.size);simp only[vV]at cP;have v0:Wa.cell? ⟨w.1.size+1,0,none⟩=some (vI n.a):=by rw[QH];exact(ae (by omega)).trans n0
    have v1:Wa.cell? ⟨w.1.size+1,1,none⟩=some (vI n.e):=by rw[QH];exact(ae (by omega)).trans n1
    have v2:Wa.cell? ⟨w.1.size+1,2,none⟩=some (vI n.h):=by rw[QH];exact(ae (by omega)).trans n2
    have v3:Wa.cell? ⟨w.1.size+1,3,none⟩=some (.bool n.j):=by rw[QH];exact(ae (by omega)).trans n3
    have v4:Wa.cell? ⟨w.1.size+1,4,none⟩=some (vI (aB t.ag i).i):=by rw[QH];exact ax n4
    have KX:Hid (BT Wa (w.1.size+2) ⟨none,0,none,0⟩ ⟨0,0,0,0,[],[],0⟩/\Below w.1.size w Wa/\BT Wa w3.1.size ⟨a4,c4,h4,d4⟩ t/\OT Wa w2.1.size ⟨a4,c4,h4,d4⟩ t PR PS/\X3.1.size<=Wa.1.size/\Wa.1.size=w6.1.size):=by
     obtain⟨-,j2,j3,j4,j5,j6,j7,j8⟩:=H3.out;have g:=H6.out.2.1;refine⟨(j2.later g).aj (ob.block _ (by omega)) (Nat.le_of_eq ob.size.symm),?_,(j5.later g).aj (ob.block _ (by omega)) (Nat.le_of_eq ob.size.symm),(j6.later g).aL (Nat.le_of_eq ob.size.symm) (fun q _ hq=>ob.block q (by have:=(j7 q hq).1;omega)),by rw[ob.size];exact g.size,ob.size⟩;rw[QH];exact(j3.trans (g.mono j3.size)).setCell (p:=⟨w.1.size+1,4,none⟩) (by dsimp only;omega) _
    have HY:Hid (mi t.ag n.a n.e=some i):=hW;clear nf ob pD iS Ya Mt hW;rw[Rz]at k4 n4 ZG QH;go_upto_region 10 with fail
    rw[<-QH];clear QH k4 n0 n1 n2 n3 n4 ZG Rz;go_wp2_with fail;refine cP.mono ?_;clear cP v0 v1 v2 v3 v4;rintro e w7 ⟨rfl,q,cap,Fq,b7⟩;have mC:t.ag.set i ⟨n.a,n.e,n.h,n.j,(aB t.ag i).i⟩=pz t.ag i n:=rfl;rw[mC]at Fq;have Es:=R6 HT.out.2.1 HY.out;have fb:(pz t.ag i n).length=t.ag.length:=A8 _ _ _;have cI:=tT w7 X3.1.size p q mb m cap (pz t.ag i n) Fq (by omega) (by omega) (Hl Es) (Es.imp (fun h=>Int.ne_of_lt h));have Qz:=ay Es;have H7:Hid (Below X3.1.size Wa w7/\X3.1.size<=p/\X3.1.size<=q/\X3.1.size<=mb):=⟨b7,Fq.bp,Fq.bq,Fq.bm⟩
    clear b7 Fq Es mC H6;go_wp2_with fail;refine cI.mono ?_;clear cI fb;rintro e w8 ⟨v8,zs,rfl,Be,LC,TG,k8⟩;have Ky:Below X3.1.size Wa w8:=H7.out.1.trans (k8.below (fun x hx=>by obtain⟨-,h1,h2,h3⟩:=H7.out;rcases hx with rfl|rfl|rfl<;>assumption) (Nat.le_trans KX.out.2.2.2.2.1 H7.out.1.size));have l8:zs=pz t.ag i n:=bC.zk jD TG Qz.out LC;have HZ:=ay l8;obtain⟨a2,c2,rfl,-⟩:=Be.form;have xB:BT w8 w3.1.size ⟨a4,c4,h4,d4⟩ t:=KX.out.2.2.1.under Ky H3.out.2.2.2.2.2.2.2;have k4:=xB.c5;have Fu:=xB.fz 5;dsimp only at k4;have SL:X3.1.size<=w7.1.size:=Nat.le_trans KX.out.2.2.2.2.1 H7.out.1.size;have KF:Hid (BT (w8.setCell ⟨w3.1.size,5,none⟩ (.slice a2 zs.length c2)) w3.1.size ⟨a4,c4,a2,c2⟩ (⟨t.id,t.l,t.o,t.u,t.b,zs,t.az⟩:T7)/\BT (w8.setCell ⟨w3.1.size,5,none⟩ (.slice a2 zs.length c2)) (w.1.size+2) ⟨none,0,none,0⟩ ⟨0,0,0,0,[],[],0⟩/\fC w8 w7.1.size (.slice a2 zs.length c2) zs/\Below X3.1.size Wa w8/\X3.1.size<=w7.1.size):=⟨xB.Bl a2 c2 zs,(KX.out.1.under Ky (by omega)).dX (by dsimp only;have:=H3.out.2.2.2.1;omega) _,Be,Ky,SL⟩
    clear l8 Be LC TG k8 Ky xB SL H7 Qz;have jq:=KF.out.2.1.put ⟨a4,c4,a2,c2⟩ (⟨t.id,t.l,t.o,t.u,t.b,zs,t.az⟩:T7);simp only[iw]at jq;obtain⟨u0,u1,u2,u3,u4,u5,u6,-,-⟩:=jq;have KU:=ay (And.intro u0 (And.intro u1 (And.intro u2 (And.intro u3 (And.intro u4 (And.intro u5 u6))))));clear u0 u1 u2 u3 u4 u5 u6;obtain⟨o0,o1,o2,o3,o4,o5,o6,-,-⟩:=KF.out.1;obtain⟨r0,r1,r2,r3,r4,r5,r6,fr,-⟩:=KF.out.2.1;have f0:=fr 0;have f1:=fr 1;have f2:=fr 2;have f3:=fr 3;have f4:=fr 4;have f5:=fr 5;have f6:=fr 6;clear fr;dsimp only at o0 o1 o2 o3 o4 o5 o6 r4 r5;go_wp2;obtain⟨u0,u1,u2,u3,u4,u5,u6⟩:=KU.out;refine bodyPost_ret (v:=.tuple #[.agg #[vI t.id,vI t.l,vI t.o,vI t.u,.slice a4 t.b.length c4,.slice a2 zs.length c2,vI t.az],.bool true]) (by simp[results,results123,go_sem,u0,u1,u2,u3,u4,u5,u6]) rfl ?_;rw[HN.out.1,HN.out.2,<-HZ.out];obtain⟨g1,g2,g3,g4,g5⟩:=KF.out;obtain⟨-,-,-,j6,-,-,j9,j10⟩:=H3.out;obtain⟨-,j4,-,th,j5,-⟩:=KX.out;have j8:=th.under g4 (fun q hq=>by have:=(j9 q hq).2;omega);have bX:Below w.1.size w (w8.setCell ⟨w3.1.size,5,none⟩ (.slice a2 zs.length c2)):=(j4.trans (g4.mono (by omega))).setCell (p:=⟨w3.1.size,5,none⟩) (by dsimp only;omega) _;refine⟨a4,c4,a2,c2,PR,fun q=>(Value.slice a2 zs.length c2).ownBlock=some q,rfl,?_,bS (s:=w.1.size+2) (v:=⟨a4,c4,a2,c2⟩) (t:=(⟨t.id,t.l,t.o,t.u,t.b,zs,t.az⟩:T7)) bX (by omega)⟩;obtain⟨_,_,e2,MX⟩:=g3.form
    cases e2;have ot:OT w8 w.1.size ⟨a4,c4,a2,c2⟩ (⟨t.id,t.l,t.o,t.u,t.b,zs,t.az⟩:T7) PR (fun q=>(Value.slice a2 zs.length c2).ownBlock=some q):=⟨j8.r,MX,fun q h1 h2=>by have:=(g3.lt h2).1;have:=(j9 q (.inl h1)).2;omega,fun q h1=>⟨by have:=(j9 q (.inl h1)).1;omega,(j8.rB q h1).2⟩,fun q h1=>⟨by have:=(g3.lt h1).1;omega,(g3.lt h1).2⟩⟩
    have eO:∀q,nC PR (fun q=>(Value.slice a2 zs.length c2).ownBlock=some q) q->q≠w3.1.size/\q≠w.1.size+2:=fun q hq=>by
     rcases hq with hq|hq
     ·have:=j9 q (.inl hq);omega
     ·have:=(g3.lt hq).1;omega
    have JF:OT (w8.setCell ⟨w3.1.size,5,none⟩ (.slice a2 zs.length c2)) w.1.size ⟨a4,c4,a2,c2⟩ (⟨t.id,t.l,t.o,t.u,t.b,zs,t.az⟩:T7) PR (fun q=>(Value.slice a2 zs.length c2).ownBlock=some q):=ot.aL (by simp[World.setCell]) (fun q _ hq=>Below.heap_setCell _ _ _ _ (eO q hq).1);exact JF.aL (w':=iw (w8.setCell ⟨w3.1.size,5,none⟩ (.slice a2 zs.length c2)) (w.1.size+2) ⟨a4,c4,a2,c2⟩ (⟨t.id,t.l,t.o,t.u,t.b,zs,t.az⟩:T7)) (by rw[je];exact Nat.le_refl _) (fun q _ hq=>fq (eO q hq).2)
   | none=>
    have cF:=JM w6 X3.1.size p mb m pv t.ag H6.out.1;have e1:iD t.ag n.a n.e=⟨0,0,0,false,0⟩:=by simp[iD,hW]
    simp only[e1]at Rz H6 ⊢;go_wp2_with fail;rw[<-Rz];clear Rz;refine cF.mono ?_;clear cF;rintro e V7 ⟨rfl,rfl⟩;by_cases uI:t.ag.length=12
    ·have d12:decide (12<=t.ag.length)=true:=by simp;omega
     rw[d12];have HN:Hid (dw t n=kC/\fV t n=false):=⟨by simp[dw,hB,hO,hW,uI],by simp[fV,hB,hO,hW,uI]⟩
     have KZ:Hid (BT V7 (w.1.size+2) ⟨none,0,none,0⟩ ⟨0,0,0,0,[],[],0⟩/\Below w.1.size w V7):=⟨H3.out.2.1.later H6.out.2.1,H3.out.2.2.1.trans (H6.out.2.1.mono H3.out.2.2.1.size)⟩
     clear H3 H6 d12;obtain⟨r0,r1,r2,r3,r4,r5,r6,fr,-⟩:=KZ.out.1;have jq:=KZ.out.1.put ⟨none,0,none,0⟩ kC;simp only[iw,kC,List.length_nil]at jq;obtain⟨u0,u1,u2,u3,u4,u5,u6,-,-⟩:=jq;have KU:=ay (And.intro u0 (And.intro u1 (And.intro u2 (And.intro u3 (And.intro u4 (And.intro u5 u6))))));clear u0 u1 u2 u3 u4 u5 u6;have f0:=fr 0;have f1:=fr 1;have f2:=fr 2;have f3:=fr 3;have f4:=fr 4;have f5:=fr 5;have f6:=fr 6;clear fr;simp only[List.length_nil]at r4 r5;go_wp2;obtain⟨u0,u1,u2,u3,u4,u5,u6⟩:=KU.out;refine bodyPost_ret (v:=.tuple #[.agg #[vI 0,vI 0,vI 0,vI 0,.slice none 0 0,.slice none 0 0,vI 0],.bool false]) (by simp[results,results123,go_sem,u0,u1,u2,u3,u4,u5,u6]) rfl ?_;rw[HN.out.1,HN.out.2];exact uM.zero (bS (s:=w.1.size+2) (v:=⟨none,0,none,0⟩) (t:=kC) KZ.out.2 (by omega))
    ·have d12:decide (12<=t.ag.length)=false:=by simp;omega
     rw[d12];have HN:Hid (dw t n=⟨t.id,t.l,t.o,t.u,t.b,rP t.ag n,t.az⟩/\fV t n=true):=⟨by simp[dw,hB,hO,hW,uI],by simp[fV,hB,hO,hW,uI]⟩
     have oG:mi t.ag n.a n.e=none:=hW;have Es:=Ps HT.out.2.1 HT.out.1 HT.out.2.2 oG;obtain⟨⟨n0,n1,n2,n3,n4⟩,-⟩:=H3.out.1.below H6.out.2.1 (by have:=H3.out.2.2.2.1;have:=H3.out.2.2.2.2.2.2.2;omega);simp only[Nat.zero_add]at n1 n2 n3 n4;have cP:=Qe V7 X3.1.size p mb m pv t.ag n H6.out.1 (by omega) (by omega) HT.out.2.2 oG H6.out.2.1.size (Hl HT.out.2.1);have Qz:=ay Es;clear Es d12 oG;go_wp2_with fail;refine cP.mono ?_;clear cP n0 n1 n2 n3 n4;rintro e w7 ⟨rfl,q,cap,m',ys,eI,Fq,jN,XX,b7⟩;have Xt:Below X3.1.size X3 w7:=H6.out.2.1.trans b7;have Pe:ys.length=t.ag.length+1:=by have:=jN.length_eq;simpa using this
     have OQ:ys.Pairwise (fun a b=>jD a≠jD b):=((jN.trans (Ah t.ag n).symm).symm.pairwise_iff (fun {a b} (h:jD a≠jD b)=>h.symm)).1 (Qz.out.imp (fun h=>Int.ne_of_lt h));have cI:=tT w7 X3.1.size p q mb m' cap ys Fq (by omega) (by omega) XX OQ;have H7:Hid (Below X3.1.size X3 w7/\X3.1.size<=p/\X3.1.size<=q/\X3.1.size<=mb/\ys.Perm (t.ag++[n])):=⟨Xt,Fq.bp,Fq.bq,Fq.bm,jN⟩
     clear Xt b7 Fq jN XX OQ eI Pe H6;go_wp2_with fail;refine cI.mono ?_;clear cI;rintro e w8 ⟨v8,zs,rfl,Be,LC,TG,k8⟩;have Ky:Below X3.1.size X3 w8:=H7.out.1.trans (k8.below (fun x hx=>by obtain⟨-,h1,h2,h3,-⟩:=H7.out;rcases hx with rfl|rfl|rfl<;>assumption) H7.out.1.size);have l8:zs=rP t.ag n:=bC.zk jD TG Qz.out (LC.trans (H7.out.2.2.2.2.trans (Ah t.ag n).symm));have HZ:=ay l8;obtain⟨a2,c2,rfl,-⟩:=Be.form;have xB:BT w8 w3.1.size ⟨a4,c4,h4,d4⟩ t:=H3.out.2.2.2.2.1.later Ky;have k4:=xB.c5;have Fu:=xB.fz 5;dsimp only at k4;have SL:X3.1.size<=w7.1.size:=H7.out.1.size;have KF:Hid (BT (w8.setCell ⟨w3.1.size,5,none⟩ (.slice a2 zs.length c2)) w3.1.size ⟨a4,c4,a2,c2⟩ (⟨t.id,t.l,t.o,t.u,t.b,zs,t.az⟩:T7)/\BT (w8.setCell ⟨w3.1.size,5,none⟩ (.slice a2 zs.length c2)) (w.1.size+2) ⟨none,0,none,0⟩ ⟨0,0,0,0,[],[],0⟩/\fC w8 w7.1.size (.slice a2 zs.length c2) zs/\Below X3.1.size X3 w8/\X3.1.size<=w7.1.size):=⟨xB.Bl a2 c2 zs,(H3.out.2.1.later Ky).dX (by dsimp only;have:=H3.out.2.2.2.1;omega) _,Be,Ky,SL⟩
     clear l8 Be LC TG k8 Ky xB SL H7 Qz;have jq:=KF.out.2.1.put ⟨a4,c4,a2,c2⟩ (⟨t.id,t.l,t.o,t.u,t.b,zs,t.az⟩:T7);simp only[iw]at jq;obtain⟨u0,u1,u2,u3,u4,u5,u6,-,-⟩:=jq;have KU:=ay (And.intro u0 (And.intro u1 (And.intro u2 (And.intro u3 (And.intro u4 (And.intro u5 u6))))));clear u0 u1 u2 u3 u4 u5 u6;obtain⟨o0,o1,o2,o3,o4,o5,o6,-,-⟩:=KF.out.1;obtain⟨r0,r1,r2,r3,r4,r5,r6,fr,-⟩:=KF.out.2.1;have f0:=fr 0;have f1:=fr 1;have f2:=fr 2;have f3:=fr 3;have f4:=fr 4;have f5:=fr 5;have f6:=fr 6;clear fr;dsimp only at o0 o1 o2 o3 o4 o5 o6 r4 r5;go_wp2;obtain⟨u0,u1,u2,u3,u4,u5,u6⟩:=KU.out;refine bodyPost_ret (v:=.tuple #[.agg #[vI t.id,vI t.l,vI t.o,vI t.u,.slice a4 t.b.length c4,.slice a2 zs.length c2,vI t.az],.bool true]) (by simp[results,results123,go_sem,u0,u1,u2,u3,u4,u5,u6]) rfl ?_;rw[HN.out.1,HN.out.2,<-HZ.out];obtain⟨g1,g2,g3,g4,g5⟩:=KF.out;obtain⟨-,-,j4,j6,-,j8,j9,j10⟩:=H3.out;have bX:Below w.1.size w (w8.setCell ⟨w3.1.size,5,none⟩ (.slice a2 zs.length c2)):=(j4.trans (g4.mono j4.size)).setCell (p:=⟨w3.1.size,5,none⟩) (by dsimp only;omega) _;refine⟨a4,c4,a2,c2,PR,fun q=>(Value.slice a2 zs.length c2).ownBlock=some q,rfl,?_,bS (s:=w.1.size+2) (v:=⟨a4,c4,a2,c2⟩) (t:=(⟨t.id,t.l,t.o,t.u,t.b,zs,t.az⟩:T7)) bX (by omega)⟩;obtain⟨_,_,e2,MX⟩:=g3.form
     cases e2;have ot:OT w8 w.1.size ⟨a4,c4,a2,c2⟩ (⟨t.id,t.l,t.o,t.u,t.b,zs,t.az⟩:T7) PR (fun q=>(Value.slice a2 zs.length c2).ownBlock=some q):=⟨(j8.later g4).r,MX,fun q h1 h2=>by have:=(g3.lt h2).1;have:=(j9 q (.inl h1)).2;omega,fun q h1=>⟨by have:=(j9 q (.inl h1)).1;omega,((j8.later g4).rB q h1).2⟩,fun q h1=>⟨by have:=(g3.lt h1).1;omega,(g3.lt h1).2⟩⟩
     have eO:∀q,nC PR (fun q=>(Value.slice a2 zs.length c2).ownBlock=some q) q->q≠w3.1.size/\q≠w.1.size+2:=fun q hq=>by
      rcases hq with hq|hq
      ·have:=j9 q (.inl hq);omega
      ·have:=(g3.lt hq).1;omega
     have JF:OT (w8.setCell ⟨w3.1.size,5,none⟩ (.slice a2 zs.length c2)) w.1.size ⟨a4,c4,a2,c2⟩ (⟨t.id,t.l,t.o,t.u,t.b,zs,t.az⟩:T7) PR (fun q=>(Value.slice a2 zs.length c2).ownBlock=some q):=ot.aL (by simp[World.setCell]) (fun q _ hq=>Below.heap_setCell _ _ _ _ (eO q hq).1);exact JF.aL (w':=iw (w8.setCell ⟨w3.1.size,5,none⟩ (.slice a2 zs.length c2)) (w.1.size+2) ⟨a4,c4,a2,c2⟩ (⟨t.id,t.l,t.o,t.u,t.b,zs,t.az⟩:T7)) (by rw[je];exact Nat.le_refl _) (fun q _ hq=>fq (eO q hq).2)
end tx
section
open Go.Proofs.Tryz
def Nw(t:tx.T7)(n:S5):Int:=if tx.fV t n=true then 0 else 9
theorem IA(w:World)(B d:Nat)(a1:OA)(c1:Nat)(a2:OA)(c2:Nat)(a3:OA)(c3:Nat)(k:C6)(i:Nat)(u:tx.TV)(t:tx.T7)(P:Nat->Prop)(n:S5)(hk:aF k=true)(h:cO.Rd w a1 c1 a2 c2 a3 c3 k)(hd:DB w B d a1 c1 a2 c2 a3 c3 k i u t P)(hl:tx.TL t)(Ny:B<=w.1.size):
  Calls prog 71 #[.pointer (some ⟨d,0,none⟩),.agg #[vI n.a,vI n.e,vI n.h,.bool n.j,vI n.i]] w (Qy w B d a1 c1 a2 c2 a3 c3 k i P (tx.dw t n) (Nw t n) (.tuple #[])):=by
 obtain⟨U,hU,bU,xU,sU⟩:=jU w [vI n.a,vI n.e,vI n.h,.bool n.j,vI n.i] 73;have HR:Hid (cO.Rd U a1 c1 a2 c2 a3 c3 k/\aF k=true/\DB U B d a1 c1 a2 c2 a3 c3 k i u t P/\tx.TL t/\Below w.1.size w U/\d<w.1.size/\B<=d/\B<=w.1.size):=⟨h.later bU,hk,hd.later bU,hl,bU,hd.bx.2.2,hd.lo,Ny⟩
 have hS:(fun Z:World=>Below U.1.size U Z/\Bx Z d [vI k.v,vI k.q,.slice a1 k.f.length c1,.slice a2 k.aa.length c2,.slice a3 k.c.length c3,.bool k.w,vI (i:Int),vI t.id,vI t.l,vI t.o,vI t.u,.slice u.ar t.b.length u.cr,.slice u.ah t.ag.length u.ch,vI t.az]/\Bx Z w.1.size [vI n.a,vI n.e,vI n.h,.bool n.j,vI n.i]) U.drew:=⟨aN.drew,HR.out.2.2.1.bx.later (aN.drew),xU.later (aN.drew)⟩
 clear h hk hd hl bU xU sU Ny;go_enter func71,ntmps71;go_wp2_with fail;rw[<-hU];clear hU;refine aY (fun z=>z==10) (fun Z:World=>Below U.1.size U Z/\Bx Z d [vI k.v,vI k.q,.slice a1 k.f.length c1,.slice a2 k.aa.length c2,.slice a3 k.c.length c3,.bool k.w,vI (i:Int),vI t.id,vI t.l,vI t.o,vI t.u,.slice u.ar t.b.length u.cr,.slice u.ah t.ag.length u.ch,vI t.az]/\Bx Z w.1.size [vI n.a,vI n.e,vI n.h,.bool n.j,vI n.i]) (by kernel_rfl) ?_;generalize U.drew=Wd at *;refine cu 0 rfl hS ?_;simp only[Act.put];refine TF 1 (.pointer (some ⟨d,0,none⟩)) rfl ?_ hS ?_
 ·(intro w _;go_simp)
 simp only[Act.put];refine cu 2 rfl hS ?_;simp only[Act.put];refine iZ 3 (.agg #[vI t.id,vI t.l,vI t.o,vI t.u,.slice u.ar t.b.length u.cr,.slice u.ah t.ag.length u.ch,vI t.az]) rfl ?_ hS ?_
 ·(intro w aH;have q7:=aH.2.1.1 7 _ rfl;have q8:=aH.2.1.1 8 _ rfl;have q9:=aH.2.1.1 9 _ rfl;have nx:=aH.2.1.1 10 _ rfl;have nB:=aH.2.1.1 11 _ rfl;have nF:=aH.2.1.1 12 _ rfl;have n6:=aH.2.1.1 13 _ rfl;clear hS aH;go_simp)
 simp only[Act.put];refine iZ 4 (.agg #[vI n.a,vI n.e,vI n.h,.bool n.j,vI n.i]) rfl ?_ hS ?_
 ·(intro w aH;have q0:=aH.2.2.1 0 _ rfl;have q1:=aH.2.2.1 1 _ rfl;have q2:=aH.2.2.1 2 _ rfl;have q3:=aH.2.2.1 3 _ rfl;have q4:=aH.2.2.1 4 _ rfl;clear hS aH;go_simp)
 simp only[Act.put];refine sJ (rs:=[5,9]) (by kernel_rfl) (by simp) ?_;refine sM.cons rfl (fun K hK=>?_) (sM.cons rfl (fun K hK=>?_) sM.nil)
 case' refine_1=>
  go_simp;have cA:=tx.rM Wd u t n HR.out.2.2.2.1 (HR.out.2.2.1.ow.sl.later hS.1);simp only[tx.TV.val]at cA;refine cA.mono ?_;clear cA;rintro e X ⟨va,vc,vh,vd,PR,PS,rfl,yD,bX⟩;have HO:Hid (tx.OT X Wd.1.size ⟨va,vc,vh,vd⟩ (tx.dw t n) PR PS/\Below U.1.size U Wd):=⟨yD,hS.1⟩
  replace hS:(fun Z:World=>Below U.1.size U Z/\Bx Z d [vI k.v,vI k.q,.slice a1 k.f.length c1,.slice a2 k.aa.length c2,.slice a3 k.c.length c3,.bool k.w,vI (i:Int),vI t.id,vI t.l,vI t.o,vI t.u,.slice u.ar t.b.length u.cr,.slice u.ah t.ag.length u.ch,vI t.az]/\Bx Z w.1.size [vI n.a,vI n.e,vI n.h,.bool n.j,vI n.i]) X:=⟨au hS.1 bX,hS.2.1.later bX,hS.2.2.later bX⟩
  refine hK.out _ _ (fun _=>hS) ?_;clear hK K yD bX;refine cu 6 rfl hS ?_;simp only[Act.put];refine cu 7 rfl hS ?_;simp only[Act.put];refine cu 8 rfl hS ?_;simp only[Act.put];refine dJ 9 rfl (fun K hK=>?_);go_simp;have bV:Below X.1.size X (X.alloc (.cells #[vI 0,vI 0,vI 0,vI 0,.slice none 0 0,.slice none 0 0,vI 0] 53)):=aN.alloc aU _;have xV:Bx (X.alloc (.cells #[vI 0,vI 0,vI 0,vI 0,.slice none 0 0,.slice none 0 0,vI 0] 53)) X.1.size SK:=Bx.made X SK _;have HX:Hid (X.1.size=X.1.size):=rfl;obtain⟨V,hV⟩:∃V,V=X.alloc (.cells #[vI 0,vI 0,vI 0,vI 0,.slice none 0 0,.slice none 0 0,vI 0] 53):=⟨_,rfl⟩
  obtain⟨bb,qQ⟩:∃bb,bb=X.1.size:=⟨_,rfl⟩
  rw[<-hV,<-qQ]at xV;rw[<-hV]at bV;rw[<-hV,<-qQ];have DU:Hid (tx.OT V Wd.1.size ⟨va,vc,vh,vd⟩ (tx.dw t n) PR PS/\Below U.1.size U Wd/\(∀q,tx.nC PR PS q->q≠bb)/\U.1.size<=bb):=⟨HO.out.1.later bV,HO.out.2,fun q hq=>by have:=(HO.out.1.of hq).2;omega,by have:=hS.1.size;omega⟩
  replace hS:(fun Z:World=>Below U.1.size U Z/\Bx Z d [vI k.v,vI k.q,.slice a1 k.f.length c1,.slice a2 k.aa.length c2,.slice a3 k.c.length c3,.bool k.w,vI (i:Int),vI t.id,vI t.l,vI t.o,vI t.u,.slice u.ar t.b.length u.cr,.slice u.ah t.ag.length u.ch,vI t.az]/\Bx Z w.1.size [vI n.a,vI n.e,vI n.h,.bool n.j,vI n.i]) V:=⟨au hS.1 bV,hS.2.1.later bV,hS.2.2.later bV⟩
  clear bV HO HX;clear hV qQ;clear X;refine hK.out _ _ (fun _=>hS) ?_;clear hK K
 case' refine_2=>
  go_simp;obtain⟨V0,hV⟩:∃V,V=Wd.alloc (.cells #[vI 0,vI 0,vI 0,vI 0,.slice none 0 0,.slice none 0 0,vI 0] 53):=⟨_,rfl⟩
  obtain⟨bb,qQ⟩:∃bb,bb=Wd.1.size:=⟨_,rfl⟩
  have bV:Below Wd.1.size Wd V0:=by rw[hV];exact aN.alloc aU _
  have V8:Bx V0 bb SK:=by rw[hV,qQ];exact Bx.made Wd SK _
  rw[<-hV,<-qQ];have TU:Hid (U.1.size<=bb/\bb<V0.1.size):=⟨by have:=hS.1.size;omega,V8.2.2⟩
  replace hS:(fun Z:World=>Below U.1.size U Z/\Bx Z d [vI k.v,vI k.q,.slice a1 k.f.length c1,.slice a2 k.aa.length c2,.slice a3 k.c.length c3,.bool k.w,vI (i:Int),vI t.id,vI t.l,vI t.o,vI t.u,.slice u.ar t.b.length u.cr,.slice u.ah t.ag.length u.ch,vI t.az]/\Bx Z w.1.size [vI n.a,vI n.e,vI n.h,.bool n.j,vI n.i]) V0:=⟨au hS.1 bV,hS.2.1.later bV,hS.2.2.later bV⟩
  refine hK.out _ _ (fun _=>hS) ?_;clear hK K bV hV qQ;clear Wd;refine dJ 5 rfl (fun K hK=>?_);go_simp;have cA:=tx.rM V0 u t n HR.out.2.2.2.1 (HR.out.2.2.1.ow.sl.later hS.1);simp only[tx.TV.val]at cA;refine cA.mono ?_;clear cA;rintro e X ⟨va,vc,vh,vd,PR,PS,rfl,yD,bX⟩;have HO:Hid (tx.OT X V0.1.size ⟨va,vc,vh,vd⟩ (tx.dw t n) PR PS/\Below U.1.size U V0):=⟨yD,hS.1⟩
  have xV:=V8.later bX;have DU:Hid (tx.OT X V0.1.size ⟨va,vc,vh,vd⟩ (tx.dw t n) PR PS/\Below U.1.size U V0/\(∀q,tx.nC PR PS q->q≠bb)/\U.1.size<=bb):=⟨yD,hS.1,fun q hq=>by have:=(yD.of hq).1;have:=TU.out.2;omega,TU.out.1⟩
  replace hS:(fun Z:World=>Below U.1.size U Z/\Bx Z d [vI k.v,vI k.q,.slice a1 k.f.length c1,.slice a2 k.aa.length c2,.slice a3 k.c.length c3,.bool k.w,vI (i:Int),vI t.id,vI t.l,vI t.o,vI t.u,.slice u.ar t.b.length u.cr,.slice u.ah t.ag.length u.ch,vI t.az]/\Bx Z w.1.size [vI n.a,vI n.e,vI n.h,.bool n.j,vI n.i]) X:=⟨au hS.1 bX,hS.2.1.later bX,hS.2.2.later bX⟩
  refine hK.out _ _ (fun _=>hS) ?_;clear hK K;clear yD bX HO V8 TU;refine cu 6 rfl hS ?_;simp only[Act.put];refine cu 7 rfl hS ?_;simp only[Act.put];refine cu 8 rfl hS ?_;simp only[Act.put];generalize X=V at *;generalize V0=Wd at *
 all_goals
  have c0:=xV.1 0 _ rfl;have f0:=xV.2.1 0;have c1:=xV.1 1 _ rfl;have f1:=xV.2.1 1;have c2:=xV.1 2 _ rfl;have f2:=xV.2.1 2;have c3:=xV.1 3 _ rfl;have f3:=xV.2.1 3;have c4:=xV.1 4 _ rfl;have f4:=xV.2.1 4;have c5:=xV.1 5 _ rfl;have f5:=xV.2.1 5;have c6:=xV.1 6 _ rfl;have f6:=xV.2.1 6;refine dJ 10 rfl (fun K hK=>?_);go_simp;refine hK.out _ _ (fun h=>absurd (show false=true from h.symm.trans (by kernel_rfl)) (by decide)) ?_;clear hK K;refine dJ 11 rfl (fun K hK=>?_);go_simp;refine hK.out _ _ (fun h=>absurd (show false=true from h.symm.trans (by kernel_rfl)) (by decide)) ?_;clear hK K;refine df (by kernel_rfl) ?_ _;clear c0 f0 c1 f1 c2 f2 c3 f3 c4 f4 c5 f5 c6 f6;obtain⟨Y,hY⟩:∃Y,Y=dU V bb 0 (tx.nO va vc vh vd (tx.dw t n)):=⟨_,rfl⟩
  have yb:=xV.put (tx.nO va vc vh vd (tx.dw t n)) rfl;rw[<-hY]at yb;have La:Y=(((((((V.setCell ⟨bb,0,none⟩ (vI (tx.dw t n).id)).setCell ⟨bb,1,none⟩ (vI (tx.dw t n).l)).setCell ⟨bb,2,none⟩ (vI (tx.dw t n).o)).setCell ⟨bb,3,none⟩ (vI (tx.dw t n).u)).setCell ⟨bb,4,none⟩ (.slice va (tx.dw t n).b.length vc)).setCell ⟨bb,5,none⟩ (.slice vh (tx.dw t n).ag.length vd)).setCell ⟨bb,6,none⟩ (vI (tx.dw t n).az)):=hY;rw[<-La];have dO:Y.1.size=V.1.size:=by rw[hY];exact bu _ _ _ _
  have dX:∀q,q≠bb->Y.1[q]?=V.1[q]?:=fun q hq=>by rw[hY];exact aX hq _ _ _
  have h1:=DU.out.2.1.size;have h2:=HR.out.2.2.2.2.1.size;have BY:Hid (Below w.1.size w Y):=by unfold Hid;rw[hY];exact bn (by have:=DU.out.2.2.2;omega) _ _ _ (au HR.out.2.2.2.2.1 hS.1)
  have yz:d≠bb:=by have:=DU.out.2.2.2;have:=HR.out.2.2.2.2.2.1;omega
  have KY:Hid (Bx Y d [vI k.v,vI k.q,.slice a1 k.f.length c1,.slice a2 k.aa.length c2,.slice a3 k.c.length c3,.bool k.w,vI (i:Int),vI t.id,vI t.l,vI t.o,vI t.u,.slice u.ar t.b.length u.cr,.slice u.ah t.ag.length u.ch,vI t.az]/\Bx Y bb (tx.nO va vc vh vd (tx.dw t n))/\d≠bb):=⟨hS.2.1.aj (dX d yz) (Nat.le_of_eq dO.symm),yb,yz⟩
  have Uv:∀q,tx.nC PR PS q->Wd.1.size<=q/\q<V.1.size:=fun q hq=>DU.out.1.of hq
  have KO:Hid (KT.Ow Y Wd.1.size va vc vh vd (tx.dw t n) (tx.nC PR PS)/\(∀q,tx.nC PR PS q->q≠d/\w.1.size<=q)/\B<=Wd.1.size):=by
   refine⟨KT.Ow.aL (w:=V) ⟨PR,PS,DU.out.1,fun q hq=>hq,Uv⟩ (Nat.le_of_eq dO.symm) (fun q hq=>dX q (DU.out.2.2.1 q hq)),fun q hq=>?_,by have:=HR.out.2.2.2.2.2.2.2;omega⟩;have:=Uv q hq;have:=HR.out.2.2.2.2.2.1;omega
  have Z9:Hid (cO.Rd Y a1 c1 a2 c2 a3 c3 k):=by
   have hb:Below U.1.size U Y:=by rw[hY];exact bn DU.out.2.2.2 _ _ _ hS.1
   exact HR.out.1.later hb
  clear La hY yb dO dX h1 h2 yz Uv hS xV DU
  cases Lb:tx.fV t n with
  | false=>
   have HC:Hid (Nw t n=9):=by unfold Hid Nw;rw[Lb];rfl
   have hr:=iK Y d a1 c1 a2 c2 a3 c3 k [vI (i:Int),vI t.id,vI t.l,vI t.o,vI t.u,.slice u.ar t.b.length u.cr,.slice u.ah t.ag.length u.ch,vI t.az] 9 HR.out.2.1 Z9.out KY.out.1;clear Lb;go_wp2_with fail;refine hr.mono ?_;clear hr;intro e w2 hr;have HX:Hid (Qy w B d a1 c1 a2 c2 a3 c3 k i P (tx.dw t n) (Nw t n) (.tuple #[]) e w2):=.inl ⟨by rw[HC.out];decide,by rw[HC.out];exact hr.low BY.out⟩;obtain⟨e1,d1,e2,d2,e3,d3,P2,rfl,-,-⟩:=hr;go_wp2;exact⟨rfl,HX.out⟩
  | true=>
   have HC:Hid (Nw t n=0):=by unfold Hid Nw;rw[Lb];rfl
   clear Lb;have y0:=KY.out.2.1.1 0 _ rfl;have g0:=KY.out.1.1 7 _ rfl;have f0:=KY.out.1.2.1 7;have y1:=KY.out.2.1.1 1 _ rfl;have g1:=KY.out.1.1 8 _ rfl;have f1:=KY.out.1.2.1 8;have y2:=KY.out.2.1.1 2 _ rfl;have g2:=KY.out.1.1 9 _ rfl;have f2:=KY.out.1.2.1 9;have y3:=KY.out.2.1.1 3 _ rfl;have g3:=KY.out.1.1 10 _ rfl;have f3:=KY.out.1.2.1 10;have y4:=KY.out.2.1.1 4 _ rfl;have g4:=KY.out.1.1 11 _ rfl;have f4:=KY.out.1.2.1 11;have y5:=KY.out.2.1.1 5 _ rfl;have g5:=KY.out.1.1 12 _ rfl;have f5:=KY.out.1.2.1 12;have y6:=KY.out.2.1.1 6 _ rfl;have g6:=KY.out.1.1 13 _ rfl;have f6:=KY.out.1.2.1 13;obtain⟨Z,hZ⟩:∃Z,Z=(((((((Y.setCell ⟨d,7,none⟩ (vI (tx.dw t n).id)).setCell ⟨d,8,none⟩ (vI (tx.dw t n).l)).setCell ⟨d,9,none⟩ (vI (tx.dw t n).o)).setCell ⟨d,10,none⟩ (vI (tx.dw t n).u)).setCell ⟨d,11,none⟩ (.slice va (tx.dw t n).b.length vc)).setCell ⟨d,12,none⟩ (.slice vh (tx.dw t n).ag.length vd)).setCell ⟨d,13,none⟩ (vI (tx.dw t n).az)):=⟨_,rfl⟩
   have zb:Bx Z d [vI k.v,vI k.q,.slice a1 k.f.length c1,.slice a2 k.aa.length c2,.slice a3 k.c.length c3,.bool k.w,vI (i:Int),vI (tx.dw t n).id,vI (tx.dw t n).l,vI (tx.dw t n).o,vI (tx.dw t n).u,.slice va (tx.dw t n).b.length vc,.slice vh (tx.dw t n).ag.length vd,vI (tx.dw t n).az]:=by
    rw[hZ];exact((((((KY.out.1.set (i:=7) (by simp) _).set (i:=8) (by simp) _).set (i:=9) (by simp) _).set (i:=10) (by simp) _).set (i:=11) (by simp) _).set (i:=12) (by simp) _).set (i:=13) (by simp) _
   have zt:di d w Z:=by
    rw[hZ];exact((((((((di.refl d w).bN BY.out).setCell 7 _).setCell 8 _).setCell 9 _).setCell 10 _).setCell 11 _).setCell 12 _).setCell 13 _
   have zf:∀q,q≠d->Z.1[q]?=Y.1[q]?:=fun q hq=>by
    rw[show Z=dU Y d 7 (tx.nO va vc vh vd (tx.dw t n))from hZ];exact aX hq _ _ _
   have zs:Z.1.size=Y.1.size:=by rw[hZ];simp[World.setCell]
   have KE:Hid (Qy w B d a1 c1 a2 c2 a3 c3 k i P (tx.dw t n) (Nw t n) (.tuple #[]) (.returned (.tuple #[])) Z):=.inr ⟨HC.out,rfl,⟨⟨va,vc,vh,vd⟩,tx.nC PR PS,⟨zb,(KO.out.1.aL (Nat.le_of_eq zs.symm) (fun q hq=>zf q (KO.out.2.1 q hq).1)).low KO.out.2.2,fun q hq=>(KO.out.2.1 q hq).1,HR.out.2.2.2.2.2.2.1⟩,fun q hq=>.inr (KO.out.2.1 q hq).2⟩,zt⟩;have HZ:=ay hZ;clear hZ zb zt zf zs;go_wp2;rw[<-HZ.out];exact bodyPost_end (v:=.tuple #[]) (by simp[results,results71]) rfl KE.out
end
namespace tx
open Go.Proofs.Tryz
def dQ(w:World)(b off:Nat)(zs:List Int):Prop:=∀i z,zs[i]?=some z->w.cell? ⟨b,off+i,none⟩=some (vI z)
def ll(w:World)(B:Nat)(a:OA)(n:Nat)(zs:List Int):Prop:=zs.length=n/\(n=0\/∃b off,a=some ⟨b,off,none⟩/\b<B/\dQ w b off zs)
end tx
namespace tx
open Go.Proofs.Tryz
end tx
namespace tx
open Go.Proofs.Tryz
variable {W:World}{v:Value}{zs:List Int}
def NS(w:World)(P:Nat->Prop)(a:OA)(zs:List Int):Prop:=zs=[]\/∃b,a=some ⟨b,0,none⟩/\P b/\b<w.1.size/\dQ w b 0 zs/\Room w b zs.length
theorem NS.sl{w:World}{P:Nat->Prop}{a:OA}(h:NS w P a zs):ll w w.1.size a zs.length zs:=by
 rcases h with e|⟨b,ha,_,hl,hn,_⟩
 ·exact⟨rfl,.inl (by rw[e];rfl)⟩
 ·exact⟨rfl,.inr ⟨b,0,ha,hl,hn⟩⟩
def Ct(z:Int):List Value:=[vI z]
def fO(W:World)(base:Nat)(v:Value)(zs:List Int):Prop:=W.ownsRow base 2 1 v zs.length (zs.flatMap Ct)
theorem Ev:(prog.info? 2).map (fun i=>(i.zero,i.size,i.bytes))=some (some (vI 0),1,8):=by kernel_rfl
theorem LD{base:Nat}(h:fO W base v zs)(z:Int)(hm:zs.length+1<=1048576)(ty:TypeId)(b k:Nat)(src:W.cell? ⟨b,0,none⟩=some (vI z))(gU:base<=W.1.size):
  ∃v' W',(Builtin.append_ #[54,54] ty #[v,.slice (some ⟨b,0,none⟩) 1 k]).run prog W=.ok v' W'/\fO W' base v' (zs++[z])/\W.grownBy W' v.ownBlock/\(v'.ownBlock=v.ownBlock\/v'.ownBlock=some W.1.size):=by
 obtain⟨i0,qR,sD,lL,nL⟩:=partsOf Ev
 exact LJ (cells:=Ct) (sz:=1) (BR:=8) (fun _=>rfl) (fun s u hu=>by simp only[Ct,List.mem_cons,List.not_mem_nil,or_false]at hu;subst hu;rfl) (by omega) underlying54 qR sD lL nL rfl (by omega) h [z] hm ty b 0 k (fun i s e t u hu=>by
  rcases i with _|i
  ·simp at e;subst e;rcases t with _|t
   ·simp[Ct]at hu;subst hu;exact src
   ·simp[Ct]at hu
  ·simp at e) gU
theorem fO.nil(W:World)(base:Nat):fO W base (.slice none 0 0) []:=⟨rfl,.inl ⟨rfl,rfl⟩⟩
theorem fO.lt{base:Nat}(h:fO W base v zs){q:Nat}(e:v.ownBlock=some q):base<=q/\q<W.1.size:=World.ownsRow.lt h q e
theorem fO.later{W':World}{base:Nat}(h:fO W base v zs)(hb:Below W.1.size W W'):fO W' base v zs:=Bf h (fun q e=>hb.block q (h.lt e).2)
theorem fO.made(W:World):fO (W.alloc (.cells #[] 2)) W.1.size (.slice (some ⟨W.1.size,0,none⟩) 0 0) []:=World.ownsRow_made W #[] 0 aU (Nat.zero_le _) rfl
theorem Gq(zs:List Int):zs.flatMap Ct=zs.map (Value.int .i64):=List.map_eq_flatMap.symm
theorem fO.form{base:Nat}(h:fO W base v zs):∃a c,v=.slice a zs.length c/\NS W (fun q=>v.ownBlock=some q) a zs/\zs.length<=c/\(zs≠[]->∃q,a=some ⟨q,0,none⟩):=by
 have h':=h;rcases h.2 with ⟨rfl,h0⟩|⟨q,cap,cur,rfl,hb,hg,hl,_⟩
 ·have hz:=List.eq_nil_of_length_eq_zero h0;exact⟨none,0,by rw[h0],.inl hz,by omega,fun e=>absurd hz e⟩
 ·refine⟨some ⟨q,0,none⟩,cap,rfl,.inr ⟨q,rfl,rfl,(World.ownsRow.lt h q rfl).2,fun i z ez=>?_,fun j hj=>⟨vI (zs[j]'hj),?_,World.ownsRow.frozenAt h j⟩⟩,hl,fun _=>⟨q,rfl⟩⟩
  ·have hi:=(List.getElem?_eq_some_iff.1 ez).1;rw[Nat.zero_add,World.ownsRow.cellAt h i (by omega),Gq,List.getElem?_map,ez];rfl
  ·rw[World.ownsRow.cellAt h j (by omega),Gq,List.getElem?_map,List.getElem?_eq_getElem hj];rfl
def Uc(w:World)(zs:List Int)(e:Ending)(w':World):Prop:=∃v,e=.returned v/\fO w' w.1.size v zs/\Below w.1.size w w'
theorem fO.up{base base':Nat}(h:fO W base' v zs)(hb:base<=base'):fO W base v zs:=by
 obtain⟨h1,h2⟩:=h;refine⟨h1,h2.imp id ?_⟩;rintro ⟨g,cap,cur,e,hg,r⟩;exact⟨g,cap,cur,e,Nat.le_trans hb hg,r⟩
end tx
namespace tx
open Go.Proofs.Tryz
variable {k:Nat}{r:Int}
attribute [local go_sem] Oper.semAt_some
def yo(r:Int)(xs:List N5):List Int:=(xs.filter fun n=>decide (n.a=r)).map N5.e
theorem Qi{xs:List N5}(h:k<xs.length):yo r (xs.take (k+1))=if (aG xs k).a=r then yo r (xs.take k)++[(aG xs k).e]else yo r (xs.take k):=by
 rw[yo,List.take_add_one,fP h];by_cases e:(aG xs k).a=r
 ·simp[yo,e]
 ·simp[yo,e]
theorem EJ(r:Int)(xs:List N5):(yo r xs).length<=xs.length:=by rw[yo,List.length_map];exact List.length_filter_le _ _
theorem JU(w:World)(a:OA)(cap:Nat)(r:Int)(xs:List N5)(hl:xs.length<=100)(hs:jP w w.1.size a xs.length xs):
  Calls prog 118 #[.slice a xs.length cap,vI r] w (Uc w (yo r xs)):=by
 obtain⟨-,h1⟩:=hs;have H1:=ay h1;clear h1;go_enter func118,ntmps118;go_wp2;go_loopw[5,11] (fun v3 v9 wr=>∃k:Nat,k<=xs.length/\v9=vI k/\fO wr w.1.size v3 (yo r (xs.take k))/\Below w.1.size w wr) (fun _ v9 _=>xs.length-(intOf v9).toNat)
 case atStart=>exact⟨0,Nat.zero_le _,rfl,by simpa[yo]using fO.nil w _,aN⟩
 case round=>
  obtain⟨k,hk,rfl,eX,aD⟩:=hrel;by_cases aK:k<xs.length
  ·rcases H1.out with e0|⟨b,off,rfl,hb,hx⟩
   ·omega
   obtain⟨d0,d1,d2,d3,d4⟩:=hx k _ (fP aK);have c0:=(aD.cell (p:=⟨b,off+k*5,none⟩) hb).trans d0;have c1:=(aD.cell (p:=⟨b,off+k*5+1,none⟩) hb).trans d1;have c2:=(aD.cell (p:=⟨b,off+k*5+2,none⟩) hb).trans d2;have c3:=(aD.cell (p:=⟨b,off+k*5+3,none⟩) hb).trans d3;have c4:=(aD.cell (p:=⟨b,off+k*5+4,none⟩) hb).trans d4
   have hm:∀w:World,(method 452 70 (.agg #[vI (aG xs k).a,vI (aG xs k).e,vI (aG xs k).i,vI (aG xs k).h,.bool (aG xs k).j]) "loop.example/g00153/impl.cell").run prog w=.ok (203,.agg #[vI (aG xs k).a,vI (aG xs k).e,vI (aG xs k).i,vI (aG xs k).h,.bool (aG xs k).j]) w:=fun _=>by kernel_rfl
   obtain⟨U,hU⟩:∃V,V=wr.alloc (.cells #[vI (aG xs k).a,vI (aG xs k).e,vI (aG xs k).i,vI (aG xs k).h,.bool (aG xs k).j] 70):=⟨_,rfl⟩
   have bU:Below wr.1.size wr U:=by rw[hU];exact aN.alloc aU _
   have cc:=gI U (aG xs k);have hd:decide ((k:Int)<(xs.length:Int))=true:=by simp;omega
   have dO:=aD.size;have KA:Hid (fO U w.1.size u5 (yo r (xs.take k))/\Below w.1.size w U/\w.1.size<=U.1.size):=⟨eX.later bU,aD.trans (bU.mono dO),Nat.le_trans dO bU.size⟩
   have Aa:=Qi (r:=r) aK;have mh:=EJ r (xs.take k);rw[List.length_take]at mh;have HT:Hid ((yo r (xs.take (k+1))=if (aG xs k).a=r then yo r (xs.take k)++[(aG xs k).e]else yo r (xs.take k))/\(yo r (xs.take k)).length<=100):=⟨Aa,by omega⟩
   clear eX aD d0 d1 d2 d3 d4 hx bU dO Aa mh;go_wp2_with fail;rw[<-hU];clear hU c0 c1 c2 c3 c4 hm;refine cc.mono ?_;clear cc;rintro e w3 ⟨rfl,b3⟩;obtain⟨V,hV,bV,-,zV⟩:=jU w3 [vI (aG xs k).a,vI (aG xs k).e] 126;have Q3:Below U.1.size U V:=au b3 bV;have KV:Hid (fO V w.1.size u5 (yo r (xs.take k))/\Below w.1.size w V/\w.1.size<=V.1.size):=⟨KA.out.1.later Q3,KA.out.2.1.trans (Q3.mono KA.out.2.2),Nat.le_trans KA.out.2.2 Q3.size⟩
   clear KA b3 Q3;by_cases hr:(aG xs k).a=r
   ·have he:((aG xs k).a==r)=true:=by simpa using hr
    obtain⟨X,hX⟩:∃X,X=V.alloc (.cells #[vI (aG xs k).e] 2):=⟨_,rfl⟩
    have bX:Below V.1.size V X:=by rw[hX];exact aN.alloc aU _
    have gG:X.cell? ⟨w3.1.size+1,0,none⟩=some (vI (aG xs k).e):=by rw[hX,<-zV];go_simp
    obtain⟨v',Y,Pb,iY,fI,fK⟩:=LD (KV.out.1.later bX) (aG xs k).e (by have:=HT.out.2;omega) 54 (w3.1.size+1) 1 gG (by have:=bX.size;have:=KV.out.2.2;omega)
    have KE:Hid (fO Y w.1.size v' (yo r (xs.take (k+1)))/\Below w.1.size w Y):=by
     refine⟨by rw[HT.out.1,if_pos hr];exact iY,?_⟩;exact(KV.out.2.1.trans (bX.mono KV.out.2.2)).grown fI (by have:=bX.size;have:=KV.out.2.2;omega) (fun q e=>(KV.out.1.lt e).1)
    rw[hX,hV]at Pb;clear hV hX bV bX zV gG iY fI fK hr KV;go_wp2_with (at_builtin;refine dF _ rfl (.tmp 22) (.tmp 25) 54 rfl _ _ _ _ rfl rfl Pb ?_);exact⟨⟨k+1,by omega,by simp,KE.out.1,KE.out.2⟩,by simp[intOf];omega⟩
   ·have he:((aG xs k).a==r)=false:=by simpa using hr
    have KE:Hid (fO V w.1.size u5 (yo r (xs.take (k+1)))/\Below w.1.size w V):=⟨by rw[HT.out.1,if_neg hr];exact KV.out.1,KV.out.2.1⟩
    rw[hV]at KE;clear hV bV zV hr KV;go_wp2;exact⟨⟨k+1,by omega,by simp,KE.out.1,KE.out.2⟩,by simp[intOf];omega⟩
  ·obtain rfl:k=xs.length:=by omega
   have hd:decide ((xs.length:Int)<(xs.length:Int))=false:=by simp
   rw[List.take_length]at eX;obtain⟨va,vc,rfl,-⟩:=eX.form;have KE:Hid (Below w.1.size w wr/\fO wr w.1.size (.slice va (yo r xs).length vc) (yo r xs)):=⟨aD,eX⟩
   clear eX aD;go_wp2;go_ret;exact⟨_,rfl,KE.out.2,KE.out.1⟩
def xH(r:Int)(xs:List S5):List Int:=(xs.filter fun n=>decide (n.a=r)).map S5.e
theorem Qj{xs:List S5}(h:k<xs.length):xH r (xs.take (k+1))=if (aB xs k).a=r then xH r (xs.take k)++[(aB xs k).e]else xH r (xs.take k):=by
 rw[xH,List.take_add_one,eT h];by_cases e:(aB xs k).a=r
 ·simp[xH,e]
 ·simp[xH,e]
theorem EK(r:Int)(xs:List S5):(xH r xs).length<=xs.length:=by rw[xH,List.length_map];exact List.length_filter_le _ _
theorem JV(w:World)(a:OA)(cap:Nat)(r:Int)(xs:List S5)(hl:xs.length<=100)(hs:Sl w w.1.size a xs.length xs):
  Calls prog 119 #[.slice a xs.length cap,vI r] w (Uc w (xH r xs)):=by
 obtain⟨-,h1⟩:=hs;have H1:=ay h1;clear h1;go_enter func119,ntmps119;go_wp2;go_loopw[5,11] (fun v3 v9 wr=>∃k:Nat,k<=xs.length/\v9=vI k/\fO wr w.1.size v3 (xH r (xs.take k))/\Below w.1.size w wr) (fun _ v9 _=>xs.length-(intOf v9).toNat)
 case atStart=>exact⟨0,Nat.zero_le _,rfl,by simpa[xH]using fO.nil w _,aN⟩
 case round=>
  obtain⟨k,hk,rfl,eX,aD⟩:=hrel;by_cases aK:k<xs.length
  ·rcases H1.out with e0|⟨b,off,rfl,hb,hx⟩
   ·omega
   obtain⟨d0,d1,d2,d3,d4⟩:=hx k _ (eT aK);have c0:=(aD.cell (p:=⟨b,off+k*5,none⟩) hb).trans d0;have c1:=(aD.cell (p:=⟨b,off+k*5+1,none⟩) hb).trans d1;have c2:=(aD.cell (p:=⟨b,off+k*5+2,none⟩) hb).trans d2;have c3:=(aD.cell (p:=⟨b,off+k*5+3,none⟩) hb).trans d3;have c4:=(aD.cell (p:=⟨b,off+k*5+4,none⟩) hb).trans d4
   have hm:∀w:World,(method 452 73 (.agg #[vI (aB xs k).a,vI (aB xs k).e,vI (aB xs k).h,.bool (aB xs k).j,vI (aB xs k).i]) "loop.example/g00153/impl.cell").run prog w=.ok (168,.agg #[vI (aB xs k).a,vI (aB xs k).e,vI (aB xs k).h,.bool (aB xs k).j,vI (aB xs k).i]) w:=fun _=>by kernel_rfl
   obtain⟨U,hU⟩:∃V,V=wr.alloc (.cells #[vI (aB xs k).a,vI (aB xs k).e,vI (aB xs k).h,.bool (aB xs k).j,vI (aB xs k).i] 73):=⟨_,rfl⟩
   have bU:Below wr.1.size wr U:=by rw[hU];exact aN.alloc aU _
   have cc:=fH U (aB xs k);have hd:decide ((k:Int)<(xs.length:Int))=true:=by simp;omega
   have dO:=aD.size;have KA:Hid (fO U w.1.size u5 (xH r (xs.take k))/\Below w.1.size w U/\w.1.size<=U.1.size):=⟨eX.later bU,aD.trans (bU.mono dO),Nat.le_trans dO bU.size⟩
   have Aa:=Qj (r:=r) aK;have mh:=EK r (xs.take k);rw[List.length_take]at mh;have HT:Hid ((xH r (xs.take (k+1))=if (aB xs k).a=r then xH r (xs.take k)++[(aB xs k).e]else xH r (xs.take k))/\(xH r (xs.take k)).length<=100):=⟨Aa,by omega⟩
   clear eX aD d0 d1 d2 d3 d4 hx bU dO Aa mh;go_wp2_with fail;rw[<-hU];clear hU c0 c1 c2 c3 c4 hm;refine cc.mono ?_;clear cc;rintro e w3 ⟨rfl,b3⟩;obtain⟨V,hV,bV,-,zV⟩:=jU w3 [vI (aB xs k).a,vI (aB xs k).e] 126;have Q3:Below U.1.size U V:=au b3 bV;have KV:Hid (fO V w.1.size u5 (xH r (xs.take k))/\Below w.1.size w V/\w.1.size<=V.1.size):=⟨KA.out.1.later Q3,KA.out.2.1.trans (Q3.mono KA.out.2.2),Nat.le_trans KA.out.2.2 Q3.size⟩
   clear KA b3 Q3;by_cases hr:(aB xs k).a=r
   ·have he:((aB xs k).a==r)=true:=by simpa using hr
    obtain⟨X,hX⟩:∃X,X=V.alloc (.cells #[vI (aB xs k).e] 2):=⟨_,rfl⟩
    have bX:Below V.1.size V X:=by rw[hX];exact aN.alloc aU _
    have gG:X.cell? ⟨w3.1.size+1,0,none⟩=some (vI (aB xs k).e):=by rw[hX,<-zV];go_simp
    obtain⟨v',Y,Pb,iY,fI,fK⟩:=LD (KV.out.1.later bX) (aB xs k).e (by have:=HT.out.2;omega) 54 (w3.1.size+1) 1 gG (by have:=bX.size;have:=KV.out.2.2;omega)
    have KE:Hid (fO Y w.1.size v' (xH r (xs.take (k+1)))/\Below w.1.size w Y):=by
     refine⟨by rw[HT.out.1,if_pos hr];exact iY,?_⟩;exact(KV.out.2.1.trans (bX.mono KV.out.2.2)).grown fI (by have:=bX.size;have:=KV.out.2.2;omega) (fun q e=>(KV.out.1.lt e).1)
    rw[hX,hV]at Pb;clear hV hX bV bX zV gG iY fI fK hr KV;go_wp2_with (at_builtin;refine dF _ rfl (.tmp 22) (.tmp 25) 54 rfl _ _ _ _ rfl rfl Pb ?_);exact⟨⟨k+1,by omega,by simp,KE.out.1,KE.out.2⟩,by simp[intOf];omega⟩
   ·have he:((aB xs k).a==r)=false:=by simpa using hr
    have KE:Hid (fO V w.1.size u5 (xH r (xs.take (k+1)))/\Below w.1.size w V):=⟨by rw[HT.out.1,if_neg hr];exact KV.out.1,KV.out.2.1⟩
    rw[hV]at KE;clear hV bV zV hr KV;go_wp2;exact⟨⟨k+1,by omega,by simp,KE.out.1,KE.out.2⟩,by simp[intOf];omega⟩
  ·obtain rfl:k=xs.length:=by omega
   have hd:decide ((xs.length:Int)<(xs.length:Int))=false:=by simp
   rw[List.take_length]at eX;obtain⟨va,vc,rfl,-⟩:=eX.form;have KE:Hid (Below w.1.size w wr/\fO wr w.1.size (.slice va (xH r xs).length vc) (xH r xs)):=⟨aD,eX⟩
   clear eX aD;go_wp2;go_ret;exact⟨_,rfl,KE.out.2,KE.out.1⟩
end tx
section
open Go.Proofs.Tryz
theorem tx.P8{W:World}{base:Nat}{v:Value}{xs:List Int}(h:tx.fO W base v xs)(ys:List Int)(hm:xs.length+ys.length<=1048576)(ty:TypeId)(a:OA)(k:Nat)(src:tx.ll W W.1.size a ys.length ys)(gU:base<=W.1.size):
  ∃a' c' W',(Builtin.append_ #[54,54] ty #[v,.slice a ys.length k]).run prog W=.ok (.slice a' (xs++ys).length c') W'/\tx.fO W' base (.slice a' (xs++ys).length c') (xs++ys)/\W.grownBy W' v.ownBlock:=by
 by_cases e:ys=[]
 ·subst e;obtain⟨i0,qR,sD,lL,nL⟩:=partsOf tx.Ev;obtain⟨a0,c0,rfl,-,hle,-⟩:=h.form;simp only[List.append_nil];refine⟨a0,c0,W,?_,h,⟨rfl,rfl,rfl,Nat.le_refl _,fun _ _ _=>rfl⟩⟩;refine run_append_nothing W 54 54 ty 2 i0 underlying54 qR a0 xs.length c0 hle (.slice a 0 k) ?_
  cases a with
  | none=>exact Src.ofNil W underlying54 k
  | some x=>exact Src.ofSlice W underlying54 x 0 k [] (by simp) (fun j u hu=>by simp at hu) (fun u hu=>by cases hu)
 ·have tF:0<ys.length:=List.length_pos_iff.2 e;obtain⟨_,src⟩:=src;rcases src with src|⟨b,off,rfl,hb,hx⟩
  ·omega
  obtain⟨i0,qR,sD,lL,nL⟩:=partsOf tx.Ev
  obtain⟨v',W',h1,h2,h3,h4⟩:=tx.LJ (cells:=tx.Ct) (sz:=1) (BR:=8) (fun _=>rfl) (fun s u hu=>by simp only[tx.Ct,List.mem_cons,List.not_mem_nil,or_false]at hu;subst hu;rfl) (by omega) underlying54 qR sD lL nL rfl (by omega) h ys hm ty b off k (fun i s e t u hu=>by
   have ht:t=0:=by have:=(List.getElem?_eq_some_iff.1 hu).1;simp[tx.Ct]at this;exact this
   subst ht;simp only[tx.Ct,List.getElem?_cons_zero,Option.some.injEq]at hu;subst hu
   simpa using hx i s e) gU
  obtain⟨a',c',rfl,-⟩:=tx.fO.form h2;exact⟨a',c',W',h1,h2,h3⟩
end
section
open Go.Proofs.Tryz
theorem EG(w:World)(B d:Nat)(a1:OA)(c1:Nat)(a2:OA)(c2:Nat)(a3:OA)(c3:Nat)(k:C6)(i:Nat)(u:tx.TV)(t:tx.T7)(P:Nat->Prop)(r:Int)(hd:DB w B d a1 c1 a2 c2 a3 c3 k i u t P)(hl:t.b.length<=100/\t.ag.length<=100):
  Calls prog 69 #[.pointer (some ⟨d,0,none⟩),vI r] w (tx.Uc w (tx.yo r t.b++tx.xH r t.ag)):=by
 have bd:Below w.1.size w w.drew:=aN.drew;have hS:(fun Z:World=>Below w.1.size w Z/\Bx Z d [vI k.v,vI k.q,.slice a1 k.f.length c1,.slice a2 k.aa.length c2,.slice a3 k.c.length c3,.bool k.w,vI (i:Int),vI t.id,vI t.l,vI t.o,vI t.u,.slice u.ar t.b.length u.cr,.slice u.ah t.ag.length u.ch,vI t.az]) w.drew:=⟨bd,hd.bx.later bd⟩
 have HR:Hid (DB w B d a1 c1 a2 c2 a3 c3 k i u t P/\t.b.length<=100/\t.ag.length<=100):=⟨hd,hl⟩
 obtain⟨zs,l8⟩:∃zs,tx.yo r t.b++tx.xH r t.ag=zs:=⟨_,rfl⟩
 have ph:=ay l8;rw[l8];clear bd hd hl l8;go_enter func69,ntmps69;go_wp2_with fail;refine aY (fun _=>false) (fun Z:World=>Below w.1.size w Z/\Bx Z d [vI k.v,vI k.q,.slice a1 k.f.length c1,.slice a2 k.aa.length c2,.slice a3 k.c.length c3,.bool k.w,vI (i:Int),vI t.id,vI t.l,vI t.o,vI t.u,.slice u.ar t.b.length u.cr,.slice u.ah t.ag.length u.ch,vI t.az]) (by kernel_rfl) ?_;generalize w.drew=Wd at *;refine cu 0 rfl hS ?_;simp only[Act.put];refine TF 1 (.pointer (some ⟨d,0,none⟩)) rfl ?_ hS ?_
 ·(intro w _;go_simp)
 simp only[Act.put];refine cu 2 rfl hS ?_;simp only[Act.put];refine cu 3 rfl hS ?_;simp only[Act.put];refine iZ 4 (.slice u.ar t.b.length u.cr) rfl ?_ hS ?_
 ·(intro w aH;have q0:=aH.2.1 11 _ rfl;clear hS aH;go_simp)
 simp only[Act.put];refine cu 5 rfl hS ?_;simp only[Act.put];refine cu 7 rfl hS ?_;simp only[Act.put];refine TF 8 (.pointer (some ⟨d,0,none⟩)) rfl ?_ hS ?_
 ·(intro w _;go_simp)
 simp only[Act.put];refine cu 9 rfl hS ?_;simp only[Act.put];refine cu 10 rfl hS ?_;simp only[Act.put];refine iZ 11 (.slice u.ah t.ag.length u.ch) rfl ?_ hS ?_
 ·(intro w aH;have q0:=aH.2.1 12 _ rfl;clear hS aH;go_simp)
 simp only[Act.put];refine cu 12 rfl hS ?_;simp only[Act.put];refine dJ 6 rfl (fun K hK=>?_);go_simp;refine(tx.JU Wd u.ar u.cr r t.b HR.out.2.1 (HR.out.1.ow.sl.later hS.1).r).mono ?_;rintro e X1 ⟨v1,rfl,vv,b1⟩;have B0:=ay hS.1;have XH:(fun Z:World=>Below w.1.size w Z/\Bx Z d [vI k.v,vI k.q,.slice a1 k.f.length c1,.slice a2 k.aa.length c2,.slice a3 k.c.length c3,.bool k.w,vI (i:Int),vI t.id,vI t.l,vI t.o,vI t.u,.slice u.ar t.b.length u.cr,.slice u.ah t.ag.length u.ch,vI t.az]) X1:=⟨au hS.1 b1,hS.2.later b1⟩
 refine hK.out _ _ (fun _=>XH) ?_;clear hK K hS;refine dJ 13 rfl (fun K hK=>?_);go_simp;refine(tx.JV X1 u.ah u.ch r t.ag HR.out.2.2 (HR.out.1.ow.sl.later XH.1).s).mono ?_;rintro e X2 ⟨v2,rfl,mT,b2⟩;have gF:(fun Z:World=>Below w.1.size w Z/\Bx Z d [vI k.v,vI k.q,.slice a1 k.f.length c1,.slice a2 k.aa.length c2,.slice a3 k.c.length c3,.bool k.w,vI (i:Int),vI t.id,vI t.l,vI t.o,vI t.u,.slice u.ar t.b.length u.cr,.slice u.ah t.ag.length u.ch,vI t.az]) X2:=⟨au XH.1 b2,XH.2.later b2⟩
 refine hK.out _ _ (fun _=>gF) ?_;clear hK K XH;obtain⟨va,vc,rfl,Mq,-⟩:=tx.fO.form mT;have U6:=tx.fO.later vv b2;have mh:=tx.EJ r t.b;have sm:=tx.EK r t.ag;obtain⟨na,nc,X3,kK,fi,me⟩:=tx.P8 U6 (tx.xH r t.ag) (by have:=HR.out.2;omega) 54 va vc Mq.sl (by have:=b1.size;have:=b2.size;omega);rw[ph.out]at kK fi;have bZ:Below w.1.size w X3:=gF.1.grown me gF.1.size (fun q e=>Nat.le_trans B0.out.size (tx.fO.lt U6 e).1);have jX:(fun Z:World=>Below w.1.size w Z/\Bx Z d [vI k.v,vI k.q,.slice a1 k.f.length c1,.slice a2 k.aa.length c2,.slice a3 k.c.length c3,.bool k.w,vI (i:Int),vI t.id,vI t.l,vI t.o,vI t.u,.slice u.ar t.b.length u.cr,.slice u.ah t.ag.length u.ch,vI t.az]) X3:=⟨bZ,HR.out.1.bx.later bZ⟩
 have HE:Hid (tx.fO X3 w.1.size (.slice na zs.length nc) zs/\Below w.1.size w X3):=⟨fi.up B0.out.size,bZ⟩
 clear b1 b2 vv mT U6 Mq fi me mh sm bZ;refine sJ (rs:=[14]) (by kernel_rfl) (by simp) ?_;refine sM.cons (o:=⟨some 19,_,_,_,_,_⟩) rfl (fun K hK=>?_) sM.nil;refine bJ _ rfl (.tmp 11) (.tmp 18) 54 rfl _ _ _ _ (by first|rfl|simp[Act.eval,Act.put]) (by first|rfl|simp[Act.eval,Act.put]) kK ?_;refine hK.out _ _ (fun _=>jX) ?_;clear hK K kK gF;simp only[Act.put];refine dJ 15 rfl (fun K hK=>?_);go_simp;refine hK.out _ _ (fun _=>jX) ?_;clear hK K;refine df (by kernel_rfl) ?_ _;clear jX;go_wp2;go_ret;exact⟨_,rfl,HE.out.1,HE.out.2⟩
end
section
open Go.Proofs.Tryz
def oL(xs:List C2)(zs:List Int)(i:Nat):Bool:=!fM (at2 xs i).head&&!jH (at2 xs i).head&&!hasB zs (i:Int)
def fE(xs:List C2)(zs:List Int):Nat->Nat->Int
 | _,0=>-1
 | i,m+1=>if oL xs zs i=true then(i:Int)else fE xs zs (i+1) m
def iL(xs:List C2)(zs:List Int):Int:=if eG xs=true then fE xs zs 0 6 else -1
theorem xJ(w:World)(a:OA)(n cap:Nat)(a':OA)(n' aW:Nat)(xs:List C2)(zs:List Int)(hn:n<=maxLen)(hs:nN w w.1.size a n xs)(BK:n'<=maxLen)(z8:ll w w.1.size a' n' zs):
  Calls prog 21 #[.slice a n cap,.slice a' n' aW] w fun e w'=>e=.returned (vI (iL xs zs))/\Below w.1.size w w':=by
 have S0:Hid (nN w w.1.size a n xs/\ll w w.1.size a' n' zs):=⟨hs,z8⟩
 clear hs z8;go_enter func21,ntmps21;go_wp2_with fail;refine(qK w a n cap xs hn S0.out.1).mono ?_
 cases g1:eG xs with
 | false=>
  rintro e w1 ⟨rfl,b1⟩;go_wp2;go_ret;exact⟨by rw[iL,g1];rfl,b1⟩
 | true=>
  rintro e w1 ⟨rfl,b1⟩;have h6:=mD g1;obtain⟨hx,gM⟩:=S0.out.1;have cJ:n=6:=by omega
  subst cJ;rcases gM with h0|⟨b,off,rfl,hb,h1⟩
  ·omega
  ·have K0:Hid (bK w1 b off xs/\ll w1 w1.1.size a' n' zs/\Below w.1.size w w1/\eG xs=true/\xs.length=6):=⟨h1.below b1 hb,S0.out.2.later b1,b1,g1,h6⟩
   have IY:b<w1.1.size:=Nat.lt_of_lt_of_le hb b1.size;clear h1 b1 g1 hx h6 hn;go_wp2;go_loopw[5] (fun v wr=>∃k:Nat,k<=6/\v=vI k/\Below w1.1.size w1 wr/\iL xs zs=fE xs zs k (6-k)) (fun v _=>6-(intOf v).toNat)
   case atStart=>exact⟨0,Nat.zero_le _,rfl,aN,by rw[iL,K0.out.2.2.2.1];rfl⟩
   case round=>
    obtain⟨k,hk,rfl,aD,Ro⟩:=hrel;by_cases aK:k<6
    ·obtain⟨c0,c1⟩:=(K0.out.1.get (i:=k) (by rw[K0.out.2.2.2.2];exact aK)).below aD IY;have hg:=pV K0.out.2.2.2.1 aK;have Gg:iL xs zs=if oL xs zs k=true then(k:Int)else fE xs zs (k+1) (6-(k+1)):=by rw[Ro,show 6-k=(6-(k+1))+1 by omega,fE]
     have K:Hid (Below w1.1.size w1 wr/\ll wr wr.1.size a' n' zs/\(iL xs zs=if oL xs zs k=true then(k:Int)else fE xs zs (k+1) (6-(k+1)))):=⟨aD,K0.out.2.1.later aD,Gg⟩
     have NR:Hid (oL xs zs k=(!fM (at2 xs k).head&&!jH (at2 xs k).head&&!hasB zs (k:Int))):=rfl;have Cj:(k:Int)<6:=by omega
     clear aD Ro Gg;generalize at2 xs k=C at c0 c1 hg NR;obtain⟨h,v⟩:=C;simp only at c0 c1 hg NR
     cases g2:fM h<;>cases g3:jH h<;>cases g4:hasB zs (k:Int)
     all_goals
      rw[g2,g3,g4]at NR;go_wp2_with (first|(go_at_call 51;refine(vS _ _).mono ?_;rw[hg,g2];rintro e w' ⟨rfl,rfl⟩)|(go_at_call 52;refine(Br _ _).mono ?_;rw[hg,g3];rintro e w' ⟨rfl,rfl⟩)|(go_at_call 53;refine(Dn _ a' n' aW _ zs BK (K.out.2.1)).mono ?_;rw[g4];rintro e w' ⟨rfl,rfl⟩))
     all_goals first
      | (go_ret
         exact⟨by rw[K.out.2.2,NR.out];rfl,K0.out.2.2.1.trans ((K.out.1).mono K0.out.2.2.1.size)⟩)
      | exact⟨⟨k+1,by omega,by simp,K.out.1,by rw[K.out.2.2,NR.out];rfl⟩,by simp[intOf];omega⟩
    ·have:k=6:=by omega
     subst this;have HF:Hid (iL xs zs=-1):=by unfold Hid;rw[Ro];rfl
     clear Ro;go_wp2;go_ret;exact⟨by rw[HF.out];rfl,K0.out.2.2.1.trans (aD.mono K0.out.2.2.1.size)⟩
theorem wQ(w:World)(a:OA)(n cap:Nat)(a':OA)(n' aW:Nat)(xs:List C2)(zs:List Int)(hn:n<=maxLen)(hs:nN w w.1.size a n xs)(BK:n'<=maxLen)(z8:ll w w.1.size a' n' zs):
  Calls prog 68 #[.slice a n cap,.slice a' n' aW] w fun e w'=>e=.returned (vI (iL xs zs))/\Below w.1.size w w':=by
 have S0:Hid (nN w w.1.size a n xs/\ll w w.1.size a' n' zs):=⟨hs,z8⟩
 clear hs z8;go_enter func68,ntmps68;go_wp2_with fail;refine(lW w a n cap xs hn S0.out.1).mono ?_
 cases g1:eG xs with
 | false=>
  rintro e w1 ⟨rfl,b1⟩;go_wp2;go_ret;exact⟨by rw[iL,g1];rfl,b1⟩
 | true=>
  rintro e w1 ⟨rfl,b1⟩;have h6:=mD g1;obtain⟨hx,gM⟩:=S0.out.1;have cJ:n=6:=by omega
  subst cJ;rcases gM with h0|⟨b,off,rfl,hb,h1⟩
  ·omega
  ·have K0:Hid (bK w1 b off xs/\ll w1 w1.1.size a' n' zs/\Below w.1.size w w1/\eG xs=true/\xs.length=6):=⟨h1.below b1 hb,S0.out.2.later b1,b1,g1,h6⟩
   have IY:b<w1.1.size:=Nat.lt_of_lt_of_le hb b1.size;clear h1 b1 g1 hx h6 hn;go_wp2;go_loopw[12] (fun v wr=>∃k:Nat,k<=6/\v=vI k/\Below w1.1.size w1 wr/\iL xs zs=fE xs zs k (6-k)) (fun v _=>6-(intOf v).toNat)
   case atStart=>exact⟨0,Nat.zero_le _,rfl,aN,by rw[iL,K0.out.2.2.2.1];rfl⟩
   case round=>
    obtain⟨k,hk,rfl,aD,Ro⟩:=hrel;by_cases aK:k<6
    ·obtain⟨c0,c1⟩:=(K0.out.1.get (i:=k) (by rw[K0.out.2.2.2.2];exact aK)).below aD IY;have hg:=pV K0.out.2.2.2.1 aK;have Gg:iL xs zs=if oL xs zs k=true then(k:Int)else fE xs zs (k+1) (6-(k+1)):=by rw[Ro,show 6-k=(6-(k+1))+1 by omega,fE]
     have K:Hid (Below w1.1.size w1 wr/\ll wr wr.1.size a' n' zs/\(iL xs zs=if oL xs zs k=true then(k:Int)else fE xs zs (k+1) (6-(k+1)))):=⟨aD,K0.out.2.1.later aD,Gg⟩
     have NR:Hid (oL xs zs k=(!fM (at2 xs k).head&&!jH (at2 xs k).head&&!hasB zs (k:Int))):=rfl;have Cj:(k:Int)<6:=by omega
     clear aD Ro Gg;generalize at2 xs k=C at c0 c1 hg NR;obtain⟨h,v⟩:=C;simp only at c0 c1 hg NR
     cases g2:fM h<;>cases g3:jH h<;>cases g4:hasB zs (k:Int)
     all_goals
      rw[g2,g3,g4]at NR;go_wp2_with (first|(go_at_call 115;refine(qi _ _).mono ?_;rw[hg,g2];rintro e w' ⟨rfl,rfl⟩)|(go_at_call 116;refine(mZ _ _).mono ?_;rw[hg,g3];rintro e w' ⟨rfl,rfl⟩)|(go_at_call 117;refine(uU _ a' n' aW _ zs BK (K.out.2.1.later (aN.alloc aU _))).mono ?_;rw[g4];rintro e w' ⟨rfl,rfl⟩))
     all_goals first
      | (go_ret
         exact⟨by rw[K.out.2.2,NR.out];rfl,K0.out.2.2.1.trans ((K.out.1.alloc K.out.1.size _).mono K0.out.2.2.1.size)⟩)
      | exact⟨⟨k+1,by omega,by simp,K.out.1.alloc K.out.1.size _,by rw[K.out.2.2,NR.out];rfl⟩,by simp[intOf];omega⟩
    ·have:k=6:=by omega
     subst this;have HF:Hid (iL xs zs=-1):=by unfold Hid;rw[Ro];rfl
     clear Ro;go_wp2;go_ret;exact⟨by rw[HF.out];rfl,K0.out.2.2.1.trans (aD.mono K0.out.2.2.1.size)⟩
end
section
open Go.Proofs.Tryz
theorem rA{xs:List C2}{zs ys:List Int}(h:∀i:Nat,i<6->hasB zs (i:Int)=hasB ys (i:Int)):∀m i,i+m=6->fE xs zs i m=fE xs ys i m
 | 0,_,_=>rfl
 | m+1,i,e=>by
  have h1:oL xs zs i=oL xs ys i:=by unfold oL;rw[h i (by omega)]
  rw[fE,fE,h1,rA h m (i+1) (by omega)]
theorem FY{xs:List C2}{zs ys:List Int}(h:∀i:Nat,i<6->hasB zs (i:Int)=hasB ys (i:Int)):iL xs zs=iL xs ys:=by
 unfold iL;rw[rA h 6 0 rfl]
theorem yh{xs:List C2}{zs:List Int}:∀m i,i+m=6->fE xs zs i m=-1\/∃j:Nat,fE xs zs i m=(j:Int)/\j<6/\oL xs zs j=true
 | 0,_,_=>.inl rfl
 | m+1,i,e=>by
  rw[fE];split
  ·rename_i h;exact .inr ⟨i,rfl,by omega,h⟩
  ·exact yh m (i+1) (by omega)
theorem OG(xs:List C2)(zs:List Int):iL xs zs=-1\/∃j:Nat,iL xs zs=(j:Int)/\j<6/\oL xs zs j=true/\eG xs=true:=by
 unfold iL;split
 ·rename_i hc;rcases yh (xs:=xs) (zs:=zs) 6 0 rfl with h|⟨j,h1,h2,h3⟩
  ·exact .inl h
  ·exact .inr ⟨j,h1,h2,h3,hc⟩
 ·exact .inl rfl
def GR(t:tx.T7)(r:Int):List Int:=((t.b.filter fun n=>decide (n.a=r)).map tx.N5.e)++((t.ag.filter fun s=>decide (s.a=r)).map S5.e)
def D6(t:tx.T7)(r:Int)(i:Nat):Bool:=(tx.nV t.b r (i:Int)).isSome||(tx.mi t.ag r (i:Int)).isSome
def fZ(t:tx.T7)(r:Int):Nat->List Int
 | 0=>[]
 | i+1=>if D6 t r i=true then fZ t r i++[(i:Int)]else fZ t r i
theorem su(t:tx.T7)(r:Int):∀i,(fZ t r i).length<=i
 | 0=>Nat.le_refl _
 | i+1=>by
  have h:=su t r i;rw[fZ];split
  ·rw[List.length_append,List.length_singleton];omega
  ·omega
theorem Dc(t:tx.T7)(r:Int)(j:Nat):∀i,hasB (fZ t r i) (j:Int)=(decide (j<i)&&D6 t r j)
 | 0=>by simp[fZ,hasB]
 | i+1=>by
  have h:=Dc t r j i;rw[fZ];by_cases hb:D6 t r i=true
  ·rw[if_pos hb,hasB,List.any_append];rw[hasB]at h;rw[h];by_cases e:j=i
   ·subst e;simp[hb]
   ·have e2:decide ((i:Int)=(j:Int))=false:=by rw[decide_eq_false_iff_not];omega
    have e3:decide (j<i+1)=decide (j<i):=by rw[Bool.eq_iff_iff,decide_eq_true_eq,decide_eq_true_eq];omega
    simp[e2,e3]
  ·rw[if_neg hb,h];by_cases e:j=i
   ·subst e;have:D6 t r j=false:=by simpa using hb
    simp[this]
   ·have e3:decide (j<i+1)=decide (j<i):=by rw[Bool.eq_iff_iff,decide_eq_true_eq,decide_eq_true_eq];omega
    rw[e3]
theorem MZ(t:tx.T7)(r:Int)(i:Nat):hasB (GR t r) (i:Int)=D6 t r i:=by
 unfold GR hasB D6;rw[List.any_append];congr 1
 ·rw[Bool.eq_iff_iff,List.any_eq_true,tx.nV,List.findIdx?_isSome,List.any_eq_true];constructor
  ·rintro ⟨z,hz,e⟩;obtain⟨n,hn,rfl⟩:=List.mem_map.1 hz;obtain⟨h1,h2⟩:=List.mem_filter.1 hn;exact⟨n,h1,by simp at h2 e ⊢;exact⟨h2,e⟩⟩
  ·rintro ⟨n,hn,e⟩;simp at e;exact⟨n.e,List.mem_map.2 ⟨n,List.mem_filter.2 ⟨hn,by simpa using e.1⟩,rfl⟩,by simpa using e.2⟩
 ·rw[Bool.eq_iff_iff,List.any_eq_true,tx.mi,List.findIdx?_isSome,List.any_eq_true];constructor
  ·rintro ⟨z,hz,e⟩;obtain⟨n,hn,rfl⟩:=List.mem_map.1 hz;obtain⟨h1,h2⟩:=List.mem_filter.1 hn;exact⟨n,h1,by simp at h2 e ⊢;exact⟨h2,e⟩⟩
  ·rintro ⟨n,hn,e⟩;simp at e;exact⟨n.e,List.mem_map.2 ⟨n,List.mem_filter.2 ⟨hn,by simpa using e.1⟩,rfl⟩,by simpa using e.2⟩
theorem Mh(xs:List C2)(t:tx.T7)(r:Int):iL xs (fZ t r 6)=iL xs (GR t r):=
 FY fun i hi=>by rw[Dc,MZ,decide_eq_true hi,Bool.true_and]
noncomputable def qL(k:C6)(t:tx.T7)(r:Int):Int:=iL (jF k r) (GR t r)
noncomputable def IB(k:C6)(t:tx.T7)(r:Int):Int:=kP (at2 (jF k r) (qL k t r).toNat).head
noncomputable def pM(k:C6)(t:tx.T7)(r:Int):tx.N5:=⟨r,qL k t r,IB k t r,0,false⟩
noncomputable def xW(k:C6)(t:tx.T7)(r:Int):S5:=⟨r,qL k t r,0,true,IB k t r⟩
noncomputable def nD(k:C6)(t:tx.T7)(r:Int):Int:=if bH 0 ((k.f.length:Int)-1) r=true then(if qZ k r=true then(if qL k t r<0 then 9 else(if tx.fD t (pM k t r)=true then(if tx.fV (tx.dL t (pM k t r)) (xW k t r)=true then 0 else 9)else 9))else 6)else 5
noncomputable def sP(k:C6)(t:tx.T7)(r:Int):tx.T7:=tx.dw (tx.dL t (pM k t r)) (xW k t r)
theorem Kt{k:C6}{t:tx.T7}{r:Int}(h:¬qL k t r<0):bH 0 5 (qL k t r)=true/\l9 (jF k r) (qL k t r)=true/\yS (jF k r) r (qL k t r)=pM k t r:=by
 rcases OG (jF k r) (GR t r)with e|⟨j,e,hj,hf,hc⟩
 ·exact absurd (by rw[qL,e];decide) h
 ·have es:qL k t r=(j:Int):=e;have hb:=pV hc hj
  have aO:jI (at2 (jF k r) j)=true:=by
   have h6:=mD hc;simp only[eG,Bool.and_eq_true,List.all_eq_true]at hc;have:=hc.2 (jF k r)[j] (List.getElem_mem (by omega));rwa[at2,List.getElem?_eq_getElem (by omega)]
  simp only[oL,Bool.and_eq_true,Bool.not_eq_true']at hf;have BJ:bH 0 5 (j:Int)=true:=jV (by omega) (by omega);have lT:l9 (jF k r) (j:Int)=true:=by rw[l9,hc,BJ,Int.toNat_natCast,hf.1.2];rfl
  have hv:(at2 (jF k r) j).h=0:=by
   simp only[jI,Bool.and_eq_true,Bool.or_eq_true,decide_eq_true_eq,hf.1.1]at aO;rcases aO.2 with h1|h1
   ·cases h1
   ·exact h1
  refine⟨by rw[es];exact BJ,by rw[es];exact lT,?_⟩;rw[pM,IB,es,yS,fu,if_pos lT,Int.toNat_natCast,hv,hf.1.1,Bool.and_false]
end
section
open Go.Proofs.Tryz
def T9(wr w:World)(B d:Nat)(a1:OA)(c1:Nat)(a2:OA)(c2:Nat)(a3:OA)(c3:Nat)(k:C6)(i:Nat)(P:Nat->Prop)(N:tx.T7)(n:Int)(v:Value)(e:Ending)(w':World):Prop:=(n≠0/\nE wr k n e w')\/(n=0/\e=.returned v/\(∃u P',DB w' B d a1 c1 a2 c2 a3 c3 k i u N P'/\∀q,P' q->P q\/w.1.size<=q)/\di d w w')
theorem C9(t:tx.T7)(x:tx.N5):(tx.dL t x).b.length<=t.b.length+1/\(tx.dL t x).ag.length<=t.ag.length:=by
 unfold tx.dL;split
 ·split
  ·exact⟨by omega,Nat.le_refl _⟩
  ·split
   ·simp[tx.kC]
   ·exact⟨by simp only[tx.yK,List.length_append,List.length_take,List.length_drop,List.length_singleton];omega,Nat.le_refl _⟩
 ·simp[tx.kC]
theorem LV(wr w:World)(B d:Nat)(a1:OA)(c1:Nat)(a2:OA)(c2:Nat)(a3:OA)(c3:Nat)(k:C6)(i:Nat)(u:tx.TV)(t:tx.T7)(P:Nat->Prop)(r:Int)(hk:aF k=true)(lT:cO.L k)(h:cO.Rd wr a1 c1 a2 c2 a3 c3 k)(hw:Below wr.1.size wr w)(Nz:wr.1.size<=d)(hd:DB w B d a1 c1 a2 c2 a3 c3 k i u t P)(hl:tx.TL t)(Ny:B<=w.1.size)(hT:tx.ky t=true):
  Calls prog 31 #[.pointer (some ⟨d,0,none⟩),vI r] w (T9 wr w B d a1 c1 a2 c2 a3 c3 k i P (sP k t r) (nD k t r) (vI (qL k t r))):=by
 have hle:=tx.jT hT;have H:Hid (cO.Rd wr a1 c1 a2 c2 a3 c3 k/\Below wr.1.size wr w/\wr.1.size<=d/\DB w B d a1 c1 a2 c2 a3 c3 k i u t P/\tx.TL t/\B<=w.1.size/\(t.b.length<=12/\t.ag.length<=12)/\aF k=true/\cO.L k):=⟨h,hw,Nz,hd,hl,Ny,hle,hk,lT⟩
 have fG:=h.later hw
 cases hy:bH 0 ((k.f.length:Int)-1) r with
 | false=>
  have hn:=Jm w d a1 c1 a2 c2 a3 c3 k [vI (i:Int),vI t.id,vI t.l,vI t.o,vI t.u,.slice u.ar t.b.length u.cr,.slice u.ah t.ag.length u.ch,vI t.az] r hk lT fG hd.bx hy;have HC:Hid (nD k t r=5):=by unfold Hid;rw[nD,hy];rfl
  clear hle h hw Nz hd hl Ny hT hk lT fG hy;go_enter func31,ntmps31;go_wp2_with fail;refine hn.mono ?_;clear hn;intro e w9 hr;have HX:Hid (T9 wr w B d a1 c1 a2 c2 a3 c3 k i P (sP k t r) (nD k t r) (vI (qL k t r)) e w9):=.inl ⟨by rw[HC.out];decide,by rw[HC.out];exact hr.low H.out.2.1⟩;obtain⟨e1,d1,e2,d2,e3,d3,P3,rfl,-,-⟩:=hr;go_wp2;exact⟨rfl,HX.out⟩
 | true=>
 have hn:=GG w d a1 c1 a2 c2 a3 c3 k [vI (i:Int),vI t.id,vI t.l,vI t.o,vI t.u,.slice u.ar t.b.length u.cr,.slice u.ah t.ag.length u.ch,vI t.az] r hk lT fG hd.bx hy;have HC:Hid (nD k t r=if qZ k r=true then(if qL k t r<0 then 9 else(if tx.fD t (pM k t r)=true then(if tx.fV (tx.dL t (pM k t r)) (xW k t r)=true then 0 else 9)else 9))else 6):=by unfold Hid;rw[nD,if_pos hy]
 clear hle h hw Nz hd hl Ny hT hk lT fG hy;go_enter func31,ntmps31;go_wp2_with fail;refine hn.mono ?_;clear hn;rintro e w1 ⟨rfl,b1⟩;have B1:Hid (Below w.1.size w w1):=b1;have fG:=H.out.1.later (au H.out.2.1 b1);have dK:=H.out.2.2.2.1.bx.later b1;clear b1
 cases hc:qZ k r with
 | false=>
  have hp:=P6 w1 d a1 c1 a2 c2 a3 c3 k [vI (i:Int),vI t.id,vI t.l,vI t.o,vI t.u,.slice u.ar t.b.length u.cr,.slice u.ah t.ag.length u.ch,vI t.az] r H.out.2.2.2.2.2.2.2.1 H.out.2.2.2.2.2.2.2.2 fG dK hc;have gC:Hid (nD k t r=6):=by unfold Hid;rw[HC.out,hc];rfl
  clear fG dK hc;go_wp2_with fail;refine hp.mono ?_;clear hp;intro e w9 hr;have HX:Hid (T9 wr w B d a1 c1 a2 c2 a3 c3 k i P (sP k t r) (nD k t r) (vI (qL k t r)) e w9):=.inl ⟨by rw[gC.out];decide,by rw[gC.out];exact hr.low (au H.out.2.1 B1.out)⟩;obtain⟨e1,d1,e2,d2,e3,d3,P3,rfl,-,-⟩:=hr;go_wp2;exact⟨rfl,HX.out⟩
 | true=>
 have hp:=M6 w1 d a1 c1 a2 c2 a3 c3 k [vI (i:Int),vI t.id,vI t.l,vI t.o,vI t.u,.slice u.ar t.b.length u.cr,.slice u.ah t.ag.length u.ch,vI t.az] r H.out.2.2.2.2.2.2.2.2 fG dK hc;have Iu:Hid (nD k t r=if qL k t r<0 then 9 else(if tx.fD t (pM k t r)=true then(if tx.fV (tx.dL t (pM k t r)) (xW k t r)=true then 0 else 9)else 9)):=by unfold Hid;rw[HC.out,if_pos hc]
 have jh:(jF k r).length<=maxLen:=by
  have:=Q5 H.out.2.2.2.2.2.2.2.1 r;unfold maxLen;omega
 have HL:Hid ((jF k r).length<=maxLen):=jh;have OY:=fun h:0<=qL k t r=>Kt (k:=k) (t:=t) (r:=r) (by omega)
 have Ce:qL k t r=iL (jF k r) (tx.yo r t.b++tx.xH r t.ag):=rfl;have WR:pM k t r=⟨r,qL k t r,IB k t r,0,false⟩:=rfl;have lR:xW k t r=⟨r,qL k t r,0,true,IB k t r⟩:=rfl;have nn:sP k t r=tx.dw (tx.dL t (pM k t r)) (xW k t r):=rfl;obtain⟨xs,tH⟩:∃xs,jF k r=xs:=⟨_,rfl⟩
 rw[tH]at hp HL OY Ce;clear tH jh fG dK hc HC;go_wp2_with fail;refine hp.mono ?_;clear hp;rintro e w2 ⟨ca,cc,rfl,Yl,b2⟩;have ho:=EG w2 B d a1 c1 a2 c2 a3 c3 k i u t P r (H.out.2.2.2.1.later (au B1.out b2)) ⟨by have:=H.out.2.2.2.2.2.2.1;omega,by have:=H.out.2.2.2.2.2.2.1;omega⟩;have B2:Hid (Below w.1.size w w2/\nN w2 w2.1.size ca xs.length xs):=⟨au B1.out b2,Yl⟩
 have Ep:(tx.yo r t.b++tx.xH r t.ag).length<=maxLen:=by
  have h1:=tx.EJ r t.b;have h2:=tx.EK r t.ag;have h3:=H.out.2.2.2.2.2.2.1;rw[List.length_append];unfold maxLen;omega
 obtain⟨zs,l8⟩:∃zs,tx.yo r t.b++tx.xH r t.ag=zs:=⟨_,rfl⟩
 rw[l8]at ho Ep Ce;obtain⟨s,hs⟩:∃s,qL k t r=s:=⟨_,rfl⟩
 have HS:Hid (iL xs zs=s/\qL k t r=s):=⟨by rw[<-Ce];exact hs,hs⟩
 have hH:Hid (0<=s->bH 0 5 s=true/\l9 xs s=true/\yS xs r s=pM k t r):=by unfold Hid;rw[<-hs];exact OY
 have HD:Hid (pM k t r=⟨r,s,IB k t r,0,false⟩/\xW k t r=⟨r,s,0,true,IB k t r⟩/\sP k t r=tx.dw (tx.dL t (pM k t r)) (xW k t r)):=⟨by rw[<-hs];exact WR,by rw[<-hs];exact lR,nn⟩
 rw[hs]at Iu;clear l8 hs Ce OY WR lR nn b2 Yl B1;go_wp2_with fail;refine ho.mono ?_;clear ho;rintro e w3 ⟨v3,rfl,eX,b3⟩;obtain⟨va,vc,rfl,X9,-⟩:=tx.fO.form eX;have hf:=wQ w3 ca xs.length cc va zs.length vc xs zs HL.out (B2.out.2.later b3) Ep X9.sl;rw[HS.out.1]at hf;have B3:Hid (Below w.1.size w w3/\nN w3 w3.1.size ca xs.length xs):=⟨au B2.out.1 b3,B2.out.2.later b3⟩
 clear eX X9 b3 Ep B2;go_wp2_with fail;refine hf.mono ?_;clear hf;rintro e w4 ⟨rfl,b4⟩;have B4:Hid (Below w.1.size w w4/\nN w4 w4.1.size ca xs.length xs):=⟨au B3.out.1 b4,B3.out.2.later b4⟩
 clear b4 B3;have fG:=H.out.1.later (au H.out.2.1 B4.out.1);have yz:=H.out.2.2.2.1.later B4.out.1;by_cases oQ:s<0
 case pos=>
  have hr:=iK w4 d a1 c1 a2 c2 a3 c3 k [vI (i:Int),vI t.id,vI t.l,vI t.o,vI t.u,.slice u.ar t.b.length u.cr,.slice u.ah t.ag.length u.ch,vI t.az] 9 H.out.2.2.2.2.2.2.2.1 fG yz.bx;have Xh:Hid (nD k t r=9):=by unfold Hid;rw[Iu.out,if_pos oQ]
  have SS:decide (s<0)=true:=by simpa using oQ
  clear fG yz oQ;go_wp2_with fail;refine hr.mono ?_;clear hr;intro e w9 hr;have HX:Hid (T9 wr w B d a1 c1 a2 c2 a3 c3 k i P (sP k t r) (nD k t r) (vI (qL k t r)) e w9):=.inl ⟨by rw[Xh.out];decide,by rw[Xh.out];exact hr.low (au H.out.2.1 B4.out.1)⟩;obtain⟨e1,d1,e2,d2,e3,d3,P3,rfl,-,-⟩:=hr;go_wp2;exact⟨rfl,HX.out⟩
 case neg=>
 obtain⟨-,Gb,QL⟩:=hH.out (by omega);have SS:decide (s<0)=false:=by simpa using oQ
 have SG:Hid (nD k t r=if tx.fD t (pM k t r)=true then(if tx.fV (tx.dL t (pM k t r)) (xW k t r)=true then 0 else 9)else 9):=by unfold Hid;rw[Iu.out,if_neg oQ]
 have mv:QO xs t r s=Kr t (pM k t r):=by rw[QO,if_pos Gb,QL]
 have cL:=Ji w4 B d a1 c1 a2 c2 a3 c3 k i u t P ca cc xs r s H.out.2.2.2.2.2.2.2.1 fG yz H.out.2.2.2.2.1 (by have:=H.out.2.2.2.2.2.1;have:=B4.out.1.size;omega) HL.out B4.out.2;rw[mv,QL]at cL;have WT:(fu xs s).h=0:=by have:=HD.out.1;rw[<-QL]at this;exact congrArg tx.N5.h this
 have nq:(bH 0 4000003 (fu xs s).head&&fM (fu xs s).head)=false:=by have:=HD.out.1;rw[<-QL]at this;exact congrArg tx.N5.j this
 have np:kP (fu xs s).head=IB k t r:=by have:=HD.out.1;rw[<-QL]at this;exact congrArg tx.N5.i this
 rw[WT,nq,np]at cL;obtain⟨Iq,yE⟩:∃Iq,IB k t r=Iq:=⟨_,rfl⟩
 rw[yE]at cL;have HV:=ay yE;clear fG yz oQ Gb QL mv WT nq np yE Iu hH;go_wp2_with fail;refine cL.mono ?_;clear cL;intro e w5 hA;rcases hA with ⟨eO,hr⟩|⟨hz,rfl,⟨u2,P2,yz,Lf⟩,BM⟩
 ·have Xh:Hid (nD k t r=9):=by
   have Lb:¬tx.fD t (pM k t r)=true:=fun h=>eO (by rw[Kr,if_pos h])
   unfold Hid;rw[SG.out,if_neg Lb]
  have h9:Kr t (pM k t r)=9:=by
   unfold Kr at eO ⊢;split
   ·rename_i h;rw[if_pos h]at eO;exact absurd rfl eO
   ·rfl
  rw[h9]at hr;clear eO h9 SS;have HX:Hid (T9 wr w B d a1 c1 a2 c2 a3 c3 k i P (sP k t r) (nD k t r) (vI (qL k t r)) e w5):=.inl ⟨by rw[Xh.out];decide,by rw[Xh.out];exact hr.low (au H.out.2.1 B4.out.1)⟩;obtain⟨e1,d1,e2,d2,e3,d3,P3,rfl,-,-⟩:=hr;go_wp2;exact⟨rfl,HX.out⟩
 have Lb:tx.fD t (pM k t r)=true:=by
  unfold Kr at hz;split at hz
  ·assumption
  ·cases hz
 have Z5:Hid (nD k t r=Nw (tx.dL t (pM k t r)) (xW k t r)):=by unfold Hid;rw[SG.out,if_pos Lb];rfl
 have mh:=C9 t (pM k t r);obtain⟨N,hN⟩:∃N,tx.dL t (pM k t r)=N:=⟨_,rfl⟩
 have HD2:Hid (sP k t r=tx.dw N (xW k t r)/\nD k t r=Nw N (xW k t r)/\xW k t r=⟨r,s,0,true,Iq⟩):=⟨by rw[HD.out.2.2,hN],by rw[Z5.out,hN],by rw[HD.out.2.1,HV.out]⟩
 rw[hN]at yz mh;have km:tx.TL N:=by have:=H.out.2.2.2.2.2.2.1;exact⟨by unfold maxLen;omega,by unfold maxLen;omega⟩
 have UE:Below wr.1.size wr w5:=(au H.out.2.1 B4.out.1).trans (BM.below H.out.2.2.1 (au H.out.2.1 B4.out.1).size);obtain⟨V,hV,bV,xV,sV⟩:=jU w5 [vI r,vI s,vI Iq,vI 0,.bool false] 70;have fG:=H.out.1.later (au UE bV);have cA:=IA V B d a1 c1 a2 c2 a3 c3 k i u2 N P2 (xW k t r) H.out.2.2.2.2.2.2.2.1 fG (yz.later bV) km (by have:=H.out.2.2.2.2.2.1;have:=B4.out.1.size;have:=BM.size;have:=bV.size;omega);rw[HD2.out.2.2]at cA;have HT:Hid (di d w V/\(∀q,P2 q->P q\/w.1.size<=q)/\Below wr.1.size wr V/\w.1.size<=V.1.size):=⟨(((di.refl d w).bN B4.out.1).trans BM).bN bV,fun q hq=>(Lf q hq).imp id (fun h=>by have:=B4.out.1.size;omega),au UE bV,by have:=B4.out.1.size;have:=BM.size;have:=bV.size;omega⟩
 have y0:=xV.c5;rw[hV]at y0;clear hz yz Lf BM Lb mh hN km UE bV xV sV fG SS;go_wp2_with fail;rw[<-hV];clear hV y0;refine cA.mono ?_;clear cA;intro e w6 hA
 have HE:Hid ((nD k t r≠0/\nE wr k (nD k t r) e w6)\/(nD k t r=0/\e=.returned (.tuple #[])/\(∃u P',DB w6 B d a1 c1 a2 c2 a3 c3 k i u (sP k t r) P'/\∀q,P' q->P q\/w.1.size<=q)/\di d w w6)):=by
  unfold Hid;rw[HD2.out.1,HD2.out.2.1,HD2.out.2.2];rcases hA with ⟨eO,hr⟩|⟨hz,he,⟨u3,P3,rN,sC⟩,ta⟩
  ·exact .inl ⟨eO,hr.low HT.out.2.2.1⟩
  ·exact .inr ⟨hz,he,⟨u3,P3,rN,fun q hq=>(sC q hq).elim (fun h=>HT.out.2.1 q h) (fun h=>.inr (by have:=HT.out.2.2.2;omega))⟩,HT.out.1.trans ta⟩
 rcases hA with ⟨eO,hr⟩|⟨hz,rfl,-,-⟩
 ·have HX:Hid (T9 wr w B d a1 c1 a2 c2 a3 c3 k i P (sP k t r) (nD k t r) (vI (qL k t r)) e w6):=.inl ⟨by rw[HD2.out.2.1,HD2.out.2.2];exact eO,by rw[HD2.out.2.1,HD2.out.2.2];exact hr.low HT.out.2.2.1⟩;obtain⟨e1,d1,e2,d2,e3,d3,P3,rfl,-,-⟩:=hr;go_wp2;exact⟨rfl,HX.out⟩
 ·have HX:Hid (T9 wr w B d a1 c1 a2 c2 a3 c3 k i P (sP k t r) (nD k t r) (vI (qL k t r)) (.returned (vI s)) w6):=by
   rcases HE.out with h|h
   ·obtain⟨-,x1,x2,x3,x4,x5,x6,x7,x8,-⟩:=h
    cases x8
   ·exact .inr ⟨h.1,by rw[HS.out.2],h.2.2⟩
  go_wp2;go_ret;exact HX.out
end
section
open Go.Proofs.Tryz
noncomputable def jv(k:C6)(y r:Int):Int:=if gW k y=0 then nD k (eD k y) r else gW k y
noncomputable def iX(k:C6)(y r:Int):C6:=if gW k y=0 then(if nD k (eD k y) r=0 then lI k (iO k.c y) (sP k (eD k y) r)else k)else kg k
noncomputable def jw(k:C6)(y r:Int):Int:=if jv k y r=0 then qL k (eD k y) r else -1
theorem IC(wr w:World)(q1 q2 q3 q5:Nat)(a1:OA)(c1:Nat)(a2:OA)(c2:Nat)(a3:OA)(c3:Nat)(k:C6)(y r:Int)(hl:cO.L k)(h:cO.Rd wr a1 c1 a2 c2 a3 c3 k)(hw:Below wr.1.size wr w)(x1:Bx w q1 (dR a1 c1 a2 c2 a3 c3 k))(x2:Bx w q2 [vI y])(x3:Bx w q3 [vI r])(x5:Bx w q5 [vI (-1)])(h5:wr.1.size<=q5):
  Calls prog 29 #[.pointer (some ⟨q1,0,none⟩),.pointer (some ⟨q2,0,none⟩),.pointer (some ⟨q3,0,none⟩),.pointer (some ⟨q5,0,none⟩)] w (Wn w q5 (jw k y r) (iX k y r) (jv k y r)):=by
 obtain⟨W0,dS,b0,x0,s0⟩:=jU w nJ 32;have fG:∀X,Below wr.1.size wr X->cO.Rd X a1 c1 a2 c2 a3 c3 k:=fun X hX=>h.later hX
 have hc:=yT W0 a1 c1 a2 c2 a3 c3 k y hl (fG W0 (au hw b0));have y1:=x1.later b0;have p0:=y1.c6;have p6:=(x2.later b0).1 0 _ rfl;have H:Hid (Below w.1.size w W0/\Bx W0 w.1.size nJ/\W0.1.size=w.1.size+1/\Bx W0 q3 [vI r]/\cO.L k):=⟨b0,x0,s0,x3.later b0,hl⟩
 have H5:Hid (Bx w q5 [vI (-1)]/\wr.1.size<=q5/\Below wr.1.size wr w):=⟨x5,h5,hw⟩
 have hJ:=ay fG;rw[dS]at p0 p6;clear b0 x0 s0 y1 h x1 x2 x3 x5 hl hw h5 fG;go_enter func29,ntmps29;go_wp2_with fail;rw[<-dS];clear dS;refine hc.mono ?_;clear hc p0 p6;rintro e w1 (⟨hn,hr⟩|⟨hz,d,u0,u1,u2,u3,P,rfl,dK,how,Yc,Nz,b1⟩)
 ·have HX:Hid (Wn w q5 (jw k y r) (iX k y r) (jv k y r) e w1):=by
   have hC:jv k y r=gW k y:=by rw[jv,if_neg hn]
   have hV:jw k y r=-1:=by rw[jw,hC,if_neg hn]
   have hK:iX k y r=kg k:=by rw[iX,if_neg hn]
   unfold Hid;rw[hV,hK,hC];exact(hr.low H.out.1).dv hn H5.out.1.2.2 (H5.out.1.1 0 _ rfl)
  obtain⟨b1,d1,b2,d2,b3,d3,P,rfl,-,-⟩:=hr;go_wp2;exact⟨rfl,HX.out⟩
 ·obtain⟨hk,hi,-,-⟩:=uF hz;have hT:=(Ea hk).2.1 _ hi;have QG:tx.TL (eD k y):=H.out.2.2.2.2.ts _ (List.mem_of_getElem? (ib hi));have D1:Hid (DB w1 W0.1.size d a1 c1 a2 c2 a3 c3 k (iO k.c y) ⟨u0,u1,u2,u3⟩ (eD k y) P/\Below W0.1.size W0 w1/\W0.1.size<=d/\gW k y=0/\aF k=true/\iO k.c y<k.c.length/\tx.ky (eD k y)=true/\tx.TL (eD k y)):=⟨⟨dK,how,Yc,Nz⟩,b1,Nz,hz,hk,hi,hT,QG⟩
  have BW:Hid (Below w.1.size w w1):=au H.out.1 b1;have m3:=(H.out.2.2.2.1.later b1).1 0 _ rfl;clear dK how Yc Nz b1 hz hi hT QG hk;have cS:=LV w w1 W0.1.size d a1 c1 a2 c2 a3 c3 k (iO k.c y) ⟨u0,u1,u2,u3⟩ (eD k y) P r D1.out.2.2.2.2.1 H.out.2.2.2.2 (hJ.out w H5.out.2.2) BW.out (by have:=H.out.2.2.1;have:=D1.out.2.2.1;omega) D1.out.1 D1.out.2.2.2.2.2.2.2 D1.out.2.1.size D1.out.2.2.2.2.2.2.1;go_wp2_with fail;refine cS.mono ?_;clear cS m3;intro e w3 hA;rcases hA with ⟨eO,hr⟩|⟨Io,rfl,⟨u',P',yz,Lf⟩,BM⟩
  ·have HX:Hid (Wn w q5 (jw k y r) (iX k y r) (jv k y r) e w3):=by
    have hC:jv k y r=nD k (eD k y) r:=by rw[jv,if_pos D1.out.2.2.2.1]
    have hV:jw k y r=-1:=by rw[jw,hC,if_neg eO]
    have hK:iX k y r=k:=by rw[iX,if_pos D1.out.2.2.2.1,if_neg eO]
    unfold Hid;rw[hV,hK,hC];exact hr.dv eO H5.out.1.2.2 (H5.out.1.1 0 _ rfl)
   obtain⟨b1,d1,b2,d2,b3,d3,P2,rfl,-,-⟩:=hr;go_wp2;exact⟨rfl,HX.out⟩
  ·have fs:Below w.1.size w w3:=BW.out.trans (BM.below (by have:=H.out.2.2.1;have:=D1.out.2.2.1;omega) BW.out.size);obtain⟨va,vc,vh,vd⟩:=u';have WS:=H.out.2.2.1;have NA:=H5.out.1.2.2;have dk:=D1.out.2.2.1
   have H3:Hid (Below w.1.size w w3/\DB w3 W0.1.size d a1 c1 a2 c2 a3 c3 k (iO k.c y) ⟨va,vc,vh,vd⟩ (sP k (eD k y) r) P'/\Bx w3 w.1.size nJ/\Bx w3 q5 [vI (-1)]/\W0.1.size<=w3.1.size):=by
    refine⟨fs,yz,?_,H5.out.1.later fs,?_⟩
    ·exact(H.out.2.1.later D1.out.2.1).aj (BM.block _ (H.out.2.1.later D1.out.2.1).2.2 (by omega)) BM.size
    ·have:=D1.out.2.1.size;have:=BM.size;omega
   clear fs yz Lf BM WS NA dk
   have hC:Hid (jv k y r=0/\jw k y r=qL k (eD k y) r/\iX k y r=lI k (iO k.c y) (sP k (eD k y) r)):=by
    have h8:jv k y r=0:=by rw[jv,if_pos D1.out.2.2.2.1];exact Io
    exact⟨h8,by rw[jw,h8];rfl,by rw[iX,if_pos D1.out.2.2.2.1,if_pos Io]⟩
   obtain⟨v,hv⟩:∃v,qL k (eD k y) r=v:=⟨_,rfl⟩
   rw[hv]at hC;rw[hv];have WS:=H.out.2.2.1;have NA:=H5.out.1.2.2;have dk:=D1.out.2.2.1;obtain⟨W4,OJ⟩:∃Y,Y=w3.setCell ⟨q5,0,none⟩ (vI v):=⟨_,rfl⟩
   have z4:W4.1.size=w3.1.size:=by rw[OJ];simp[World.setCell]
   have f4:∀q,q≠q5->W4.1[q]?=w3.1[q]?:=fun q hq=>by rw[OJ];exact Below.heap_setCell _ _ _ _ hq
   have v4:W4.cell? ⟨q5,0,none⟩=some (vI v):=by rw[OJ];exact ax (H3.out.2.2.2.1.1 0 _ rfl)
   have r4:Below wr.1.size wr W4:=by rw[OJ];exact(au H5.out.2.2 H3.out.1).setCell (p:=⟨q5,0,none⟩) H5.out.2.1 _
   have t4:di q5 w W4:=by rw[OJ];exact((di.refl q5 w).bN H3.out.1).setCell 0 _
   have d4:Bx W4 d [vI k.v,vI k.q,.slice a1 k.f.length c1,.slice a2 k.aa.length c2,.slice a3 k.c.length c3,.bool k.w,vI (iO k.c y:Int),vI (sP k (eD k y) r).id,vI (sP k (eD k y) r).l,vI (sP k (eD k y) r).o,vI (sP k (eD k y) r).u,.slice (⟨va,vc,vh,vd⟩:tx.TV).ar (sP k (eD k y) r).b.length (⟨va,vc,vh,vd⟩:tx.TV).cr,.slice (⟨va,vc,vh,vd⟩:tx.TV).ah (sP k (eD k y) r).ag.length (⟨va,vc,vh,vd⟩:tx.TV).ch,vI (sP k (eD k y) r).az]:=H3.out.2.1.bx.aj (f4 d (by omega)) (Nat.le_of_eq z4.symm);have o4:KT.Ow W4 W0.1.size va vc vh vd (sP k (eD k y) r) P':=H3.out.2.1.ow.aL (Nat.le_of_eq z4.symm) (fun q hq=>f4 q (by have:=(H3.out.2.1.ow.of hq).1;omega));have x4:Bx W4 w.1.size nJ:=H3.out.2.2.1.aj (f4 _ (by omega)) (Nat.le_of_eq z4.symm);have El:=Oy W4 W0.1.size d a1 c1 a2 c2 a3 c3 k (iO k.c y) (sP k (eD k y) r) va vc vh vd P' D1.out.2.2.2.2.1 D1.out.2.2.2.2.2.1 (hJ.out W4 r4) d4 o4 (by rw[z4];exact H3.out.2.2.2.2);have K4:Hid (di q5 w W4/\W4.cell? ⟨q5,0,none⟩=some (vI v)/\Bx W4 w.1.size nJ/\q5<W4.1.size/\W0.1.size=w.1.size+1/\q5<w.1.size):=⟨t4,v4,x4,by have:=t4.size;omega,WS,NA⟩
   have g5:=H3.out.2.2.2.1.1 0 _ rfl;have e5:=H3.out.2.2.2.1.2.1 0;clear Io hv z4 f4 v4 r4 t4 d4 o4 x4 WS NA dk;go_wp2_with fail;rw[<-OJ];clear OJ g5 e5;refine El.mono ?_;clear El;rintro e w5 ⟨e1,g1,e2,g2,e3,g3,PP,rfl,how,b5⟩;have KE:Hid (cO.Ow w5 W0.1.size e1 g1 e2 g2 e3 g3 (lI k (iO k.c y) (sP k (eD k y) r)) PP/\di q5 w w5/\w5.cell? ⟨q5,0,none⟩=some (vI v)/\Bx w5 w.1.size nJ):=⟨how,K4.out.1.bN b5,(b5.cell (p:=⟨q5,0,none⟩) K4.out.2.2.2.1).trans K4.out.2.1,K4.out.2.2.1.later b5⟩
   clear how b5;generalize lI k (iO k.c y) (sP k (eD k y) r)=N at *;obtain⟨Z,hZ⟩:∃Z,Z=dU w5 w.1.size 0 (dR e1 g1 e2 g2 e3 g3 N):=⟨_,rfl⟩
   have zb:=KE.out.2.2.2.put (dR e1 g1 e2 g2 e3 g3 N) rfl;rw[<-hZ]at zb;have aq:Hid (Z=((((((w5.setCell ⟨w.1.size,0,none⟩ (vI N.v)).setCell ⟨w.1.size,1,none⟩ (vI N.q)).setCell ⟨w.1.size,2,none⟩ (.slice e1 N.f.length g1)).setCell ⟨w.1.size,3,none⟩ (.slice e2 N.aa.length g2)).setCell ⟨w.1.size,4,none⟩ (.slice e3 N.c.length g3)).setCell ⟨w.1.size,5,none⟩ (.bool N.w))):=hZ;have zs:Z.1.size=w5.1.size:=by rw[hZ];exact bu _ _ _ _
   have zf:∀q,q≠w.1.size->Z.1[q]?=w5.1[q]?:=fun q hq=>by rw[hZ];exact aX hq _ _ _
   have zo:Below 0 w5 Z:=by rw[hZ];exact bn (Nat.zero_le _) _ _ _ aN
   have WS:=K4.out.2.2.2.2.1;have NA:=K4.out.2.2.2.2.2
   have HX:Hid (Wn w q5 (jw k y r) (iX k y r) (jv k y r) (.returned (.agg #[vI N.v,vI N.q,.slice e1 N.f.length g1,.slice e2 N.aa.length g2,.slice e3 N.c.length g3,.bool N.w])) Z):=by
    unfold Hid;rw[hC.out.1,hC.out.2.1,hC.out.2.2];refine⟨e1,g1,e2,g2,e3,g3,PP,.inl ⟨rfl,rfl⟩,(KE.out.1.aL (Nat.le_of_eq zs.symm) (fun q hq=>zf q (by have:=(KE.out.1.of hq).1;omega))).low (by omega),?_,(World.cell?_of_block (a:=⟨q5,0,none⟩) (zf q5 (by omega))).trans KE.out.2.2.1⟩;have hb:=KE.out.2.1;exact⟨zo.os.trans hb.os,zo.tape.trans hb.tape,zo.output.trans hb.output,by rw[zs];exact hb.size,fun q hq fh=>(zf q (by omega)).trans (hb.block q hq fh)⟩
   have q0:=KE.out.2.2.2.1 0 _ rfl;have f0:=KE.out.2.2.2.2.1 0;have z0:=zb.1 0 _ rfl;have q1:=KE.out.2.2.2.1 1 _ rfl;have f1:=KE.out.2.2.2.2.1 1;have z1:=zb.1 1 _ rfl;have q2:=KE.out.2.2.2.1 2 _ rfl;have f2:=KE.out.2.2.2.2.1 2;have z2:=zb.1 2 _ rfl;have q3:=KE.out.2.2.2.1 3 _ rfl;have f3:=KE.out.2.2.2.2.1 3;have z3:=zb.1 3 _ rfl;have q4:=KE.out.2.2.2.1 4 _ rfl;have f4:=KE.out.2.2.2.2.1 4;have z4:=zb.1 4 _ rfl;have q5:=KE.out.2.2.2.1 5 _ rfl;have f5:=KE.out.2.2.2.2.1 5;have z5:=zb.1 5 _ rfl;clear hZ zb zs zf zo WS NA;go_wp2;rw[<-aq.out];exact bodyPost_ret (v:=.agg #[vI N.v,vI N.q,.slice e1 N.f.length g1,.slice e2 N.aa.length g2,.slice e3 N.c.length g3,.bool N.w]) (by simp[results,results29,go_sem,z0,z1,z2,z3,z4,z5]) rfl HX.out
end
section
open Go.Proofs.Tryz
theorem di.RS{c s:Nat}{w X:World}(h:di c w X)(hs:w.1.size<=s)(i:Nat)(cs:List Value):di c w (dU X s i cs):=by
 have zo:Below 0 X (dU X s i cs):=bn (Nat.zero_le _) _ _ _ aN;exact⟨zo.os.trans h.os,zo.tape.trans h.tape,zo.output.trans h.output,by rw[bu];exact h.size,fun q hq hc=>(aX (by omega) _ _ _).trans (h.block q hq hc)⟩
def ZY(X:World)(b:Nat)(v:Int)(k:C6)(n:Int)(e:Ending)(w':World):Prop:=∃(a1:OA) (c1:Nat) (a2:OA) (c2:Nat) (a3:OA) (c3:Nat) (P:Nat->Prop),e=.returned (.tuple #[.agg #[vI k.v,vI k.q,.slice a1 k.f.length c1,.slice a2 k.aa.length c2,.slice a3 k.c.length c3,.bool k.w],vI n])/\cO.Ow w' X.1.size a1 c1 a2 c2 a3 c3 k P/\di b X w'/\w'.cell? ⟨b,0,none⟩=some (vI v)
end
section
open Go.Proofs.Tryz
def tJ(X:World)(k:C6)(v n:Int)(e:Ending)(w':World):Prop:=∃(a1:OA) (c1:Nat) (a2:OA) (c2:Nat) (a3:OA) (c3:Nat) (P:Nat->Prop),e=.returned (.tuple #[.agg #[vI k.v,vI k.q,.slice a1 k.f.length c1,.slice a2 k.aa.length c2,.slice a3 k.c.length c3,.bool k.w],vI v,vI n])/\cO.Ow w' X.1.size a1 c1 a2 c2 a3 c3 k P/\Below X.1.size X w'
end
namespace tx
open Go.Proofs.Tryz
end tx
section
open Go.Proofs.Tryz
theorem Cu(w:World)(a1:OA)(c1:Nat)(a2:OA)(c2:Nat)(a3:OA)(c3:Nat)(k:C6)(i z:Nat)(hl:cO.L k)(h:cO.Rd w a1 c1 a2 c2 a3 c3 k)(hi:i<k.f.length)(hz:eQ (dY k.f i) 0=(z:Int))(qV:z<k.aa.length)(Io:0<(dY k.f i).length):
  Calls prog 17 #[.agg #[vI k.v,vI k.q,.slice a1 k.f.length c1,.slice a2 k.aa.length c2,.slice a3 k.c.length c3,.bool k.w],vI (i:Int)] w fun e w'=>e=.returned (if (aT k.aa z).x then .tuple #[vI (z:Int),vI (uu (aT k.aa z) (i:Int))]else .tuple #[vI (-1),vI (-1)])/\Below w.1.size w w':=by
 have Ta:=hl.p;have eW:=hl.m;have sA:=hl.ps _ (List.mem_of_getElem? (gB hi));have IU:=hl.ms _ (List.mem_of_getElem? (iP qV));unfold maxLen at Ta eW sA;obtain⟨U,hU⟩:∃Y,Y=w.alloc (.cells #[vI k.v,vI k.q,.slice a1 k.f.length c1,.slice a2 k.aa.length c2,.slice a3 k.c.length c3,.bool k.w] 32):=⟨_,rfl⟩
 have b0:Below w.1.size w U:=by rw[hU];exact aN.alloc aU _
 have FA:Hid (Bx U w.1.size (dR a1 c1 a2 c2 a3 c3 k)):=by unfold Hid;rw[hU];exact Bx.made w (dR a1 c1 a2 c2 a3 c3 k) _
 have HR:Hid (cO.Rd U a1 c1 a2 c2 a3 c3 k/\cO.L k/\Below w.1.size w U):=⟨h.later b0,hl,b0⟩
 clear b0 h hl;have b0:Below U.1.size U U:=aN;obtain⟨_,Te⟩:=HR.out.1.p;rcases Te with Te|⟨b,off,rfl,hb,Lf⟩
 ·omega
 obtain⟨a',aW,la,gM,kL⟩:=Lf i _ (gB hi);obtain⟨_,oQ⟩:=gM;rcases oQ with oQ|⟨b',bR,rfl,gJ,h2⟩
 ·omega
 have lL:=h2 0 _ (jf Io);rw[hz]at lL;have x0:U.cell? ⟨b,off+i,none⟩=some (.slice (some ⟨b',bR,none⟩) (dY k.f i).length aW):=(b0.cell (p:=⟨b,off+i,none⟩) hb).trans la;have x1:U.cell? ⟨b',bR,none⟩=some (vI (z:Int)):=(b0.cell (p:=⟨b',bR,none⟩) gJ).trans lL;clear Lf la lL h2;rcases HR.out.1.m with hs|⟨b2,jA,rfl,lu,h1⟩
 ·rw[hs]at qV;simp at qV
 obtain⟨⟨m0,m1,m2,m3,m4,m5⟩,bg,fG⟩:=h1 z _ (iP qV);have e0:U.cell? ⟨b2,jA+z*4,none⟩=some (.bool (aT k.aa z).x):=(b0.cell (p:=⟨b2,jA+z*4,none⟩) lu).trans (bg 0 _ rfl);have e1:U.cell? ⟨b2,jA+z*4+1,none⟩=some (.slice m0 (aT k.aa z).af.length m1):=(b0.cell (p:=⟨b2,jA+z*4+1,none⟩) lu).trans (bg 1 _ rfl);have e2:U.cell? ⟨b2,jA+z*4+2,none⟩=some (.slice m2 (aT k.aa z).g.length m3):=(b0.cell (p:=⟨b2,jA+z*4+2,none⟩) lu).trans (bg 2 _ rfl);have e3:U.cell? ⟨b2,jA+z*4+3,none⟩=some (.slice m4 (aT k.aa z).ai.length m5):=(b0.cell (p:=⟨b2,jA+z*4+3,none⟩) lu).trans (bg 3 _ rfl);have jh:=Pv U m0 m1 m2 m3 m4 m5 (aT k.aa z) (i:Int) IU (gQ.later fG b0);have p2:=(FA.out.later b0).1 2 _ rfl;have p3:=(FA.out.later b0).1 3 _ rfl;have i1:(i:Int)<(k.f.length:Int):=by omega
 have i2:(z:Int)<(k.aa.length:Int):=by omega
 have i3:(0:Int)<((dY k.f i).length:Int):=by omega
 clear h1 bg fG IU b0 hz
 cases ha:(aT k.aa z).x with
 | false=>
  rw[ha]at e0;clear jh e1 e2 e3;rw[hU]at p2 p3 x0 x1 e0;go_enter func17,ntmps17;go_wp2;refine bodyPost_ret (v:=.tuple #[vI (-1),vI (-1)]) (by simp[results,results17,go_sem]) rfl ⟨rfl,?_⟩;have:=HR.out.2.2;rw[hU]at this;exact this
 | true=>
  rw[ha]at e0 jh;rw[hU]at p2 p3 x0 x1 e0 e1 e2 e3;go_enter func17,ntmps17;go_wp2_with fail;rw[<-hU];clear hU p2 p3 x0 x1 e0 e1 e2 e3;refine jh.mono ?_;clear jh;rintro e w1 ⟨rfl,b1⟩;have KB:Hid (Below w.1.size w w1):=au HR.out.2.2 b1;clear b1;go_wp2;exact bodyPost_ret (v:=.tuple #[vI (z:Int),vI (uu (aT k.aa z) (i:Int))]) (by simp[results,results17,go_sem]) rfl ⟨rfl,KB.out⟩
end
section
open Go.Proofs.Tryz
theorem Jj{m:M4}(h:fw m=true):∀c∈m.af,eG c.cells=true:=by
 simp only[fw,Bool.and_eq_true,decide_eq_true_eq]at h;obtain⟨⟨⟨⟨⟨h1,h2⟩,h3⟩,_⟩,h4⟩,h5⟩:=h;intro c hc;obtain⟨i,hi,rfl⟩:=List.getElem_of_mem hc;have:=List.all_eq_true.1 h4 i (List.mem_range.2 hi);simp only[nI,dD,List.getElem?_eq_getElem hi,Option.getD_some,Bool.and_eq_true]at this;exact this.1.2
end
end Go.Proofs.YtajmlpgodcfghaaGreatDoor
