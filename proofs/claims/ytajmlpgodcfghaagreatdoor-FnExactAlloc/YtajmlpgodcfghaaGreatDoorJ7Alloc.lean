import Derived.Test.YtajmlpgodcfghaaGreatDoorJ6Alloc
set_option maxHeartbeats 16000000
set_option maxRecDepth 100000
namespace Go.Proofs.YtajmlpgodcfghaaGreatDoor
open Go.RowKit
open Go.Sort (grow)
namespace tx
open Go.Proofs.Tryz
def C8(w:World)(N:T7)(ok:Bool)(e:Ending)(w':World):Prop:=
 ∃(a:OA) (c:Nat) (h:OA) (d:Nat) (PR PS:Nat->Prop),e=.returned (.tuple #[.agg #[vI N.id,vI N.l,vI N.o,vI N.u,.slice a N.b.length c,.slice h N.ag.length d,vI N.az],.bool ok])/\OT w' w.1.size ⟨a,c,h,d⟩ N PR PS/\Below w.1.size w w'/\N.ag.length<=d
theorem C8.zero{w w':World}(hb:Below w.1.size w w'):C8 w kC false (.returned (.tuple #[.agg #[vI 0,vI 0,vI 0,vI 0,.slice none 0 0,.slice none 0 0,vI 0],.bool false])) w':=
 ⟨none,0,none,0,fun _=>False,fun _=>False,rfl,OT.none rfl rfl,hb,Nat.le_refl _⟩
theorem xI(w:World)(v:TV)(t:T7)(n:N5)(hl:TL t)(hs:kR w v t)(hc:t.b.length<=v.cr):
  Calls prog 23 #[v.val t,.agg #[vI n.a,vI n.e,vI n.i,vI n.h,.bool n.j]] w (C8 w (dL t n) (fD t n)):=by
 obtain⟨ar,cr,ah,ch⟩:=v;simp only[TV.val];dsimp only at hc;obtain⟨W0,dS⟩:∃W,W=w.alloc (.cells #[vI t.id,vI t.l,vI t.o,vI t.u,.slice ar t.b.length cr,.slice ah t.ag.length ch,vI t.az] 53):=⟨_,rfl⟩
 have z0:W0.1.size=w.1.size+1:=by rw[dS];simp
 have x0:BT W0 w.1.size ⟨ar,cr,ah,ch⟩ t:=by rw[dS];exact BT.box w ⟨ar,cr,ah,ch⟩ t _
 have b0:Below w.1.size w W0:=by rw[dS];exact aN.alloc aU _
 obtain⟨W1,gZ⟩:∃W,W=W0.alloc (.cells #[vI n.a,vI n.e,vI n.i,vI n.h,.bool n.j] 70):=⟨_,rfl⟩
 have z1:W1.1.size=w.1.size+2:=by rw[gZ];simp[z0]
 have x1:aJ W1 (w.1.size+1) 0 n:=by rw[gZ,<-z0];exact aJ.box W0 _ _
 have b1:Below W0.1.size W0 W1:=by rw[gZ];exact aN.alloc aU _
 obtain⟨W,hW⟩:∃W,W=W1.alloc (.cells #[vI 0,vI 0,vI 0,vI 0,.slice none 0 0,.slice none 0 0,vI 0] 53):=⟨_,rfl⟩
 have zW:W.1.size=w.1.size+3:=by rw[hW];simp[z1]
 have x2:BT W (w.1.size+2) ⟨none,0,none,0⟩ ⟨0,0,0,0,[],[],0⟩:=by rw[hW,<-z1];exact BT.zero W1 _
 have b2:Below W1.1.size W1 W:=by rw[hW];exact aN.alloc aU _
 have bW:Below w.1.size w W:=(b0.trans (b1.mono b0.size)).trans (b2.mono (by omega));have c1:=qD W ⟨ar,cr,ah,ch⟩ t hl (hs.later bW);simp only[TV.val]at c1;have H:Hid (BT W w.1.size ⟨ar,cr,ah,ch⟩ t/\aJ W (w.1.size+1) 0 n/\BT W (w.1.size+2) ⟨none,0,none,0⟩ ⟨0,0,0,0,[],[],0⟩/\Below w.1.size w W/\kR W ⟨ar,cr,ah,ch⟩ t/\W.1.size=w.1.size+3):=⟨(x0.later b1).later b2,x1.below b2 (by omega),x2,bW,hs.later bW,zW⟩
 rw[gZ,dS]at hW;clear dS gZ z0 x0 b0 z1 x1 b1 zW x2 b2 bW hs hl
 cases hB:ky t with
 | false=>
  rw[hB]at c1;have HN:Hid (dL t n=kC/\fD t n=false):=⟨by simp[dL,hB],by simp[fD,hB]⟩
  go_enter func23,ntmps23;go_wp2_with fail;rw[<-hW];clear hW;refine c1.mono ?_;clear c1;rintro e w1 ⟨rfl,b1⟩;have KZ:Hid (BT w1 (w.1.size+2) ⟨none,0,none,0⟩ ⟨0,0,0,0,[],[],0⟩/\Below w.1.size w w1):=⟨H.out.2.2.1.later b1,H.out.2.2.2.1.trans (b1.mono H.out.2.2.2.1.size)⟩
  clear b1 H;obtain⟨r0,r1,r2,r3,r4,r5,r6,fr,-⟩:=KZ.out.1;have jq:=KZ.out.1.put ⟨none,0,none,0⟩ kC;simp only[iw,kC,List.length_nil]at jq;obtain⟨u0,u1,u2,u3,u4,u5,u6,-,-⟩:=jq;have KU:=ay (And.intro u0 (And.intro u1 (And.intro u2 (And.intro u3 (And.intro u4 (And.intro u5 u6))))));clear u0 u1 u2 u3 u4 u5 u6;have f0:=fr 0;have f1:=fr 1;have f2:=fr 2;have f3:=fr 3;have f4:=fr 4;have f5:=fr 5;have f6:=fr 6;clear fr;simp only[List.length_nil]at r4 r5;go_wp2;obtain⟨u0,u1,u2,u3,u4,u5,u6⟩:=KU.out;refine bodyPost_ret (v:=.tuple #[.agg #[vI 0,vI 0,vI 0,vI 0,.slice none 0 0,.slice none 0 0,vI 0],.bool false]) (by simp[results,results23,go_sem,u0,u1,u2,u3,u4,u5,u6]) rfl ?_;rw[HN.out.1,HN.out.2];exact C8.zero (bS (s:=w.1.size+2) (v:=⟨none,0,none,0⟩) (t:=kC) KZ.out.2 (by omega))
 | true=>
  rw[hB]at c1;go_enter func23,ntmps23;go_wp2_with fail;rw[<-hW];clear hW;refine c1.mono ?_;clear c1;rintro e w1 ⟨rfl,b1⟩;obtain⟨n0,n1,n2,n3,n4⟩:=H.out.2.1.below b1 (by have:=H.out.2.2.2.2.2;omega);simp only[Nat.zero_add]at n1 n2 n3 n4;have c2:=vP w1 n;have H1:Hid (BT w1 w.1.size ⟨ar,cr,ah,ch⟩ t/\aJ w1 (w.1.size+1) 0 n/\BT w1 (w.1.size+2) ⟨none,0,none,0⟩ ⟨0,0,0,0,[],[],0⟩/\Below w.1.size w w1/\kR w1 ⟨ar,cr,ah,ch⟩ t/\w.1.size+3<=w1.1.size):=⟨H.out.1.later b1,H.out.2.1.below b1 (by have:=H.out.2.2.2.2.2;omega),H.out.2.2.1.later b1,H.out.2.2.2.1.trans (b1.mono H.out.2.2.2.1.size),H.out.2.2.2.2.1.later b1,by have:=H.out.2.2.2.2.2;have:=b1.size;omega⟩
  clear b1 H;go_wp2_with fail;refine c2.mono ?_;clear c2 n0 n1 n2 n3 n4;rintro e w2 ⟨rfl,b2⟩;have H2:Hid (BT w2 w.1.size ⟨ar,cr,ah,ch⟩ t/\aJ w2 (w.1.size+1) 0 n/\BT w2 (w.1.size+2) ⟨none,0,none,0⟩ ⟨0,0,0,0,[],[],0⟩/\Below w.1.size w w2/\kR w2 ⟨ar,cr,ah,ch⟩ t/\w.1.size+3<=w2.1.size):=⟨H1.out.1.later b2,H1.out.2.1.below b2 (by have:=H1.out.2.2.2.2.2;omega),H1.out.2.2.1.later b2,H1.out.2.2.2.1.trans (b2.mono H1.out.2.2.2.1.size),H1.out.2.2.2.2.1.later b2,by have:=H1.out.2.2.2.2.2;have:=b2.size;omega⟩
  clear b2 H1
  cases hO:bI n with
  | false=>
   have HN:Hid (dL t n=kC/\fD t n=false):=⟨by simp[dL,hO],by simp[fD,hO]⟩
   have KZ:Hid (BT w2 (w.1.size+2) ⟨none,0,none,0⟩ ⟨0,0,0,0,[],[],0⟩/\Below w.1.size w w2):=⟨H2.out.2.2.1,H2.out.2.2.2.1⟩
   clear H2;obtain⟨r0,r1,r2,r3,r4,r5,r6,fr,-⟩:=KZ.out.1;have jq:=KZ.out.1.put ⟨none,0,none,0⟩ kC;simp only[iw,kC,List.length_nil]at jq;obtain⟨u0,u1,u2,u3,u4,u5,u6,-,-⟩:=jq;have KU:=ay (And.intro u0 (And.intro u1 (And.intro u2 (And.intro u3 (And.intro u4 (And.intro u5 u6))))));clear u0 u1 u2 u3 u4 u5 u6;have f0:=fr 0;have f1:=fr 1;have f2:=fr 2;have f3:=fr 3;have f4:=fr 4;have f5:=fr 5;have f6:=fr 6;clear fr;simp only[List.length_nil]at r4 r5;go_wp2;obtain⟨u0,u1,u2,u3,u4,u5,u6⟩:=KU.out;refine bodyPost_ret (v:=.tuple #[.agg #[vI 0,vI 0,vI 0,vI 0,.slice none 0 0,.slice none 0 0,vI 0],.bool false]) (by simp[results,results23,go_sem,u0,u1,u2,u3,u4,u5,u6]) rfl ?_;rw[HN.out.1,HN.out.2];exact C8.zero (bS (s:=w.1.size+2) (v:=⟨none,0,none,0⟩) (t:=kC) KZ.out.2 (by omega))
  | true=>
   have fW:=(jT hB).1;have Vq:=(jT hB).2;have c3:=rQ w2 ⟨ar,cr,ah,ch⟩ t (by omega) (by omega) H2.out.2.2.2.2.1;simp only[TV.val]at c3;obtain⟨p0,p1,p2,p3,p4,p5,p6,-,-⟩:=H2.out.1;dsimp only at p4 p5;go_wp2_with fail;refine c3.mono ?_;clear c3 p0 p1 p2 p3 p4 p5 p6;rintro e w3 ⟨a4,c4,h4,d4,PR,PS,rfl,o3,b3,rE⟩;have Wp:=ay rE.2;clear rE;simp only[TV.val];obtain⟨X3,nK⟩:∃X,X=w3.alloc (.cells #[vI t.id,vI t.l,vI t.o,vI t.u,.slice a4 t.b.length c4,.slice h4 t.ag.length d4,vI t.az] 53):=⟨_,rfl⟩
   have b3':Below w3.1.size w3 X3:=by rw[nK];exact aN.alloc aU _
   have zF:Below w2.1.size w2 X3:=b3.trans (b3'.mono b3.size);have x3:BT X3 w3.1.size ⟨a4,c4,h4,d4⟩ t:=by rw[nK];exact BT.box w3 ⟨a4,c4,h4,d4⟩ t _
   have H3:Hid (BT X3 w.1.size ⟨ar,cr,ah,ch⟩ t/\aJ X3 (w.1.size+1) 0 n/\BT X3 (w.1.size+2) ⟨none,0,none,0⟩ ⟨0,0,0,0,[],[],0⟩/\Below w.1.size w X3/\kR X3 ⟨ar,cr,ah,ch⟩ t/\w.1.size+3<=w3.1.size/\BT X3 w3.1.size ⟨a4,c4,h4,d4⟩ t/\OT X3 w2.1.size ⟨a4,c4,h4,d4⟩ t PR PS/\(∀q,nC PR PS q->w.1.size+3<=q/\q<w3.1.size)):=⟨H2.out.1.later zF,H2.out.2.1.below zF (by have:=H2.out.2.2.2.2.2;omega),H2.out.2.2.1.later zF,H2.out.2.2.2.1.trans (zF.mono H2.out.2.2.2.1.size),H2.out.2.2.2.2.1.later zF,by have:=H2.out.2.2.2.2.2;have:=b3.size;omega,x3,o3.later b3',fun q hq=>⟨by have:=(o3.of hq).1;have:=H2.out.2.2.2.2.2;omega,(o3.of hq).2⟩⟩
   clear b3 b3' zF x3 o3 H2;obtain⟨p0,p1,p2,p3,p4,p5,p6,-,-⟩:=H3.out.1;dsimp only at p4 p5;obtain⟨n0,n1,-,-,-⟩:=H3.out.2.1;simp only[Nat.zero_add]at n1;have BI:=Aj X3 ⟨ar,cr,ah,ch⟩ t n.a n.e (by omega) H3.out.2.2.2.2.1;simp only[TV.val]at BI;have dA:=M7 t.b n.a n.e;generalize lX t.b n.a n.e=A at *;rw[nK]at p0 p1 p2 p3 p4 p5 p6 n0 n1;go_wp2_with fail;rw[<-nK];clear nK p0 p1 p2 p3 p4 p5 p6 n0 n1;refine BI.mono ?_;clear BI;rintro e w4 ⟨rfl,b4⟩;have H4:Hid (BT w4 w.1.size ⟨ar,cr,ah,ch⟩ t/\aJ w4 (w.1.size+1) 0 n/\BT w4 (w.1.size+2) ⟨none,0,none,0⟩ ⟨0,0,0,0,[],[],0⟩/\Below w.1.size w w4/\kR w4 ⟨ar,cr,ah,ch⟩ t/\w.1.size+3<=w3.1.size/\BT w4 w3.1.size ⟨a4,c4,h4,d4⟩ t/\OT w4 w2.1.size ⟨a4,c4,h4,d4⟩ t PR PS/\(∀q,nC PR PS q->w.1.size+3<=q/\q<w3.1.size)/\w3.1.size<w4.1.size):=⟨H3.out.1.later b4,H3.out.2.1.below b4 (by have:=H3.out.2.2.2.2.2.1;have:=H3.out.2.2.2.2.2.2.1.lt;omega),H3.out.2.2.1.later b4,H3.out.2.2.2.1.trans (b4.mono H3.out.2.2.2.1.size),H3.out.2.2.2.2.1.later b4,H3.out.2.2.2.2.2.1,H3.out.2.2.2.2.2.2.1.later b4,H3.out.2.2.2.2.2.2.2.1.later b4,H3.out.2.2.2.2.2.2.2.2,(H3.out.2.2.2.2.2.2.1.later b4).lt⟩
   clear b4 H3
   cases hF:(nV t.b n.a n.e).isSome with
   | true=>
    rw[hF]at dA;have HN:Hid (dL t n=t/\fD t n=true):=⟨by simp[dL,hB,hO,hF],by simp[fD,hB,hO,hF]⟩
    obtain⟨o0,o1,o2,o3,o4,o5,o6,-,-⟩:=H4.out.2.2.2.2.2.2.1;obtain⟨r0,r1,r2,r3,r4,r5,r6,fr,-⟩:=H4.out.2.2.1;have jq:=H4.out.2.2.1.put ⟨a4,c4,h4,d4⟩ t;simp only[iw]at jq;obtain⟨u0,u1,u2,u3,u4,u5,u6,-,-⟩:=jq;have KU:=ay (And.intro u0 (And.intro u1 (And.intro u2 (And.intro u3 (And.intro u4 (And.intro u5 u6))))));clear u0 u1 u2 u3 u4 u5 u6;have f0:=fr 0;have f1:=fr 1;have f2:=fr 2;have f3:=fr 3;have f4:=fr 4;have f5:=fr 5;have f6:=fr 6;clear fr;dsimp only at o4 o5 r4 r5;go_wp2;obtain⟨u0,u1,u2,u3,u4,u5,u6⟩:=KU.out;refine bodyPost_ret (v:=.tuple #[.agg #[vI t.id,vI t.l,vI t.o,vI t.u,.slice a4 t.b.length c4,.slice h4 t.ag.length d4,vI t.az],.bool true]) (by simp[results,results23,go_sem,u0,u1,u2,u3,u4,u5,u6]) rfl ?_;rw[HN.out.1,HN.out.2];obtain⟨-,-,-,g4,-,g6,-,g8,g9,-⟩:=H4.out;refine⟨a4,c4,h4,d4,PR,PS,rfl,?_,bS (s:=w.1.size+2) (v:=⟨a4,c4,h4,d4⟩) (t:=t) g4 (by omega),Wp.out⟩;exact(g8.aL (w':=iw w4 (w.1.size+2) ⟨a4,c4,h4,d4⟩ t) (by rw[je];exact Nat.le_refl _) (fun q _ hq=>fq (by have:=(g9 q hq).1;omega))).low (fun q hq=>by have:=(g9 q hq).1;omega)
   | false=>
    rw[hF]at dA;have p4:=H4.out.1.c4;dsimp only at p4;by_cases uI:t.b.length=12
    ·have d12:((t.b.length:Int)==12)=true:=by simp;omega
     have HN:Hid (dL t n=kC/\fD t n=false):=⟨by simp[dL,hB,hO,hF,uI],by simp[fD,hB,hO,hF,uI]⟩
     have KZ:Hid (BT w4 (w.1.size+2) ⟨none,0,none,0⟩ ⟨0,0,0,0,[],[],0⟩/\Below w.1.size w w4):=⟨H4.out.2.2.1,H4.out.2.2.2.1⟩
     clear H4;obtain⟨r0,r1,r2,r3,r4,r5,r6,fr,-⟩:=KZ.out.1;have jq:=KZ.out.1.put ⟨none,0,none,0⟩ kC;simp only[iw,kC,List.length_nil]at jq;obtain⟨u0,u1,u2,u3,u4,u5,u6,-,-⟩:=jq;have KU:=ay (And.intro u0 (And.intro u1 (And.intro u2 (And.intro u3 (And.intro u4 (And.intro u5 u6))))));clear u0 u1 u2 u3 u4 u5 u6;have f0:=fr 0;have f1:=fr 1;have f2:=fr 2;have f3:=fr 3;have f4:=fr 4;have f5:=fr 5;have f6:=fr 6;clear fr;simp only[List.length_nil]at r4 r5;go_wp2;obtain⟨u0,u1,u2,u3,u4,u5,u6⟩:=KU.out;refine bodyPost_ret (v:=.tuple #[.agg #[vI 0,vI 0,vI 0,vI 0,.slice none 0 0,.slice none 0 0,vI 0],.bool false]) (by simp[results,results23,go_sem,u0,u1,u2,u3,u4,u5,u6]) rfl ?_;rw[HN.out.1,HN.out.2];exact C8.zero (bS (s:=w.1.size+2) (v:=⟨none,0,none,0⟩) (t:=kC) KZ.out.2 (by omega))
    ·have d12:((t.b.length:Int)==12)=false:=by simp;omega
     have HN:Hid (dL t n=⟨t.id,t.l,t.o,t.u,yK t.b n,t.ag,t.az⟩/\fD t n=true):=⟨by simp[dL,hB,hO,hF,uI],by simp[fD,hB,hO,uI]⟩
     obtain⟨V,hV⟩:∃V,V=w4.alloc (.cells #[] 70):=⟨_,rfl⟩
     have bV:Below w4.1.size w4 V:=by rw[hV];exact aN.alloc aU _
     have rV:fA V w4.1.size (.slice (some ⟨w4.1.size,0,none⟩) 0 0) []:=by rw[hV];exact fA.made w4
     have K4:Hid (fA V w4.1.size (.slice (some ⟨w4.1.size,0,none⟩) 0 0) []/\Below w4.1.size w4 V):=⟨rV,bV⟩
     clear rV bV;go_wp2;rw[<-hV];clear hV p4 d12 dA;go_loopw[7,8] (fun v7 v8 wr=>∃k:Nat,k<=t.b.length/\v8=vI k/\fA wr w4.1.size v7 (t.b.take k)/\Below w4.1.size w4 wr/\(∀j,j<k->ni t.b n j=true)) (fun _ v8 _=>t.b.length-(intOf v8).toNat)
     case atStart=>exact⟨0,Nat.zero_le _,rfl,by simpa using K4.out.1,K4.out.2,fun j h=>by omega⟩
     case round=>
      obtain⟨k,hk,rfl,eX,aD,aO⟩:=hrel;obtain⟨a7,c7,e7,-⟩:=eX.form;rw[show(t.b.take k).length=k by rw[List.length_take];omega]at e7;subst e7;have KA:Hid (fA wr w4.1.size (.slice a7 k c7) (t.b.take k)/\Below w4.1.size w4 wr/\(∀j,j<k->ni t.b n j=true)):=⟨eX,aD,aO⟩
      have UD:=H4.out.1.later aD;have eE:=UD.lt;have p4:=UD.c4;dsimp only at p4;have gM:=(H4.out.2.2.2.2.1.later aD).r;have oG:=H4.out.2.1.below aD (by have:=H4.out.2.2.2.2.2.1;have:=H4.out.2.2.2.2.2.2.2.2.2;omega);have sy:w.1.size+1<wr.1.size:=by have:=H4.out.2.2.2.2.2.1;have:=H4.out.2.2.2.2.2.2.2.2.2;have:=aD.size;omega
      clear eX aD aO UD;by_cases aK:k<t.b.length
      ·obtain⟨_,gu⟩:=gM;dsimp only at gu;rcases gu with gu|⟨b,off,rfl,hb,hx⟩
       ·omega
       obtain⟨c0,c1,c2,c3,BI⟩:=hx k _ (fP aK);obtain⟨n0,n1,-,-,-⟩:=oG;simp only[Nat.zero_add]at n1;have ew:(k:Int)<(t.b.length:Int):=by omega
       have ey:decide ((k:Int)<(t.b.length:Int))=true:=by simpa using ew
       have q4:=@cell_regrown wr ⟨w.1.size,4,none⟩ (.slice (some ⟨b,off,none⟩) t.b.length cr) p4;have m0:=@cell_regrown wr ⟨b,off+k*5,none⟩ (vI (aG t.b k).a) c0;have m1:=@cell_regrown wr ⟨b,off+k*5+1,none⟩ (vI (aG t.b k).e) c1;have m2:=@cell_regrown wr ⟨b,off+k*5+2,none⟩ (vI (aG t.b k).i) c2;have m3:=@cell_regrown wr ⟨b,off+k*5+3,none⟩ (vI (aG t.b k).h) c3;have m4:=@cell_regrown wr ⟨b,off+k*5+4,none⟩ (.bool (aG t.b k).j) BI;have g0:=@cell_regrown wr ⟨w.1.size+1,0,none⟩ (vI n.a) n0;have g1:=@cell_regrown wr ⟨w.1.size+1,1,none⟩ (vI n.e) n1;have cL:∀d os,Calls prog 57 #[vI (aG t.b k).a,vI (aG t.b k).e,vI n.a,vI n.e] (grow (redrawn wr d) os) fun e eU=>e=.returned (.bool (ni t.b n k))/\∃p:Regrown,eU=grow (redrawn wr p.d) p.os:=fun d os=>Calls.regrown_of (vN _ _ _ _ _)
       clear c0 c1 c2 c3 BI hx n0 n1 p4
       cases gl:ni t.b n k with
       | true=>
        rw[gl]at cL;go_wp2_with fail;refine gP ?_;repeat (go_big_quiet_step (exact cL _ _))
        refine iW fun dq aZ=>?_
        have bq:=below_regrown wr dq aZ;have e4:=q4 dq aZ;have e0:=m0 dq aZ;have e1:=m1 dq aZ;have e2:=m2 dq aZ;have e3:=m3 dq aZ;have e5:=m4 dq aZ;clear q4 m0 m1 m2 m3 m4 g0 g1 cL;generalize grow (redrawn wr dq) aZ=U at *;obtain⟨V',hV⟩:∃V,V=U.alloc (.cells #[vI (aG t.b k).a,vI (aG t.b k).e,vI (aG t.b k).i,vI (aG t.b k).h,.bool (aG t.b k).j] 70):=⟨_,rfl⟩
        have bU:Below U.1.size U V':=by rw[hV];exact aN.alloc aU _
        have bV:Below wr.1.size wr V':=bq.trans (bU.mono bq.size);have gG:dm V' U.1.size 0 [aG t.b k]:=by rw[hV];exact(aJ.box U _ _).one
        obtain⟨v',Y,wJ,iY,fI,-⟩:=uC (KA.out.1.later bV) [aG t.b k] (by rw[List.length_take];simp;omega) 50 U.1.size 0 1 gG (Nat.le_trans KA.out.2.1.size bV.size)
        have KE:Hid (fA Y w4.1.size v' (t.b.take (k+1))/\Below w4.1.size w4 Y/\(∀j,j<k+1->ni t.b n j=true)):=by
         refine⟨by rw[List.take_add_one,fP aK];exact iY,?_,fun j hj=>?_⟩
         ·exact(KA.out.2.1.trans (bV.mono KA.out.2.1.size)).grown fI (Nat.le_trans KA.out.2.1.size bV.size) (fun q e=>(KA.out.1.lt e).1)
         ·by_cases ej:j=k
          ·rw[ej];exact gl
          ·exact KA.out.2.2 j (by omega)
        rw[hV]at wJ;clear hV bV bU bq gG iY fI;simp only[List.length_cons,List.length_nil,Nat.zero_add]at wJ;go_wp2_with (at_builtin;refine dF _ rfl (.tmp 60) (.tmp 66) 50 rfl _ _ _ _ rfl rfl wJ ?_);exact⟨⟨k+1,by omega,by simp,KE.out.1,KE.out.2.1,KE.out.2.2⟩,by simp[intOf];omega⟩
       | false=>
        rw[gl]at cL;go_wp2_with fail;refine gP ?_;repeat (go_big_quiet_step (exact cL _ _))
        refine iW fun dq aZ=>?_
        have bq:=below_regrown wr dq aZ;have KT:Hid (fA (grow (redrawn wr dq) aZ) w4.1.size (.slice a7 k c7) (t.b.take k)/\Below w4.1.size w4 (grow (redrawn wr dq) aZ)):=⟨KA.out.1.later bq,KA.out.2.1.trans (bq.mono KA.out.2.1.size)⟩
        have HC:Hid (pW t.b n=k):=Rb aK gl KA.out.2.2;clear bq q4 m0 m1 m2 m3 m4 g0 g1 cL KA;generalize grow (redrawn wr dq) aZ=U at *;have KD:Hid (Below U.1.size U U.drew):=aN.drew;have bD:Below w4.1.size w4 U.drew:=KT.out.2.trans (KD.out.mono KT.out.2.size);have SF:Hid (∀X,Below w4.1.size w4 X->(fun X:World=>aJ X (w.1.size+1) 0 n/\X.cell? ⟨w.1.size,4,none⟩=some (.slice (some ⟨b,off,none⟩) t.b.length cr)) X):=fun X hX=>⟨H4.out.2.1.below hX (by have:=H4.out.2.2.2.2.2.1;have:=H4.out.2.2.2.2.2.2.2.2.2;omega),(H4.out.1.later hX).c4⟩
        have hS:(fun X:World=>aJ X (w.1.size+1) 0 n/\X.cell? ⟨w.1.size,4,none⟩=some (.slice (some ⟨b,off,none⟩) t.b.length cr)) U.drew:=SF.out _ bD;have rD:fA U.drew w4.1.size (.slice a7 k c7) (t.b.take k):=KT.out.1.later KD.out;clear KD;go_wp2_with fail;refine aY (fun z=>z==11) (fun X:World=>aJ X (w.1.size+1) 0 n/\X.cell? ⟨w.1.size,4,none⟩=some (.slice (some ⟨b,off,none⟩) t.b.length cr)) (by kernel_rfl) ?_;generalize U.drew=Ud at *;obtain⟨V1,lK⟩:∃V,V=Ud.alloc (.cells #[vI n.a,vI n.e,vI n.i,vI n.h,.bool n.j] 70):=⟨_,rfl⟩
        have tZ:Below Ud.1.size Ud V1:=by rw[lK];exact aN.alloc aU _
        have gG:dm V1 Ud.1.size 0 [n]:=by rw[lK];exact(aJ.box Ud _ _).one
        have lT:(t.b.take k).length=k:=by rw[List.length_take];omega
        obtain⟨v1,Y1,kK,jB,F3,-⟩:=uC (rD.later tZ) [n] (by rw[lT];simp;omega) 50 Ud.1.size 0 1 gG (Nat.le_trans bD.size tZ.size);have pO:Below w4.1.size w4 V1:=bD.trans (tZ.mono bD.size);have pR:Below w4.1.size w4 Y1:=pO.grown F3 pO.size (fun q e=>(rD.lt e).1);obtain⟨a1,c1,rfl,-⟩:=jB.form;have sS:(t.b.take k++[n]).length=k+1:=by simp[lT]
        obtain⟨a8,IW⟩:∃a8:OA,a8=(if cr=k then(some (⟨b,off,none⟩:Addr))else Option.map (fun x=>x.add (k*5)) (some (⟨b,off,none⟩:Addr))):=⟨_,rfl⟩
        have src:jP Y1 Y1.1.size a8 (t.b.drop k).length (t.b.drop k):=by
         refine⟨rfl,?_⟩;by_cases hz:(t.b.drop k).length=0
         ·exact .inl hz
         ·rw[List.length_drop]at hz;obtain⟨-,hq⟩:=(H4.out.2.2.2.2.1.later pR).r;dsimp only at hq;rcases hq with hq|⟨b',bR,e',gJ,BN⟩
          ·omega
          ·refine .inr ⟨b',bR+k*5,?_,gJ,fun i s hi=>?_⟩
           ·rw[IW,if_neg (by omega),e',Option.map_some];congr 1;unfold Addr.add;split<;>simp_all
           ·rw[List.getElem?_drop]at hi;have:=BN (k+i) s hi;rwa[show bR+k*5+i*5=bR+(k+i)*5 by omega]
        have Bg:=xx jB (t.b.drop k) (by rw[sS,List.length_drop];omega) 50 a8 (cr-k) src pR.size;obtain⟨a2,c2,Y2,oC,rX,F4,-⟩:=Bg;have qM:Below w4.1.size w4 Y2:=pR.grown F4 pR.size (fun q e=>(jB.lt e).1);rw[sS,List.length_drop]at oC;generalize l8:t.b.take k++[n]++t.b.drop k=zs at *;have HZ:=ay l8;clear l8;rw[sS]at kK;simp only[List.length_cons,List.length_nil,Nat.zero_add]at kK;have xB:BT Y2 w3.1.size ⟨a4,c4,h4,d4⟩ t:=H4.out.2.2.2.2.2.2.1.later qM;have k4:=xB.c4;have Fu:=xB.fz 4;dsimp only at k4;have yB:BT (Y2.setCell ⟨w3.1.size,4,none⟩ (.slice a2 zs.length c2)) w3.1.size ⟨a2,c2,h4,d4⟩ (⟨t.id,t.l,t.o,t.u,zs,t.ag,t.az⟩:T7):=xB.JS a2 c2 zs;have yR:BT (Y2.setCell ⟨w3.1.size,4,none⟩ (.slice a2 zs.length c2)) (w.1.size+2) ⟨none,0,none,0⟩ ⟨0,0,0,0,[],[],0⟩:=(H4.out.2.2.1.later qM).dX (by dsimp only;have:=H4.out.2.2.2.2.2.1;omega) _;have KF:Hid (BT (Y2.setCell ⟨w3.1.size,4,none⟩ (.slice a2 zs.length c2)) w3.1.size ⟨a2,c2,h4,d4⟩ (⟨t.id,t.l,t.o,t.u,zs,t.ag,t.az⟩:T7)/\BT (Y2.setCell ⟨w3.1.size,4,none⟩ (.slice a2 zs.length c2)) (w.1.size+2) ⟨none,0,none,0⟩ ⟨0,0,0,0,[],[],0⟩/\fA Y2 w4.1.size (.slice a2 zs.length c2) zs/\Below w4.1.size w4 Y2):=⟨yB,yR,rX,qM⟩
        have S1:=ay (SF.out _ pO);have S2:=ay (SF.out _ pR);have S3:=ay (SF.out _ qM);have ik:(k:Int)<=(t.b.length:Int):=by omega
        clear tZ gG F3 pO pR jB src F4 qM rX rD bD xB yB yR SF sS lT;refine cu 0 rfl hS ?_;simp only[Act.put];refine iZ 1 ?_ rfl ?_ hS ?_;rotate_left
        ·(intro X aH;obtain⟨⟨s0,s1,s2,s3,s4⟩,s5⟩:=aH;simp only[Nat.zero_add]at s1 s2 s3 s4;go_simp;first|done|with_reducible rfl)
        simp only[Act.put];refine cu 4 rfl hS ?_;simp only[Act.put];refine iZ 5 ?_ rfl ?_ hS ?_;rotate_left
        ·(intro X aH;obtain⟨⟨s0,s1,s2,s3,s4⟩,s5⟩:=aH;simp only[Nat.zero_add]at s1 s2 s3 s4;go_simp;first|done|with_reducible rfl)
        simp only[Act.put];refine cu 6 rfl hS ?_;simp only[Act.put];refine cu 7 rfl hS ?_;simp only[Act.put];refine TF 8 (.slice a8 (t.b.length-k) (cr-k)) rfl ?_ hS ?_
        ·(intro X _;rw[IW];go_simp;first|done|with_reducible rfl|rfl)
        clear IW;simp only[Act.put];refine dJ 2 rfl (fun K hK=>?_);go_simp;refine hK.out _ _ (fun _=>by rw[<-lK];exact S1.out) ?_;clear hK K;rw[<-lK];clear lK S1;refine dJ 3 rfl (fun K hK=>?_);refine bJ _ rfl (.tmp 68) (.tmp 70) 50 rfl _ _ _ _ (by first|rfl|simp[Act.eval,Act.put]) (by first|rfl|simp[Act.eval,Act.put]) kK ?_;refine hK.out _ _ (fun _=>S2.out) ?_;clear hK K;clear S2 kK;simp only[Act.put];refine dJ 9 rfl (fun K hK=>?_);refine bJ _ rfl (.tmp 71) (.tmp 76) 50 rfl _ _ _ _ (by first|rfl|simp[Act.eval,Act.put]) (by first|rfl|simp[Act.eval,Act.put]) oC ?_;refine hK.out _ _ (fun _=>S3.out) ?_;clear hK K;clear oC;simp only[Act.put];have hS:=S3.out;refine cu 10 rfl hS ?_;simp only[Act.put];refine dJ 11 rfl (fun K hK=>?_);go_simp;refine hK.out _ _ (fun h=>absurd (show false=true from h.symm.trans (by kernel_rfl)) (by decide)) ?_;clear hK K;refine df (by kernel_rfl) ?_ _;clear S3 hS k4 Fu;have jq:=KF.out.2.1.put ⟨a2,c2,h4,d4⟩ (⟨t.id,t.l,t.o,t.u,zs,t.ag,t.az⟩:T7);simp only[iw]at jq;obtain⟨u0,u1,u2,u3,u4,u5,u6,-,-⟩:=jq;have KU:=ay (And.intro u0 (And.intro u1 (And.intro u2 (And.intro u3 (And.intro u4 (And.intro u5 u6))))));clear u0 u1 u2 u3 u4 u5 u6;obtain⟨o0,o1,o2,o3,o4,o5,o6,-,-⟩:=KF.out.1;obtain⟨r0,r1,r2,r3,r4,r5,r6,fr,-⟩:=KF.out.2.1;have f0:=fr 0;have f1:=fr 1;have f2:=fr 2;have f3:=fr 3;have f4:=fr 4;have f5:=fr 5;have f6:=fr 6;clear fr;dsimp only at o0 o1 o2 o3 o4 o5 o6 r4 r5;go_wp2;obtain⟨u0,u1,u2,u3,u4,u5,u6⟩:=KU.out
        refine bodyPost_ret (v:=.tuple #[.agg #[vI t.id,vI t.l,vI t.o,vI t.u,.slice a2 zs.length c2,.slice h4 t.ag.length d4,vI t.az],.bool true]) (by simp[results,results23,go_sem,u0,u1,u2,u3,u4,u5,u6]) rfl ?_;rw[HN.out.1,HN.out.2,yK,HC.out,HZ.out];obtain⟨g1,g2,g3,g4⟩:=KF.out;obtain⟨-,-,-,j4,-,j6,-,j8,j9,j10⟩:=H4.out;have bX:Below w.1.size w (Y2.setCell ⟨w3.1.size,4,none⟩ (.slice a2 zs.length c2)):=(j4.trans (g4.mono j4.size)).setCell (p:=⟨w3.1.size,4,none⟩) (by dsimp only;omega) _;refine⟨a2,c2,h4,d4,fun q=>(Value.slice a2 zs.length c2).ownBlock=some q,PS,rfl,?_,bS (s:=w.1.size+2) (v:=⟨a2,c2,h4,d4⟩) (t:=(⟨t.id,t.l,t.o,t.u,zs,t.ag,t.az⟩:T7)) bX (by omega),Wp.out⟩;obtain⟨_,_,e2,MX⟩:=g3.form
        cases e2;have ot:OT Y2 w.1.size ⟨a2,c2,h4,d4⟩ (⟨t.id,t.l,t.o,t.u,zs,t.ag,t.az⟩:T7) (fun q=>(Value.slice a2 zs.length c2).ownBlock=some q) PS:=⟨MX,(j8.later g4).s,fun q h1 h2=>by have:=(g3.lt h1).1;have:=(j9 q (.inr h2)).2;omega,fun q h1=>⟨by have:=(g3.lt h1).1;omega,(g3.lt h1).2⟩,fun q h1=>⟨by have:=(j9 q (.inr h1)).1;omega,((j8.later g4).sB q h1).2⟩⟩
        have eO:∀q,nC (fun q=>(Value.slice a2 zs.length c2).ownBlock=some q) PS q->q≠w3.1.size/\q≠w.1.size+2:=fun q hq=>by
         rcases hq with hq|hq
         ·have:=(g3.lt hq).1;omega
         ·have:=j9 q (.inr hq);omega
        have JF:OT (Y2.setCell ⟨w3.1.size,4,none⟩ (.slice a2 zs.length c2)) w.1.size ⟨a2,c2,h4,d4⟩ (⟨t.id,t.l,t.o,t.u,zs,t.ag,t.az⟩:T7) (fun q=>(Value.slice a2 zs.length c2).ownBlock=some q) PS:=ot.aL (by simp[World.setCell]) (fun q _ hq=>Below.heap_setCell _ _ _ _ (eO q hq).1);exact JF.aL (w':=iw (Y2.setCell ⟨w3.1.size,4,none⟩ (.slice a2 zs.length c2)) (w.1.size+2) ⟨a2,c2,h4,d4⟩ (⟨t.id,t.l,t.o,t.u,zs,t.ag,t.az⟩:T7)) (by rw[je];exact Nat.le_refl _) (fun q _ hq=>fq (eO q hq).2)
      ·have ey:decide ((k:Int)<(t.b.length:Int))=false:=by simp;omega
       have q4:=@cell_regrown wr ⟨w.1.size,4,none⟩ (.slice ar t.b.length cr) p4;clear p4 oG gM;go_wp2_with fail;refine gP ?_;repeat (go_big_quiet_step (fail))
       refine iW fun dq aZ=>?_
       have bq:=below_regrown wr dq aZ;have KT:Hid (fA (grow (redrawn wr dq) aZ) w4.1.size (.slice a7 k c7) (t.b.take k)/\Below w4.1.size w4 (grow (redrawn wr dq) aZ)):=⟨KA.out.1.later bq,KA.out.2.1.trans (bq.mono KA.out.2.1.size)⟩
       have HC:Hid (pW t.b n=k):=(Ov (fun j hj=>KA.out.2.2 j (by omega))).trans (by omega);clear bq q4 KA;generalize grow (redrawn wr dq) aZ=U at *;have KD:Hid (Below U.1.size U U.drew):=aN.drew;have bD:Below w4.1.size w4 U.drew:=KT.out.2.trans (KD.out.mono KT.out.2.size);have SF:Hid (∀X,Below w4.1.size w4 X->(fun X:World=>aJ X (w.1.size+1) 0 n/\X.cell? ⟨w.1.size,4,none⟩=some (.slice ar t.b.length cr)) X):=fun X hX=>⟨H4.out.2.1.below hX (by have:=H4.out.2.2.2.2.2.1;have:=H4.out.2.2.2.2.2.2.2.2.2;omega),(H4.out.1.later hX).c4⟩
       have hS:(fun X:World=>aJ X (w.1.size+1) 0 n/\X.cell? ⟨w.1.size,4,none⟩=some (.slice ar t.b.length cr)) U.drew:=SF.out _ bD;have rD:fA U.drew w4.1.size (.slice a7 k c7) (t.b.take k):=KT.out.1.later KD.out;clear KD;go_wp2_with fail;refine aY (fun z=>z==11) (fun X:World=>aJ X (w.1.size+1) 0 n/\X.cell? ⟨w.1.size,4,none⟩=some (.slice ar t.b.length cr)) (by kernel_rfl) ?_;generalize U.drew=Ud at *;obtain⟨V1,lK⟩:∃V,V=Ud.alloc (.cells #[vI n.a,vI n.e,vI n.i,vI n.h,.bool n.j] 70):=⟨_,rfl⟩
       have tZ:Below Ud.1.size Ud V1:=by rw[lK];exact aN.alloc aU _
       have gG:dm V1 Ud.1.size 0 [n]:=by rw[lK];exact(aJ.box Ud _ _).one
       have lT:(t.b.take k).length=k:=by rw[List.length_take];omega
       obtain⟨v1,Y1,kK,jB,F3,-⟩:=uC (rD.later tZ) [n] (by rw[lT];simp;omega) 50 Ud.1.size 0 1 gG (Nat.le_trans bD.size tZ.size);have pO:Below w4.1.size w4 V1:=bD.trans (tZ.mono bD.size);have pR:Below w4.1.size w4 Y1:=pO.grown F3 pO.size (fun q e=>(rD.lt e).1);obtain⟨a1,c1,rfl,-⟩:=jB.form;have sS:(t.b.take k++[n]).length=k+1:=by simp[lT]
       obtain⟨a8,IW⟩:∃a8:OA,a8=(if cr=k then ar else Option.map (fun x=>x.add (k*5)) ar):=⟨_,rfl⟩
       have src:jP Y1 Y1.1.size a8 (t.b.drop k).length (t.b.drop k):=by
        refine⟨rfl,?_⟩;by_cases hz:(t.b.drop k).length=0
        ·exact .inl hz
        ·rw[List.length_drop]at hz;obtain⟨-,hq⟩:=(H4.out.2.2.2.2.1.later pR).r;dsimp only at hq;rcases hq with hq|⟨b',bR,e',gJ,BN⟩
         ·omega
         ·refine .inr ⟨b',bR+k*5,?_,gJ,fun i s hi=>?_⟩
          ·rw[IW,if_neg (by omega),e',Option.map_some];congr 1;unfold Addr.add;split<;>simp_all
          ·rw[List.getElem?_drop]at hi;have:=BN (k+i) s hi;rwa[show bR+k*5+i*5=bR+(k+i)*5 by omega]
       have Bg:=xx jB (t.b.drop k) (by rw[sS,List.length_drop];omega) 50 a8 (cr-k) src pR.size;obtain⟨a2,c2,Y2,oC,rX,F4,-⟩:=Bg;have qM:Below w4.1.size w4 Y2:=pR.grown F4 pR.size (fun q e=>(jB.lt e).1);rw[sS,List.length_drop]at oC;generalize l8:t.b.take k++[n]++t.b.drop k=zs at *;have HZ:=ay l8;clear l8;rw[sS]at kK;simp only[List.length_cons,List.length_nil,Nat.zero_add]at kK;have xB:BT Y2 w3.1.size ⟨a4,c4,h4,d4⟩ t:=H4.out.2.2.2.2.2.2.1.later qM;have k4:=xB.c4;have Fu:=xB.fz 4;dsimp only at k4;have yB:BT (Y2.setCell ⟨w3.1.size,4,none⟩ (.slice a2 zs.length c2)) w3.1.size ⟨a2,c2,h4,d4⟩ (⟨t.id,t.l,t.o,t.u,zs,t.ag,t.az⟩:T7):=xB.JS a2 c2 zs;have yR:BT (Y2.setCell ⟨w3.1.size,4,none⟩ (.slice a2 zs.length c2)) (w.1.size+2) ⟨none,0,none,0⟩ ⟨0,0,0,0,[],[],0⟩:=(H4.out.2.2.1.later qM).dX (by dsimp only;have:=H4.out.2.2.2.2.2.1;omega) _;have KF:Hid (BT (Y2.setCell ⟨w3.1.size,4,none⟩ (.slice a2 zs.length c2)) w3.1.size ⟨a2,c2,h4,d4⟩ (⟨t.id,t.l,t.o,t.u,zs,t.ag,t.az⟩:T7)/\BT (Y2.setCell ⟨w3.1.size,4,none⟩ (.slice a2 zs.length c2)) (w.1.size+2) ⟨none,0,none,0⟩ ⟨0,0,0,0,[],[],0⟩/\fA Y2 w4.1.size (.slice a2 zs.length c2) zs/\Below w4.1.size w4 Y2):=⟨yB,yR,rX,qM⟩
       have S1:=ay (SF.out _ pO);have S2:=ay (SF.out _ pR);have S3:=ay (SF.out _ qM);have ik:(k:Int)<=(t.b.length:Int):=by omega
       clear tZ gG F3 pO pR jB src F4 qM rX rD bD xB yB yR SF sS lT;refine cu 0 rfl hS ?_;simp only[Act.put];refine iZ 1 ?_ rfl ?_ hS ?_;rotate_left
       ·(intro X aH;obtain⟨⟨s0,s1,s2,s3,s4⟩,s5⟩:=aH;simp only[Nat.zero_add]at s1 s2 s3 s4;go_simp;first|done|with_reducible rfl)
       simp only[Act.put];refine cu 4 rfl hS ?_;simp only[Act.put];refine iZ 5 ?_ rfl ?_ hS ?_;rotate_left
       ·(intro X aH;obtain⟨⟨s0,s1,s2,s3,s4⟩,s5⟩:=aH;simp only[Nat.zero_add]at s1 s2 s3 s4;go_simp;first|done|with_reducible rfl)
       simp only[Act.put];refine cu 6 rfl hS ?_;simp only[Act.put];refine cu 7 rfl hS ?_;simp only[Act.put];refine TF 8 (.slice a8 (t.b.length-k) (cr-k)) rfl ?_ hS ?_
       ·(intro X _;rw[IW];go_simp;first|done|with_reducible rfl|rfl)
       clear IW;simp only[Act.put];refine dJ 2 rfl (fun K hK=>?_);go_simp;refine hK.out _ _ (fun _=>by rw[<-lK];exact S1.out) ?_;clear hK K;rw[<-lK];clear lK S1;refine dJ 3 rfl (fun K hK=>?_);refine bJ _ rfl (.tmp 68) (.tmp 70) 50 rfl _ _ _ _ (by first|rfl|simp[Act.eval,Act.put]) (by first|rfl|simp[Act.eval,Act.put]) kK ?_;refine hK.out _ _ (fun _=>S2.out) ?_;clear hK K;clear S2 kK;simp only[Act.put];refine dJ 9 rfl (fun K hK=>?_);refine bJ _ rfl (.tmp 71) (.tmp 76) 50 rfl _ _ _ _ (by first|rfl|simp[Act.eval,Act.put]) (by first|rfl|simp[Act.eval,Act.put]) oC ?_;refine hK.out _ _ (fun _=>S3.out) ?_;clear hK K;clear oC;simp only[Act.put];have hS:=S3.out;refine cu 10 rfl hS ?_;simp only[Act.put];refine dJ 11 rfl (fun K hK=>?_);go_simp;refine hK.out _ _ (fun h=>absurd (show false=true from h.symm.trans (by kernel_rfl)) (by decide)) ?_;clear hK K;refine df (by kernel_rfl) ?_ _;clear S3 hS k4 Fu;have jq:=KF.out.2.1.put ⟨a2,c2,h4,d4⟩ (⟨t.id,t.l,t.o,t.u,zs,t.ag,t.az⟩:T7);simp only[iw]at jq;obtain⟨u0,u1,u2,u3,u4,u5,u6,-,-⟩:=jq;have KU:=ay (And.intro u0 (And.intro u1 (And.intro u2 (And.intro u3 (And.intro u4 (And.intro u5 u6))))));clear u0 u1 u2 u3 u4 u5 u6;obtain⟨o0,o1,o2,o3,o4,o5,o6,-,-⟩:=KF.out.1;obtain⟨r0,r1,r2,r3,r4,r5,r6,fr,-⟩:=KF.out.2.1;have f0:=fr 0;have f1:=fr 1;have f2:=fr 2;have f3:=fr 3;have f4:=fr 4;have f5:=fr 5;have f6:=fr 6;clear fr;dsimp only at o0 o1 o2 o3 o4 o5 o6 r4 r5;go_wp2;obtain⟨u0,u1,u2,u3,u4,u5,u6⟩:=KU.out
       refine bodyPost_ret (v:=.tuple #[.agg #[vI t.id,vI t.l,vI t.o,vI t.u,.slice a2 zs.length c2,.slice h4 t.ag.length d4,vI t.az],.bool true]) (by simp[results,results23,go_sem,u0,u1,u2,u3,u4,u5,u6]) rfl ?_;rw[HN.out.1,HN.out.2,yK,HC.out,HZ.out];obtain⟨g1,g2,g3,g4⟩:=KF.out;obtain⟨-,-,-,j4,-,j6,-,j8,j9,j10⟩:=H4.out;have bX:Below w.1.size w (Y2.setCell ⟨w3.1.size,4,none⟩ (.slice a2 zs.length c2)):=(j4.trans (g4.mono j4.size)).setCell (p:=⟨w3.1.size,4,none⟩) (by dsimp only;omega) _;refine⟨a2,c2,h4,d4,fun q=>(Value.slice a2 zs.length c2).ownBlock=some q,PS,rfl,?_,bS (s:=w.1.size+2) (v:=⟨a2,c2,h4,d4⟩) (t:=(⟨t.id,t.l,t.o,t.u,zs,t.ag,t.az⟩:T7)) bX (by omega),Wp.out⟩;obtain⟨_,_,e2,MX⟩:=g3.form
       cases e2;have ot:OT Y2 w.1.size ⟨a2,c2,h4,d4⟩ (⟨t.id,t.l,t.o,t.u,zs,t.ag,t.az⟩:T7) (fun q=>(Value.slice a2 zs.length c2).ownBlock=some q) PS:=⟨MX,(j8.later g4).s,fun q h1 h2=>by have:=(g3.lt h1).1;have:=(j9 q (.inr h2)).2;omega,fun q h1=>⟨by have:=(g3.lt h1).1;omega,(g3.lt h1).2⟩,fun q h1=>⟨by have:=(j9 q (.inr h1)).1;omega,((j8.later g4).sB q h1).2⟩⟩
       have eO:∀q,nC (fun q=>(Value.slice a2 zs.length c2).ownBlock=some q) PS q->q≠w3.1.size/\q≠w.1.size+2:=fun q hq=>by
        rcases hq with hq|hq
        ·have:=(g3.lt hq).1;omega
        ·have:=j9 q (.inr hq);omega
       have JF:OT (Y2.setCell ⟨w3.1.size,4,none⟩ (.slice a2 zs.length c2)) w.1.size ⟨a2,c2,h4,d4⟩ (⟨t.id,t.l,t.o,t.u,zs,t.ag,t.az⟩:T7) (fun q=>(Value.slice a2 zs.length c2).ownBlock=some q) PS:=ot.aL (by simp[World.setCell]) (fun q _ hq=>Below.heap_setCell _ _ _ _ (eO q hq).1);exact JF.aL (w':=iw (Y2.setCell ⟨w3.1.size,4,none⟩ (.slice a2 zs.length c2)) (w.1.size+2) ⟨a2,c2,h4,d4⟩ (⟨t.id,t.l,t.o,t.u,zs,t.ag,t.az⟩:T7)) (by rw[je];exact Nat.le_refl _) (fun q _ hq=>fq (eO q hq).2)
end tx
namespace tx
open Go.Proofs.Tryz
variable {xs:List N5}
theorem VN{r s q t:Int}(h1:bH 0 5 s=true)(h2:bH 0 5 t=true)(h:rk r s=rk q t):r=q/\s=t:=by
 rw[dI]at h1 h2;unfold rk at h;omega
theorem PO(h:vG xs):bC.Hp (gV xs) xs.length:=fun i h0 hn=>by
 have e1:xs[(i-1)/2]?=some xs[(i-1)/2]:=List.getElem?_eq_getElem (by omega);have e2:xs[i]?=some xs[i]:=List.getElem?_eq_getElem hn;rw[Dr e1,Dr e2];exact Int.le_of_lt (AX h e1 e2 (by omega))
theorem Dm(xs:List N5)(n:N5):(yK xs n).Perm (xs++[n]):=by
 unfold yK;rw[List.append_assoc];refine((List.Perm.refl _).append (List.perm_append_comm (l₁:=[n]) (l₂:=xs.drop (pW xs n)))).trans ?_;rw[<-List.append_assoc,List.take_append_drop]
theorem RH{n:N5}(h:vG xs)(jG:∀s∈xs,bI s=true)(hn:bI n=true)(oG:nV xs n.a n.e=none):(yK xs n).Pairwise (fun a b=>kv a<kv b):=by
 have BK:=gL hn
 have Il:∀x∈xs.take (pW xs n),kv x<kv n:=fun x hx=>by
  obtain⟨i,hi,rfl⟩:=List.getElem_of_mem hx;have Ci:i<pW xs n:=by rw[List.length_take]at hi;omega
  have XY:i<xs.length:=by rw[List.length_take]at hi;omega
  have:=List.not_of_lt_findIdx (p:=fun x:N5=>!jk x.a x.e n.a n.e) (xs:=xs) Ci;rw[List.getElem_take];have hk:=(gL (jG _ (List.getElem_mem XY))).2;simp only[Bool.not_eq_false']at this;rw[nR hk BK.2]at this;simpa[kv]using this
 have QJ:∀x∈xs.drop (pW xs n),kv n<kv x:=fun x hx=>by
  obtain⟨i,hi,rfl⟩:=List.getElem_of_mem hx;rw[List.length_drop]at hi;have hc:pW xs n<xs.length:=by omega
  have h1:=List.findIdx_getElem (p:=fun x:N5=>!jk x.a x.e n.a n.e) (xs:=xs) (w:=hc);have hm:xs[pW xs n]∈xs:=List.getElem_mem hc;have hk:=(gL (jG _ hm)).2;change (!jk xs[pW xs n].a xs[pW xs n].e n.a n.e)=true at h1;rw[nR hk BK.2]at h1;simp only[Bool.not_eq_true',decide_eq_false_iff_not]at h1
  have h2:kv n≠kv xs[pW xs n]:=fun e=>by
   have:=VN hk BK.2 e.symm;exact AY.1 oG _ hm this
  have h3:kv n<kv xs[pW xs n]:=by
   have:¬kv xs[pW xs n]<kv n:=h1;omega
  rw[List.getElem_drop];rcases i with _|i
  ·simpa using h3
  ·exact Int.lt_trans h3 (List.pairwise_iff_getElem.1 h _ _ hc (by omega) (by omega))
 unfold yK;rw[List.pairwise_append,List.pairwise_append];refine⟨⟨h.sublist (List.take_sublist _ _),by simp,fun a ha b hb=>by simp at hb;subst hb;exact Il a ha⟩,h.sublist (List.drop_sublist _ _),fun a ha b hb=>?_⟩;rcases List.mem_append.1 ha with ha|ha
 ·exact Int.lt_trans (Il a ha) (QJ b hb)
 ·simp at ha;subst ha;exact QJ b hb
end tx
namespace tx
open Go.Proofs.Tryz
theorem qI(w:World)(v:TV)(t:T7)(n:N5)(hl:TL t)(hs:kR w v t):
  Calls prog 163 #[v.val t,.agg #[vI n.a,vI n.e,vI n.i,vI n.h,.bool n.j]] w (uM w (dL t n) (fD t n)):=by
 obtain⟨ar,cr,ah,ch⟩:=v;simp only[TV.val];obtain⟨W0,dS⟩:∃W,W=w.alloc (.cells #[vI t.id,vI t.l,vI t.o,vI t.u,.slice ar t.b.length cr,.slice ah t.ag.length ch,vI t.az] 53):=⟨_,rfl⟩
 have z0:W0.1.size=w.1.size+1:=by rw[dS];simp
 have x0:BT W0 w.1.size ⟨ar,cr,ah,ch⟩ t:=by rw[dS];exact BT.box w ⟨ar,cr,ah,ch⟩ t _
 have b0:Below w.1.size w W0:=by rw[dS];exact aN.alloc aU _
 obtain⟨W1,gZ⟩:∃W,W=W0.alloc (.cells #[vI n.a,vI n.e,vI n.i,vI n.h,.bool n.j] 70):=⟨_,rfl⟩
 have z1:W1.1.size=w.1.size+2:=by rw[gZ];simp[z0]
 have x1:aJ W1 (w.1.size+1) 0 n:=by rw[gZ,<-z0];exact aJ.box W0 _ _
 have b1:Below W0.1.size W0 W1:=by rw[gZ];exact aN.alloc aU _
 obtain⟨W,hW⟩:∃W,W=W1.alloc (.cells #[vI 0,vI 0,vI 0,vI 0,.slice none 0 0,.slice none 0 0,vI 0] 53):=⟨_,rfl⟩
 have zW:W.1.size=w.1.size+3:=by rw[hW];simp[z1]
 have x2:BT W (w.1.size+2) ⟨none,0,none,0⟩ ⟨0,0,0,0,[],[],0⟩:=by rw[hW,<-z1];exact BT.zero W1 _
 have b2:Below W1.1.size W1 W:=by rw[hW];exact aN.alloc aU _
 have bW:Below w.1.size w W:=(b0.trans (b1.mono b0.size)).trans (b2.mono (by omega));have c1:=qf W ⟨ar,cr,ah,ch⟩ t hl (hs.later bW);simp only[TV.val]at c1;have H:Hid (BT W w.1.size ⟨ar,cr,ah,ch⟩ t/\aJ W (w.1.size+1) 0 n/\BT W (w.1.size+2) ⟨none,0,none,0⟩ ⟨0,0,0,0,[],[],0⟩/\Below w.1.size w W/\kR W ⟨ar,cr,ah,ch⟩ t/\W.1.size=w.1.size+3):=⟨(x0.later b1).later b2,x1.below b2 (by omega),x2,bW,hs.later bW,zW⟩
 rw[gZ,dS]at hW;clear dS gZ z0 x0 b0 z1 x1 b1 zW x2 b2 bW hs hl
 cases hB:ky t with
 | false=>
  rw[hB]at c1;have HN:Hid (dL t n=kC/\fD t n=false):=⟨by simp[dL,hB],by simp[fD,hB]⟩
  go_enter func163,ntmps163;go_wp2_with fail;rw[<-hW];clear hW;refine c1.mono ?_;clear c1;rintro e w1 ⟨rfl,b1⟩;have KZ:Hid (BT w1 (w.1.size+2) ⟨none,0,none,0⟩ ⟨0,0,0,0,[],[],0⟩/\Below w.1.size w w1):=⟨H.out.2.2.1.later b1,H.out.2.2.2.1.trans (b1.mono H.out.2.2.2.1.size)⟩
  clear b1 H;obtain⟨r0,r1,r2,r3,r4,r5,r6,fr,-⟩:=KZ.out.1;have jq:=KZ.out.1.put ⟨none,0,none,0⟩ kC;simp only[iw,kC,List.length_nil]at jq;obtain⟨u0,u1,u2,u3,u4,u5,u6,-,-⟩:=jq;have KU:=ay (And.intro u0 (And.intro u1 (And.intro u2 (And.intro u3 (And.intro u4 (And.intro u5 u6))))));clear u0 u1 u2 u3 u4 u5 u6;have f0:=fr 0;have f1:=fr 1;have f2:=fr 2;have f3:=fr 3;have f4:=fr 4;have f5:=fr 5;have f6:=fr 6;clear fr;simp only[List.length_nil]at r4 r5;go_wp2;obtain⟨u0,u1,u2,u3,u4,u5,u6⟩:=KU.out;refine bodyPost_ret (v:=.tuple #[.agg #[vI 0,vI 0,vI 0,vI 0,.slice none 0 0,.slice none 0 0,vI 0],.bool false]) (by simp[results,results163,go_sem,u0,u1,u2,u3,u4,u5,u6]) rfl ?_;rw[HN.out.1,HN.out.2];exact uM.zero (bS (s:=w.1.size+2) (v:=⟨none,0,none,0⟩) (t:=kC) KZ.out.2 (by omega))
 | true=>
  rw[hB]at c1;go_enter func163,ntmps163;go_wp2_with fail;rw[<-hW];clear hW;refine c1.mono ?_;clear c1;rintro e w1 ⟨rfl,b1⟩;obtain⟨n0,n1,n2,n3,n4⟩:=H.out.2.1.below b1 (by have:=H.out.2.2.2.2.2;omega);simp only[Nat.zero_add]at n1 n2 n3 n4;have c2:=Ae w1 n;have H1:Hid (BT w1 w.1.size ⟨ar,cr,ah,ch⟩ t/\aJ w1 (w.1.size+1) 0 n/\BT w1 (w.1.size+2) ⟨none,0,none,0⟩ ⟨0,0,0,0,[],[],0⟩/\Below w.1.size w w1/\kR w1 ⟨ar,cr,ah,ch⟩ t/\w.1.size+3<=w1.1.size):=⟨H.out.1.later b1,H.out.2.1.below b1 (by have:=H.out.2.2.2.2.2;omega),H.out.2.2.1.later b1,H.out.2.2.2.1.trans (b1.mono H.out.2.2.2.1.size),H.out.2.2.2.2.1.later b1,by have:=H.out.2.2.2.2.2;have:=b1.size;omega⟩
  clear b1 H;go_wp2_with fail;refine c2.mono ?_;clear c2 n0 n1 n2 n3 n4;rintro e w2 ⟨rfl,b2⟩;have H2:Hid (BT w2 w.1.size ⟨ar,cr,ah,ch⟩ t/\aJ w2 (w.1.size+1) 0 n/\BT w2 (w.1.size+2) ⟨none,0,none,0⟩ ⟨0,0,0,0,[],[],0⟩/\Below w.1.size w w2/\kR w2 ⟨ar,cr,ah,ch⟩ t/\w.1.size+3<=w2.1.size):=⟨H1.out.1.later b2,H1.out.2.1.below b2 (by have:=H1.out.2.2.2.2.2;omega),H1.out.2.2.1.later b2,H1.out.2.2.2.1.trans (b2.mono H1.out.2.2.2.1.size),H1.out.2.2.2.2.1.later b2,by have:=H1.out.2.2.2.2.2;have:=b2.size;omega⟩
  clear b2 H1
  cases hO:bI n with
  | false=>
   have HN:Hid (dL t n=kC/\fD t n=false):=⟨by simp[dL,hO],by simp[fD,hO]⟩
   have KZ:Hid (BT w2 (w.1.size+2) ⟨none,0,none,0⟩ ⟨0,0,0,0,[],[],0⟩/\Below w.1.size w w2):=⟨H2.out.2.2.1,H2.out.2.2.2.1⟩
   clear H2;obtain⟨r0,r1,r2,r3,r4,r5,r6,fr,-⟩:=KZ.out.1;have jq:=KZ.out.1.put ⟨none,0,none,0⟩ kC;simp only[iw,kC,List.length_nil]at jq;obtain⟨u0,u1,u2,u3,u4,u5,u6,-,-⟩:=jq;have KU:=ay (And.intro u0 (And.intro u1 (And.intro u2 (And.intro u3 (And.intro u4 (And.intro u5 u6))))));clear u0 u1 u2 u3 u4 u5 u6;have f0:=fr 0;have f1:=fr 1;have f2:=fr 2;have f3:=fr 3;have f4:=fr 4;have f5:=fr 5;have f6:=fr 6;clear fr;simp only[List.length_nil]at r4 r5;go_wp2;obtain⟨u0,u1,u2,u3,u4,u5,u6⟩:=KU.out;refine bodyPost_ret (v:=.tuple #[.agg #[vI 0,vI 0,vI 0,vI 0,.slice none 0 0,.slice none 0 0,vI 0],.bool false]) (by simp[results,results163,go_sem,u0,u1,u2,u3,u4,u5,u6]) rfl ?_;rw[HN.out.1,HN.out.2];exact uM.zero (bS (s:=w.1.size+2) (v:=⟨none,0,none,0⟩) (t:=kC) KZ.out.2 (by omega))
  | true=>
   have fW:=(jT hB).1;have Vq:=(jT hB).2;have HT:Hid ((∀s∈t.b,bI s=true)/\vG t.b/\bI n=true):=⟨(Qq hB).1,(Qq hB).2,hO⟩
   have c3:=sH w2 ⟨ar,cr,ah,ch⟩ t (by omega) (by omega) H2.out.2.2.2.2.1;simp only[TV.val]at c3;obtain⟨p0,p1,p2,p3,p4,p5,p6,-,-⟩:=H2.out.1;dsimp only at p4 p5;go_wp2_with fail;refine c3.mono ?_;clear c3 p0 p1 p2 p3 p4 p5 p6;rintro e w3 ⟨a4,c4,h4,d4,PR,PS,rfl,o3,b3⟩;simp only[TV.val];obtain⟨X3,nK⟩:∃X,X=w3.alloc (.cells #[vI t.id,vI t.l,vI t.o,vI t.u,.slice a4 t.b.length c4,.slice h4 t.ag.length d4,vI t.az] 53):=⟨_,rfl⟩
   have b3':Below w3.1.size w3 X3:=by rw[nK];exact aN.alloc aU _
   have zF:Below w2.1.size w2 X3:=b3.trans (b3'.mono b3.size);have x3:BT X3 w3.1.size ⟨a4,c4,h4,d4⟩ t:=by rw[nK];exact BT.box w3 ⟨a4,c4,h4,d4⟩ t _
   have H3:Hid (aJ X3 (w.1.size+1) 0 n/\BT X3 (w.1.size+2) ⟨none,0,none,0⟩ ⟨0,0,0,0,[],[],0⟩/\Below w.1.size w X3/\w.1.size+3<=w3.1.size/\BT X3 w3.1.size ⟨a4,c4,h4,d4⟩ t/\OT X3 w2.1.size ⟨a4,c4,h4,d4⟩ t PR PS/\(∀q,nC PR PS q->w.1.size+3<=q/\q<w3.1.size)/\w3.1.size<X3.1.size):=⟨H2.out.2.1.below zF (by have:=H2.out.2.2.2.2.2;omega),H2.out.2.2.1.later zF,H2.out.2.2.2.1.trans (zF.mono H2.out.2.2.2.1.size),by have:=H2.out.2.2.2.2.2;have:=b3.size;omega,x3,o3.later b3',fun q hq=>⟨by have:=(o3.of hq).1;have:=H2.out.2.2.2.2.2;omega,(o3.of hq).2⟩,x3.lt⟩
   clear b3 b3' zF x3 o3 H2;have BI:=ED X3 a4 c4 t.b (by omega) H3.out.2.2.2.2.2.1.sl.r HT.out.1 HT.out.2.1;have k4:=H3.out.2.2.2.2.1.c4;dsimp only at k4;rw[nK]at k4;go_wp2_with fail;rw[<-nK];clear nK k4;refine BI.mono ?_;clear BI;rintro e w4 ⟨p,mb,m,pv,rfl,hp,hm,b4⟩;obtain⟨n0,n1,n2,n3,n4⟩:=H3.out.1.below b4 (by have:=H3.out.2.2.2.1;have:=H3.out.2.2.2.2.2.2.2;omega);simp only[Nat.zero_add]at n1 n2 n3 n4;have cC:=gI w4 n;have H4:Hid (lF w4 X3.1.size p mb m pv t.b/\Below X3.1.size X3 w4):=⟨hp,b4⟩
   clear hp b4;go_wp2_with fail;refine cC.mono ?_;clear cC n0 n1 n2 n3 n4;rintro e w5 ⟨rfl,b5⟩;have cH:=MM w5 X3.1.size p mb m pv t.b n.a n.e (H4.out.1.later b5) (gL HT.out.2.2).1 (gL HT.out.2.2).2;have H5:Hid (lF w5 X3.1.size p mb m pv t.b/\Below X3.1.size X3 w5):=⟨H4.out.1.later b5,H4.out.2.trans (b5.mono H4.out.2.size)⟩
   clear b5 H4;go_wp2_with fail;refine cH.mono ?_;clear cH;rintro e w6 ⟨rfl,b6⟩;have H6:Hid (lF w6 X3.1.size p mb m pv t.b/\Below X3.1.size X3 w6):=⟨H5.out.1.later b6,H5.out.2.trans (b6.mono H5.out.2.size)⟩
   clear b6 H5
   cases hF:(nV t.b n.a n.e).isSome with
   | true=>
    have HN:Hid (dL t n=t/\fD t n=true):=⟨by simp[dL,hB,hO,hF],by simp[fD,hB,hO,hF]⟩
    obtain⟨o0,o1,o2,o3,o4,o5,o6,-,-⟩:=H3.out.2.2.2.2.1.later H6.out.2;have zR:=H3.out.2.1.later H6.out.2;obtain⟨r0,r1,r2,r3,r4,r5,r6,fr,-⟩:=zR;have jq:=(H3.out.2.1.later H6.out.2).put ⟨a4,c4,h4,d4⟩ t;simp only[iw]at jq;obtain⟨u0,u1,u2,u3,u4,u5,u6,-,-⟩:=jq;have KU:=ay (And.intro u0 (And.intro u1 (And.intro u2 (And.intro u3 (And.intro u4 (And.intro u5 u6))))));clear u0 u1 u2 u3 u4 u5 u6;have f0:=fr 0;have f1:=fr 1;have f2:=fr 2;have f3:=fr 3;have f4:=fr 4;have f5:=fr 5;have f6:=fr 6;clear fr;dsimp only at o4 o5 r4 r5;go_wp2;obtain⟨u0,u1,u2,u3,u4,u5,u6⟩:=KU.out;refine bodyPost_ret (v:=.tuple #[.agg #[vI t.id,vI t.l,vI t.o,vI t.u,.slice a4 t.b.length c4,.slice h4 t.ag.length d4,vI t.az],.bool true]) (by simp[results,results163,go_sem,u0,u1,u2,u3,u4,u5,u6]) rfl ?_;rw[HN.out.1,HN.out.2];obtain⟨-,-,g4,g6,-,g8,g9,-⟩:=H3.out;have g4':=g4.trans (H6.out.2.mono g4.size);refine⟨a4,c4,h4,d4,PR,PS,rfl,?_,bS (s:=w.1.size+2) (v:=⟨a4,c4,h4,d4⟩) (t:=t) g4' (by omega)⟩;exact((g8.later H6.out.2).aL (w':=iw w6 (w.1.size+2) ⟨a4,c4,h4,d4⟩ t) (by rw[je];exact Nat.le_refl _) (fun q _ hq=>fq (by have:=(g9 q hq).1;omega))).low (fun q hq=>by have:=(g9 q hq).1;omega)
   | false=>
    have cF:=Ju w6 X3.1.size p mb m pv t.b H6.out.1;go_wp2_with fail;refine cF.mono ?_;clear cF;rintro e V7 ⟨rfl,rfl⟩;by_cases uI:t.b.length=12
    ·have d12:decide (12<=t.b.length)=true:=by simp;omega
     rw[d12];have HN:Hid (dL t n=kC/\fD t n=false):=⟨by simp[dL,hB,hO,hF,uI],by simp[fD,hB,hO,hF,uI]⟩
     have KZ:Hid (BT V7 (w.1.size+2) ⟨none,0,none,0⟩ ⟨0,0,0,0,[],[],0⟩/\Below w.1.size w V7):=⟨H3.out.2.1.later H6.out.2,H3.out.2.2.1.trans (H6.out.2.mono H3.out.2.2.1.size)⟩
     clear H3 H6 d12;obtain⟨r0,r1,r2,r3,r4,r5,r6,fr,-⟩:=KZ.out.1;have jq:=KZ.out.1.put ⟨none,0,none,0⟩ kC;simp only[iw,kC,List.length_nil]at jq;obtain⟨u0,u1,u2,u3,u4,u5,u6,-,-⟩:=jq;have KU:=ay (And.intro u0 (And.intro u1 (And.intro u2 (And.intro u3 (And.intro u4 (And.intro u5 u6))))));clear u0 u1 u2 u3 u4 u5 u6;have f0:=fr 0;have f1:=fr 1;have f2:=fr 2;have f3:=fr 3;have f4:=fr 4;have f5:=fr 5;have f6:=fr 6;clear fr;simp only[List.length_nil]at r4 r5;go_wp2;obtain⟨u0,u1,u2,u3,u4,u5,u6⟩:=KU.out;refine bodyPost_ret (v:=.tuple #[.agg #[vI 0,vI 0,vI 0,vI 0,.slice none 0 0,.slice none 0 0,vI 0],.bool false]) (by simp[results,results163,go_sem,u0,u1,u2,u3,u4,u5,u6]) rfl ?_;rw[HN.out.1,HN.out.2];exact uM.zero (bS (s:=w.1.size+2) (v:=⟨none,0,none,0⟩) (t:=kC) KZ.out.2 (by omega))
    ·have d12:decide (12<=t.b.length)=false:=by simp;omega
     rw[d12];have HN:Hid (dL t n=⟨t.id,t.l,t.o,t.u,yK t.b n,t.ag,t.az⟩/\fD t n=true):=⟨by simp[dL,hB,hO,hF,uI],by simp[fD,hB,hO,uI]⟩
     have oG:nV t.b n.a n.e=none:=by cases e:nV t.b n.a n.e<;>simp_all
     have Es:=RH HT.out.2.1 HT.out.1 HT.out.2.2 oG;obtain⟨n0,n1,n2,n3,n4⟩:=H3.out.1.below H6.out.2 (by have:=H3.out.2.2.2.1;have:=H3.out.2.2.2.2.2.2.2;omega);simp only[Nat.zero_add]at n1 n2 n3 n4;have cP:=PN V7 X3.1.size p mb m pv t.b n H6.out.1 (by omega) (by omega) HT.out.2.2 oG H6.out.2.size (PO HT.out.2.1);have Qz:=ay Es;clear Es d12 oG;go_wp2_with fail;refine cP.mono ?_;clear cP n0 n1 n2 n3 n4;rintro e w7 ⟨rfl,q,cap,m',ys,eI,Fq,jN,XX,b7⟩;have Xt:Below X3.1.size X3 w7:=H6.out.2.trans b7;have Pe:ys.length=t.b.length+1:=by have:=jN.length_eq;simpa using this
     have OQ:ys.Pairwise (fun a b=>kv a≠kv b):=((jN.trans (Dm t.b n).symm).symm.pairwise_iff (fun {a b} (h:kv a≠kv b)=>h.symm)).1 (Qz.out.imp (fun h=>Int.ne_of_lt h));have cI:=CE w7 X3.1.size p q mb m' cap ys Fq (by omega) (by omega) XX OQ;have H7:Hid (Below X3.1.size X3 w7/\X3.1.size<=p/\X3.1.size<=q/\X3.1.size<=mb/\ys.Perm (t.b++[n])):=⟨Xt,Fq.bp,Fq.bq,Fq.bm,jN⟩
     clear Xt b7 Fq jN XX OQ eI Pe H6;go_wp2_with fail;refine cI.mono ?_;clear cI;rintro e w8 ⟨v8,zs,rfl,Be,LC,TG,k8⟩;have Ky:Below X3.1.size X3 w8:=H7.out.1.trans (k8.below (fun x hx=>by obtain⟨-,h1,h2,h3,-⟩:=H7.out;rcases hx with rfl|rfl|rfl<;>assumption) H7.out.1.size);have l8:zs=yK t.b n:=bC.zk kv TG Qz.out (LC.trans (H7.out.2.2.2.2.trans (Dm t.b n).symm));have HZ:=ay l8;obtain⟨a2,c2,rfl,-⟩:=Be.form;have xB:BT w8 w3.1.size ⟨a4,c4,h4,d4⟩ t:=H3.out.2.2.2.2.1.later Ky;have k4:=xB.c4;have Fu:=xB.fz 4;dsimp only at k4;have SL:X3.1.size<=w7.1.size:=H7.out.1.size;have KF:Hid (BT (w8.setCell ⟨w3.1.size,4,none⟩ (.slice a2 zs.length c2)) w3.1.size ⟨a2,c2,h4,d4⟩ (⟨t.id,t.l,t.o,t.u,zs,t.ag,t.az⟩:T7)/\BT (w8.setCell ⟨w3.1.size,4,none⟩ (.slice a2 zs.length c2)) (w.1.size+2) ⟨none,0,none,0⟩ ⟨0,0,0,0,[],[],0⟩/\fA w8 w7.1.size (.slice a2 zs.length c2) zs/\Below X3.1.size X3 w8/\X3.1.size<=w7.1.size):=⟨xB.JS a2 c2 zs,(H3.out.2.1.later Ky).dX (by dsimp only;have:=H3.out.2.2.2.1;omega) _,Be,Ky,SL⟩
     clear l8 Be LC TG k8 Ky xB SL H7 Qz;have jq:=KF.out.2.1.put ⟨a2,c2,h4,d4⟩ (⟨t.id,t.l,t.o,t.u,zs,t.ag,t.az⟩:T7);simp only[iw]at jq;obtain⟨u0,u1,u2,u3,u4,u5,u6,-,-⟩:=jq;have KU:=ay (And.intro u0 (And.intro u1 (And.intro u2 (And.intro u3 (And.intro u4 (And.intro u5 u6))))));clear u0 u1 u2 u3 u4 u5 u6;obtain⟨o0,o1,o2,o3,o4,o5,o6,-,-⟩:=KF.out.1;obtain⟨r0,r1,r2,r3,r4,r5,r6,fr,-⟩:=KF.out.2.1;have f0:=fr 0;have f1:=fr 1;have f2:=fr 2;have f3:=fr 3;have f4:=fr 4;have f5:=fr 5;have f6:=fr 6;clear fr;dsimp only at o0 o1 o2 o3 o4 o5 o6 r4 r5;go_wp2;obtain⟨u0,u1,u2,u3,u4,u5,u6⟩:=KU.out;refine bodyPost_ret (v:=.tuple #[.agg #[vI t.id,vI t.l,vI t.o,vI t.u,.slice a2 zs.length c2,.slice h4 t.ag.length d4,vI t.az],.bool true]) (by simp[results,results163,go_sem,u0,u1,u2,u3,u4,u5,u6]) rfl ?_;rw[HN.out.1,HN.out.2,<-HZ.out];obtain⟨g1,g2,g3,g4,g5⟩:=KF.out;obtain⟨-,-,j4,j6,-,j8,j9,j10⟩:=H3.out;have bX:Below w.1.size w (w8.setCell ⟨w3.1.size,4,none⟩ (.slice a2 zs.length c2)):=(j4.trans (g4.mono j4.size)).setCell (p:=⟨w3.1.size,4,none⟩) (by dsimp only;omega) _;refine⟨a2,c2,h4,d4,fun q=>(Value.slice a2 zs.length c2).ownBlock=some q,PS,rfl,?_,bS (s:=w.1.size+2) (v:=⟨a2,c2,h4,d4⟩) (t:=(⟨t.id,t.l,t.o,t.u,zs,t.ag,t.az⟩:T7)) bX (by omega)⟩;obtain⟨_,_,e2,MX⟩:=g3.form
     cases e2;have ot:OT w8 w.1.size ⟨a2,c2,h4,d4⟩ (⟨t.id,t.l,t.o,t.u,zs,t.ag,t.az⟩:T7) (fun q=>(Value.slice a2 zs.length c2).ownBlock=some q) PS:=⟨MX,(j8.later g4).s,fun q h1 h2=>by have:=(g3.lt h1).1;have:=(j9 q (.inr h2)).2;omega,fun q h1=>⟨by have:=(g3.lt h1).1;omega,(g3.lt h1).2⟩,fun q h1=>⟨by have:=(j9 q (.inr h1)).1;omega,((j8.later g4).sB q h1).2⟩⟩
     have eO:∀q,nC (fun q=>(Value.slice a2 zs.length c2).ownBlock=some q) PS q->q≠w3.1.size/\q≠w.1.size+2:=fun q hq=>by
      rcases hq with hq|hq
      ·have:=(g3.lt hq).1;omega
      ·have:=j9 q (.inr hq);omega
     have JF:OT (w8.setCell ⟨w3.1.size,4,none⟩ (.slice a2 zs.length c2)) w.1.size ⟨a2,c2,h4,d4⟩ (⟨t.id,t.l,t.o,t.u,zs,t.ag,t.az⟩:T7) (fun q=>(Value.slice a2 zs.length c2).ownBlock=some q) PS:=ot.aL (by simp[World.setCell]) (fun q _ hq=>Below.heap_setCell _ _ _ _ (eO q hq).1);exact JF.aL (w':=iw (w8.setCell ⟨w3.1.size,4,none⟩ (.slice a2 zs.length c2)) (w.1.size+2) ⟨a2,c2,h4,d4⟩ (⟨t.id,t.l,t.o,t.u,zs,t.ag,t.az⟩:T7)) (by rw[je];exact Nat.le_refl _) (fun q _ hq=>fq (eO q hq).2)
end tx
section
open Go.Proofs.Tryz
structure DB(w:World)(B d:Nat)(a1:OA)(c1:Nat)(a2:OA)(c2:Nat)(a3:OA)(c3:Nat)(k:C6)(i:Nat)(u:tx.TV)(t:tx.T7)(P:Nat->Prop):Prop where
 bx:Bx w d [vI k.v,vI k.q,.slice a1 k.f.length c1,.slice a2 k.aa.length c2,.slice a3 k.c.length c3,.bool k.w,vI (i:Int),vI t.id,vI t.l,vI t.o,vI t.u,.slice u.ar t.b.length u.cr,.slice u.ah t.ag.length u.ch,vI t.az]
 ow:KT.Ow w B u.ar u.cr u.ah u.ch t P
 nd:∀q,P q->q≠d
 lo:B<=d
theorem DB.later{w w':World}{B d:Nat}{a1:OA}{c1:Nat}{a2:OA}{c2:Nat}{a3:OA}{c3:Nat}{k:C6}{i:Nat}{u:tx.TV}{t:tx.T7}{P:Nat->Prop}(h:DB w B d a1 c1 a2 c2 a3 c3 k i u t P)(b:Below w.1.size w w'):DB w' B d a1 c1 a2 c2 a3 c3 k i u t P:=⟨h.bx.later b,h.ow.later b,h.nd,h.lo⟩
def Qy(w:World)(B d:Nat)(a1:OA)(c1:Nat)(a2:OA)(c2:Nat)(a3:OA)(c3:Nat)(k:C6)(i:Nat)(P:Nat->Prop)(N:tx.T7)(n:Int)(v:Value)(e:Ending)(w':World):Prop:=(n≠0/\nE w k n e w')\/(n=0/\e=.returned v/\(∃u P',DB w' B d a1 c1 a2 c2 a3 c3 k i u N P'/\∀q,P' q->P q\/w.1.size<=q)/\di d w w')
def Kr(t:tx.T7)(n:tx.N5):Int:=if tx.fD t n=true then 0 else 9
theorem Fz(w:World)(B d:Nat)(a1:OA)(c1:Nat)(a2:OA)(c2:Nat)(a3:OA)(c3:Nat)(k:C6)(i:Nat)(u:tx.TV)(t:tx.T7)(P:Nat->Prop)(n:tx.N5)(hk:aF k=true)(h:cO.Rd w a1 c1 a2 c2 a3 c3 k)(hd:DB w B d a1 c1 a2 c2 a3 c3 k i u t P)(hl:tx.TL t)(Ny:B<=w.1.size):
  Calls prog 122 #[.pointer (some ⟨d,0,none⟩),.agg #[vI n.a,vI n.e,vI n.i,vI n.h,.bool n.j]] w (Qy w B d a1 c1 a2 c2 a3 c3 k i P (tx.dL t n) (Kr t n) (.tuple #[])):=by
 obtain⟨U,hU,bU,xU,sU⟩:=jU w [vI n.a,vI n.e,vI n.i,vI n.h,.bool n.j] 70;have HR:Hid (cO.Rd U a1 c1 a2 c2 a3 c3 k/\aF k=true/\DB U B d a1 c1 a2 c2 a3 c3 k i u t P/\tx.TL t/\Below w.1.size w U/\d<w.1.size/\B<=d/\B<=w.1.size):=⟨h.later bU,hk,hd.later bU,hl,bU,hd.bx.2.2,hd.lo,Ny⟩
 have hS:(fun Z:World=>Below U.1.size U Z/\Bx Z d [vI k.v,vI k.q,.slice a1 k.f.length c1,.slice a2 k.aa.length c2,.slice a3 k.c.length c3,.bool k.w,vI (i:Int),vI t.id,vI t.l,vI t.o,vI t.u,.slice u.ar t.b.length u.cr,.slice u.ah t.ag.length u.ch,vI t.az]/\Bx Z w.1.size [vI n.a,vI n.e,vI n.i,vI n.h,.bool n.j]) U.drew:=⟨aN.drew,HR.out.2.2.1.bx.later (aN.drew),xU.later (aN.drew)⟩
 clear h hk hd hl bU xU sU Ny;go_enter func122,ntmps122;go_wp2_with fail;rw[<-hU];clear hU;refine aY (fun z=>z==10) (fun Z:World=>Below U.1.size U Z/\Bx Z d [vI k.v,vI k.q,.slice a1 k.f.length c1,.slice a2 k.aa.length c2,.slice a3 k.c.length c3,.bool k.w,vI (i:Int),vI t.id,vI t.l,vI t.o,vI t.u,.slice u.ar t.b.length u.cr,.slice u.ah t.ag.length u.ch,vI t.az]/\Bx Z w.1.size [vI n.a,vI n.e,vI n.i,vI n.h,.bool n.j]) (by kernel_rfl) ?_;generalize U.drew=Wd at *;refine cu 0 rfl hS ?_;simp only[Act.put];refine TF 1 (.pointer (some ⟨d,0,none⟩)) rfl ?_ hS ?_
 ·(intro w _;go_simp)
 simp only[Act.put];refine cu 2 rfl hS ?_;simp only[Act.put];refine iZ 3 (.agg #[vI t.id,vI t.l,vI t.o,vI t.u,.slice u.ar t.b.length u.cr,.slice u.ah t.ag.length u.ch,vI t.az]) rfl ?_ hS ?_
 ·(intro w aH;have q7:=aH.2.1.1 7 _ rfl;have q8:=aH.2.1.1 8 _ rfl;have q9:=aH.2.1.1 9 _ rfl;have nx:=aH.2.1.1 10 _ rfl;have nB:=aH.2.1.1 11 _ rfl;have nF:=aH.2.1.1 12 _ rfl;have n6:=aH.2.1.1 13 _ rfl;clear hS aH;go_simp)
 simp only[Act.put];refine iZ 4 (.agg #[vI n.a,vI n.e,vI n.i,vI n.h,.bool n.j]) rfl ?_ hS ?_
 ·(intro w aH;have q0:=aH.2.2.1 0 _ rfl;have q1:=aH.2.2.1 1 _ rfl;have q2:=aH.2.2.1 2 _ rfl;have q3:=aH.2.2.1 3 _ rfl;have q4:=aH.2.2.1 4 _ rfl;clear hS aH;go_simp)
 simp only[Act.put];refine sJ (rs:=[5,9]) (by kernel_rfl) (by simp) ?_;refine sM.cons rfl (fun K hK=>?_) (sM.cons rfl (fun K hK=>?_) sM.nil)
 case' refine_1=>
  go_simp;have cA:=tx.qI Wd u t n HR.out.2.2.2.1 (HR.out.2.2.1.ow.sl.later hS.1);simp only[tx.TV.val]at cA;refine cA.mono ?_;clear cA;rintro e X ⟨va,vc,vh,vd,PR,PS,rfl,yD,bX⟩;have HO:Hid (tx.OT X Wd.1.size ⟨va,vc,vh,vd⟩ (tx.dL t n) PR PS/\Below U.1.size U Wd):=⟨yD,hS.1⟩
  replace hS:(fun Z:World=>Below U.1.size U Z/\Bx Z d [vI k.v,vI k.q,.slice a1 k.f.length c1,.slice a2 k.aa.length c2,.slice a3 k.c.length c3,.bool k.w,vI (i:Int),vI t.id,vI t.l,vI t.o,vI t.u,.slice u.ar t.b.length u.cr,.slice u.ah t.ag.length u.ch,vI t.az]/\Bx Z w.1.size [vI n.a,vI n.e,vI n.i,vI n.h,.bool n.j]) X:=⟨au hS.1 bX,hS.2.1.later bX,hS.2.2.later bX⟩
  refine hK.out _ _ (fun _=>hS) ?_;clear hK K yD bX;refine cu 6 rfl hS ?_;simp only[Act.put];refine cu 7 rfl hS ?_;simp only[Act.put];refine cu 8 rfl hS ?_;simp only[Act.put];refine dJ 9 rfl (fun K hK=>?_);go_simp;have bV:Below X.1.size X (X.alloc (.cells #[vI 0,vI 0,vI 0,vI 0,.slice none 0 0,.slice none 0 0,vI 0] 53)):=aN.alloc aU _;have xV:Bx (X.alloc (.cells #[vI 0,vI 0,vI 0,vI 0,.slice none 0 0,.slice none 0 0,vI 0] 53)) X.1.size SK:=Bx.made X SK _;have HX:Hid (X.1.size=X.1.size):=rfl;obtain⟨V,hV⟩:∃V,V=X.alloc (.cells #[vI 0,vI 0,vI 0,vI 0,.slice none 0 0,.slice none 0 0,vI 0] 53):=⟨_,rfl⟩
  obtain⟨bb,qQ⟩:∃bb,bb=X.1.size:=⟨_,rfl⟩
  rw[<-hV,<-qQ]at xV;rw[<-hV]at bV;rw[<-hV,<-qQ];have DU:Hid (tx.OT V Wd.1.size ⟨va,vc,vh,vd⟩ (tx.dL t n) PR PS/\Below U.1.size U Wd/\(∀q,tx.nC PR PS q->q≠bb)/\U.1.size<=bb):=⟨HO.out.1.later bV,HO.out.2,fun q hq=>by have:=(HO.out.1.of hq).2;omega,by have:=hS.1.size;omega⟩
  replace hS:(fun Z:World=>Below U.1.size U Z/\Bx Z d [vI k.v,vI k.q,.slice a1 k.f.length c1,.slice a2 k.aa.length c2,.slice a3 k.c.length c3,.bool k.w,vI (i:Int),vI t.id,vI t.l,vI t.o,vI t.u,.slice u.ar t.b.length u.cr,.slice u.ah t.ag.length u.ch,vI t.az]/\Bx Z w.1.size [vI n.a,vI n.e,vI n.i,vI n.h,.bool n.j]) V:=⟨au hS.1 bV,hS.2.1.later bV,hS.2.2.later bV⟩
  clear bV HO HX;clear hV qQ;clear X;refine hK.out _ _ (fun _=>hS) ?_;clear hK K
 case' refine_2=>
  go_simp;obtain⟨V0,hV⟩:∃V,V=Wd.alloc (.cells #[vI 0,vI 0,vI 0,vI 0,.slice none 0 0,.slice none 0 0,vI 0] 53):=⟨_,rfl⟩
  obtain⟨bb,qQ⟩:∃bb,bb=Wd.1.size:=⟨_,rfl⟩
  have bV:Below Wd.1.size Wd V0:=by rw[hV];exact aN.alloc aU _
  have V8:Bx V0 bb SK:=by rw[hV,qQ];exact Bx.made Wd SK _
  rw[<-hV,<-qQ];have TU:Hid (U.1.size<=bb/\bb<V0.1.size):=⟨by have:=hS.1.size;omega,V8.2.2⟩
  replace hS:(fun Z:World=>Below U.1.size U Z/\Bx Z d [vI k.v,vI k.q,.slice a1 k.f.length c1,.slice a2 k.aa.length c2,.slice a3 k.c.length c3,.bool k.w,vI (i:Int),vI t.id,vI t.l,vI t.o,vI t.u,.slice u.ar t.b.length u.cr,.slice u.ah t.ag.length u.ch,vI t.az]/\Bx Z w.1.size [vI n.a,vI n.e,vI n.i,vI n.h,.bool n.j]) V0:=⟨au hS.1 bV,hS.2.1.later bV,hS.2.2.later bV⟩
  refine hK.out _ _ (fun _=>hS) ?_;clear hK K bV hV qQ;clear Wd;refine dJ 5 rfl (fun K hK=>?_);go_simp;have cA:=tx.qI V0 u t n HR.out.2.2.2.1 (HR.out.2.2.1.ow.sl.later hS.1);simp only[tx.TV.val]at cA;refine cA.mono ?_;clear cA;rintro e X ⟨va,vc,vh,vd,PR,PS,rfl,yD,bX⟩;have HO:Hid (tx.OT X V0.1.size ⟨va,vc,vh,vd⟩ (tx.dL t n) PR PS/\Below U.1.size U V0):=⟨yD,hS.1⟩
  have xV:=V8.later bX;have DU:Hid (tx.OT X V0.1.size ⟨va,vc,vh,vd⟩ (tx.dL t n) PR PS/\Below U.1.size U V0/\(∀q,tx.nC PR PS q->q≠bb)/\U.1.size<=bb):=⟨yD,hS.1,fun q hq=>by have:=(yD.of hq).1;have:=TU.out.2;omega,TU.out.1⟩
  replace hS:(fun Z:World=>Below U.1.size U Z/\Bx Z d [vI k.v,vI k.q,.slice a1 k.f.length c1,.slice a2 k.aa.length c2,.slice a3 k.c.length c3,.bool k.w,vI (i:Int),vI t.id,vI t.l,vI t.o,vI t.u,.slice u.ar t.b.length u.cr,.slice u.ah t.ag.length u.ch,vI t.az]/\Bx Z w.1.size [vI n.a,vI n.e,vI n.i,vI n.h,.bool n.j]) X:=⟨au hS.1 bX,hS.2.1.later bX,hS.2.2.later bX⟩
  refine hK.out _ _ (fun _=>hS) ?_;clear hK K;clear yD bX HO V8 TU;refine cu 6 rfl hS ?_;simp only[Act.put];refine cu 7 rfl hS ?_;simp only[Act.put];refine cu 8 rfl hS ?_;simp only[Act.put];generalize X=V at *;generalize V0=Wd at *
 all_goals
  have c0:=xV.1 0 _ rfl;have f0:=xV.2.1 0;have c1:=xV.1 1 _ rfl;have f1:=xV.2.1 1;have c2:=xV.1 2 _ rfl;have f2:=xV.2.1 2;have c3:=xV.1 3 _ rfl;have f3:=xV.2.1 3;have c4:=xV.1 4 _ rfl;have f4:=xV.2.1 4;have c5:=xV.1 5 _ rfl;have f5:=xV.2.1 5;have c6:=xV.1 6 _ rfl;have f6:=xV.2.1 6;refine dJ 10 rfl (fun K hK=>?_);go_simp;refine hK.out _ _ (fun h=>absurd (show false=true from h.symm.trans (by kernel_rfl)) (by decide)) ?_;clear hK K;refine dJ 11 rfl (fun K hK=>?_);go_simp;refine hK.out _ _ (fun h=>absurd (show false=true from h.symm.trans (by kernel_rfl)) (by decide)) ?_;clear hK K;refine df (by kernel_rfl) ?_ _;clear c0 f0 c1 f1 c2 f2 c3 f3 c4 f4 c5 f5 c6 f6;obtain⟨Y,hY⟩:∃Y,Y=dU V bb 0 (tx.nO va vc vh vd (tx.dL t n)):=⟨_,rfl⟩
  have yb:=xV.put (tx.nO va vc vh vd (tx.dL t n)) rfl;rw[<-hY]at yb;have La:Y=(((((((V.setCell ⟨bb,0,none⟩ (vI (tx.dL t n).id)).setCell ⟨bb,1,none⟩ (vI (tx.dL t n).l)).setCell ⟨bb,2,none⟩ (vI (tx.dL t n).o)).setCell ⟨bb,3,none⟩ (vI (tx.dL t n).u)).setCell ⟨bb,4,none⟩ (.slice va (tx.dL t n).b.length vc)).setCell ⟨bb,5,none⟩ (.slice vh (tx.dL t n).ag.length vd)).setCell ⟨bb,6,none⟩ (vI (tx.dL t n).az)):=hY;rw[<-La];have dO:Y.1.size=V.1.size:=by rw[hY];exact bu _ _ _ _
  have dX:∀q,q≠bb->Y.1[q]?=V.1[q]?:=fun q hq=>by rw[hY];exact aX hq _ _ _
  have h1:=DU.out.2.1.size;have h2:=HR.out.2.2.2.2.1.size;have BY:Hid (Below w.1.size w Y):=by unfold Hid;rw[hY];exact bn (by have:=DU.out.2.2.2;omega) _ _ _ (au HR.out.2.2.2.2.1 hS.1)
  have yz:d≠bb:=by have:=DU.out.2.2.2;have:=HR.out.2.2.2.2.2.1;omega
  have KY:Hid (Bx Y d [vI k.v,vI k.q,.slice a1 k.f.length c1,.slice a2 k.aa.length c2,.slice a3 k.c.length c3,.bool k.w,vI (i:Int),vI t.id,vI t.l,vI t.o,vI t.u,.slice u.ar t.b.length u.cr,.slice u.ah t.ag.length u.ch,vI t.az]/\Bx Y bb (tx.nO va vc vh vd (tx.dL t n))/\d≠bb):=⟨hS.2.1.aj (dX d yz) (Nat.le_of_eq dO.symm),yb,yz⟩
  have Uv:∀q,tx.nC PR PS q->Wd.1.size<=q/\q<V.1.size:=fun q hq=>DU.out.1.of hq
  have KO:Hid (KT.Ow Y Wd.1.size va vc vh vd (tx.dL t n) (tx.nC PR PS)/\(∀q,tx.nC PR PS q->q≠d/\w.1.size<=q)/\B<=Wd.1.size):=by
   refine⟨KT.Ow.aL (w:=V) ⟨PR,PS,DU.out.1,fun q hq=>hq,Uv⟩ (Nat.le_of_eq dO.symm) (fun q hq=>dX q (DU.out.2.2.1 q hq)),fun q hq=>?_,by have:=HR.out.2.2.2.2.2.2.2;omega⟩;have:=Uv q hq;have:=HR.out.2.2.2.2.2.1;omega
  have Z9:Hid (cO.Rd Y a1 c1 a2 c2 a3 c3 k):=by
   have hb:Below U.1.size U Y:=by rw[hY];exact bn DU.out.2.2.2 _ _ _ hS.1
   exact HR.out.1.later hb
  clear La hY yb dO dX h1 h2 yz Uv hS xV DU
  cases Lb:tx.fD t n with
  | false=>
   have HC:Hid (Kr t n=9):=by unfold Hid Kr;rw[Lb];rfl
   have hr:=iK Y d a1 c1 a2 c2 a3 c3 k [vI (i:Int),vI t.id,vI t.l,vI t.o,vI t.u,.slice u.ar t.b.length u.cr,.slice u.ah t.ag.length u.ch,vI t.az] 9 HR.out.2.1 Z9.out KY.out.1;clear Lb;go_wp2_with fail;refine hr.mono ?_;clear hr;intro e w2 hr;have HX:Hid (Qy w B d a1 c1 a2 c2 a3 c3 k i P (tx.dL t n) (Kr t n) (.tuple #[]) e w2):=.inl ⟨by rw[HC.out];decide,by rw[HC.out];exact hr.low BY.out⟩;obtain⟨e1,d1,e2,d2,e3,d3,P2,rfl,-,-⟩:=hr;go_wp2;exact⟨rfl,HX.out⟩
  | true=>
   have HC:Hid (Kr t n=0):=by unfold Hid Kr;rw[Lb];rfl
   clear Lb;have y0:=KY.out.2.1.1 0 _ rfl;have g0:=KY.out.1.1 7 _ rfl;have f0:=KY.out.1.2.1 7;have y1:=KY.out.2.1.1 1 _ rfl;have g1:=KY.out.1.1 8 _ rfl;have f1:=KY.out.1.2.1 8;have y2:=KY.out.2.1.1 2 _ rfl;have g2:=KY.out.1.1 9 _ rfl;have f2:=KY.out.1.2.1 9;have y3:=KY.out.2.1.1 3 _ rfl;have g3:=KY.out.1.1 10 _ rfl;have f3:=KY.out.1.2.1 10;have y4:=KY.out.2.1.1 4 _ rfl;have g4:=KY.out.1.1 11 _ rfl;have f4:=KY.out.1.2.1 11;have y5:=KY.out.2.1.1 5 _ rfl;have g5:=KY.out.1.1 12 _ rfl;have f5:=KY.out.1.2.1 12;have y6:=KY.out.2.1.1 6 _ rfl;have g6:=KY.out.1.1 13 _ rfl;have f6:=KY.out.1.2.1 13;obtain⟨Z,hZ⟩:∃Z,Z=(((((((Y.setCell ⟨d,7,none⟩ (vI (tx.dL t n).id)).setCell ⟨d,8,none⟩ (vI (tx.dL t n).l)).setCell ⟨d,9,none⟩ (vI (tx.dL t n).o)).setCell ⟨d,10,none⟩ (vI (tx.dL t n).u)).setCell ⟨d,11,none⟩ (.slice va (tx.dL t n).b.length vc)).setCell ⟨d,12,none⟩ (.slice vh (tx.dL t n).ag.length vd)).setCell ⟨d,13,none⟩ (vI (tx.dL t n).az)):=⟨_,rfl⟩
   have zb:Bx Z d [vI k.v,vI k.q,.slice a1 k.f.length c1,.slice a2 k.aa.length c2,.slice a3 k.c.length c3,.bool k.w,vI (i:Int),vI (tx.dL t n).id,vI (tx.dL t n).l,vI (tx.dL t n).o,vI (tx.dL t n).u,.slice va (tx.dL t n).b.length vc,.slice vh (tx.dL t n).ag.length vd,vI (tx.dL t n).az]:=by
    rw[hZ];exact((((((KY.out.1.set (i:=7) (by simp) _).set (i:=8) (by simp) _).set (i:=9) (by simp) _).set (i:=10) (by simp) _).set (i:=11) (by simp) _).set (i:=12) (by simp) _).set (i:=13) (by simp) _
   have zt:di d w Z:=by
    rw[hZ];exact((((((((di.refl d w).bN BY.out).setCell 7 _).setCell 8 _).setCell 9 _).setCell 10 _).setCell 11 _).setCell 12 _).setCell 13 _
   have zf:∀q,q≠d->Z.1[q]?=Y.1[q]?:=fun q hq=>by
    rw[show Z=dU Y d 7 (tx.nO va vc vh vd (tx.dL t n))from hZ];exact aX hq _ _ _
   have zs:Z.1.size=Y.1.size:=by rw[hZ];simp[World.setCell]
   have KE:Hid (Qy w B d a1 c1 a2 c2 a3 c3 k i P (tx.dL t n) (Kr t n) (.tuple #[]) (.returned (.tuple #[])) Z):=.inr ⟨HC.out,rfl,⟨⟨va,vc,vh,vd⟩,tx.nC PR PS,⟨zb,(KO.out.1.aL (Nat.le_of_eq zs.symm) (fun q hq=>zf q (KO.out.2.1 q hq).1)).low KO.out.2.2,fun q hq=>(KO.out.2.1 q hq).1,HR.out.2.2.2.2.2.2.1⟩,fun q hq=>.inr (KO.out.2.1 q hq).2⟩,zt⟩;have HZ:=ay hZ;clear hZ zb zt zf zs;go_wp2;rw[<-HZ.out];exact bodyPost_end (v:=.tuple #[]) (by simp[results,results122]) rfl KE.out
end
section
open Go.Proofs.Tryz
end
section
open Go.Proofs.Tryz
theorem xO(h:Int)(w:World)(h1:0<=h)(h2:h<=4000003):
  Calls prog 22 #[vI h] w fun e w'=>e=.returned (vI (h/4))/\w'=w:=by
 ·go_enter func22,ntmps22;go_wp2;go_ret;exact⟨rfl,rfl⟩
theorem yV(h:Int)(w:World)(hh:h<0\/4000003<h):
  Calls prog 22 #[vI h] w fun e w'=>e=.returned (vI (-1))/\w'=w:=by
 rcases hh with hh|hh
 ·have d:decide (0<=h)=false:=by simp;omega
  go_enter func22,ntmps22;go_wp2;go_ret;exact⟨rfl,rfl⟩
 ·have d:decide (h<=4000003)=false:=by simp;omega
  go_enter func22,ntmps22;go_wp2;go_ret;exact⟨rfl,rfl⟩
def kP(h:Int):Int:=if bH 0 4000003 h=true then h/4 else -1
theorem yX(h:Int)(w:World):Calls prog 22 #[vI h] w fun e w'=>e=.returned (vI (kP h))/\w'=w:=by
 by_cases hh:0<=h/\h<=4000003
 ·rw[kP,if_pos (jV hh.1 hh.2)];exact xO h w hh.1 hh.2
 ·rw[kP,if_neg (by rw[dI];omega)];exact yV h w (by omega)
end
section
open Go.Proofs.Tryz
theorem wV(h:Int)(w:World)(h1:0<=h)(h2:h<=4000003):
  Calls prog 162 #[vI h] w fun e w'=>e=.returned (vI (h/4))/\w'=w:=by
 ·go_enter func162,ntmps162;go_wp2;go_ret;exact⟨rfl,rfl⟩
theorem yH(h:Int)(w:World)(hh:h<0\/4000003<h):
  Calls prog 162 #[vI h] w fun e w'=>e=.returned (vI (-1))/\w'=w:=by
 rcases hh with hh|hh
 ·have d:decide (0<=h)=false:=by simp;omega
  go_enter func162,ntmps162;go_wp2;go_ret;exact⟨rfl,rfl⟩
 ·have d:decide (h<=4000003)=false:=by simp;omega
  go_enter func162,ntmps162;go_wp2;go_ret;exact⟨rfl,rfl⟩
theorem yI(h:Int)(w:World):Calls prog 162 #[vI h] w fun e w'=>e=.returned (vI (kP h))/\w'=w:=by
 by_cases hh:0<=h/\h<=4000003
 ·rw[kP,if_pos (jV hh.1 hh.2)];exact wV h w hh.1 hh.2
 ·rw[kP,if_neg (by rw[dI];omega)];exact yH h w (by omega)
end
section
open Go.Proofs.Tryz
theorem CF(w:World)(r s h v:Int):Calls prog 121 #[.agg #[vI r,vI s],.agg #[vI h,vI v]] w fun e w'=>e=.returned (.agg #[vI r,vI s,vI (kP h),vI v,.bool ((bH 0 4000003 h&&fM h))])/\Below w.1.size w w':=by
 obtain⟨U0,wz,DZ,Ii,M8⟩:=jU w [vI r,vI s] 126;obtain⟨U1,Cc,II,Ns,Sc⟩:=jU U0 [vI h,vI v] 66;obtain⟨U2,OI,Q0,WY,ZJ⟩:=jU U1 [vI 0,vI 0,vI 0,vI 0,.bool false] 70;have hU:U2=((w.alloc (.cells #[vI r,vI s] 126)).alloc (.cells #[vI h,vI v] 66)).alloc (.cells #[vI 0,vI 0,vI 0,vI 0,.bool false] 70):=by rw[OI,Cc,wz]
 have z1:U1.1.size=w.1.size+2:=by rw[Sc,M8]
 have BU:Hid (Below w.1.size w U2/\w.1.size+2<U2.1.size):=⟨au (au DZ II) Q0,by rw[ZJ,z1];omega⟩
 have x0:=(Ii.later II).later Q0;have x1:=Ns.later Q0;rw[M8]at x1;rw[z1]at WY;have X2:Hid (Bx U2 (w.1.size+2) [vI 0,vI 0,vI 0,vI 0,.bool false]):=WY;have hS:(fun X:World=>Below U2.1.size U2 X/\X.cell? ⟨w.1.size,0,none⟩=some (vI r)/\X.cell? ⟨w.1.size,1,none⟩=some (vI s)/\X.cell? ⟨w.1.size+1,0,none⟩=some (vI h)/\X.cell? ⟨w.1.size+1,1,none⟩=some (vI v)) U2.drew:=⟨aN.drew,x0.1 0 _ rfl,x0.1 1 _ rfl,x1.1 0 _ rfl,x1.1 1 _ rfl⟩
 clear wz Cc OI DZ II Q0 Ii Ns WY M8 Sc ZJ z1 x0 x1;obtain⟨Iq,yE⟩:∃z,kP h=z:=⟨_,rfl⟩
 obtain⟨us,fm⟩:∃z,(bH 0 4000003 h&&fM h)=z:=⟨_,rfl⟩
 have cV:=fun X=>yI h X
 have cU:=fun X=>qi h X
 simp only[fm,yE]at cU cV;rw[yE,fm];clear yE fm;clear U0 U1;go_enter func121,ntmps121;go_wp2_with fail;rw[<-hU];clear hU;refine aY (fun z=>z==13) (fun X:World=>Below U2.1.size U2 X/\X.cell? ⟨w.1.size,0,none⟩=some (vI r)/\X.cell? ⟨w.1.size,1,none⟩=some (vI s)/\X.cell? ⟨w.1.size+1,0,none⟩=some (vI h)/\X.cell? ⟨w.1.size+1,1,none⟩=some (vI v)) (by kernel_rfl) ?_;generalize U2.drew=Wd at *;refine cu 0 rfl hS ?_;simp only[Act.put];refine iZ 1 ?_ rfl ?_ hS ?_;rotate_left
 ·(intro w aH;obtain⟨-,s0,s1,s2,s3⟩:=aH;go_simp;first|done|with_reducible rfl)
 simp only[Act.put];refine cu 2 rfl hS ?_;simp only[Act.put];refine iZ 3 ?_ rfl ?_ hS ?_;rotate_left
 ·(intro w aH;obtain⟨-,s0,s1,s2,s3⟩:=aH;go_simp;first|done|with_reducible rfl)
 simp only[Act.put];refine cu 4 rfl hS ?_;simp only[Act.put];refine iZ 5 ?_ rfl ?_ hS ?_;rotate_left
 ·(intro w aH;obtain⟨-,s0,s1,s2,s3⟩:=aH;go_simp;first|done|with_reducible rfl)
 simp only[Act.put];refine cu 7 rfl hS ?_;simp only[Act.put];refine iZ 8 ?_ rfl ?_ hS ?_;rotate_left
 ·(intro w aH;obtain⟨-,s0,s1,s2,s3⟩:=aH;go_simp;first|done|with_reducible rfl)
 simp only[Act.put];refine cu 9 rfl hS ?_;simp only[Act.put];refine iZ 10 ?_ rfl ?_ hS ?_;rotate_left
 ·(intro w aH;obtain⟨-,s0,s1,s2,s3⟩:=aH;go_simp;first|done|with_reducible rfl)
 simp only[Act.put];refine dJ 6 rfl (fun K hK=>?_);go_simp;refine(cV _).mono ?_;rintro e X ⟨rfl,rfl⟩;refine hK.out _ _ (fun _=>hS) ?_;clear hK K;refine dJ 11 rfl (fun K hK=>?_);go_simp;refine(cU _).mono ?_;rintro e X ⟨rfl,rfl⟩;refine hK.out _ _ (fun _=>hS) ?_;clear hK K;refine dJ 12 rfl (fun K hK=>?_);go_simp;refine hK.out _ _ (fun _=>hS) ?_;clear hK K;have XB:=X2.out.later hS.1;have BW:Hid (Below w.1.size w X):=au BU.out.1 hS.1;have c0:=XB.c5;have f0:=XB.f5;have aE:=XB.put [vI r,vI s,vI Iq,vI v,.bool us] rfl;refine dJ 13 rfl (fun K hK=>?_);go_simp;refine hK.out _ _ (fun h=>absurd (show false=true from h.symm.trans (by kernel_rfl)) (by decide)) ?_;clear hK K;refine df (by kernel_rfl) ?_ _;obtain⟨Y,hY⟩:∃Y,Y=dU X (w.1.size+2) 0 [vI r,vI s,vI Iq,vI v,.bool us]:=⟨_,rfl⟩
 rw[<-hY]at aE;have BY:Hid (Below w.1.size w Y):=by unfold Hid;rw[hY];exact bn (by omega) _ _ _ BW.out
 have La:Y=((((X.setCell ⟨w.1.size+2,0,none⟩ (vI r)).setCell ⟨w.1.size+2,1,none⟩ (vI s)).setCell ⟨w.1.size+2,2,none⟩ (vI Iq)).setCell ⟨w.1.size+2,3,none⟩ (vI v)).setCell ⟨w.1.size+2,4,none⟩ (.bool us):=hY;rw[<-La];have y0:=aE.c5;clear La hY aE XB c0 f0 hS X2 BW cU cV;go_wp2;exact bodyPost_ret (v:=.agg #[vI r,vI s,vI Iq,vI v,.bool us]) (by simp[results,results121,go_sem,y0]) rfl ⟨rfl,BY.out⟩
end
section
open Go.Proofs.Tryz
theorem Ad(h:Int)(w:World)(h1:0<=h)(h2:h<=4000003):
  Calls prog 116 #[vI h] w fun e w'=>e=.returned (.bool (jH h))/\w'=w:=by
 ·have b1:=and_1 h h1 h2;go_enter func116,ntmps116;go_wp2;go_ret;exact⟨LK (MF h),rfl⟩
theorem Cr(h:Int)(w:World)(hh:h<0\/4000003<h):
  Calls prog 116 #[vI h] w fun e w'=>e=.returned (.bool false)/\w'=w:=by
 rcases hh with hh|hh
 ·have d:decide (0<=h)=false:=by simp;omega
  go_enter func116,ntmps116;go_wp2;go_ret;exact⟨rfl,rfl⟩
 ·have d:decide (h<=4000003)=false:=by simp;omega
  go_enter func116,ntmps116;go_wp2;go_ret;exact⟨rfl,rfl⟩
theorem Bt(h:Int)(w:World)(h1:0<=h)(h2:h<=4000003):
  Calls prog 52 #[vI h] w fun e w'=>e=.returned (.bool (jH h))/\w'=w:=by
 ·go_enter func52,ntmps52;go_wp2;go_ret;exact⟨rfl,rfl⟩
theorem CP(h:Int)(w:World)(hh:h<0\/4000003<h):
  Calls prog 52 #[vI h] w fun e w'=>e=.returned (.bool false)/\w'=w:=by
 rcases hh with hh|hh
 ·have d:decide (0<=h)=false:=by simp;omega
  go_enter func52,ntmps52;go_wp2;go_ret;exact⟨rfl,rfl⟩
 ·have d:decide (h<=4000003)=false:=by simp;omega
  go_enter func52,ntmps52;go_wp2;go_ret;exact⟨rfl,rfl⟩
theorem mZ(h:Int)(w:World):Calls prog 116 #[vI h] w fun e w'=>e=.returned (.bool (bH 0 4000003 h&&jH h))/\w'=w:=by
 by_cases hh:0<=h/\h<=4000003
 ·rw[jV hh.1 hh.2,Bool.true_and];exact Ad h w hh.1 hh.2
 ·have e:bH 0 4000003 h=false:=by simp[bH];omega
  rw[e,Bool.false_and];exact Cr h w (by omega)
theorem Br(h:Int)(w:World):Calls prog 52 #[vI h] w fun e w'=>e=.returned (.bool (bH 0 4000003 h&&jH h))/\w'=w:=by
 by_cases hh:0<=h/\h<=4000003
 ·rw[jV hh.1 hh.2,Bool.true_and];exact Bt h w hh.1 hh.2
 ·have e:bH 0 4000003 h=false:=by simp[bH];omega
  rw[e,Bool.false_and];exact CP h w (by omega)
end
section
open Go.Proofs.Tryz
variable {xs:List C2}
def l9(xs:List C2)(i:Int):Bool:=eG xs&&bH 0 5 i&&!jH (at2 xs i.toNat).head
def fu(xs:List C2)(i:Int):C2:=if l9 xs i then at2 xs i.toNat else⟨0,0⟩
theorem mD(h:eG xs=true):xs.length=6:=by
 simp[eG]at h;exact h.1
theorem pV(h:eG xs=true){i:Nat}(hi:i<6):bH 0 4000003 (at2 xs i).head=true:=by
 have h6:=mD h;have ha:xs.all jI=true:=by simp only[eG,Bool.and_eq_true]at h;exact h.2
 have:=List.all_eq_true.1 ha (at2 xs i) (List.mem_of_getElem? (NU (by omega)));simp only[jI,Bool.and_eq_true]at this;exact this.1.1
theorem Et(w:World)(a:OA)(n cap:Nat)(i:Int)(xs:List C2)(hn:n<=maxLen)(hs:nN w w.1.size a n xs):
  Calls prog 120 #[.slice a n cap,vI i] w fun e w'=>e=.returned (.tuple #[.agg #[vI (fu xs i).head,vI (fu xs i).h],.bool (l9 xs i)])/\Below w.1.size w w':=by
 have S0:Hid (nN w w.1.size a n xs):=hs;clear hs;go_enter func120,ntmps120;go_wp2_with fail;have e0:(w.alloc (.cells #[vI 0,vI 0] 66)).cell? ⟨w.1.size,0,none⟩=some (vI 0):=by go_simp
 have e1:(w.alloc (.cells #[vI 0,vI 0] 66)).cell? ⟨w.1.size,1,none⟩=some (vI 0):=by go_simp
 have ef:∀j,(w.alloc (.cells #[vI 0,vI 0] 66)).frozen? ⟨w.1.size,j,none⟩=false:=by intro j;go_simp
 have zs:w.1.size<(w.alloc (.cells #[vI 0,vI 0] 66)).1.size:=by simp
 generalize hW:w.alloc (.cells #[vI 0,vI 0] 66)=W at e0 e1 ef zs ⊢;have bW:Below w.1.size w W:=by subst hW;exact aN.alloc aU _
 clear hW;refine(lW W a n cap xs hn (S0.out.later bW)).mono ?_;rintro e w1 ⟨rfl,b1⟩;have c0:=(b1.cell (p:=⟨w.1.size,0,none⟩) zs).trans e0;have c1:=(b1.cell (p:=⟨w.1.size,1,none⟩) zs).trans e1;have f0:=(b1.frozen (p:=⟨w.1.size,0,none⟩) zs).trans (ef 0);have f1:=(b1.frozen (p:=⟨w.1.size,1,none⟩) zs).trans (ef 1);have B1:Hid (Below w.1.size w w1):=bW.trans (b1.mono bW.size);clear e0 e1 ef bW b1 zs
 cases g1:eG xs with
 | false=>
  have HB:Hid (l9 xs i=false):=by unfold Hid l9;rw[g1];rfl
  have HC:Hid (fu xs i=⟨0,0⟩):=by unfold Hid fu;rw[HB.out];rfl
  go_wp2;refine bodyPost_ret (v:=.tuple #[.agg #[vI 0,vI 0],.bool false]) (by simp[results,results120,go_sem,c0,c1]) rfl ⟨by rw[HB.out,HC.out],?_⟩;exact(B1.out.setCell (p:=⟨w.1.size,0,none⟩) aU _).setCell (p:=⟨w.1.size,1,none⟩) aU _
 | true=>
  cases g2:bH 0 5 i with
  | false=>
   have HB:Hid (l9 xs i=false):=by unfold Hid l9;rw[g1,g2];rfl
   have HC:Hid (fu xs i=⟨0,0⟩):=by unfold Hid fu;rw[HB.out];rfl
   go_wp2_with (go_at_call 161;refine(rO _ _).mono ?_;rw[g2];rintro e w' ⟨rfl,rfl⟩);refine bodyPost_ret (v:=.tuple #[.agg #[vI 0,vI 0],.bool false]) (by simp[results,results120,go_sem,c0,c1]) rfl ⟨by rw[HB.out,HC.out],?_⟩;exact(B1.out.setCell (p:=⟨w.1.size,0,none⟩) aU _).setCell (p:=⟨w.1.size,1,none⟩) aU _
  | true=>
   obtain⟨i0,i5⟩:=dI.1 g2;obtain⟨j,rfl⟩:=Int.eq_ofNat_of_zero_le i0;obtain⟨hx,gM⟩:=S0.out;have h6:=mD g1;have hg:=pV g1 (i:=j) (by omega);rcases gM with h0|⟨b,off,rfl,hb,h1⟩
   ·omega
   ·obtain⟨d0,d1⟩:=(h1.get (i:=j) (by omega)).below B1.out hb;have eO:b≠w.1.size:=by omega
    have UN:(j:Int)<(n:Int):=by omega
    cases g3:jH (at2 xs j).head with
    | true=>
     have HB:Hid (l9 xs (j:Int)=false):=by unfold Hid l9;rw[g1,g2,Int.toNat_natCast,g3];rfl
     have HC:Hid (fu xs (j:Int)=⟨0,0⟩):=by unfold Hid fu;rw[HB.out];rfl
     clear hx h6 h1;go_wp2_with (first|(go_at_call 161;refine(rO _ _).mono ?_;rw[g2];rintro e w' ⟨rfl,rfl⟩)|(go_at_call 116;refine(mZ _ _).mono ?_;rw[hg,g3];rintro e w' ⟨rfl,rfl⟩));refine bodyPost_ret (v:=.tuple #[.agg #[vI 0,vI 0],.bool false]) (by simp[results,results120,go_sem,c0,c1]) rfl ⟨by rw[HB.out,HC.out],?_⟩;exact(B1.out.setCell (p:=⟨w.1.size,0,none⟩) aU _).setCell (p:=⟨w.1.size,1,none⟩) aU _
    | false=>
     have HB:Hid (l9 xs (j:Int)=true):=by unfold Hid l9;rw[g1,g2,Int.toNat_natCast,g3];rfl
     have HC:Hid (fu xs (j:Int)=at2 xs j):=by unfold Hid fu;rw[HB.out,Int.toNat_natCast];rfl
     clear hx h6 h1;go_wp2_with (first|(go_at_call 161;refine(rO _ _).mono ?_;rw[g2];rintro e w' ⟨rfl,rfl⟩)|(go_at_call 116;refine(mZ _ _).mono ?_;rw[hg,g3];rintro e w' ⟨rfl,rfl⟩));refine bodyPost_ret (v:=.tuple #[.agg #[vI (at2 xs j).head,vI (at2 xs j).h],.bool true]) (by simp[results,results120,go_sem,c0,c1]) rfl ⟨by rw[HB.out,HC.out],?_⟩;exact(B1.out.setCell (p:=⟨w.1.size,0,none⟩) aU _).setCell (p:=⟨w.1.size,1,none⟩) aU _
end
section
open Go.Proofs.Tryz
def yS(xs:List C2)(r s:Int):tx.N5:=⟨r,s,kP (fu xs s).head,(fu xs s).h,bH 0 4000003 (fu xs s).head&&fM (fu xs s).head⟩
def QO(xs:List C2)(t:tx.T7)(r s:Int):Int:=if l9 xs s=true then Kr t (yS xs r s)else 7
theorem Ji(w:World)(B d:Nat)(a1:OA)(c1:Nat)(a2:OA)(c2:Nat)(a3:OA)(c3:Nat)(k:C6)(i:Nat)(u:tx.TV)(t:tx.T7)(P:Nat->Prop)(a:OA)(c:Nat)(xs:List C2)(r s:Int)(hk:aF k=true)(h:cO.Rd w a1 c1 a2 c2 a3 c3 k)(hd:DB w B d a1 c1 a2 c2 a3 c3 k i u t P)(hl:tx.TL t)(Ny:B<=w.1.size)(hx:xs.length<=maxLen)(hs:nN w w.1.size a xs.length xs):
  Calls prog 70 #[.pointer (some ⟨d,0,none⟩),.slice a xs.length c,.agg #[vI r,vI s]] w (Qy w B d a1 c1 a2 c2 a3 c3 k i P (tx.dL t (yS xs r s)) (QO xs t r s) (.agg #[vI r,vI s,vI (kP (fu xs s).head),vI (fu xs s).h,.bool (bH 0 4000003 (fu xs s).head&&fM (fu xs s).head)])):=by
 obtain⟨U0,wz,DZ,Ii,M8⟩:=jU w [vI r,vI s] 126;obtain⟨U1,Cc,II,Ns,Sc⟩:=jU U0 [vI 0,vI 0,vI 0,vI 0,.bool false] 70;have hU:U1=(w.alloc (.cells #[vI r,vI s] 126)).alloc (.cells #[vI 0,vI 0,vI 0,vI 0,.bool false] 70):=by rw[Cc,wz]
 have bU:Below w.1.size w U1:=au DZ II;have x0:=Ii.later II;rw[M8]at Ns;have HR:Hid (cO.Rd U1 a1 c1 a2 c2 a3 c3 k/\aF k=true/\DB U1 B d a1 c1 a2 c2 a3 c3 k i u t P/\tx.TL t/\Below w.1.size w U1/\d<w.1.size/\B<=w.1.size):=⟨h.later bU,hk,hd.later bU,hl,bU,hd.bx.2.2,Ny⟩
 have HX:Hid (Bx U1 w.1.size [vI r,vI s]/\Bx U1 (w.1.size+1) [vI 0,vI 0,vI 0,vI 0,.bool false]):=⟨x0,Ns⟩
 have rh:∀q,P q->q<w.1.size:=fun q hq=>(hd.ow.of hq).2
 have cL:=Et U1 a xs.length c s xs hx (nN.later hs bU);have p1:=x0.1 1 _ rfl;rw[hU]at p1;have HS:Hid (U1.1.size=w.1.size+2):=by unfold Hid;rw[Sc,M8]
 clear wz Cc DZ II bU Ii Ns M8 Sc x0 h hk hd hl Ny hx hs;clear U0;go_enter func70,ntmps70;go_wp2_with fail;rw[<-hU];clear hU p1;refine cL.mono ?_;clear cL;rintro e W1 ⟨rfl,b1⟩;have B1:Hid (Below U1.1.size U1 W1):=b1;clear b1;obtain⟨x,ZE⟩:∃x,fu xs s=x:=⟨_,rfl⟩
 have HN:Hid (yS xs r s=⟨r,s,kP x.head,x.h,bH 0 4000003 x.head&&fM x.head⟩):=by unfold Hid yS;rw[ZE]
 have LU:=ay ZE;rw[ZE];clear ZE;obtain⟨V,hV,bV,xV,-⟩:=jU W1 [vI x.head,vI x.h] 66;have BV:Hid (Below U1.1.size U1 V/\Bx V W1.1.size [vI x.head,vI x.h]):=⟨au B1.out bV,xV⟩
 clear bV xV
 cases Gb:l9 xs s with
 | false=>
  have HC:Hid (QO xs t r s=7):=by unfold Hid QO;rw[Gb];rfl
  have hr:=iK V d a1 c1 a2 c2 a3 c3 k [vI (i:Int),vI t.id,vI t.l,vI t.o,vI t.u,.slice u.ar t.b.length u.cr,.slice u.ah t.ag.length u.ch,vI t.az] 7 HR.out.2.1 (HR.out.1.later BV.out.1) (HR.out.2.2.1.bx.later BV.out.1);clear Gb;go_wp2_with fail;rw[<-hV];clear hV;refine hr.mono ?_;clear hr;intro e w2 hr;have HE:Hid (Qy w B d a1 c1 a2 c2 a3 c3 k i P (tx.dL t (yS xs r s)) (QO xs t r s) (.agg #[vI r,vI s,vI (kP (fu xs s).head),vI (fu xs s).h,.bool (bH 0 4000003 (fu xs s).head&&fM (fu xs s).head)]) e w2):=.inl ⟨by rw[HC.out];decide,by rw[HC.out];exact(hr.low (au HR.out.2.2.2.2.1 BV.out.1))⟩;obtain⟨e1,d1,e2,d2,e3,d3,P2,rfl,-,-⟩:=hr;go_wp2;exact⟨rfl,HE.out⟩
 | true=>
  have HC:Hid (QO xs t r s=Kr t (yS xs r s)):=by unfold Hid QO;rw[Gb];rfl
  clear Gb;have cN:=CF V r s x.head x.h;have k0:=(HX.out.1.later BV.out.1).c2;have v0:=BV.out.2.c2;rw[hV]at k0 v0;go_wp2_with fail;rw[<-hV];clear hV k0 v0;refine cN.mono ?_;clear cN;rintro e W2 ⟨rfl,b2⟩;obtain⟨n,hn⟩:∃n:tx.N5,n=⟨r,s,kP x.head,x.h,bH 0 4000003 x.head&&fM x.head⟩:=⟨_,rfl⟩
  have pc:Hid (yS xs r s=n):=HN.out.trans hn.symm;obtain⟨Q,hQ,bQ,xQ,-⟩:=jU W2 [vI r,vI s,vI (kP x.head),vI x.h,.bool (bH 0 4000003 x.head&&fM x.head)] 70;have BQ:Hid (Below U1.1.size U1 Q):=au BV.out.1 (au b2 bQ);have HQ:Hid (Bx Q W2.1.size [vI r,vI s,vI (kP x.head),vI x.h,.bool (bH 0 4000003 x.head&&fM x.head)]/\U1.1.size<=W2.1.size):=⟨xQ,(au BV.out.1 b2).size⟩
  have cA:=Fz Q B d a1 c1 a2 c2 a3 c3 k i u t P n HR.out.2.1 (HR.out.1.later BQ.out) (HR.out.2.2.1.later BQ.out) HR.out.2.2.2.1 (by have:=HR.out.2.2.2.2.2.2;have:=HR.out.2.2.2.2.1.size;have:=BQ.out.size;omega);have n0:=xQ.c5;rw[hQ]at n0;rw[hn]at cA;simp only at cA;rw[<-hn]at cA;clear b2 bQ xQ BV;rw[<-pc.out]at cA;have HP:Hid (∀q,P q->q<w.1.size):=rh;go_wp2_with fail;rw[<-hQ];clear hQ n0;refine cA.mono ?_;clear cA;intro e W3 hA;rcases hA with ⟨eO,hr⟩|⟨hz,rfl,⟨u',P',yz,Lf⟩,BM⟩
  ·have HE:Hid (Qy w B d a1 c1 a2 c2 a3 c3 k i P (tx.dL t (yS xs r s)) (QO xs t r s) (.agg #[vI r,vI s,vI (kP (fu xs s).head),vI (fu xs s).h,.bool (bH 0 4000003 (fu xs s).head&&fM (fu xs s).head)]) e W3):=.inl ⟨by rw[HC.out];exact eO,by rw[HC.out];exact hr.low (au HR.out.2.2.2.2.1 BQ.out)⟩;obtain⟨e1,d1,e2,d2,e3,d3,P2,rfl,-,-⟩:=hr;go_wp2;exact⟨rfl,HE.out⟩
  ·have Ja:=HQ.out.2;have Im:=HS.out;have dj:=HR.out.2.2.2.2.2.1;have mS:=HQ.out.1.2.2;have xn:Bx W3 W2.1.size [vI r,vI s,vI (kP x.head),vI x.h,.bool (bH 0 4000003 x.head&&fM x.head)]:=HQ.out.1.aj (BM.block _ mS (by omega)) BM.size;have xr:Bx W3 (w.1.size+1) [vI 0,vI 0,vI 0,vI 0,.bool false]:=(HX.out.2.later BQ.out).aj (BM.block _ (HX.out.2.later BQ.out).2.2 (by omega)) BM.size;obtain⟨Y,hY⟩:∃Y,Y=dU W3 (w.1.size+1) 0 [vI r,vI s,vI (kP x.head),vI x.h,.bool (bH 0 4000003 x.head&&fM x.head)]:=⟨_,rfl⟩
   have xy:=xr.put [vI r,vI s,vI (kP x.head),vI x.h,.bool (bH 0 4000003 x.head&&fM x.head)] rfl;rw[<-hY]at xy;have La:Y=(((((W3.setCell ⟨w.1.size+1,0,none⟩ (vI r)).setCell ⟨w.1.size+1,1,none⟩ (vI s)).setCell ⟨w.1.size+1,2,none⟩ (vI (kP x.head))).setCell ⟨w.1.size+1,3,none⟩ (vI x.h)).setCell ⟨w.1.size+1,4,none⟩ (.bool (bH 0 4000003 x.head&&fM x.head))):=hY;have ZW:Y.1.size=W3.1.size:=by rw[hY];exact bu _ _ _ _
   have Sq:∀q,q≠w.1.size+1->Y.1[q]?=W3.1[q]?:=fun q hq=>by rw[hY];exact aX hq _ _ _
   have Mj:=BQ.out.size;have nj:=HR.out.2.2.2.2.1.size
   have KE:Hid (Qy w B d a1 c1 a2 c2 a3 c3 k i P (tx.dL t (yS xs r s)) (QO xs t r s) (.agg #[vI r,vI s,vI (kP (fu xs s).head),vI (fu xs s).h,.bool (bH 0 4000003 (fu xs s).head&&fM (fu xs s).head)]) (.returned (.agg #[vI r,vI s,vI (kP x.head),vI x.h,.bool (bH 0 4000003 x.head&&fM x.head)])) Y):=by
    refine .inr ⟨by rw[HC.out];exact hz,by rw[LU.out],⟨u',P',⟨yz.bx.aj (Sq d (by omega)) (Nat.le_of_eq ZW.symm),yz.ow.aL (Nat.le_of_eq ZW.symm) (fun q hq=>Sq q ?_),yz.nd,yz.lo⟩,fun q hq=>(Lf q hq).imp id (fun h=>by omega)⟩,?_⟩
    ·rcases Lf q hq with h|h
     ·have:=HP.out q h;omega
     ·omega
    ·have hb:di d w W3:=((di.refl d w).bN (au HR.out.2.2.2.2.1 BQ.out)).trans BM;refine⟨?_,?_,?_,by rw[ZW];exact hb.size,fun q hq fh=>(Sq q (by omega)).trans (hb.block q hq fh)⟩
     ·rw[hY];exact(bn (w:=W3) (B:=0) (Nat.zero_le _) _ _ _ aN).os.trans hb.os
     ·rw[hY];exact(bn (w:=W3) (B:=0) (Nat.zero_le _) _ _ _ aN).tape.trans hb.tape
     ·rw[hY];exact(bn (w:=W3) (B:=0) (Nat.zero_le _) _ _ _ aN).output.trans hb.output
   have m0:=xn.1 0 _ rfl;have c0:=xr.1 0 _ rfl;have f0:=xr.2.1 0;have m1:=xn.1 1 _ rfl;have c1:=xr.1 1 _ rfl;have f1:=xr.2.1 1;have m2:=xn.1 2 _ rfl;have c2:=xr.1 2 _ rfl;have f2:=xr.2.1 2;have m3:=xn.1 3 _ rfl;have c3:=xr.1 3 _ rfl;have f3:=xr.2.1 3;have m4:=xn.1 4 _ rfl;have c4:=xr.1 4 _ rfl;have f4:=xr.2.1 4;have y0:=xy.c5;have Ws:=ay La;clear hY La ZW Sq xy xr xn yz Lf BM Ja Im dj mS Mj nj;go_wp2;rw[<-Ws.out];exact bodyPost_ret (v:=.agg #[vI r,vI s,vI (kP x.head),vI x.h,.bool (bH 0 4000003 x.head&&fM x.head)]) (by simp[results,results70,go_sem,y0]) rfl KE.out
end
section
open Go.Proofs.Tryz
def jo(aP:List (List Int))(r:Int):Bool:=dV aP&&bH 0 ((aP.length:Int)-1) r
def Dx(aP:List (List Int))(r:Int):Int:=if jo aP r=true then eQ (dY aP r.toNat) 0 else -1
theorem Dz{aP:List (List Int)}{r:Int}(h:jo aP r=true):∃i:Nat,r=(i:Int)/\i<aP.length/\1<=(dY aP i).length/\(dY aP i).length<=3:=by
 simp only[jo,Bool.and_eq_true,dI]at h;obtain⟨i,rfl⟩:=Int.eq_ofNat_of_zero_le h.2.1;have hi:i<aP.length:=by omega
 have hp:=h.1;simp only[dV,Bool.and_eq_true]at hp;have:=List.all_eq_true.1 hp.2 i (List.mem_range.2 hi);simp only[eu,Bool.and_eq_true,decide_eq_true_eq]at this;exact⟨i,rfl,hi,this.1.1,this.1.2⟩
end
section
open Go.Proofs.Tryz
theorem mg(w:World)(a:OA)(n cap:Nat)(r:Int)(aP:List (List Int))(hn:n<=maxLen)(hs:wy w w.1.size a n aP):
  Calls prog 112 #[.slice a n cap,vI r] w fun e w'=>e=.returned (.bool (jo aP r))/\Below w.1.size w w':=by
 have hx:=hs.1;have hc:=oZ w a n cap aP hn hs;unfold maxLen at hn;clear hs
 cases hp:dV aP with
 | false=>
  rw[hp]at hc;have hV:jo aP r=false:=by simp[jo,hp]
  rw[hV];go_enter func112,ntmps112;go_wp2_with fail;refine hc.mono ?_;clear hc;rintro e w1 ⟨rfl,b1⟩;go_wp2;go_ret;exact⟨rfl,b1⟩
 | true=>
  rw[hp]at hc;have hV:jo aP r=bH 0 ((n:Int)-1) r:=by simp[jo,hp,hx]
  rw[hV];by_cases h0:0<=r
  ·by_cases h8:r<(n:Int)
   ·rw[jV (by omega) (by omega)];go_enter func112,ntmps112;go_wp2_with fail;refine hc.mono ?_;clear hc;rintro e w1 ⟨rfl,b1⟩;go_wp2;go_ret;exact⟨rfl,b1⟩
   ·have hd:decide (r<(n:Int))=false:=by simp;omega
    have hb:bH 0 ((n:Int)-1) r=false:=by cases h:bH 0 ((n:Int)-1) r with|false=>rfl|true=>rw[dI]at h;omega
    rw[hb];go_enter func112,ntmps112;go_wp2_with fail;refine hc.mono ?_;clear hc;rintro e w1 ⟨rfl,b1⟩;go_wp2;go_ret;exact⟨rfl,b1⟩
  ·have hd:decide (0<=r)=false:=by simp;omega
   have hb:bH 0 ((n:Int)-1) r=false:=by cases h:bH 0 ((n:Int)-1) r with|false=>rfl|true=>rw[dI]at h;omega
   rw[hb];go_enter func112,ntmps112;go_wp2_with fail;refine hc.mono ?_;clear hc;rintro e w1 ⟨rfl,b1⟩;go_wp2;go_ret;exact⟨rfl,b1⟩
theorem yG(w:World)(a:OA)(n cap:Nat)(r:Int)(aP:List (List Int))(hn:n<=maxLen)(hs:wy w w.1.size a n aP):
  Calls prog 153 #[.slice a n cap,vI r] w fun e w'=>e=.returned (vI (Dx aP r))/\Below w.1.size w w':=by
 go_enter func153,ntmps153;go_wp2_with fail;refine(mg w a n cap r aP hn hs).mono ?_
 cases hp:jo aP r with
 | false=>
  rintro e w1 ⟨rfl,b1⟩;go_wp2;go_ret;exact⟨by simp[Dx,hp],b1⟩
 | true=>
  obtain⟨i,rfl,hi,l1,l2⟩:=Dz hp;rintro e w1 ⟨rfl,b1⟩;obtain⟨hx,hs⟩:=hs;unfold maxLen at hn;rcases hs with hs|⟨b,off,rfl,hb,h1⟩
  ·omega
  ·obtain⟨a',aW,hc,⟨_,oQ⟩,kL⟩:=h1 i _ (gB hi);rcases oQ with oQ|⟨b',bR,rfl,gJ,h2⟩
   ·omega
   ·have c1:=(b1.cell (p:=⟨b,off+i,none⟩) hb).trans hc;have c2:=(b1.cell (p:=⟨b',bR+0,none⟩) gJ).trans (h2 0 _ (jf (by omega)));have BJ:(i:Int)<(n:Int):=by omega
    have ZF:(0:Int)<((dY aP i).length:Int):=by omega
    have HR:Hid (Dx aP (i:Int)=eQ (dY aP i) 0):=by unfold Hid;simp[Dx,hp]
    have B1:Hid (Below w.1.size w w1):=b1;rw[Nat.add_zero]at c2;clear h1 h2 hc b1 hp;generalize (dY aP i).length=m at *;go_wp2;go_ret;exact⟨by rw[HR.out];rfl,B1.out⟩
end
section
open Go.Proofs.Tryz
def KC.Rd(X:World)(a:OA)(_:Nat)(xs:List C2):Prop:=nN X X.1.size a xs.length xs
def KC.Ow(w:World)(B:Nat)(a:OA)(_:Nat)(xs:List C2)(P:Nat->Prop):Prop:=(xs=[]\/∃q,a=some ⟨q,0,none⟩/\P q/\bK w q 0 xs/\Room w q (xs.length*2))/\(∀q,P q->B<=q/\q<w.1.size)
theorem KC.Ow.sl{w:World}{B:Nat}{a:OA}{c:Nat}{xs:List C2}{P:Nat->Prop}(h:KC.Ow w B a c xs P):KC.Rd w a c xs:=by
 rcases h with ⟨rfl|⟨q,rfl,hp,h1,h2⟩,hb⟩
 ·exact⟨rfl,.inl rfl⟩
 ·exact⟨rfl,.inr ⟨q,0,rfl,(hb q hp).2,h1⟩⟩
end
section
open Go.Proofs.Tryz
variable {i:Nat}{k:C6}{w w':World}{y:Int}
def xw(k:C6)(i:Nat):M4:=aT k.aa (eQ (dY k.f i) 0).toNat
noncomputable def LY(k:C6)(y:Int):Option (List C2):=if aF k=true/\0<=y/\y<(k.f.length:Int)/\(xw k y.toNat).x=true then some (dD (xw k y.toNat).af (uu (xw k y.toNat) y).toNat).cells else none
noncomputable def jF(k:C6)(y:Int):List C2:=(LY k y).getD []
noncomputable def qZ(k:C6)(y:Int):Bool:=(LY k y).isSome
theorem zI(h:¬(aF k=true/\0<=y/\y<(k.f.length:Int)/\(xw k y.toNat).x=true)):jF k y=[]/\qZ k y=false:=⟨by simp[jF,LY,h],by simp[qZ,LY,h]⟩
theorem D7{j:Nat}(h1:aF k=true)(h2:i<k.f.length)(h3:(xw k i).x=true)(h4:uu (xw k i) (i:Int)=(j:Int)):jF k (i:Int)=(dD (xw k i).af j).cells/\qZ k (i:Int)=true:=by
 have h:aF k=true/\0<=(i:Int)/\(i:Int)<(k.f.length:Int)/\(xw k (i:Int).toNat).x=true:=⟨h1,by omega,by omega,h3⟩
 have e:LY k (i:Int)=some (dD (xw k i).af j).cells:=by
  unfold LY;rw[if_pos h];simp only[Int.toNat_natCast];rw[h4];rfl
 exact⟨by rw[jF,e];rfl,by rw[qZ,e];rfl⟩
theorem D9(h:aF k=true)(hi:i<k.f.length):∃z:Nat,eQ (dY k.f i) 0=(z:Int)/\z<k.aa.length/\0<(dY k.f i).length/\xw k i=aT k.aa z/\fw (aT k.aa z)=true/\((aT k.aa z).x=true->ve (aT k.aa z) (i:Int)=true):=by
 rw[ru]at h;simp only[Bool.and_eq_true,decide_eq_true_eq]at h;obtain⟨_,_,⟨⟨_,_⟩,hm⟩,hp,Er,_⟩:=h
 have hlen:1<=(dY k.f i).length:=by
  have mL:=hp;simp only[dV,Bool.and_eq_true]at mL;have h1:=List.all_eq_true.1 mL.2 i (List.mem_range.2 hi);simp only[eu,Bool.and_eq_true,decide_eq_true_eq]at h1;omega
 have hz:=Ba hp hi (j:=0) (by omega);have hs:=List.all_eq_true.1 (List.all_eq_true.1 Er i (List.mem_range.2 hi)) 0 (List.mem_range.2 (by omega));obtain⟨z,fy⟩:∃z:Nat,eQ (dY k.f i) 0=(z:Int):=⟨_,(Int.toNat_of_nonneg hz.1).symm⟩
 simp only[jK,fy,Bool.and_eq_true,decide_eq_true_eq,Int.toNat_natCast]at hs;have qV:z<k.aa.length:=by omega
 exact⟨z,fy,qV,by omega,by rw[xw,fy];rfl,List.all_eq_true.1 hm z (List.mem_range.2 qV),fun ha=>by have:=hs.2;rw[ha]at this;simpa using this⟩
def DT(w:World)(N:List C2)(o:Bool)(e:Ending)(w':World):Prop:=∃(a:OA) (c:Nat) (P:Nat->Prop),e=.returned (.tuple #[.slice a N.length c,.bool o])/\KC.Ow w' w.1.size a c N P/\Below w.1.size w w'
theorem DT.zero(hn:jF k y=[]/\qZ k y=false)(a:OA)(c:Nat)(h:Below w.1.size w w'):DT w (jF k y) (qZ k y) (.returned (.tuple #[.slice a 0 c,.bool false])) w':=by
 rw[hn.1,hn.2];exact⟨a,c,fun _=>False,rfl,⟨.inl rfl,fun _ h=>h.elim⟩,h⟩
theorem DT.some{xs:List C2}(hn:jF k y=xs/\qZ k y=true){q c:Nat}(h1:w.1.size<=q)(h2:q<w'.1.size)(h3:bK w' q 0 xs)(h4:Room w' q (xs.length*2))(h:Below w.1.size w w'):DT w (jF k y) (qZ k y) (.returned (.tuple #[.slice (some ⟨q,0,none⟩) xs.length c,.bool true])) w':=by
 rw[hn.1,hn.2];exact⟨_,c,fun x=>x=q,rfl,⟨.inr ⟨q,rfl,rfl,h3,h4⟩,fun x hx=>by subst hx;exact⟨h1,h2⟩⟩,h⟩
end
section
open Go.Proofs.Tryz
theorem tL(w:World)(a1:OA)(c1:Nat)(a2:OA)(c2:Nat)(a3:OA)(c3:Nat)(k:C6)(y:Int)(hl:cO.L k)(h:cO.Rd w a1 c1 a2 c2 a3 c3 k):Calls prog 113 #[.agg #[vI k.v,vI k.q,.slice a1 k.f.length c1,.slice a2 k.aa.length c2,.slice a3 k.c.length c3,.bool k.w],vI y] w (DT w (jF k y) (qZ k y)):=by
 have Ta:=hl.p;have eW:=hl.m;unfold maxLen at Ta eW;obtain⟨U,hU⟩:∃Y,Y=w.alloc (.cells #[vI k.v,vI k.q,.slice a1 k.f.length c1,.slice a2 k.aa.length c2,.slice a3 k.c.length c3,.bool k.w] 32):=⟨_,rfl⟩
 have b0:Below w.1.size w U:=by rw[hU];exact aN.alloc aU _
 have FA:Hid (Bx U w.1.size (dR a1 c1 a2 c2 a3 c3 k)):=by unfold Hid;rw[hU];exact Bx.made w (dR a1 c1 a2 c2 a3 c3 k) _
 have HR:Hid (cO.Rd U a1 c1 a2 c2 a3 c3 k/\cO.L k/\Below w.1.size w U):=⟨h.later b0,hl,b0⟩
 clear b0 h hl;have hc:=kJ U a1 c1 a2 c2 a3 c3 k HR.out.2.1 HR.out.1;go_enter func113,ntmps113;go_wp2_with fail;rw[<-hU];clear hU;refine hc.mono ?_;clear hc;rintro e w1 ⟨rfl,b1⟩;have B1:=ay b1;clear b1
 cases hB:aF k with
 | false=>
  have HN:=ay (zI (k:=k) (y:=y) (fun h=>by rw[h.1]at hB;cases hB));go_wp2;exact bodyPost_ret (v:=.tuple #[.slice none 0 0,.bool false]) (by simp[results,results113,go_sem]) rfl (DT.zero HN.out _ _ (au HR.out.2.2 B1.out))
 | true=>
 have hp:dV k.f=true:=by
  rw[ru]at hB;simp only[Bool.and_eq_true]at hB;exact hB.2.2.2.1
 have p2:=(FA.out.later B1.out).1 2 _ rfl;have hc:=mg w1 a1 k.f.length c1 y k.f HR.out.2.1.p (HR.out.1.p.later B1.out);go_wp2_with fail;refine hc.mono ?_;clear hc p2;rintro e w2 ⟨rfl,b2⟩;have B2:Hid (Below U.1.size U w2):=au B1.out b2;clear b2
 cases hI:jo k.f y with
 | false=>
  have HN:=ay (zI (k:=k) (y:=y) (fun h=>by
   have:jo k.f y=true:=by
    simp only[jo,Bool.and_eq_true];exact⟨hp,dI.2 ⟨h.2.1,by omega⟩⟩
   rw[this]at hI;cases hI))
  go_wp2;exact bodyPost_ret (v:=.tuple #[.slice none 0 0,.bool false]) (by simp[results,results113,go_sem]) rfl (DT.zero HN.out _ _ (au HR.out.2.2 B2.out))
 | true=>
 obtain⟨i,rfl,hi,Io,-⟩:=Dz hI;obtain⟨z,hz,qV,-,jN,S9,F9⟩:=D9 hB hi;have sT:Dx k.f (i:Int)=(z:Int):=by rw[Dx,if_pos hI,Int.toNat_natCast];exact hz
 have IU:=HR.out.2.1.ms _ (List.mem_of_getElem? (iP qV));rcases HR.out.1.m with hs|⟨b2,jA,rfl,lu,h1⟩
 ·rw[hs]at qV;simp at qV
 obtain⟨⟨m0,m1,m2,m3,m4,m5⟩,bg,fG⟩:=h1 z _ (iP qV);have i2:(z:Int)<(k.aa.length:Int):=by omega
 have SF:Hid (∀X,Below U.1.size U X->(fun X:World=>Bx X w.1.size (dR a1 c1 (some ⟨b2,jA,none⟩) c2 a3 c3 k)/\X.cell? ⟨b2,jA+z*4,none⟩=some (.bool (aT k.aa z).x)/\X.cell? ⟨b2,jA+z*4+1,none⟩=some (.slice m0 (aT k.aa z).af.length m1)/\X.cell? ⟨b2,jA+z*4+2,none⟩=some (.slice m2 (aT k.aa z).g.length m3)/\X.cell? ⟨b2,jA+z*4+3,none⟩=some (.slice m4 (aT k.aa z).ai.length m5)) X):=fun X hX=>⟨FA.out.later hX,(hX.cell (p:=⟨b2,jA+z*4,none⟩) lu).trans (bg 0 _ rfl),(hX.cell (p:=⟨b2,jA+z*4+1,none⟩) lu).trans (bg 1 _ rfl),(hX.cell (p:=⟨b2,jA+z*4+2,none⟩) lu).trans (bg 2 _ rfl),(hX.cell (p:=⟨b2,jA+z*4+3,none⟩) lu).trans (bg 3 _ rfl)⟩
 have HK:Hid (yt U U.1.size m0 (aT k.aa z).af.length (aT k.aa z).af/\ML (aT k.aa z)/\fw (aT k.aa z)=true):=⟨fG.k,IU,S9⟩
 have HH:Hid (aF k=true/\i<k.f.length/\xw k i=aT k.aa z/\((aT k.aa z).x=true->ve (aT k.aa z) (i:Int)=true)):=⟨hB,hi,jN,F9⟩
 clear h1 bg fG IU S9 F9 jN hz hp hI;go_wp2_with fail;have bd:Below U.1.size U w2.drew:=B2.out.drew;have hS:=SF.out _ bd;refine aY (fun z=>z==13) (fun X:World=>Bx X w.1.size (dR a1 c1 (some ⟨b2,jA,none⟩) c2 a3 c3 k)/\X.cell? ⟨b2,jA+z*4,none⟩=some (.bool (aT k.aa z).x)/\X.cell? ⟨b2,jA+z*4+1,none⟩=some (.slice m0 (aT k.aa z).af.length m1)/\X.cell? ⟨b2,jA+z*4+2,none⟩=some (.slice m2 (aT k.aa z).g.length m3)/\X.cell? ⟨b2,jA+z*4+3,none⟩=some (.slice m4 (aT k.aa z).ai.length m5)) (by kernel_rfl) ?_;generalize w2.drew=Wd at *;refine cu 0 rfl hS ?_;simp only[Act.put];refine iZ 1 ?_ rfl ?_ hS ?_;rotate_left
 ·(intro X aH;have c0:=aH.1.1 0 _ rfl;have c1:=aH.1.1 1 _ rfl;have c2:=aH.1.1 2 _ rfl;have c3:=aH.1.1 3 _ rfl;have c4:=aH.1.1 4 _ rfl;have c5:=aH.1.1 5 _ rfl;go_simp;first|done|with_reducible rfl)
 simp only[Act.put];refine cu 2 rfl hS ?_;simp only[Act.put];refine iZ 3 ?_ rfl ?_ hS ?_;rotate_left
 ·(intro X aH;have c0:=aH.1.1 0 _ rfl;have c1:=aH.1.1 1 _ rfl;have c2:=aH.1.1 2 _ rfl;have c3:=aH.1.1 3 _ rfl;have c4:=aH.1.1 4 _ rfl;have c5:=aH.1.1 5 _ rfl;go_simp;first|done|with_reducible rfl)
 simp only[Act.put];refine cu 4 rfl hS ?_;simp only[Act.put];refine cu 9 rfl hS ?_;simp only[Act.put];refine dJ 5 rfl (fun K hK=>?_);go_simp;refine(yG Wd a1 k.f.length c1 (i:Int) k.f HR.out.2.1.p (HR.out.1.p.later bd)).mono ?_;rw[sT];rintro e X1 ⟨rfl,b1⟩;have bX:=au bd b1;refine hK.out _ _ (fun _=>SF.out _ bX) ?_;clear hK K;have hS:=SF.out _ bX;refine cu 6 rfl hS ?_;simp only[Act.put];refine iZ 7 ?_ rfl ?_ hS ?_;rotate_left
 ·(intro X aH;have d0:=aH.2.1;have d1:=aH.2.2.1;have d2:=aH.2.2.2.1;have d3:=aH.2.2.2.2;go_simp;first|done|with_reducible rfl)
 simp only[Act.put];refine dJ 8 rfl (fun K hK=>?_);go_simp;refine(qp X1 m0 m1 m2 m3 m4 m5 (aT k.aa z)).mono ?_;rintro e X2 ⟨rfl,b2⟩;have bY:=au bX b2;refine hK.out _ _ (fun _=>SF.out _ bY) ?_;clear hK K;have hS:=SF.out _ bY;refine dJ 10 rfl (fun K hK=>?_);go_simp;refine(uP X2 m0 m1 (aT k.aa z) (i:Int) HK.out.2.1 HK.out.2.2 (HK.out.1.later bY)).mono ?_;rintro e X3 ⟨ha,b3⟩;have bZ:=au bY b3;have KZ:Hid (Below w.1.size w X3/\w.1.size<=X2.1.size):=⟨au HR.out.2.2 bZ,(au HR.out.2.2 bY).size⟩
 rcases ha with ⟨ha,⟨hh,rfl⟩|⟨hh,j,q,cp,hj,OW,rfl,h1,h2,h3,h4,h5⟩⟩|⟨ha,rfl⟩
 ·have:=HH.out.2.2.2 ha;rw[hh]at this;cases this
 ·have HN:=ay (D7 (j:=j) HH.out.1 HH.out.2.1 (by rw[HH.out.2.2.1];exact ha) (by rw[HH.out.2.2.1];exact hj));rw[HH.out.2.2.1]at HN;have KF:Hid (w.1.size<=q/\q<X3.1.size/\bK X3 q 0 (dD (aT k.aa z).af j).cells/\Room X3 q ((dD (aT k.aa z).af j).cells.length*2)):=⟨Nat.le_trans KZ.out.2 h1,h2,h4,h5⟩
  clear h1 h2 h3 h4 h5;refine hK.out _ _ (fun _=>SF.out _ bZ) ?_;clear hK K;have hS:=SF.out _ bZ;refine cu 11 rfl hS ?_;simp only[Act.put];refine cu 12 rfl hS ?_;simp only[Act.put];refine dJ 13 rfl (fun K hK=>?_);go_simp;refine hK.out _ _ (fun h=>absurd (show false=true from h.symm.trans (by kernel_rfl)) (by decide)) ?_;clear hK K;refine dJ 14 rfl (fun K hK=>?_);go_simp;refine hK.out _ _ (fun h=>absurd (show false=true from h.symm.trans (by kernel_rfl)) (by decide)) ?_;clear hK K;refine df (by kernel_rfl) ?_ _;go_wp2;exact bodyPost_ret (v:=.tuple #[.slice (some ⟨q,0,none⟩) (dD (aT k.aa z).af j).cells.length cp,.bool true]) (by simp[results,results113,go_sem]) rfl (DT.some HN.out KF.out.1 KF.out.2.1 KF.out.2.2.1 KF.out.2.2.2 KZ.out.1)
 ·have HN:=ay (zI (k:=k) (y:=(i:Int)) (fun h=>by
   have:=h.2.2.2
   rw[Int.toNat_natCast,HH.out.2.2.1,ha]at this;cases this))
  refine hK.out _ _ (fun _=>SF.out _ bZ) ?_;clear hK K;have hS:=SF.out _ bZ;refine cu 11 rfl hS ?_;simp only[Act.put];refine cu 12 rfl hS ?_;simp only[Act.put];refine dJ 13 rfl (fun K hK=>?_);go_simp;refine hK.out _ _ (fun h=>absurd (show false=true from h.symm.trans (by kernel_rfl)) (by decide)) ?_;clear hK K;refine dJ 14 rfl (fun K hK=>?_);go_simp;refine hK.out _ _ (fun h=>absurd (show false=true from h.symm.trans (by kernel_rfl)) (by decide)) ?_;clear hK K;refine df (by kernel_rfl) ?_ _;go_wp2;exact bodyPost_ret (v:=.tuple #[.slice none 0 0,.bool false]) (by simp[results,results113,go_sem]) rfl (DT.zero HN.out _ _ KZ.out.1)
end
section
open Go.Proofs.Tryz
variable {k:C6}
theorem nE.up{w X w':World}{n:Int}{e:Ending}(h:nE X k n e w')(b:Below w.1.size w X):nE w k n e w':=h.low b
theorem Qb(hk:aF k=true)(y:Int):jo k.f y=bH 0 ((k.f.length:Int)-1) y:=by
 simp only[aF,Bool.and_eq_true]at hk;rw[jo,hk.1.1.1.1.2];rfl
theorem GG(w:World)(d:Nat)(a1:OA)(c1:Nat)(a2:OA)(c2:Nat)(a3:OA)(c3:Nat)(k:C6)(cs:List Value)(y:Int)(hk:aF k=true)(hl:cO.L k)(h:cO.Rd w a1 c1 a2 c2 a3 c3 k)(hd:Bx w d ((dR a1 c1 a2 c2 a3 c3 k)++cs))(hy:bH 0 ((k.f.length:Int)-1) y=true):Calls prog 66 #[.pointer (some ⟨d,0,none⟩),vI y] w fun e w'=>e=.returned (.tuple #[])/\Below w.1.size w w':=by
 have hh:=mg w a1 k.f.length c1 y k.f hl.p h.p;rw[Qb hk,hy]at hh;have p2:=hd.1 2 _ rfl;clear hd h hl hk hy;go_enter func66,ntmps66;go_wp2_with fail;refine hh.mono ?_;clear hh p2;rintro e w1 ⟨rfl,b1⟩;go_wp2;exact bodyPost_end (v:=.tuple #[]) (by simp[results,results66]) rfl ⟨rfl,b1⟩
theorem Jm(w:World)(d:Nat)(a1:OA)(c1:Nat)(a2:OA)(c2:Nat)(a3:OA)(c3:Nat)(k:C6)(cs:List Value)(y:Int)(hk:aF k=true)(hl:cO.L k)(h:cO.Rd w a1 c1 a2 c2 a3 c3 k)(hd:Bx w d ((dR a1 c1 a2 c2 a3 c3 k)++cs))(hy:bH 0 ((k.f.length:Int)-1) y=false):Calls prog 66 #[.pointer (some ⟨d,0,none⟩),vI y] w (nE w k 5):=by
 have hh:=mg w a1 k.f.length c1 y k.f hl.p h.p;rw[Qb hk,hy]at hh;have p2:=hd.1 2 _ rfl;have K:Hid (Bx w d ((dR a1 c1 a2 c2 a3 c3 k)++cs)/\cO.Rd w a1 c1 a2 c2 a3 c3 k/\aF k=true):=⟨hd,h,hk⟩
 clear hd h hl hk hy;go_enter func66,ntmps66;go_wp2_with fail;refine hh.mono ?_;clear hh p2;rintro e w1 ⟨rfl,b1⟩;have hr:=iK w1 d a1 c1 a2 c2 a3 c3 k cs 5 K.out.2.2 (K.out.2.1.later b1) (K.out.1.later b1);have B1:Hid (Below w.1.size w w1):=b1;clear b1;go_wp2_with fail;refine hr.mono ?_;clear hr;intro e w2 hr;have HX:Hid (nE w k 5 e w2):=hr.up B1.out;obtain⟨b1,d1,b2,d2,b3,d3,P,rfl,-,-⟩:=hr;go_wp2;exact⟨rfl,HX.out⟩
end
namespace tx
open Go.Proofs.Tryz
end tx
section
open Go.Proofs.Tryz
theorem Q5{k:C6}(hk:aF k=true)(y:Int):(jF k y).length<=6:=by
 by_cases h:aF k=true/\0<=y/\y<(k.f.length:Int)/\(xw k y.toNat).x=true
 ·obtain⟨i,rfl⟩:∃i:Nat,y=(i:Int):=⟨y.toNat,by omega⟩
  have hi:i<k.f.length:=by omega
  obtain⟨z,hz,qV,Io,jN,S9,F9⟩:=D9 hk hi;have ha:(aT k.aa z).x=true:=by have:=h.2.2.2;rw[Int.toNat_natCast,jN]at this;exact this
  have aK:=ze (aT k.aa z) (i:Int);rw[F9 ha]at aK;rcases mY (aT k.aa z) (i:Int)with ⟨e,_⟩|⟨t,e,ht,_,_⟩
  ·rw[e]at aK;cases aK
  ·rw[(D7 hk hi (by rw[jN];exact ha) (by rw[jN];exact e)).1,jN];have:=Gu S9 _ (List.mem_of_getElem? (eY ht));omega
 ·rw[(zI h).1];simp
theorem P6(w:World)(d:Nat)(a1:OA)(c1:Nat)(a2:OA)(c2:Nat)(a3:OA)(c3:Nat)(k:C6)(cs:List Value)(y:Int)(hk:aF k=true)(hl:cO.L k)(h:cO.Rd w a1 c1 a2 c2 a3 c3 k)(hd:Bx w d ((dR a1 c1 a2 c2 a3 c3 k)++cs))(hc:qZ k y=false):Calls prog 67 #[.pointer (some ⟨d,0,none⟩),vI y] w (nE w k 6):=by
 have hC:=tL w a1 c1 a2 c2 a3 c3 k y hl h;rw[hc]at hC;have p0:=hd.c6;have K:Hid (Bx w d ((dR a1 c1 a2 c2 a3 c3 k)++cs)/\cO.Rd w a1 c1 a2 c2 a3 c3 k/\aF k=true):=⟨hd,h,hk⟩
 clear hd h hl hk hc;go_enter func67,ntmps67;go_wp2_with fail;refine hC.mono ?_;clear hC p0;rintro e w1 ⟨ca,cc,P,rfl,-,b1⟩;have hr:=iK w1 d a1 c1 a2 c2 a3 c3 k cs 6 K.out.2.2 (K.out.2.1.later b1) (K.out.1.later b1);have B1:Hid (Below w.1.size w w1):=b1;clear b1;generalize (jF k y).length=ln at *;go_wp2_with fail;refine hr.mono ?_;clear hr;intro e w2 hr;have HX:Hid (nE w k 6 e w2):=hr.low B1.out;obtain⟨b1,d1,b2,d2,b3,d3,P,rfl,-,-⟩:=hr;go_wp2;exact⟨rfl,HX.out⟩
theorem M6(w:World)(d:Nat)(a1:OA)(c1:Nat)(a2:OA)(c2:Nat)(a3:OA)(c3:Nat)(k:C6)(cs:List Value)(y:Int)(hl:cO.L k)(h:cO.Rd w a1 c1 a2 c2 a3 c3 k)(hd:Bx w d ((dR a1 c1 a2 c2 a3 c3 k)++cs))(hc:qZ k y=true):Calls prog 67 #[.pointer (some ⟨d,0,none⟩),vI y] w fun e w'=>∃ca cc,e=.returned (.slice ca (jF k y).length cc)/\nN w' w'.1.size ca (jF k y).length (jF k y)/\Below w.1.size w w':=by
 have hC:=tL w a1 c1 a2 c2 a3 c3 k y hl h;rw[hc]at hC;have p0:=hd.c6;clear hd h hl hc;go_enter func67,ntmps67;go_wp2_with fail;refine hC.mono ?_;clear hC p0;rintro e w1 ⟨ca,cc,P,rfl,how,b1⟩;have HS:Hid (nN w1 w1.1.size ca (jF k y).length (jF k y)/\Below w.1.size w w1):=⟨how.sl,b1⟩
 clear how b1;obtain⟨ln,mh⟩:∃ln,(jF k y).length=ln:=⟨_,rfl⟩
 have HL:=ay mh;rw[mh];clear mh;go_wp2;go_ret;exact⟨ca,cc,by rw[HL.out];rfl,HS.out.1,HS.out.2⟩
end
namespace tx
open Go.Proofs.Tryz
end tx
section
open Go.Proofs.Tryz
end
section
open Go.Proofs.Tryz
variable {B d1 d2 d3 p:Nat}{Y:World}{b1 b2 b3:OA}{gm gp gt:Nat->Nat->Prop}{k:C6}{ms:List (MV×M4)}{ps:List ((Nat×Nat)×List Int)}{ts:List (tx.TV×tx.T7)}
theorem Kd.Part.put{D V:Type}{K:Kd D V}{X:World}{b n:Nat}{ys:List D}{g:Nat->Nat->Prop}(h:K.Part X B b n ys g){i:Nat}(hi:i<ys.length)(hn:ys.length<=n)(v:V)(d:D)(Q:Nat->Prop)(ho:K.Ow X B v d Q)(eO:∀q,Q q->q≠b)(UB:∀j q,j<ys.length->j≠i->g j q->¬Q q):
  K.Part (dU X b (i*K.n) (K.cells v d)) B b n (ys.set i d) (fun j=>if j=i then Q else g j):=by
 have hs:(dU X b (i*K.n) (K.cells v d)).1.size=X.1.size:=bu _ _ _ _;have hk:∀q,q≠b->(dU X b (i*K.n) (K.cells v d)).1[q]?=X.1[q]?:=fun q hq=>aX hq _ _ _
 have hc:i*K.n+K.n<=n*K.n:=by rw[<-Nat.succ_mul];exact Nat.mul_le_mul_right _ (by omega)
 refine⟨Dy _ _ _ h.rm,fun j e hj=>?_,fun j q hj hq=>?_,fun j l q hj hl OW h1 h2=>?_⟩
 ·by_cases WQ:j=i
  ·subst WQ;rw[List.getElem?_set_self hi]at hj;obtain rfl:=Option.some.inj hj;refine⟨v,fun t u hu=>?_,by simp only[if_pos];exact K.aL ho (Nat.le_of_eq hs.symm) (fun q hq=>hk q (eO q hq))⟩;refine xD _ _ _ (fun t h1 h2=>?_) t u hu;rw[K.len]at h2;obtain⟨z,hz,_⟩:=h.rm t (by omega);exact⟨z,hz⟩
  ·rw[List.getElem?_set_ne (fun e=>WQ e.symm)]at hj;obtain⟨v',h1,h2⟩:=h.at_ j e hj;have OW:=(List.getElem?_eq_some_iff.1 hj).1;refine⟨v',fun t u hu=>?_,by simp only[if_neg WQ];exact K.aL h2 (Nat.le_of_eq hs.symm) (fun q hq=>hk q (h.ne j q OW hq))⟩;have ht:t<K.n:=by have:=(List.getElem?_eq_some_iff.1 hu).1;rwa[K.len]at this
   refine(GY _ _ _ ?_).trans (h1 t u hu);rw[K.len];rcases Nat.lt_or_gt_of_ne WQ with aK|XV
   ·have:=Nat.mul_le_mul_right K.n (Nat.succ_le_of_lt aK);rw[Nat.succ_mul]at this;left;omega
   ·have:=Nat.mul_le_mul_right K.n (Nat.succ_le_of_lt XV);rw[Nat.succ_mul]at this;right;omega
 ·rw[List.length_set]at hj;by_cases e:j=i
  ·simp only[if_pos e]at hq;exact eO q hq
  ·simp only[if_neg e]at hq;exact h.ne j q hj hq
 ·rw[List.length_set]at hj hl;by_cases e1:j=i
  ·by_cases e2:l=i
   ·omega
   ·simp only[if_pos e1]at h1;simp only[if_neg e2]at h2;exact UB l q hl e2 h2 h1
  ·by_cases e2:l=i
   ·simp only[if_neg e1]at h1;simp only[if_pos e2]at h2;exact UB j q hj e1 h1 h2
   ·simp only[if_neg e1]at h1;simp only[if_neg e2]at h2;exact h.ap j l q hj hl OW h1 h2
def lI(k:C6)(i:Nat)(t:tx.T7):C6:=⟨k.v,k.q,k.f,k.aa,k.c.set i t,k.w⟩
theorem FI{base:Nat}
  (hr:uL base p Y (.slice b1 k.f.length d1) (.slice b2 k.aa.length d2) (.slice b3 k.c.length d3) ps gp ms gm ts gt) (e1:ps.map (·.2)=k.f) (e2:ms.map (·.2)=k.aa) (e3:ts.map (·.2)=k.c){i:Nat} (hi:i<k.c.length) (u0:OA) (u1:Nat) (u2:OA) (u3:Nat) (t':tx.T7) (Q:Nat->Prop) (ho:KT.Ow Y B u0 u1 u2 u3 t' Q) (hB:B<=base) (hQ:∀q,Q q->¬Kd.kS (.slice b1 k.f.length d1) ps gp q/\¬Kd.kS (.slice b2 k.aa.length d2) ms gm q/\(Value.slice b3 k.c.length d3).ownBlock≠some q) (rj:∀j q,j<k.c.length->j≠i->gt j q->¬Q q):
  ∃b,b3=some ⟨b,0,none⟩/\base<=b/\b<Y.1.size/\b≠p/\Room Y b (k.c.length*7)/\(∀q,Q q->q≠b)/\∃P,(∀q,P q->Q q\/base<=q)/\cO.Ow (dU Y b (i*7) (gY.cells ⟨u0,u1,u2,u3⟩ t')) B b1 d1 b2 d2 b3 d3 (lI k i t') P:=by
 have UX:=Dw hr.P e1;have Mq:=hr.M.own e2;have aK:ts.length=k.c.length:=by rw[<-e3];simp
 obtain⟨b,rfl,wO,-⟩:=hr.T.part e3 (fun h=>by rw[h]at aK;simp at aK;omega);have jC:=fun q (hq:Kd.kS (.slice (some ⟨b,0,none⟩) k.c.length d3) ts gt q)=>hr.T.blocks hq
 have hg:∀j q,j<k.c.length->gt j q->Kd.kS (.slice (some ⟨b,0,none⟩) k.c.length d3) ts gt q:=fun j q hj hq=>.inr ⟨j,by omega,hq⟩
 have qQ:=jC b (.inl rfl);have Zr:∀q,Q q->q≠b:=fun q hq e=>(hQ q hq).2.2 (by rw[e];rfl)
 have ff:=Kd.Part.put (K:=gY) (⟨wO.rm,fun j d hj=>by obtain⟨v,h1,h2⟩:=wO.at_ j d hj;exact⟨v,h1,gY.low h2 hB⟩,wO.ne,wO.ap⟩:gY.Part Y B b k.c.length k.c gt) hi aU ⟨u0,u1,u2,u3⟩ t' Q ho Zr rj;have dX:∀q,q≠b->(dU Y b (i*7) (gY.cells ⟨u0,u1,u2,u3⟩ t')).1[q]?=Y.1[q]?:=fun q hq=>aX hq _ _ _
 have dO:(dU Y b (i*7) (gY.cells ⟨u0,u1,u2,u3⟩ t')).1.size=Y.1.size:=bu _ _ _ _;have XN:Kd.kS (.slice (some ⟨b,0,none⟩) k.c.length d3) ts gt b:=.inl rfl;have o1:KP.Ow (dU Y b (i*7) (gY.cells ⟨u0,u1,u2,u3⟩ t')) B b1 k.f _:=(UX.low hB).aL (Nat.le_of_eq dO.symm) (fun q hq=>dX q (fun e=>by subst e;exact hr.pt q hq XN));have o2:gQ.oD (dU Y b (i*7) (gY.cells ⟨u0,u1,u2,u3⟩ t')) B b2 k.aa _:=(Mq.low hB).aL (Nat.le_of_eq dO.symm) (fun q hq=>dX q (fun e=>by subst e;exact hr.mt q hq XN))
 refine⟨b,rfl,qQ.1,qQ.2,hr.tp b XN,wO.rm,Zr,fun q=>Kd.kS (.slice b1 k.f.length d1) ps gp q\/Kd.kS (.slice b2 k.aa.length d2) ms gm q\/(q=b\/(∃j,j<k.c.length/\j≠i/\gt j q)\/Q q),fun q hq=>by
  rcases hq with hq|hq|rfl|⟨j,hj,_,hq⟩|hq
  ·exact .inr (hr.P.blocks hq).1
  ·exact .inr (hr.M.blocks hq).1
  ·exact .inr qQ.1
  ·exact .inr (jC q (hg j q hj hq)).1
  ·exact .inl hq,⟨_,_,fun q=>q=b\/(∃j,j<k.c.length/\j≠i/\gt j q)\/Q q,o1,o2,⟨.inr ⟨b,fun j=>if j=i then Q else gt j,rfl,.inl rfl,?_,fun j q hj hq=>?_⟩,fun q hq=>?_⟩,fun _ hq=>.inl hq,fun _ hq=>.inr (.inl hq),fun _ hq=>.inr (.inr hq),hr.pm,fun q hq Rw=>?_,fun q hq Rw=>?_⟩,fun q hq=>?_⟩
 ·have:(k.c.set i t').length=k.c.length:=by simp
  show gY.Part _ B b (k.c.set i t').length (k.c.set i t') _
  rw[this];exact ff
 ·have Rp:j<k.c.length:=by simpa[lI]using hj
  by_cases e:j=i
  ·simp only[if_pos e]at hq;exact .inr (.inr hq)
  ·simp only[if_neg e]at hq;exact .inr (.inl ⟨j,Rp,e,hq⟩)
 ·rw[dO];rcases hq with rfl|⟨j,hj,_,hq⟩|hq
  ·exact⟨by omega,qQ.2⟩
  ·have:=jC q (hg j q hj hq);exact⟨by omega,this.2⟩
  ·exact ho.of hq
 ·rcases Rw with rfl|⟨j,hj,_,hx⟩|hx
  ·exact hr.pt q hq XN
  ·exact hr.pt q hq (hg j q hj hx)
  ·exact(hQ q hx).1 hq
 ·rcases Rw with rfl|⟨j,hj,_,hx⟩|hx
  ·exact hr.mt q hq XN
  ·exact hr.mt q hq (hg j q hj hx)
  ·exact(hQ q hx).2.1 hq
 ·rw[dO];rcases hq with hq|hq|rfl|⟨j,hj,_,hq⟩|hq
  ·have:=hr.P.blocks hq;exact⟨by omega,this.2⟩
  ·have:=hr.M.blocks hq;exact⟨by omega,this.2⟩
  ·exact⟨by omega,qQ.2⟩
  ·have:=jC q (hg j q hj hq);exact⟨by omega,this.2⟩
  ·exact ho.of hq
theorem Q9{base:Nat}
  (hr:uL base p Y (.slice b1 k.f.length d1) (.slice b2 k.aa.length d2) (.slice b3 k.c.length d3) ps gp ms gm ts gt) (e1:ps.map (·.2)=k.f) (e2:ms.map (·.2)=k.aa) (e3:ts.map (·.2)=k.c){i:Nat} (hi:i<k.c.length) (u0:OA) (u1:Nat) (u2:OA) (u3:Nat) (t':tx.T7) (Q:Nat->Prop) (ho:KT.Ow Y B u0 u1 u2 u3 t' Q) (hB:B<=base) (hQ:∀q,Q q->q<base):
  ∃b,b3=some ⟨b,0,none⟩/\base<=b/\b<Y.1.size/\b≠p/\Room Y b (k.c.length*7)/\(∀q,Q q->q≠b)/\∃P,(∀q,P q->Q q\/base<=q)/\cO.Ow (dU Y b (i*7) (gY.cells ⟨u0,u1,u2,u3⟩ t')) B b1 d1 b2 d2 b3 d3 (lI k i t') P:=by
 have aK:ts.length=k.c.length:=by rw[<-e3];simp
 exact FI hr e1 e2 e3 hi u0 u1 u2 u3 t' Q ho hB (fun q hq=>⟨fun h=>by have:=(hr.P.blocks h).1;have:=hQ q hq;omega,fun h=>by have:=(hr.M.blocks h).1;have:=hQ q hq;omega,fun h=>by have:=(hr.T.blocks (.inl h)).1;have:=hQ q hq;omega⟩) (fun j q hj _ h hq=>by have:=(hr.T.blocks (.inr ⟨j,by omega,h⟩)).1;have:=hQ q hq;omega)
theorem yT(w:World)(a1:OA)(c1:Nat)(a2:OA)(c2:Nat)(a3:OA)(c3:Nat)(k:C6)(y:Int)(hl:cO.L k)(h:cO.Rd w a1 c1 a2 c2 a3 c3 k):
  Calls prog 30 #[.agg #[vI k.v,vI k.q,.slice a1 k.f.length c1,.slice a2 k.aa.length c2,.slice a3 k.c.length c3,.bool k.w],vI y] w (tX w a1 c1 a2 c2 a3 c3 k y (gW k y)):=by
 obtain⟨W0,dS⟩:∃Y,Y=w.alloc (.cells #[vI k.v,vI k.q,.slice a1 k.f.length c1,.slice a2 k.aa.length c2,.slice a3 k.c.length c3,.bool k.w] 32):=⟨_,rfl⟩
 have b0:Below w.1.size w W0:=by rw[dS];exact aN.alloc aU _
 have hc:=IJ W0 a1 c1 a2 c2 a3 c3 k y hl (h.later b0);have H:Hid (Below w.1.size w W0/\cO.Rd w a1 c1 a2 c2 a3 c3 k):=⟨b0,h⟩
 clear b0 h hl;go_enter func30,ntmps30;go_wp2_with fail;rw[<-dS];clear dS;refine hc.mono ?_;clear hc;rintro e w1 (⟨hn,hr⟩|⟨hz,d,u0,u1,u2,u3,P,rfl,dK,how,Yc,Nz,b1⟩)
 ·have HX:Hid (tX w a1 c1 a2 c2 a3 c3 k y (gW k y) e w1):=.inl ⟨by simp[gW,hn],by rw[show gW k y=gN k y by simp[gW,hn]];exact hr.low H.out.1⟩;obtain⟨b1,d1,b2,d2,b3,d3,P,rfl,-,-⟩:=hr;go_wp2;exact⟨rfl,HX.out⟩
 ·have hk:aF k=true:=by
   cases hk:aF k with
   | true=>rfl
   | false=>simp[gN,hk]at hz
  have K1:Hid (Bx w1 d [vI k.v,vI k.q,.slice a1 k.f.length c1,.slice a2 k.aa.length c2,.slice a3 k.c.length c3,.bool k.w,vI (iO k.c y),vI (eD k y).id,vI (eD k y).l,vI (eD k y).o,vI (eD k y).u,.slice u0 (eD k y).b.length u1,.slice u2 (eD k y).ag.length u3,vI (eD k y).az]/\KT.Ow w1 w.1.size u0 u1 u2 u3 (eD k y) P/\(∀q,P q->q≠d)/\w.1.size<=d/\Below w.1.size w w1/\cO.Rd w1 a1 c1 a2 c2 a3 c3 k):=⟨dK,how.low H.out.1.size,Yc,Nat.le_trans H.out.1.size Nz,au H.out.1 b1,H.out.2.later (au H.out.1 b1)⟩
  have p9:=dK.1 9 _ rfl;clear dK how Yc Nz b1;by_cases Ms:(eD k y).o=1
  ·have kU:gW k y=0:=by simp[gW,hz,Ms]
   have HZ:=ay kU;rw[Ms]at p9;clear hz kU Ms;go_wp2;go_ret;exact .inr ⟨HZ.out,d,u0,u1,u2,u3,P,rfl,K1.out.1,K1.out.2.1,K1.out.2.2.1,K1.out.2.2.2.1,K1.out.2.2.2.2.1⟩
  ·have kU:gW k y=4:=by simp[gW,hz,Ms]
   have eO:((eD k y).o != 1)=true:=by simpa using Ms
   have nQ:kg k=k:=by simp[kg,hk]
   have HX:Hid (∀e w',nE w1 k 4 e w'->tX w a1 c1 a2 c2 a3 c3 k y (gW k y) e w'):=fun e w' h=>.inl ⟨by rw[kU];decide,by rw[kU,nQ];exact h.low K1.out.2.2.2.2.1⟩
   have Yg:=iK w1 d a1 c1 a2 c2 a3 c3 k [vI (iO k.c y),vI (eD k y).id,vI (eD k y).l,vI (eD k y).o,vI (eD k y).u,.slice u0 (eD k y).b.length u1,.slice u2 (eD k y).ag.length u3,vI (eD k y).az] 4 hk K1.out.2.2.2.2.2 K1.out.1;clear hz kU Ms nQ hk;go_wp2_with fail;refine Yg.mono ?_;clear Yg;intro e w6 hr;have wJ:=hr;obtain⟨b1,d1,b2,d2,b3,d3,P,rfl,-,-⟩:=hr;have HR:=ay wJ;clear wJ;go_wp2;exact⟨rfl,HX.out _ _ HR.out⟩
end
section
open Go.Proofs.Tryz
def oX(X:World)(B:Nat)(k:C6)(e:Ending)(w':World):Prop:=∃(a1:OA) (c1:Nat) (a2:OA) (c2:Nat) (a3:OA) (c3:Nat) (P:Nat->Prop),e=.returned (.agg #[vI k.v,vI k.q,.slice a1 k.f.length c1,.slice a2 k.aa.length c2,.slice a3 k.c.length c3,.bool k.w])/\cO.Ow w' B a1 c1 a2 c2 a3 c3 k P/\Below X.1.size X w'
theorem Oy(w:World)(B d:Nat)(a1:OA)(c1:Nat)(a2:OA)(c2:Nat)(a3:OA)(c3:Nat)(k:C6)(i:Nat)(t':tx.T7)(u0:OA)(u1:Nat)(u2:OA)(u3:Nat)(P:Nat->Prop)(hk:aF k=true)(hi:i<k.c.length)(h:cO.Rd w a1 c1 a2 c2 a3 c3 k)(hd:Bx w d [vI k.v,vI k.q,.slice a1 k.f.length c1,.slice a2 k.aa.length c2,.slice a3 k.c.length c3,.bool k.w,vI (i:Int),vI t'.id,vI t'.l,vI t'.o,vI t'.u,.slice u0 t'.b.length u1,.slice u2 t'.ag.length u3,vI t'.az])(ho:KT.Ow w B u0 u1 u2 u3 t' P)(hB:B<=w.1.size):
  Calls prog 32 #[.pointer (some ⟨d,0,none⟩)] w (oX w B (lI k i t')):=by
 obtain⟨W0,dS,b0,x0,-⟩:=jU w nJ 32;have d0:=hd.later b0;have p0:=d0.c6;have hc:=nz W0 a1 c1 a2 c2 a3 c3 k hk (h.later b0);have n60:=(QU.of hk).t;have H:Hid (Below w.1.size w W0/\Bx W0 w.1.size nJ/\Bx W0 d [vI k.v,vI k.q,.slice a1 k.f.length c1,.slice a2 k.aa.length c2,.slice a3 k.c.length c3,.bool k.w,vI (i:Int),vI t'.id,vI t'.l,vI t'.o,vI t'.u,.slice u0 t'.b.length u1,.slice u2 t'.ag.length u3,vI t'.az]/\KT.Ow W0 B u0 u1 u2 u3 t' P/\B<=w.1.size/\(∀q,P q->q<w.1.size)/\d<w.1.size):=⟨b0,x0,d0,ho.later b0,hB,fun q hq=>(ho.of hq).2,hd.2.2⟩
 rw[dS]at p0;clear b0 x0 d0 h hd ho hB hk;go_enter func32,ntmps32;go_wp2_with fail;rw[<-dS];clear dS;refine hc.mono ?_;clear hc;rintro e w1 ⟨b1,d1,b2,d2,b3,d3,ps,gp,ms,gm,ts,gt,rfl,hr,e1,e2,e3,bl⟩;clear p0;obtain⟨W2,y9,bb2,x2,-⟩:=jU w1 (dR b1 d1 b2 d2 b3 d3 k) 32;obtain⟨nr,fv,SS,Ru,hB,cX,Nz⟩:=H.out;have bd:Below W2.1.size W2 W2.drew:=aN.drew;have bW:Below W0.1.size W0 W2.drew:=au (au bl bb2) bd;have cY:w.1.size<W0.1.size:=fv.2.2;obtain⟨b,jC,IY,dc,k9,rJ,Zr,PP,XF,XA⟩:=Q9 (hr.later (au bb2 bd)) e1 e2 e3 hi u0 u1 u2 u3 t' P (Ru.later bW) (show B<=W0.1.size+3 by omega) (fun q hq=>by have:=cX q hq;omega);subst jC;have dZ:(fun X:World=>Bx X w1.1.size (dR b1 d1 b2 d2 (some ⟨b,0,none⟩) d3 k)/\Bx X d [vI k.v,vI k.q,.slice a1 k.f.length c1,.slice a2 k.aa.length c2,.slice a3 k.c.length c3,.bool k.w,vI (i:Int),vI t'.id,vI t'.l,vI t'.o,vI t'.u,.slice u0 t'.b.length u1,.slice u2 t'.ag.length u3,vI t'.az]) W2.drew:=⟨x2.later bd,SS.later bW⟩
 have HP:Hid (∀q,PP q->q≠w.1.size):=fun q hq e=>by rcases XF q hq with h|h;have:=cX q h;omega;omega
 have jn:(i:Int)<(k.c.length:Int):=by omega
 have r0:∀j,j<7->∃v,W2.drew.cell? ⟨b,i*7+j,none⟩=some v/\W2.drew.frozen? ⟨b,i*7+j,none⟩=false:=fun j hj=>rJ (i*7+j) (by omega)
 have O0:b≠w1.1.size:=fun e=>by have:=k9;have hs:=bl.size;have hc:=(hr.T.blocks (.inl (by rfl:(Value.slice (some ⟨b,0,none⟩) k.c.length d3).ownBlock=some b))).2;omega
 have X8:b≠w.1.size:=fun e=>by omega
 have KH:Hid (cO.Ow (dU W2.drew b (i*7) (gY.cells ⟨u0,u1,u2,u3⟩ t')) B b1 d1 b2 d2 (some ⟨b,0,none⟩) d3 (lI k i t') PP/\Below w.1.size w W2.drew/\Bx W2.drew w1.1.size (dR b1 d1 b2 d2 (some ⟨b,0,none⟩) d3 k)/\Bx W2.drew w.1.size nJ/\w.1.size<=b/\b≠w1.1.size/\b≠w.1.size/\w.1.size<w1.1.size):=⟨XA,au nr bW,dZ.1,fv.later bW,by omega,O0,X8,by have:=bl.size;omega⟩
 obtain⟨v0,g0,f0⟩:=r0 0 (by omega);obtain⟨v1,g1,f1⟩:=r0 1 (by omega);obtain⟨v2,g2,f2⟩:=r0 2 (by omega);obtain⟨v3,g3,f3⟩:=r0 3 (by omega);obtain⟨v4,g4,f4⟩:=r0 4 (by omega);obtain⟨v5,g5,f5⟩:=r0 5 (by omega);obtain⟨v6,g6,f6⟩:=r0 6 (by omega);rw[Nat.add_zero]at g0 f0;clear bb2 x2 nr fv SS Ru hB cX Nz bd bW cY IY dc k9 rJ Zr XA XF r0 hr e1 e2 e3 bl H O0 X8;go_wp2_with fail;rw[<-y9];clear y9;refine bO 11 (fun X:World=>Bx X w1.1.size (dR b1 d1 b2 d2 (some ⟨b,0,none⟩) d3 k)/\Bx X d [vI k.v,vI k.q,.slice a1 k.f.length c1,.slice a2 k.aa.length c2,.slice a3 k.c.length c3,.bool k.w,vI (i:Int),vI t'.id,vI t'.l,vI t'.o,vI t'.u,.slice u0 t'.b.length u1,.slice u2 t'.ag.length u3,vI t'.az]) (by kernel_rfl) ?_;generalize W2.drew=XD at *;refine eP 0 ?_ rfl ?_ dZ ?_;rotate_left
 ·(intro w aH;go_simp;first|done|with_reducible rfl)
 simp only[Act.put];refine eP 1 ?_ rfl ?_ dZ ?_;rotate_left
 ·(intro w aH;have q4:=aH.1.1 4 _ rfl;go_simp;first|done|with_reducible rfl|rfl)
 simp only[Act.put];refine eP 2 ?_ rfl ?_ dZ ?_;rotate_left
 ·(intro w aH;go_simp;first|done|with_reducible rfl)
 simp only[Act.put];refine eP 3 ?_ rfl ?_ dZ ?_;rotate_left
 ·(intro w aH;go_simp;first|done|with_reducible rfl)
 simp only[Act.put];refine eP 4 ?_ rfl ?_ dZ ?_;rotate_left
 ·(intro w aH;go_simp;first|done|with_reducible rfl)
 simp only[Act.put];refine eP 5 ?_ rfl ?_ dZ ?_;rotate_left
 ·(intro w aH;have q6:=aH.2.1 6 _ rfl;go_simp;first|done|with_reducible rfl|rfl)
 simp only[Act.put];refine eP 6 ?_ rfl ?_ dZ ?_;rotate_left
 ·(intro w aH;go_simp;first|done|with_reducible rfl)
 simp only[Act.put];refine eP 7 ?_ rfl ?_ dZ ?_;rotate_left
 ·(intro w aH;go_simp;first|done|with_reducible rfl)
 simp only[Act.put];refine eP 8 ?_ rfl ?_ dZ ?_;rotate_left
 ·(intro w aH;go_simp;first|done|with_reducible rfl)
 simp only[Act.put];refine eP 9 ?_ rfl ?_ dZ ?_;rotate_left
 ·(intro w aH;have q7:=aH.2.1 7 _ rfl;have q8:=aH.2.1 8 _ rfl;have q9:=aH.2.1 9 _ rfl;have nx:=aH.2.1 10 _ rfl;have nB:=aH.2.1 11 _ rfl;have nF:=aH.2.1 12 _ rfl;have n6:=aH.2.1 13 _ rfl;go_simp;first|done|with_reducible rfl|rfl)
 simp only[Act.put];refine ed 10 rfl (fun K hK=>?_);have XY:(i:Int)<(k.c.length:Int)/\0<=(i:Int):=⟨jn,by omega⟩
 go_simp;refine hK.out _ _ (fun _=>dZ) ?_;clear hK K XY;refine ed 11 rfl (fun K hK=>?_);obtain⟨Y,hY⟩:∃Y,Y=dU XD b (i*7) (gY.cells ⟨u0,u1,u2,u3⟩ t'):=⟨_,rfl⟩
 have KY:Hid (cO.Ow Y B b1 d1 b2 d2 (some ⟨b,0,none⟩) d3 (lI k i t') PP/\Below w.1.size w Y/\Bx Y w1.1.size (dR b1 d1 b2 d2 (some ⟨b,0,none⟩) d3 k)/\Bx Y w.1.size nJ):=by
  obtain⟨k1,k2,k3,k4,k5,k6,k7,k8⟩:=KH.out;rw[hY];exact⟨k1,bn (w:=w) k5 _ _ _ k2,k3.aj (aX (fun e=>k6 e.symm) _ _ _) (by rw[bu];exact Nat.le_refl _),k4.aj (aX (fun e=>k7 e.symm) _ _ _) (by rw[bu];exact Nat.le_refl _)⟩
 have ub:Hid (w.1.size<w1.1.size):=KH.out.2.2.2.2.2.2.2;have kA:Y=(((((((XD.setCell ⟨b,i*7,none⟩ (vI t'.id)).setCell ⟨b,i*7+1,none⟩ (vI t'.l)).setCell ⟨b,i*7+2,none⟩ (vI t'.o)).setCell ⟨b,i*7+3,none⟩ (vI t'.u)).setCell ⟨b,i*7+4,none⟩ (.slice u0 t'.b.length u1)).setCell ⟨b,i*7+5,none⟩ (.slice u2 t'.ag.length u3)).setCell ⟨b,i*7+6,none⟩ (vI t'.az)):=by rw[hY];rfl
 have HY:=ay kA;clear hY kA KH dZ;go_simp;rw[<-HY.out];refine hK.out _ _ (fun h=>absurd rfl h) ?_;clear hK K g0 g1 g2 g3 g4 g5 g6 f0 f1 f2 f3 f4 f5 f6 HY;refine cZ (by kernel_rfl) ?_ _;have o0:=KY.out.2.2.1.c6;have r0:=KY.out.2.2.2.c6;have f0:=KY.out.2.2.2.f6;go_wp2;refine bodyPost_ret (v:=.agg #[vI k.v,vI k.q,.slice b1 k.f.length d1,.slice b2 k.aa.length d2,.slice (some ⟨b,0,none⟩) k.c.length d3,.bool k.w]) (by simp[results,results32,go_sem,r0]) rfl ?_;refine⟨b1,d1,b2,d2,some ⟨b,0,none⟩,d3,PP,by simp[lI],?_,?_⟩
 ·exact KY.out.1.aL (w':=dU Y w.1.size 0 (dR b1 d1 b2 d2 (some ⟨b,0,none⟩) d3 k)) (by rw[bu];exact Nat.le_refl _) (fun q hq=>aX (fun e=>HP.out q hq e) _ _ _)
 ·exact bn (w:=w) aU (dR b1 d1 b2 d2 (some ⟨b,0,none⟩) d3 k) Y 0 KY.out.2.1
end
section
open Go.Proofs.Tryz
variable {k:C6}
def Wn(X:World)(b:Nat)(v:Int)(k:C6)(n:Int)(e:Ending)(w':World):Prop:=∃(a1:OA) (c1:Nat) (a2:OA) (c2:Nat) (a3:OA) (c3:Nat) (P:Nat->Prop),((n=0/\e=.returned (.agg #[vI k.v,vI k.q,.slice a1 k.f.length c1,.slice a2 k.aa.length c2,.slice a3 k.c.length c3,.bool k.w]))\/(n≠0/\e=.panicked [{ v:=.iface 155 (.agg #[.iface 120 (vI n),vI k.v,vI k.q,.slice a1 k.f.length c1,.slice a2 k.aa.length c2,.slice a3 k.c.length c3,.bool k.w]),recovered:=false }]))/\cO.Ow w' X.1.size a1 c1 a2 c2 a3 c3 k P/\di b X w'/\w'.cell? ⟨b,0,none⟩=some (vI v)
theorem nE.dv{X:World}{b:Nat}{v:Int}{n:Int}{e:Ending}{w':World}(h:nE X k n e w')(hn:n≠0)(hb:b<X.1.size)(hv:X.cell? ⟨b,0,none⟩=some (vI v)):Wn X b v k n e w':=by
 obtain⟨a1,c1,a2,c2,a3,c3,P,h1,h2,h3⟩:=h;exact⟨a1,c1,a2,c2,a3,c3,P,.inr ⟨hn,h1⟩,h2,(di.refl b X).bN h3,(h3.cell (p:=⟨b,0,none⟩) hb).trans hv⟩
theorem uF{y:Int}(h:gW k y=0):aF k=true/\iO k.c y<k.c.length/\Gd k y=true/\(eD k y).o=1:=by
 have h0:gN k y=0:=by
  by_cases hc:gN k y=0
  ·exact hc
  ·simp only[gW,if_neg hc]at h;exact h
 have hp:(eD k y).o=1:=by
  by_cases hp:(eD k y).o=1
  ·exact hp
  ·simp[gW,h0,hp]at h
 cases hk:aF k with
 | false=>simp[gN,hk]at h0
 | true=>
  by_cases hi:iO k.c y<k.c.length
  ·cases hh:Gd k y with
   | false=>simp[gN,hk,hi,hh]at h0
   | true=>exact⟨rfl,hi,rfl,hp⟩
  ·simp[gN,hk,hi]at h0
end
namespace tx
open Go.Proofs.Tryz
variable {i:Nat}{n s:S5}{xs:List S5}
def kH(xs:List S5)(n:S5):Nat:=xs.findIdx fun x=>!jk x.a x.e n.a n.e
def rP(xs:List S5)(n:S5):List S5:=xs.take (kH xs n)++[n]++xs.drop (kH xs n)
def nk(xs:List S5)(n:S5)(j:Nat):Bool:=jk (aB xs j).a (aB xs j).e n.a n.e
theorem oJ(h:i<xs.length):aB xs i=xs[i]:=by have:=eT h;rw[List.getElem?_eq_getElem h]at this;exact(Option.some.inj this).symm
theorem Ox{k:Nat}(hk:k<xs.length)(h:nk xs n k=false)(aO:∀j,j<k->nk xs n j=true):kH xs n=k:=by
 unfold kH;rw[List.findIdx_eq hk];refine⟨by rw[<-oJ hk];simpa[nk]using h,fun j hj=>?_⟩;rw[<-oJ (by omega)];simpa[nk]using aO j hj
theorem Md(aO:∀j,j<xs.length->nk xs n j=true):kH xs n=xs.length:=by
 unfold kH;rw[List.findIdx_eq_length];intro x hx;obtain⟨i,hi,rfl⟩:=List.getElem_of_mem hx;have:=aO i hi;rw[nk,oJ hi]at this;simp[this]
def vV(s:S5)(v:Int):S5:=⟨s.a,s.e,s.h,s.j,v⟩
def pz(xs:List S5)(i:Nat)(s:S5):List S5:=xs.set i (vV s (aB xs i).i)
def dw(t:T7)(s:S5):T7:=if ky t=true/\bf s=true then(match mi t.ag s.a s.e with|some i=>⟨t.id,t.l,t.o,t.u,t.b,pz t.ag i s,t.az⟩|none=>if t.ag.length=12 then kC else⟨t.id,t.l,t.o,t.u,t.b,rP t.ag s,t.az⟩)else kC
def fV(t:T7)(s:S5):Bool:=ky t&&bf s&&((mi t.ag s.a s.e).isSome||!decide (t.ag.length=12))
theorem xG{r s:Int}(h:mi xs r s=some i):i<xs.length/\(aB xs i).a=r/\(aB xs i).e=s:=by
 unfold mi at h;rw[List.findIdx?_eq_some_iff_getElem]at h;obtain⟨hi,hp,_⟩:=h;refine⟨hi,?_⟩;rw[oJ hi];simpa using hp
theorem A8(xs:List S5)(i:Nat)(s:S5):(pz xs i s).length=xs.length:=by simp[pz]
theorem RZ(j:Nat)(h:i<xs.length):(pz xs i s)[j]?=if i=j then some (vV s (aB xs i).i)else xs[j]?:=by
 unfold pz;rw[List.getElem?_set];by_cases e:i=j
 ·subst e;simp[h]
 ·simp[e]
theorem VK(h:mi xs s.a s.e=some i):(pz xs i s).map jD=xs.map jD:=by
 obtain⟨hi,h1,h2⟩:=xG h;apply List.ext_getElem?;intro j;rw[List.getElem?_map,List.getElem?_map,RZ j hi];by_cases e:i=j
 ·subst e
  have h3:jD (vV s (aB xs i).i)=jD xs[i]:=by
   rw[<-oJ hi];unfold jD vV;rw[h1,h2]
  rw[if_pos rfl,List.getElem?_eq_getElem hi,Option.map_some,Option.map_some,h3]
 ·rw[if_neg e]
theorem R6(hu:tV xs)(h:mi xs s.a s.e=some i):(pz xs i s).Pairwise (fun a b=>jD a<jD b):=by
 have h1:((pz xs i s).map jD).Pairwise (·<·):=by rw[VK h,List.pairwise_map];exact hu
 rwa[List.pairwise_map]at h1
theorem R5(jG:∀s∈xs,bf s=true)(hs:bf s=true)(h:mi xs s.a s.e=some i):bf (vV s (aB xs i).i)=true:=by
 obtain⟨hi,-,-⟩:=xG h;have h1:=jG _ (List.getElem_mem hi);rw[<-oJ hi]at h1;simp only[bf,vV,Bool.and_eq_true]at h1 hs ⊢;exact⟨hs.1,h1.2⟩
theorem Hl(h:tV xs):bC.Hp (gX xs) xs.length:=fun i h0 hn=>by
 have e1:xs[(i-1)/2]?=some xs[(i-1)/2]:=List.getElem?_eq_getElem (by omega);have e2:xs[i]?=some xs[i]:=List.getElem?_eq_getElem hn;rw[DI e1,DI e2];exact Int.le_of_lt (Bi h e1 e2 (by omega))
theorem mP.GV{W:World}{P:Nat->Prop}{b:Nat}(hb:P b)(hl:b<W.1.size)(ha:aV W b 0 xs)(hr:Room W b (xs.length*5))(hi:i<xs.length)(y:S5):mP ((((((W).setCell ⟨b,i*5,none⟩ (vI y.a)).setCell ⟨b,i*5+1,none⟩ (vI y.e)).setCell ⟨b,i*5+2,none⟩ (vI y.h)).setCell ⟨b,i*5+3,none⟩ (.bool y.j)).setCell ⟨b,i*5+4,none⟩ (vI y.i)) P (some ⟨b,0,none⟩) (xs.set i y):=by
 obtain⟨v0,d0,_⟩:=hr (i*5) (by omega);obtain⟨v1,d1,_⟩:=hr (i*5+1) (by omega);obtain⟨v2,d2,_⟩:=hr (i*5+2) (by omega);obtain⟨v3,d3,_⟩:=hr (i*5+3) (by omega);obtain⟨v4,d4,_⟩:=hr (i*5+4) (by omega);refine .inr ⟨b,rfl,hb,by simpa[World.setCell]using hl,fun k s hk=>?_,by rw[List.length_set];exact((((hr.set _).set _).set _).set _).set _⟩;rw[Nat.zero_add];by_cases e:i=k
 ·subst e;rw[List.getElem?_set_self hi]at hk;obtain rfl:=Option.some.inj hk;exact aR.put y d0 d1 d2 d3 d4
 ·rw[List.getElem?_set_ne e]at hk;have:=ha k s hk;rw[Nat.zero_add]at this;exact((((this.set (by omega) _).set (by omega) _).set (by omega) _).set (by omega) _).set (by omega) _
theorem JM(w:World)(base p mb m:Nat)(v:Value)(xs:List S5)(h:jO w base p mb m v xs):
  Calls prog 169 #[.pointer (some ⟨p,0,none⟩)] w fun e w'=>e=.returned (.bool (decide (12<=xs.length)))/\w'=w:=by
 obtain⟨a,c,rfl,-⟩:=h.row.form;have c0:=h.c0;clear h;by_cases hl:12<=xs.length
 ·have d1:decide ((12:Int)<=(xs.length:Int))=true:=by simp;omega
  have d2:decide (12<=xs.length)=true:=by simpa using hl
  rw[d2];clear hl d2;go_enter func169,ntmps169;go_wp2;go_ret;exact⟨rfl,rfl⟩
 ·have d1:decide ((12:Int)<=(xs.length:Int))=false:=by simp;omega
  have d2:decide (12<=xs.length)=false:=by simpa using hl
  rw[d2];clear hl d2;go_enter func169,ntmps169;go_wp2;go_ret;exact⟨rfl,rfl⟩
end tx
end Go.Proofs.YtajmlpgodcfghaaGreatDoor
