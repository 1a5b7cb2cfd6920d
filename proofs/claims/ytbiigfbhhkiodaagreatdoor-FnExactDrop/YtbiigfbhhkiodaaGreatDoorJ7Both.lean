import Derived.Test.YtbiigfbhhkiodaaGreatDoorJ6Both
set_option maxHeartbeats 16000000
set_option maxRecDepth 100000
namespace Go.Proofs.YtbiigfbhhkiodaaGreatDoor
open Go.RowKit
open Go.Sort (grow)
namespace tx
open Go.Proofs.Tryz
theorem rX(w:World)(v:TV)(t:T7)(n:N5)(hl:TL t)(hs:uA w v t):
  Calls prog 217 #[v.val t,.agg #[vI n.b,vI n.e,vI n.i,vI n.g,.bool n.j]] w (xu w (dR t n) (eT t n)):=by
 obtain⟨ar,cr,ah,ch⟩:=v;simp only[TV.val];obtain⟨W0,dO⟩:=bO (w.alloc (.cells #[vI t.id,vI t.l,vI t.o,vI t.q,.slice ar t.a.length cr,.slice ah t.ai.length ch,vI t.az] 91));have z0:W0.1.size=w.1.size+1:=by rw[dO];simp
 have x0:BT W0 w.1.size ⟨ar,cr,ah,ch⟩ t:=by rw[dO];exact BT.box w ⟨ar,cr,ah,ch⟩ t _
 have b0:Below w.1.size w W0:=by rw[dO];exact aK.alloc aU _
 obtain⟨W1,fA⟩:=bO (W0.alloc (.cells #[vI n.b,vI n.e,vI n.i,vI n.g,.bool n.j] 99));have z1:W1.1.size=w.1.size+2:=by rw[fA];simp[z0]
 have x1:aP W1 (w.1.size+1) 0 n:=by rw[fA,<-z0];exact aP.box W0 _ _
 have b1:Below W0.1.size W0 W1:=by rw[fA];exact aK.alloc aU _
 obtain⟨W,hW⟩:=bO (W1.alloc (.cells #[vI 0,vI 0,vI 0,vI 0,.slice none 0 0,.slice none 0 0,vI 0] 91));have zW:W.1.size=w.1.size+3:=by rw[hW];simp[z1]
 have x2:BT W (w.1.size+2) ⟨none,0,none,0⟩ ⟨0,0,0,0,[],[],0⟩:=by rw[hW,<-z1];exact BT.zero W1 _
 have b2:Below W1.1.size W1 W:=by rw[hW];exact aK.alloc aU _
 have bW:=(b0.trans (b1.mono b0.size)).trans (b2.mono (by omega));have c1:=qU W ⟨ar,cr,ah,ch⟩ t hl (hs.later bW);simp only[TV.val]at c1;have H:=wL ((x0.later b1).later b2) (x1.below b2 (by omega)) x2 bW (hs.later bW) zW;rw[fA,dO]at hW;clear dO fA z0 x0 b0 z1 x1 b1 zW x2 b2 bW hs hl
 cases hB:kv t with
 | false=>
  rw[hB]at c1;have HN:=dw (show dR t n=kg by simp[dR,hB]) (show eT t n=false by simp[eT,hB]);go_enter func217,ntmps217;go_wp2_with fail;rw[<-hW];clear hW;refine c1.mono ?_;clear c1;rintro e w1 ⟨rfl,b1⟩;have KZ:=dw (H.out.2.2.1.later b1) (H.out.2.2.2.1.trans (b1.mono H.out.2.2.2.1.size));clear b1 H;obtain⟨r0,r1,r2,r3,r4,r5,r6,fr,-⟩:=KZ.out.1;have jA:=KZ.out.1.put ⟨none,0,none,0⟩ kg;simp only[iq,kg,List.length_nil]at jA;obtain⟨u0,u1,u2,u3,u4,u5,u6,-,-⟩:=jA;have KU:=af (And.intro u0 (And.intro u1 (And.intro u2 (And.intro u3 (And.intro u4 (And.intro u5 u6))))));clear u0 u1 u2 u3 u4 u5 u6;have f0:=fr 0;have f1:=fr 1;have f2:=fr 2;have f3:=fr 3;have f4:=fr 4;have f5:=fr 5;have f6:=fr 6;clear fr;simp only[List.length_nil]at r4 r5;go_wp2;obtain⟨u0,u1,u2,u3,u4,u5,u6⟩:=KU.out;refine bodyPost_ret (v:=.tuple #[.agg #[vI 0,vI 0,vI 0,vI 0,.slice none 0 0,.slice none 0 0,vI 0],.bool false]) (by simp[results,results217,go_sem,u0,u1,u2,u3,u4,u5,u6]) rfl ?_;rw[HN.out.1,HN.out.2];exact xu.zero (cz (s:=w.1.size+2) (v:=⟨none,0,none,0⟩) (t:=kg) KZ.out.2 (by omega))
 | true=>
  rw[hB]at c1;go_enter func217,ntmps217;go_wp2_with fail;rw[<-hW];clear hW;refine c1.mono ?_;clear c1;rintro e w1 ⟨rfl,b1⟩;obtain⟨n0,n1,n2,n3,n4⟩:=H.out.2.1.below b1 (by have:=H.out.2.2.2.2.2;omega);simp only[Nat.zero_add]at n1 n2 n3 n4;have c2:=Ch w1 n;have H1:=wL (H.out.1.later b1) (show aP w1 (w.1.size+1) 0 n from H.out.2.1.below b1 (by have:=H.out.2.2.2.2.2;omega)) (H.out.2.2.1.later b1) (H.out.2.2.2.1.trans (b1.mono H.out.2.2.2.1.size)) (H.out.2.2.2.2.1.later b1) (show w.1.size+3<=w1.1.size by have:=H.out.2.2.2.2.2;have:=b1.size;omega);clear b1 H;go_wp2_with fail;refine c2.mono ?_;clear c2 n0 n1 n2 n3 n4;rintro e w2 ⟨rfl,b2⟩;have H2:=wL (H1.out.1.later b2) (show aP w2 (w.1.size+1) 0 n from H1.out.2.1.below b2 (by have:=H1.out.2.2.2.2.2;omega)) (H1.out.2.2.1.later b2) (H1.out.2.2.2.1.trans (b2.mono H1.out.2.2.2.1.size)) (H1.out.2.2.2.2.1.later b2) (show w.1.size+3<=w2.1.size by have:=H1.out.2.2.2.2.2;have:=b2.size;omega);clear b2 H1
  cases hO:bS n with
  | false=>
   have HN:=dw (show dR t n=kg by simp[dR,hO]) (show eT t n=false by simp[eT,hO]);have KZ:=dw H2.out.2.2.1 H2.out.2.2.2.1;clear H2;obtain⟨r0,r1,r2,r3,r4,r5,r6,fr,-⟩:=KZ.out.1;have jA:=KZ.out.1.put ⟨none,0,none,0⟩ kg;simp only[iq,kg,List.length_nil]at jA;obtain⟨u0,u1,u2,u3,u4,u5,u6,-,-⟩:=jA;have KU:=af (And.intro u0 (And.intro u1 (And.intro u2 (And.intro u3 (And.intro u4 (And.intro u5 u6))))));clear u0 u1 u2 u3 u4 u5 u6;have f0:=fr 0;have f1:=fr 1;have f2:=fr 2;have f3:=fr 3;have f4:=fr 4;have f5:=fr 5;have f6:=fr 6;clear fr;simp only[List.length_nil]at r4 r5;go_wp2;obtain⟨u0,u1,u2,u3,u4,u5,u6⟩:=KU.out;refine bodyPost_ret (v:=.tuple #[.agg #[vI 0,vI 0,vI 0,vI 0,.slice none 0 0,.slice none 0 0,vI 0],.bool false]) (by simp[results,results217,go_sem,u0,u1,u2,u3,u4,u5,u6]) rfl ?_;rw[HN.out.1,HN.out.2];exact xu.zero (cz (s:=w.1.size+2) (v:=⟨none,0,none,0⟩) (t:=kg) KZ.out.2 (by omega))
  | true=>
   have m8:=(gG hB).1;have Xt:=(gG hB).2;have HT:=fP ((GN hB).1) ((GN hB).2) hO;have c3:=uH w2 ⟨ar,cr,ah,ch⟩ t (by omega) (by omega) H2.out.2.2.2.2.1;simp only[TV.val]at c3;obtain⟨p0,p1,p2,p3,p4,p5,p6,-,-⟩:=H2.out.1;dsimp only at p4 p5;go_wp2_with fail;refine c3.mono ?_;clear c3 p0 p1 p2 p3 p4 p5 p6;rintro e w3 ⟨a4,c4,h4,d4,PR,PS,rfl,o3,b3⟩;simp only[TV.val];obtain⟨X3,nL⟩:=bO (w3.alloc (.cells #[vI t.id,vI t.l,vI t.o,vI t.q,.slice a4 t.a.length c4,.slice h4 t.ai.length d4,vI t.az] 91));have b3':Below w3.1.size w3 X3:=by rw[nL];exact aK.alloc aU _
   have Br:=b3.trans (b3'.mono b3.size);have x3:BT X3 w3.1.size ⟨a4,c4,h4,d4⟩ t:=by rw[nL];exact BT.box w3 ⟨a4,c4,h4,d4⟩ t _
   have H3:=xZ (show aP X3 (w.1.size+1) 0 n from H2.out.2.1.below Br (by have:=H2.out.2.2.2.2.2;omega)) (H2.out.2.2.1.later Br) (H2.out.2.2.2.1.trans (Br.mono H2.out.2.2.2.1.size)) (show w.1.size+3<=w3.1.size by have:=H2.out.2.2.2.2.2;have:=b3.size;omega) x3 (o3.later b3') (show(∀q,lZ PR PS q->w.1.size+3<=q/\q<w3.1.size)from fun q hq=>⟨by have:=(o3.of hq).1;have:=H2.out.2.2.2.2.2;omega,(o3.of hq).2⟩) x3.lt;clear b3 b3' Br x3 o3 H2;have DT:=kM X3 a4 c4 t.a (by omega) H3.out.2.2.2.2.2.1.sl.r HT.out.1 HT.out.2.1;have k4:=H3.out.2.2.2.2.1.c4;dsimp only at k4;rw[nL]at k4;go_wp2_with fail;rw[<-nL];clear nL k4;refine DT.mono ?_;clear DT;rintro e w4 ⟨p,mb,m,pv,rfl,hp,hm,b4⟩;obtain⟨n0,n1,n2,n3,n4⟩:=H3.out.1.below b4 (by have:=H3.out.2.2.2.1;have:=H3.out.2.2.2.2.2.2.2;omega);simp only[Nat.zero_add]at n1 n2 n3 n4;have cC:=gY w4 n;have H4:=dw hp b4;clear hp b4;go_wp2_with fail;refine cC.mono ?_;clear cC n0 n1 n2 n3 n4;rintro e w5 ⟨rfl,b5⟩;have cH:=OI w5 X3.1.size p mb m pv t.a n.b n.e (H4.out.1.later b5) (gI HT.out.2.2).1 (gI HT.out.2.2).2;have H5:=dw (H4.out.1.later b5) (H4.out.2.trans (b5.mono H4.out.2.size));clear b5 H4;go_wp2_with fail;refine cH.mono ?_;clear cH;rintro e w6 ⟨rfl,b6⟩;have H6:=dw (H5.out.1.later b6) (H5.out.2.trans (b6.mono H5.out.2.size));clear b6 H5
   cases hF:(kS t.a n.b n.e).isSome with
   | true=>
    have HN:=dw (show dR t n=t by simp[dR,hB,hO,hF]) (show eT t n=true by simp[eT,hB,hO,hF]);obtain⟨o0,o1,o2,o3,o4,o5,o6,-,-⟩:=H3.out.2.2.2.2.1.later H6.out.2;have zR:=H3.out.2.1.later H6.out.2;obtain⟨r0,r1,r2,r3,r4,r5,r6,fr,-⟩:=zR;have jA:=(H3.out.2.1.later H6.out.2).put ⟨a4,c4,h4,d4⟩ t;simp only[iq]at jA;obtain⟨u0,u1,u2,u3,u4,u5,u6,-,-⟩:=jA;have KU:=af (And.intro u0 (And.intro u1 (And.intro u2 (And.intro u3 (And.intro u4 (And.intro u5 u6))))));clear u0 u1 u2 u3 u4 u5 u6;have f0:=fr 0;have f1:=fr 1;have f2:=fr 2;have f3:=fr 3;have f4:=fr 4;have f5:=fr 5;have f6:=fr 6;clear fr;dsimp only at o4 o5 r4 r5;go_wp2;obtain⟨u0,u1,u2,u3,u4,u5,u6⟩:=KU.out;refine bodyPost_ret (v:=.tuple #[.agg #[vI t.id,vI t.l,vI t.o,vI t.q,.slice a4 t.a.length c4,.slice h4 t.ai.length d4,vI t.az],.bool true]) (by simp[results,results217,go_sem,u0,u1,u2,u3,u4,u5,u6]) rfl ?_;rw[HN.out.1,HN.out.2];obtain⟨-,-,g4,g6,-,g8,g9,-⟩:=H3.out;have g4':=g4.trans (H6.out.2.mono g4.size);refine⟨a4,c4,h4,d4,PR,PS,rfl,?_,cz (s:=w.1.size+2) (v:=⟨a4,c4,h4,d4⟩) (t:=t) g4' (by omega)⟩;exact((g8.later H6.out.2).aM (w':=iq w6 (w.1.size+2) ⟨a4,c4,h4,d4⟩ t) (by rw[jg];exact Nat.le_refl _) (fun q _ hq=>fu (by have:=(g9 q hq).1;omega))).low (fun q hq=>by have:=(g9 q hq).1;omega)
   | false=>
    have cF:=Lp w6 X3.1.size p mb m pv t.a H6.out.1;go_wp2_with fail;refine cF.mono ?_;clear cF;rintro e nw ⟨rfl,rfl⟩;by_cases wJ:t.a.length=12
    ·have d12:decide (12<=t.a.length)=true:=by simp;omega
     rw[d12];have HN:=dw (show dR t n=kg by simp[dR,hB,hO,hF,wJ]) (show eT t n=false by simp[eT,hB,hO,hF,wJ]);have KZ:=dw (H3.out.2.1.later H6.out.2) (H3.out.2.2.1.trans (H6.out.2.mono H3.out.2.2.1.size));clear H3 H6 d12;obtain⟨r0,r1,r2,r3,r4,r5,r6,fr,-⟩:=KZ.out.1;have jA:=KZ.out.1.put ⟨none,0,none,0⟩ kg;simp only[iq,kg,List.length_nil]at jA;obtain⟨u0,u1,u2,u3,u4,u5,u6,-,-⟩:=jA;have KU:=af (And.intro u0 (And.intro u1 (And.intro u2 (And.intro u3 (And.intro u4 (And.intro u5 u6))))));clear u0 u1 u2 u3 u4 u5 u6;have f0:=fr 0;have f1:=fr 1;have f2:=fr 2;have f3:=fr 3;have f4:=fr 4;have f5:=fr 5;have f6:=fr 6;clear fr;simp only[List.length_nil]at r4 r5;go_wp2;obtain⟨u0,u1,u2,u3,u4,u5,u6⟩:=KU.out;refine bodyPost_ret (v:=.tuple #[.agg #[vI 0,vI 0,vI 0,vI 0,.slice none 0 0,.slice none 0 0,vI 0],.bool false]) (by simp[results,results217,go_sem,u0,u1,u2,u3,u4,u5,u6]) rfl ?_;rw[HN.out.1,HN.out.2];exact xu.zero (cz (s:=w.1.size+2) (v:=⟨none,0,none,0⟩) (t:=kg) KZ.out.2 (by omega))
    ·have d12:decide (12<=t.a.length)=false:=by simp;omega
     rw[d12];have HN:=dw (show dR t n=⟨t.id,t.l,t.o,t.q,oF t.a n,t.ai,t.az⟩ by simp[dR,hB,hO,hF,wJ]) (show eT t n=true by simp[eT,hB,hO,wJ]);have jD:kS t.a n.b n.e=none:=by cases e:kS t.a n.b n.e<;>simp_all
     have Gh:=MU HT.out.2.1 HT.out.1 HT.out.2.2 jD;obtain⟨n0,n1,n2,n3,n4⟩:=H3.out.1.below H6.out.2 (by have:=H3.out.2.2.2.1;have:=H3.out.2.2.2.2.2.2.2;omega);simp only[Nat.zero_add]at n1 n2 n3 n4;have cP:=Rq nw X3.1.size p mb m pv t.a n H6.out.1 (by omega) (by omega) HT.out.2.2 jD H6.out.2.size (Rs HT.out.2.1);have Sn:=af Gh;clear Gh d12 jD;go_wp2_with fail;refine cP.mono ?_;clear cP n0 n1 n2 n3 n4;rintro e w7 ⟨rfl,q,cap,m',ys,kh,GY,jQ,Zm,b7⟩;have YQ:=H6.out.2.trans b7;have QY:ys.length=t.a.length+1:=by have:=jQ.length_eq;simpa using this
     have QF:=((jQ.trans (uG t.a n).symm).symm.pairwise_iff (fun {a b} (h:oK a≠oK b)=>h.symm)).1 (Sn.out.imp (fun h=>Int.ne_of_lt h));have cI:=Es w7 X3.1.size p q mb m' cap ys GY (by omega) (by omega) Zm QF;have H7:=nE YQ GY.bp GY.bq GY.bm jQ;clear YQ b7 GY jQ Zm QF kh QY H6;go_wp2_with fail;refine cI.mono ?_;clear cI;rintro e w8 ⟨v8,zs,rfl,Dn,Ng,VD,k8⟩;have ME:Below X3.1.size X3 w8:=H7.out.1.trans (k8.below (fun x hx=>by obtain⟨-,h1,h2,h3,-⟩:=H7.out;rcases hx with rfl|rfl|rfl<;>assumption) H7.out.1.size);have nM:=dF.A7 oK VD Sn.out (Ng.trans (H7.out.2.2.2.2.trans (uG t.a n).symm));have HZ:=af nM;obtain⟨a2,c2,rfl,-⟩:=Dn.form;have xB:=H3.out.2.2.2.2.1.later ME;have k4:=xB.c4;have GZ:=xB.fz 4;dsimp only at k4;have UX:=H7.out.1.size;have KF:=nE (xB.L8 a2 c2 zs) (show BT (w8.setCell ⟨w3.1.size,4,none⟩ (.slice a2 zs.length c2)) (w.1.size+2) ⟨none,0,none,0⟩ ⟨0,0,0,0,[],[],0⟩from(H3.out.2.1.later ME).dS (by dsimp only;have:=H3.out.2.2.2.1;omega) _) Dn ME UX;clear nM Dn Ng VD k8 ME xB UX H7 Sn;have jA:=KF.out.2.1.put ⟨a2,c2,h4,d4⟩ (⟨t.id,t.l,t.o,t.q,zs,t.ai,t.az⟩:T7);simp only[iq]at jA;obtain⟨u0,u1,u2,u3,u4,u5,u6,-,-⟩:=jA;have KU:=af (And.intro u0 (And.intro u1 (And.intro u2 (And.intro u3 (And.intro u4 (And.intro u5 u6))))));clear u0 u1 u2 u3 u4 u5 u6;obtain⟨o0,o1,o2,o3,o4,o5,o6,-,-⟩:=KF.out.1;obtain⟨r0,r1,r2,r3,r4,r5,r6,fr,-⟩:=KF.out.2.1;have f0:=fr 0;have f1:=fr 1;have f2:=fr 2;have f3:=fr 3;have f4:=fr 4;have f5:=fr 5;have f6:=fr 6;clear fr;dsimp only at o0 o1 o2 o3 o4 o5 o6 r4 r5
     go_wp2;obtain⟨u0,u1,u2,u3,u4,u5,u6⟩:=KU.out;refine bodyPost_ret (v:=.tuple #[.agg #[vI t.id,vI t.l,vI t.o,vI t.q,.slice a2 zs.length c2,.slice h4 t.ai.length d4,vI t.az],.bool true]) (by simp[results,results217,go_sem,u0,u1,u2,u3,u4,u5,u6]) rfl ?_;rw[HN.out.1,HN.out.2,<-HZ.out];obtain⟨g1,g2,g3,g4,g5⟩:=KF.out;obtain⟨-,-,j4,j6,-,j8,j9,j10⟩:=H3.out;have bX:Below w.1.size w (w8.setCell ⟨w3.1.size,4,none⟩ (.slice a2 zs.length c2)):=(j4.trans (g4.mono j4.size)).setCell (p:=⟨w3.1.size,4,none⟩) (by dsimp only;omega) _;refine⟨a2,c2,h4,d4,fun q=>(Value.slice a2 zs.length c2).ownBlock=some q,PS,rfl,?_,cz (s:=w.1.size+2) (v:=⟨a2,c2,h4,d4⟩) (t:=(⟨t.id,t.l,t.o,t.q,zs,t.ai,t.az⟩:T7)) bX (by omega)⟩;obtain⟨_,_,e2,O5⟩:=g3.form
     cases e2;have ot:OT w8 w.1.size ⟨a2,c2,h4,d4⟩ (⟨t.id,t.l,t.o,t.q,zs,t.ai,t.az⟩:T7) (fun q=>(Value.slice a2 zs.length c2).ownBlock=some q) PS:=⟨O5,(j8.later g4).s,fun q h1 h2=>by have:=(g3.lt h1).1;have:=(j9 q (.inr h2)).2;omega,fun q h1=>⟨by have:=(g3.lt h1).1;omega,(g3.lt h1).2⟩,fun q h1=>⟨by have:=(j9 q (.inr h1)).1;omega,((j8.later g4).sB q h1).2⟩⟩
     have eO:∀q,lZ (fun q=>(Value.slice a2 zs.length c2).ownBlock=some q) PS q->q≠w3.1.size/\q≠w.1.size+2:=fun q hq=>by
      rcases hq with hq|hq
      ·have:=(g3.lt hq).1;omega
      ·have:=j9 q (.inr hq);omega
     have LH:OT (w8.setCell ⟨w3.1.size,4,none⟩ (.slice a2 zs.length c2)) w.1.size ⟨a2,c2,h4,d4⟩ (⟨t.id,t.l,t.o,t.q,zs,t.ai,t.az⟩:T7) (fun q=>(Value.slice a2 zs.length c2).ownBlock=some q) PS:=ot.aM (by simp[World.setCell]) (fun q _ hq=>Below.heap_setCell _ _ _ _ (eO q hq).1);exact LH.aM (w':=iq (w8.setCell ⟨w3.1.size,4,none⟩ (.slice a2 zs.length c2)) (w.1.size+2) ⟨a2,c2,h4,d4⟩ (⟨t.id,t.l,t.o,t.q,zs,t.ai,t.az⟩:T7)) (by rw[jg];exact Nat.le_refl _) (fun q _ hq=>fu (eO q hq).2)
end tx
section
open Go.Proofs.Tryz
structure DB(w:World)(B d:Nat)(a1:OA)(c1:Nat)(a2:OA)(c2:Nat)(a3:OA)(c3:Nat)(k:C6)(i:Nat)(u:tx.TV)(t:tx.T7)(P:Nat->Prop):Prop where
 bx:Bx w d [vI k.v,vI k.u,.slice a1 k.f.length c1,.slice a2 k.aa.length c2,.slice a3 k.c.length c3,.bool k.w,vI (i:Int),vI t.id,vI t.l,vI t.o,vI t.q,.slice u.ar t.a.length u.cr,.slice u.ah t.ai.length u.ch,vI t.az]
 ow:KT.Ow w B u.ar u.cr u.ah u.ch t P
 nd:∀q,P q->q≠d
 lo:B<=d
theorem DB.later{w w':World}{B d:Nat}{a1:OA}{c1:Nat}{a2:OA}{c2:Nat}{a3:OA}{c3:Nat}{k:C6}{i:Nat}{u:tx.TV}{t:tx.T7}{P:Nat->Prop}(h:DB w B d a1 c1 a2 c2 a3 c3 k i u t P)(b:Below w.1.size w w'):DB w' B d a1 c1 a2 c2 a3 c3 k i u t P:=⟨h.bx.later b,h.ow.later b,h.nd,h.lo⟩
def FJ(w:World)(B d:Nat)(a1:OA)(c1:Nat)(a2:OA)(c2:Nat)(a3:OA)(c3:Nat)(k:C6)(i:Nat)(P:Nat->Prop)(N:tx.T7)(n:Int)(v:Value)(e:Ending)(w':World):Prop:=(n≠0/\o9 w k n e w')\/(n=0/\e=.returned v/\(∃u P',DB w' B d a1 c1 a2 c2 a3 c3 k i u N P'/\∀q,P' q->P q\/w.1.size<=q)/\dV d w w')
def MB(t:tx.T7)(n:tx.N5):Int:=if tx.eT t n=true then 0 else 9
theorem Hq(w:World)(B d:Nat)(a1:OA)(c1:Nat)(a2:OA)(c2:Nat)(a3:OA)(c3:Nat)(k:C6)(i:Nat)(u:tx.TV)(t:tx.T7)(P:Nat->Prop)(n:tx.N5)(hk:aD k=true)(h:df.Rd w a1 c1 a2 c2 a3 c3 k)(hd:DB w B d a1 c1 a2 c2 a3 c3 k i u t P)(hl:tx.TL t)(Ip:B<=w.1.size):
  Calls prog 184 #[.pointer (some ⟨d,0,none⟩),.agg #[vI n.b,vI n.e,vI n.i,vI n.g,.bool n.j]] w (FJ w B d a1 c1 a2 c2 a3 c3 k i P (tx.dR t n) (MB t n) (.tuple #[])):=by
 obtain⟨U,hU,bU,xU,sU⟩:=iI w [vI n.b,vI n.e,vI n.i,vI n.g,.bool n.j] 99;have HR:=xZ (h.later bU) hk (hd.later bU) hl bU hd.bx.2.2 hd.lo Ip;have hS:(fun Z:World=>Below U.1.size U Z/\Bx Z d [vI k.v,vI k.u,.slice a1 k.f.length c1,.slice a2 k.aa.length c2,.slice a3 k.c.length c3,.bool k.w,vI (i:Int),vI t.id,vI t.l,vI t.o,vI t.q,.slice u.ar t.a.length u.cr,.slice u.ah t.ai.length u.ch,vI t.az]/\Bx Z w.1.size [vI n.b,vI n.e,vI n.i,vI n.g,.bool n.j]) U.drew:=⟨aK.drew,HR.out.2.2.1.bx.later (aK.drew),xU.later (aK.drew)⟩
 clear h hk hd hl bU xU sU Ip;go_enter func184,ntmps184;go_wp2_with fail;rw[<-hU];clear hU;refine aT (fun z=>z==10) (fun Z:World=>Below U.1.size U Z/\Bx Z d [vI k.v,vI k.u,.slice a1 k.f.length c1,.slice a2 k.aa.length c2,.slice a3 k.c.length c3,.bool k.w,vI (i:Int),vI t.id,vI t.l,vI t.o,vI t.q,.slice u.ar t.a.length u.cr,.slice u.ah t.ai.length u.ch,vI t.az]/\Bx Z w.1.size [vI n.b,vI n.e,vI n.i,vI n.g,.bool n.j]) (by kernel_rfl) ?_;generalize U.drew=Wd at *;refine bf 0 rfl hS ?_;simp only[Act.put];refine Nr 1 (.pointer (some ⟨d,0,none⟩)) rfl ?_ hS ?_
 ·(intro w _;go_simp)
 simp only[Act.put];refine bf 2 rfl hS ?_;simp only[Act.put];refine fU 3 (.agg #[vI t.id,vI t.l,vI t.o,vI t.q,.slice u.ar t.a.length u.cr,.slice u.ah t.ai.length u.ch,vI t.az]) rfl ?_ hS ?_
 ·(intro w aA;have q7:=aA.2.1.1 7 _ rfl;have q8:=aA.2.1.1 8 _ rfl;have q9:=aA.2.1.1 9 _ rfl;have r8:=aA.2.1.1 10 _ rfl;have eJ:=aA.2.1.1 11 _ rfl;have na:=aA.2.1.1 12 _ rfl;have sa:=aA.2.1.1 13 _ rfl;clear hS aA;go_simp)
 simp only[Act.put];refine fU 4 (.agg #[vI n.b,vI n.e,vI n.i,vI n.g,.bool n.j]) rfl ?_ hS ?_
 ·(intro w aA;have q0:=aA.2.2.1 0 _ rfl;have q1:=aA.2.2.1 1 _ rfl;have q2:=aA.2.2.1 2 _ rfl;have q3:=aA.2.2.1 3 _ rfl;have q4:=aA.2.2.1 4 _ rfl;clear hS aA;go_simp)
 simp only[Act.put];refine fZ (rs:=[5,9]) (by kernel_rfl) (by simp) ?_;refine gQ.cons rfl (fun K hK=>?_) (gQ.cons rfl (fun K hK=>?_) gQ.nil)
 case' refine_1=>
  go_simp;have cA:=tx.rX Wd u t n HR.out.2.2.2.1 (HR.out.2.2.1.ow.sl.later hS.1);simp only[tx.TV.val]at cA;refine cA.mono ?_;clear cA;rintro e X ⟨va,vc,vh,vd,PR,PS,rfl,mX,bX⟩;have HO:=dw mX hS.1;replace hS:=nH (au hS.1 bX) (hS.2.1.later bX) (hS.2.2.later bX);refine hK.out _ _ (fun _=>hS) ?_;clear hK K mX bX;refine bf 6 rfl hS ?_;simp only[Act.put];refine bf 7 rfl hS ?_;simp only[Act.put];refine bf 8 rfl hS ?_;simp only[Act.put];refine bG 9 rfl (fun K hK=>?_);go_simp;have bV:Below X.1.size X (X.alloc (.cells #[vI 0,vI 0,vI 0,vI 0,.slice none 0 0,.slice none 0 0,vI 0] 91)):=aK.alloc aU _;have xV:Bx (X.alloc (.cells #[vI 0,vI 0,vI 0,vI 0,.slice none 0 0,.slice none 0 0,vI 0] 91)) X.1.size DV:=Bx.made X DV _;have HX:Hid (X.1.size=X.1.size):=rfl;obtain⟨V,hV⟩:=bO (X.alloc (.cells #[vI 0,vI 0,vI 0,vI 0,.slice none 0 0,.slice none 0 0,vI 0] 91));obtain⟨bb,gu⟩:=bO X.1.size;rw[<-hV,<-gu]at xV;rw[<-hV]at bV;rw[<-hV,<-gu];have FL:=pI (HO.out.1.later bV) HO.out.2 (show(∀q,tx.lZ PR PS q->q≠bb)from fun q hq=>by have:=(HO.out.1.of hq).2;omega) (show U.1.size<=bb by have:=hS.1.size;omega);replace hS:=nH (au hS.1 bV) (hS.2.1.later bV) (hS.2.2.later bV);clear bV HO HX;clear hV gu;clear X;refine hK.out _ _ (fun _=>hS) ?_;clear hK K
 case' refine_2=>
  go_simp;obtain⟨V0,hV⟩:=bO (Wd.alloc (.cells #[vI 0,vI 0,vI 0,vI 0,.slice none 0 0,.slice none 0 0,vI 0] 91));obtain⟨bb,gu⟩:=bO Wd.1.size;have bV:Below Wd.1.size Wd V0:=by rw[hV];exact aK.alloc aU _
  have Sg:Bx V0 bb DV:=by rw[hV,gu];exact Bx.made Wd DV _
  rw[<-hV,<-gu];have PW:=dw (show U.1.size<=bb by have:=hS.1.size;omega) Sg.2.2;replace hS:=nH (au hS.1 bV) (hS.2.1.later bV) (hS.2.2.later bV);refine hK.out _ _ (fun _=>hS) ?_;clear hK K bV hV gu;clear Wd;refine bG 5 rfl (fun K hK=>?_);go_simp;have cA:=tx.rX V0 u t n HR.out.2.2.2.1 (HR.out.2.2.1.ow.sl.later hS.1);simp only[tx.TV.val]at cA;refine cA.mono ?_;clear cA;rintro e X ⟨va,vc,vh,vd,PR,PS,rfl,mX,bX⟩;have HO:=dw mX hS.1;have xV:=Sg.later bX;have FL:=pI mX hS.1 (show(∀q,tx.lZ PR PS q->q≠bb)from fun q hq=>by have:=(mX.of hq).1;have:=PW.out.2;omega) PW.out.1;replace hS:=nH (au hS.1 bX) (hS.2.1.later bX) (hS.2.2.later bX);refine hK.out _ _ (fun _=>hS) ?_;clear hK K;clear mX bX HO Sg PW;refine bf 6 rfl hS ?_;simp only[Act.put];refine bf 7 rfl hS ?_;simp only[Act.put];refine bf 8 rfl hS ?_;simp only[Act.put];generalize X=V at *;generalize V0=Wd at *
 all_goals
  have c0:=xV.1 0 _ rfl;have f0:=xV.2.1 0;have c1:=xV.1 1 _ rfl;have f1:=xV.2.1 1;have c2:=xV.1 2 _ rfl;have f2:=xV.2.1 2;have c3:=xV.1 3 _ rfl;have f3:=xV.2.1 3;have c4:=xV.1 4 _ rfl;have f4:=xV.2.1 4;have c5:=xV.1 5 _ rfl;have f5:=xV.2.1 5;have c6:=xV.1 6 _ rfl;have f6:=xV.2.1 6;refine bG 10 rfl (fun K hK=>?_);go_simp;refine hK.out _ _ (fun h=>absurd (show false=true from h.symm.trans (by kernel_rfl)) (by decide)) ?_;clear hK K;refine bG 11 rfl (fun K hK=>?_);go_simp;refine hK.out _ _ (fun h=>absurd (show false=true from h.symm.trans (by kernel_rfl)) (by decide)) ?_;clear hK K;refine bH (by kernel_rfl) ?_ _;clear c0 f0 c1 f1 c2 f2 c3 f3 c4 f4 c5 f5 c6 f6;obtain⟨Y,hY⟩:=bO (cO V bb 0 (tx.jJ va vc vh vd (tx.dR t n)));have yb:=xV.put (tx.jJ va vc vh vd (tx.dR t n)) rfl;rw[<-hY]at yb;have rR:Y=(((((((V.setCell ⟨bb,0,none⟩ (vI (tx.dR t n).id)).setCell ⟨bb,1,none⟩ (vI (tx.dR t n).l)).setCell ⟨bb,2,none⟩ (vI (tx.dR t n).o)).setCell ⟨bb,3,none⟩ (vI (tx.dR t n).q)).setCell ⟨bb,4,none⟩ (.slice va (tx.dR t n).a.length vc)).setCell ⟨bb,5,none⟩ (.slice vh (tx.dR t n).ai.length vd)).setCell ⟨bb,6,none⟩ (vI (tx.dR t n).az)):=hY;rw[<-rR];have dQ:Y.1.size=V.1.size:=by rw[hY];exact aS _ _ _ _
  have dS:∀q,q≠bb->Y.1[q]?=V.1[q]?:=fun q hq=>by rw[hY];exact aO hq _ _ _
  have h1:=FL.out.2.1.size;have h2:=HR.out.2.2.2.2.1.size;have BY:Hid (Below w.1.size w Y):=by unfold Hid;rw[hY];exact aI (by have:=FL.out.2.2.2;omega) _ _ _ (au HR.out.2.2.2.2.1 hS.1)
  have nD:d≠bb:=by have:=FL.out.2.2.2;have:=HR.out.2.2.2.2.2.1;omega
  have KY:=fP (hS.2.1.aj (dS d nD) (Nat.le_of_eq dQ.symm)) yb nD;have Wq:∀q,tx.lZ PR PS q->Wd.1.size<=q/\q<V.1.size:=fun q hq=>FL.out.1.of hq
  have KO:Hid (KT.Ow Y Wd.1.size va vc vh vd (tx.dR t n) (tx.lZ PR PS)/\(∀q,tx.lZ PR PS q->q≠d/\w.1.size<=q)/\B<=Wd.1.size):=by
   refine⟨KT.Ow.aM (w:=V) ⟨PR,PS,FL.out.1,fun q hq=>hq,Wq⟩ (Nat.le_of_eq dQ.symm) (fun q hq=>dS q (FL.out.2.2.1 q hq)),fun q hq=>?_,by have:=HR.out.2.2.2.2.2.2.2;omega⟩;have:=Wq q hq;have:=HR.out.2.2.2.2.2.1;omega
  have fg:Hid (df.Rd Y a1 c1 a2 c2 a3 c3 k):=by
   have hb:Below U.1.size U Y:=by rw[hY];exact aI FL.out.2.2.2 _ _ _ hS.1
   exact HR.out.1.later hb
  clear rR hY yb dQ dS h1 h2 nD Wq hS xV FL
  cases TA:tx.eT t n with
  | false=>
   have HC:Hid (MB t n=9):=by unfold Hid MB;rw[TA];rfl
   have hr:=fO Y d a1 c1 a2 c2 a3 c3 k [vI (i:Int),vI t.id,vI t.l,vI t.o,vI t.q,.slice u.ar t.a.length u.cr,.slice u.ah t.ai.length u.ch,vI t.az] 9 HR.out.2.1 fg.out KY.out.1;clear TA;go_wp2_with fail;refine hr.mono ?_;clear hr;intro e w2 hr;have HX:Hid (FJ w B d a1 c1 a2 c2 a3 c3 k i P (tx.dR t n) (MB t n) (.tuple #[]) e w2):=.inl ⟨by rw[HC.out];decide,by rw[HC.out];exact hr.low BY.out⟩;obtain⟨e1,d1,e2,d2,e3,d3,P2,rfl,-,-⟩:=hr;go_wp2;exact⟨rfl,HX.out⟩
  | true=>
   have HC:Hid (MB t n=0):=by unfold Hid MB;rw[TA];rfl
   clear TA;have y0:=KY.out.2.1.1 0 _ rfl;have g0:=KY.out.1.1 7 _ rfl;have f0:=KY.out.1.2.1 7;have y1:=KY.out.2.1.1 1 _ rfl;have g1:=KY.out.1.1 8 _ rfl;have f1:=KY.out.1.2.1 8;have y2:=KY.out.2.1.1 2 _ rfl;have g2:=KY.out.1.1 9 _ rfl;have f2:=KY.out.1.2.1 9;have y3:=KY.out.2.1.1 3 _ rfl;have g3:=KY.out.1.1 10 _ rfl;have f3:=KY.out.1.2.1 10;have y4:=KY.out.2.1.1 4 _ rfl;have g4:=KY.out.1.1 11 _ rfl;have f4:=KY.out.1.2.1 11;have y5:=KY.out.2.1.1 5 _ rfl;have g5:=KY.out.1.1 12 _ rfl;have f5:=KY.out.1.2.1 12;have y6:=KY.out.2.1.1 6 _ rfl;have g6:=KY.out.1.1 13 _ rfl;have f6:=KY.out.1.2.1 13;obtain⟨Z,hZ⟩:=bO ((((((((Y.setCell ⟨d,7,none⟩ (vI (tx.dR t n).id)).setCell ⟨d,8,none⟩ (vI (tx.dR t n).l)).setCell ⟨d,9,none⟩ (vI (tx.dR t n).o)).setCell ⟨d,10,none⟩ (vI (tx.dR t n).q)).setCell ⟨d,11,none⟩ (.slice va (tx.dR t n).a.length vc)).setCell ⟨d,12,none⟩ (.slice vh (tx.dR t n).ai.length vd)).setCell ⟨d,13,none⟩ (vI (tx.dR t n).az)))
   have zb:Bx Z d [vI k.v,vI k.u,.slice a1 k.f.length c1,.slice a2 k.aa.length c2,.slice a3 k.c.length c3,.bool k.w,vI (i:Int),vI (tx.dR t n).id,vI (tx.dR t n).l,vI (tx.dR t n).o,vI (tx.dR t n).q,.slice va (tx.dR t n).a.length vc,.slice vh (tx.dR t n).ai.length vd,vI (tx.dR t n).az]:=by
    rw[hZ];exact((((((KY.out.1.set (i:=7) (by simp) _).set (i:=8) (by simp) _).set (i:=9) (by simp) _).set (i:=10) (by simp) _).set (i:=11) (by simp) _).set (i:=12) (by simp) _).set (i:=13) (by simp) _
   have zt:dV d w Z:=by
    rw[hZ];exact((((((((dV.refl d w).bN BY.out).setCell 7 _).setCell 8 _).setCell 9 _).setCell 10 _).setCell 11 _).setCell 12 _).setCell 13 _
   have zf:∀q,q≠d->Z.1[q]?=Y.1[q]?:=fun q hq=>by
    rw[show Z=cO Y d 7 (tx.jJ va vc vh vd (tx.dR t n))from hZ];exact aO hq _ _ _
   have zs:Z.1.size=Y.1.size:=by rw[hZ];simp[World.setCell]
   have KE:Hid (FJ w B d a1 c1 a2 c2 a3 c3 k i P (tx.dR t n) (MB t n) (.tuple #[]) (.returned (.tuple #[])) Z):=.inr ⟨HC.out,rfl,⟨⟨va,vc,vh,vd⟩,tx.lZ PR PS,⟨zb,(KO.out.1.aM (Nat.le_of_eq zs.symm) (fun q hq=>zf q (KO.out.2.1 q hq).1)).low KO.out.2.2,fun q hq=>(KO.out.2.1 q hq).1,HR.out.2.2.2.2.2.2.1⟩,fun q hq=>.inr (KO.out.2.1 q hq).2⟩,zt⟩;have HZ:=af hZ;clear hZ zb zt zf zs;go_wp2;rw[<-HZ.out];exact bodyPost_end (v:=.tuple #[]) (by simp[results,results184]) rfl KE.out
end
section
open Go.Proofs.Tryz
end
section
open Go.Proofs.Tryz
theorem zG(h:Int)(w:World)(h1:0<=h)(h2:h<=4000003):
  Calls prog 96 #[vI h] w fun e w'=>e=.returned (vI (h/4))/\w'=w:=by
 ·go_enter func96,ntmps96;go_wp2;go_ret;exact⟨rfl,rfl⟩
theorem AO(h:Int)(w:World)(hh:h<0\/4000003<h):
  Calls prog 96 #[vI h] w fun e w'=>e=.returned (vI (-1))/\w'=w:=by
 rcases hh with hh|hh
 ·have d:decide (0<=h)=false:=by simp;omega
  go_enter func96,ntmps96;go_wp2;go_ret;exact⟨rfl,rfl⟩
 ·have d:decide (h<=4000003)=false:=by simp;omega
  go_enter func96,ntmps96;go_wp2;go_ret;exact⟨rfl,rfl⟩
def eQ(h:Int):Int:=if aW 0 4000003 h=true then h/4 else -1
theorem si(h:Int)(w:World):Calls prog 96 #[vI h] w fun e w'=>e=.returned (vI (eQ h))/\w'=w:=by
 by_cases hh:0<=h/\h<=4000003
 ·rw[eQ,if_pos (jq hh.1 hh.2)];exact zG h w hh.1 hh.2
 ·rw[eQ,if_neg (by rw[dD];omega)];exact AO h w (by omega)
end
section
open Go.Proofs.Tryz
theorem zn(h:Int)(w:World)(h1:0<=h)(h2:h<=4000003):
  Calls prog 215 #[vI h] w fun e w'=>e=.returned (vI (h/4))/\w'=w:=by
 ·go_enter func215,ntmps215;go_wp2;go_ret;exact⟨rfl,rfl⟩
theorem Ao(h:Int)(w:World)(hh:h<0\/4000003<h):
  Calls prog 215 #[vI h] w fun e w'=>e=.returned (vI (-1))/\w'=w:=by
 rcases hh with hh|hh
 ·have d:decide (0<=h)=false:=by simp;omega
  go_enter func215,ntmps215;go_wp2;go_ret;exact⟨rfl,rfl⟩
 ·have d:decide (h<=4000003)=false:=by simp;omega
  go_enter func215,ntmps215;go_wp2;go_ret;exact⟨rfl,rfl⟩
theorem Ap(h:Int)(w:World):Calls prog 215 #[vI h] w fun e w'=>e=.returned (vI (eQ h))/\w'=w:=by
 by_cases hh:0<=h/\h<=4000003
 ·rw[eQ,if_pos (jq hh.1 hh.2)];exact zn h w hh.1 hh.2
 ·rw[eQ,if_neg (by rw[dD];omega)];exact Ao h w (by omega)
end
section
open Go.Proofs.Tryz
theorem Et(w:World)(r s h v:Int):Calls prog 183 #[.agg #[vI r,vI s],.agg #[vI h,vI v]] w fun e w'=>e=.returned (.agg #[vI r,vI s,vI (eQ h),vI v,.bool ((aW 0 4000003 h&&dI h))])/\Below w.1.size w w':=by
 obtain⟨U0,kN,lD,nO,sM⟩:=iI w [vI r,vI s] 56;obtain⟨U1,uN,vH,zI,Gx⟩:=iI U0 [vI h,vI v] 140;obtain⟨U2,Iq,FQ,Px,UE⟩:=iI U1 [vI 0,vI 0,vI 0,vI 0,.bool false] 99;have hU:U2=((w.alloc (.cells #[vI r,vI s] 56)).alloc (.cells #[vI h,vI v] 140)).alloc (.cells #[vI 0,vI 0,vI 0,vI 0,.bool false] 99):=by rw[Iq,uN,kN]
 have z1:U1.1.size=w.1.size+2:=by rw[Gx,sM]
 have BU:=dw (au (au lD vH) FQ) (show w.1.size+2<U2.1.size by rw[UE,z1];omega);have x0:=(nO.later vH).later FQ;have x1:=zI.later FQ;rw[sM]at x1;rw[z1]at Px;have X2:=af (Px);have hS:(fun X:World=>Below U2.1.size U2 X/\X.cell? ⟨w.1.size,0,none⟩=some (vI r)/\X.cell? ⟨w.1.size,1,none⟩=some (vI s)/\X.cell? ⟨w.1.size+1,0,none⟩=some (vI h)/\X.cell? ⟨w.1.size+1,1,none⟩=some (vI v)) U2.drew:=⟨aK.drew,x0.1 0 _ rfl,x0.1 1 _ rfl,x1.1 0 _ rfl,x1.1 1 _ rfl⟩
 clear kN uN Iq lD vH FQ nO zI Px sM Gx UE z1 x0 x1;obtain⟨eM,WZ⟩:∃z,eQ h=z:=⟨_,rfl⟩
 obtain⟨us,mw⟩:∃z,(aW 0 4000003 h&&dI h)=z:=⟨_,rfl⟩
 have cV:=fun X=>Ap h X
 have cU:=fun X=>yj h X
 simp only[mw,WZ]at cU cV;rw[WZ,mw];clear WZ mw;clear U0 U1;go_enter func183,ntmps183;go_wp2_with fail;rw[<-hU];clear hU;refine aT (fun z=>z==13) (fun X:World=>Below U2.1.size U2 X/\X.cell? ⟨w.1.size,0,none⟩=some (vI r)/\X.cell? ⟨w.1.size,1,none⟩=some (vI s)/\X.cell? ⟨w.1.size+1,0,none⟩=some (vI h)/\X.cell? ⟨w.1.size+1,1,none⟩=some (vI v)) (by kernel_rfl) ?_;generalize U2.drew=Wd at *;refine bf 0 rfl hS ?_;simp only[Act.put];refine fU 1 ?_ rfl ?_ hS ?_;rotate_left
 ·(intro w aA;obtain⟨-,s0,s1,s2,s3⟩:=aA;go_simp;first|done|with_reducible rfl)
 simp only[Act.put];refine bf 2 rfl hS ?_;simp only[Act.put];refine fU 3 ?_ rfl ?_ hS ?_;rotate_left
 ·(intro w aA;obtain⟨-,s0,s1,s2,s3⟩:=aA;go_simp;first|done|with_reducible rfl)
 simp only[Act.put];refine bf 4 rfl hS ?_;simp only[Act.put];refine fU 5 ?_ rfl ?_ hS ?_;rotate_left
 ·(intro w aA;obtain⟨-,s0,s1,s2,s3⟩:=aA;go_simp;first|done|with_reducible rfl)
 simp only[Act.put];refine bf 7 rfl hS ?_;simp only[Act.put];refine fU 8 ?_ rfl ?_ hS ?_;rotate_left
 ·(intro w aA;obtain⟨-,s0,s1,s2,s3⟩:=aA;go_simp;first|done|with_reducible rfl)
 simp only[Act.put];refine bf 9 rfl hS ?_;simp only[Act.put];refine fU 10 ?_ rfl ?_ hS ?_;rotate_left
 ·(intro w aA;obtain⟨-,s0,s1,s2,s3⟩:=aA;go_simp;first|done|with_reducible rfl)
 simp only[Act.put];refine bG 6 rfl (fun K hK=>?_);go_simp;refine(cV _).mono ?_;rintro e X ⟨rfl,rfl⟩;refine hK.out _ _ (fun _=>hS) ?_;clear hK K;refine bG 11 rfl (fun K hK=>?_);go_simp;refine(cU _).mono ?_;rintro e X ⟨rfl,rfl⟩;refine hK.out _ _ (fun _=>hS) ?_;clear hK K;refine bG 12 rfl (fun K hK=>?_);go_simp;refine hK.out _ _ (fun _=>hS) ?_;clear hK K;have XB:=X2.out.later hS.1;have BW:=af (au BU.out.1 hS.1);have c0:=XB.c5;have f0:=XB.f5;have ft:=XB.put [vI r,vI s,vI eM,vI v,.bool us] rfl;refine bG 13 rfl (fun K hK=>?_);go_simp;refine hK.out _ _ (fun h=>absurd (show false=true from h.symm.trans (by kernel_rfl)) (by decide)) ?_;clear hK K;refine bH (by kernel_rfl) ?_ _;obtain⟨Y,hY⟩:=bO (cO X (w.1.size+2) 0 [vI r,vI s,vI eM,vI v,.bool us]);rw[<-hY]at ft;have BY:Hid (Below w.1.size w Y):=by unfold Hid;rw[hY];exact aI (by omega) _ _ _ BW.out
 have rR:Y=((((X.setCell ⟨w.1.size+2,0,none⟩ (vI r)).setCell ⟨w.1.size+2,1,none⟩ (vI s)).setCell ⟨w.1.size+2,2,none⟩ (vI eM)).setCell ⟨w.1.size+2,3,none⟩ (vI v)).setCell ⟨w.1.size+2,4,none⟩ (.bool us):=hY;rw[<-rR];have y0:=ft.c5;clear rR hY ft XB c0 f0 hS X2 BW cU cV;go_wp2;exact bodyPost_ret (v:=.agg #[vI r,vI s,vI eM,vI v,.bool us]) (by simp[results,results183,go_sem,y0]) rfl ⟨rfl,BY.out⟩
end
section
open Go.Proofs.Tryz
theorem Cg(h:Int)(w:World)(h1:0<=h)(h2:h<=4000003):
  Calls prog 214 #[vI h] w fun e w'=>e=.returned (.bool (jW h))/\w'=w:=by
 ·have b1:=and_1 h h1 h2;go_enter func214,ntmps214;go_wp2;go_ret;exact⟨Nn (OB h),rfl⟩
theorem Eg(h:Int)(w:World)(hh:h<0\/4000003<h):
  Calls prog 214 #[vI h] w fun e w'=>e=.returned (.bool false)/\w'=w:=by
 rcases hh with hh|hh
 ·have d:decide (0<=h)=false:=by simp;omega
  go_enter func214,ntmps214;go_wp2;go_ret;exact⟨rfl,rfl⟩
 ·have d:decide (h<=4000003)=false:=by simp;omega
  go_enter func214,ntmps214;go_wp2;go_ret;exact⟨rfl,rfl⟩
theorem Dz(h:Int)(w:World)(h1:0<=h)(h2:h<=4000003):
  Calls prog 94 #[vI h] w fun e w'=>e=.returned (.bool (jW h))/\w'=w:=by
 ·go_enter func94,ntmps94;go_wp2;go_ret;exact⟨rfl,rfl⟩
theorem Ey(h:Int)(w:World)(hh:h<0\/4000003<h):
  Calls prog 94 #[vI h] w fun e w'=>e=.returned (.bool false)/\w'=w:=by
 rcases hh with hh|hh
 ·have d:decide (0<=h)=false:=by simp;omega
  go_enter func94,ntmps94;go_wp2;go_ret;exact⟨rfl,rfl⟩
 ·have d:decide (h<=4000003)=false:=by simp;omega
  go_enter func94,ntmps94;go_wp2;go_ret;exact⟨rfl,rfl⟩
theorem tT(h:Int)(w:World):Calls prog 214 #[vI h] w fun e w'=>e=.returned (.bool (aW 0 4000003 h&&jW h))/\w'=w:=by
 by_cases hh:0<=h/\h<=4000003
 ·rw[jq hh.1 hh.2,Bool.true_and];exact Cg h w hh.1 hh.2
 ·have e:aW 0 4000003 h=false:=by simp[aW];omega
  rw[e,Bool.false_and];exact Eg h w (by omega)
theorem Dy(h:Int)(w:World):Calls prog 94 #[vI h] w fun e w'=>e=.returned (.bool (aW 0 4000003 h&&jW h))/\w'=w:=by
 by_cases hh:0<=h/\h<=4000003
 ·rw[jq hh.1 hh.2,Bool.true_and];exact Dz h w hh.1 hh.2
 ·have e:aW 0 4000003 h=false:=by simp[aW];omega
  rw[e,Bool.false_and];exact Ey h w (by omega)
end
section
open Go.Proofs.Tryz
variable {xs:List C2}
def lH(xs:List C2)(i:Int):Bool:=gM xs&&aW 0 5 i&&!jW (at2 xs i.toNat).head
def fE(xs:List C2)(i:Int):C2:=if lH xs i then at2 xs i.toNat else⟨0,0⟩
theorem y8(h:gM xs=true):xs.length=6:=by
 simp[gM]at h;exact h.1
theorem BI(h:gM xs=true){i:Nat}(hi:i<6):aW 0 4000003 (at2 xs i).head=true:=by
 have h6:=y8 h;have ha:xs.all kT=true:=by simp only[gM,Bool.and_eq_true]at h;exact h.2
 have:=List.all_eq_true.1 ha (at2 xs i) (List.mem_of_getElem? (P5 (by omega)));simp only[kT,Bool.and_eq_true]at this;exact this.1.1
theorem Gj(w:World)(a:OA)(n cap:Nat)(i:Int)(xs:List C2)(hn:n<=maxLen)(hs:uz w w.1.size a n xs):
  Calls prog 182 #[.slice a n cap,vI i] w fun e w'=>e=.returned (.tuple #[.agg #[vI (fE xs i).head,vI (fE xs i).g],.bool (lH xs i)])/\Below w.1.size w w':=by
 have S0:Hid (uz w w.1.size a n xs):=hs;clear hs;go_enter func182,ntmps182;go_wp2_with fail;have e0:(w.alloc (.cells #[vI 0,vI 0] 140)).cell? ⟨w.1.size,0,none⟩=some (vI 0):=by go_simp
 have e1:(w.alloc (.cells #[vI 0,vI 0] 140)).cell? ⟨w.1.size,1,none⟩=some (vI 0):=by go_simp
 have ef:∀j,(w.alloc (.cells #[vI 0,vI 0] 140)).frozen? ⟨w.1.size,j,none⟩=false:=by intro j;go_simp
 have zs:w.1.size<(w.alloc (.cells #[vI 0,vI 0] 140)).1.size:=by simp
 generalize hW:w.alloc (.cells #[vI 0,vI 0] 140)=W at e0 e1 ef zs ⊢;have bW:Below w.1.size w W:=by subst hW;exact aK.alloc aU _
 clear hW;refine(rY W a n cap xs hn (S0.out.later bW)).mono ?_;rintro e w1 ⟨rfl,b1⟩;have c0:=(b1.cell (p:=⟨w.1.size,0,none⟩) zs).trans e0;have c1:=(b1.cell (p:=⟨w.1.size,1,none⟩) zs).trans e1;have f0:=(b1.frozen (p:=⟨w.1.size,0,none⟩) zs).trans (ef 0);have f1:=(b1.frozen (p:=⟨w.1.size,1,none⟩) zs).trans (ef 1);have B1:Hid (Below w.1.size w w1):=bW.trans (b1.mono bW.size);clear e0 e1 ef bW b1 zs
 cases g1:gM xs with
 | false=>
  have HB:Hid (lH xs i=false):=by unfold Hid lH;rw[g1];rfl
  have HC:Hid (fE xs i=⟨0,0⟩):=by unfold Hid fE;rw[HB.out];rfl
  go_wp2;refine bodyPost_ret (v:=.tuple #[.agg #[vI 0,vI 0],.bool false]) (by simp[results,results182,go_sem,c0,c1]) rfl ⟨by rw[HB.out,HC.out],?_⟩;exact(B1.out.setCell (p:=⟨w.1.size,0,none⟩) aU _).setCell (p:=⟨w.1.size,1,none⟩) aU _
 | true=>
  cases g2:aW 0 5 i with
  | false=>
   have HB:Hid (lH xs i=false):=by unfold Hid lH;rw[g1,g2];rfl
   have HC:Hid (fE xs i=⟨0,0⟩):=by unfold Hid fE;rw[HB.out];rfl
   go_wp2_with (go_at_call 62;refine(tV _ _).mono ?_;rw[g2];rintro e w' ⟨rfl,rfl⟩);refine bodyPost_ret (v:=.tuple #[.agg #[vI 0,vI 0],.bool false]) (by simp[results,results182,go_sem,c0,c1]) rfl ⟨by rw[HB.out,HC.out],?_⟩;exact(B1.out.setCell (p:=⟨w.1.size,0,none⟩) aU _).setCell (p:=⟨w.1.size,1,none⟩) aU _
  | true=>
   obtain⟨i0,i5⟩:=dD.1 g2;obtain⟨j,rfl⟩:=Int.eq_ofNat_of_zero_le i0;obtain⟨hx,fI⟩:=S0.out;have h6:=y8 g1;have hg:=BI g1 (i:=j) (by omega);rcases fI with h0|⟨b,off,rfl,hb,h1⟩
   ·omega
   ·obtain⟨d0,d1⟩:=(h1.get (i:=j) (by omega)).below B1.out hb;have eO:b≠w.1.size:=by omega
    have WN:(j:Int)<(n:Int):=by omega
    cases g3:jW (at2 xs j).head with
    | true=>
     have HB:Hid (lH xs (j:Int)=false):=by unfold Hid lH;rw[g1,g2,Int.toNat_natCast,g3];rfl
     have HC:Hid (fE xs (j:Int)=⟨0,0⟩):=by unfold Hid fE;rw[HB.out];rfl
     clear hx h6 h1;go_wp2_with (first|(go_at_call 62;refine(tV _ _).mono ?_;rw[g2];rintro e w' ⟨rfl,rfl⟩)|(go_at_call 214;refine(tT _ _).mono ?_;rw[hg,g3];rintro e w' ⟨rfl,rfl⟩));refine bodyPost_ret (v:=.tuple #[.agg #[vI 0,vI 0],.bool false]) (by simp[results,results182,go_sem,c0,c1]) rfl ⟨by rw[HB.out,HC.out],?_⟩;exact(B1.out.setCell (p:=⟨w.1.size,0,none⟩) aU _).setCell (p:=⟨w.1.size,1,none⟩) aU _
    | false=>
     have HB:Hid (lH xs (j:Int)=true):=by unfold Hid lH;rw[g1,g2,Int.toNat_natCast,g3];rfl
     have HC:Hid (fE xs (j:Int)=at2 xs j):=by unfold Hid fE;rw[HB.out,Int.toNat_natCast];rfl
     clear hx h6 h1;go_wp2_with (first|(go_at_call 62;refine(tV _ _).mono ?_;rw[g2];rintro e w' ⟨rfl,rfl⟩)|(go_at_call 214;refine(tT _ _).mono ?_;rw[hg,g3];rintro e w' ⟨rfl,rfl⟩));refine bodyPost_ret (v:=.tuple #[.agg #[vI (at2 xs j).head,vI (at2 xs j).g],.bool true]) (by simp[results,results182,go_sem,c0,c1]) rfl ⟨by rw[HB.out,HC.out],?_⟩;exact(B1.out.setCell (p:=⟨w.1.size,0,none⟩) aU _).setCell (p:=⟨w.1.size,1,none⟩) aU _
end
section
open Go.Proofs.Tryz
def qc(xs:List C2)(r s:Int):tx.N5:=⟨r,s,eQ (fE xs s).head,(fE xs s).g,aW 0 4000003 (fE xs s).head&&dI (fE xs s).head⟩
def JX(xs:List C2)(t:tx.T7)(r s:Int):Int:=if lH xs s=true then MB t (qc xs r s)else 7
theorem Le(w:World)(B d:Nat)(a1:OA)(c1:Nat)(a2:OA)(c2:Nat)(a3:OA)(c3:Nat)(k:C6)(i:Nat)(u:tx.TV)(t:tx.T7)(P:Nat->Prop)(a:OA)(c:Nat)(xs:List C2)(r s:Int)(hk:aD k=true)(h:df.Rd w a1 c1 a2 c2 a3 c3 k)(hd:DB w B d a1 c1 a2 c2 a3 c3 k i u t P)(hl:tx.TL t)(Ip:B<=w.1.size)(hx:xs.length<=maxLen)(hs:uz w w.1.size a xs.length xs):
  Calls prog 152 #[.pointer (some ⟨d,0,none⟩),.slice a xs.length c,.agg #[vI r,vI s]] w (FJ w B d a1 c1 a2 c2 a3 c3 k i P (tx.dR t (qc xs r s)) (JX xs t r s) (.agg #[vI r,vI s,vI (eQ (fE xs s).head),vI (fE xs s).g,.bool (aW 0 4000003 (fE xs s).head&&dI (fE xs s).head)])):=by
 obtain⟨U0,kN,lD,nO,sM⟩:=iI w [vI r,vI s] 56;obtain⟨U1,uN,vH,zI,Gx⟩:=iI U0 [vI 0,vI 0,vI 0,vI 0,.bool false] 99;have hU:U1=(w.alloc (.cells #[vI r,vI s] 56)).alloc (.cells #[vI 0,vI 0,vI 0,vI 0,.bool false] 99):=by rw[uN,kN]
 have bU:=au lD vH;have x0:=nO.later vH;rw[sM]at zI;have HR:=QG (h.later bU) hk (hd.later bU) hl bU hd.bx.2.2 Ip;have HX:=dw x0 zI;have u9:∀q,P q->q<w.1.size:=fun q hq=>(hd.ow.of hq).2
 have cL:=Gj U1 a xs.length c s xs hx (uz.later hs bU);have p1:=x0.1 1 _ rfl;rw[hU]at p1;have HS:Hid (U1.1.size=w.1.size+2):=by unfold Hid;rw[Gx,sM]
 clear kN uN lD vH bU nO zI sM Gx x0 h hk hd hl Ip hx hs;clear U0;go_enter func152,ntmps152;go_wp2_with fail;rw[<-hU];clear hU p1;refine cL.mono ?_;clear cL;rintro e W1 ⟨rfl,b1⟩;have B1:=af (b1);clear b1;obtain⟨x,SG⟩:=uD (fE xs s);have HN:Hid (qc xs r s=⟨r,s,eQ x.head,x.g,aW 0 4000003 x.head&&dI x.head⟩):=by unfold Hid qc;rw[SG]
 have tb:=af SG;rw[SG];clear SG;obtain⟨V,hV,bV,xV,-⟩:=iI W1 [vI x.head,vI x.g] 140;have BV:=dw (au B1.out bV) xV;clear bV xV
 cases GX:lH xs s with
 | false=>
  have HC:Hid (JX xs t r s=7):=by unfold Hid JX;rw[GX];rfl
  have hr:=fO V d a1 c1 a2 c2 a3 c3 k [vI (i:Int),vI t.id,vI t.l,vI t.o,vI t.q,.slice u.ar t.a.length u.cr,.slice u.ah t.ai.length u.ch,vI t.az] 7 HR.out.2.1 (HR.out.1.later BV.out.1) (HR.out.2.2.1.bx.later BV.out.1);clear GX;go_wp2_with fail;rw[<-hV];clear hV;refine hr.mono ?_;clear hr;intro e w2 hr;have HE:Hid (FJ w B d a1 c1 a2 c2 a3 c3 k i P (tx.dR t (qc xs r s)) (JX xs t r s) (.agg #[vI r,vI s,vI (eQ (fE xs s).head),vI (fE xs s).g,.bool (aW 0 4000003 (fE xs s).head&&dI (fE xs s).head)]) e w2):=.inl ⟨by rw[HC.out];decide,by rw[HC.out];exact(hr.low (au HR.out.2.2.2.2.1 BV.out.1))⟩;obtain⟨e1,d1,e2,d2,e3,d3,P2,rfl,-,-⟩:=hr;go_wp2;exact⟨rfl,HE.out⟩
 | true=>
  have HC:Hid (JX xs t r s=MB t (qc xs r s)):=by unfold Hid JX;rw[GX];rfl
  clear GX;have cN:=Et V r s x.head x.g;have k0:=(HX.out.1.later BV.out.1).c2;have v0:=BV.out.2.c2;rw[hV]at k0 v0;go_wp2_with fail;rw[<-hV];clear hV k0 v0;refine cN.mono ?_;clear cN;rintro e W2 ⟨rfl,b2⟩;obtain⟨n,hn⟩:∃n:tx.N5,n=⟨r,s,eQ x.head,x.g,aW 0 4000003 x.head&&dI x.head⟩:=⟨_,rfl⟩
  have ff:=af (HN.out.trans hn.symm);obtain⟨Q,hQ,bQ,xQ,-⟩:=iI W2 [vI r,vI s,vI (eQ x.head),vI x.g,.bool (aW 0 4000003 x.head&&dI x.head)] 99;have BQ:=af (au BV.out.1 (au b2 bQ));have HQ:=dw xQ ((au BV.out.1 b2).size);have cA:=Hq Q B d a1 c1 a2 c2 a3 c3 k i u t P n HR.out.2.1 (HR.out.1.later BQ.out) (HR.out.2.2.1.later BQ.out) HR.out.2.2.2.1 (by have:=HR.out.2.2.2.2.2.2;have:=HR.out.2.2.2.2.1.size;have:=BQ.out.size;omega);have n0:=xQ.c5;rw[hQ]at n0;rw[hn]at cA;simp only at cA;rw[<-hn]at cA;clear b2 bQ xQ BV;rw[<-ff.out]at cA;have HP:=af (u9);go_wp2_with fail;rw[<-hQ];clear hQ n0;refine cA.mono ?_;clear cA;intro e W3 hA;rcases hA with ⟨eO,hr⟩|⟨hz,rfl,⟨u',P',nD,AX⟩,qG⟩
  ·have HE:Hid (FJ w B d a1 c1 a2 c2 a3 c3 k i P (tx.dR t (qc xs r s)) (JX xs t r s) (.agg #[vI r,vI s,vI (eQ (fE xs s).head),vI (fE xs s).g,.bool (aW 0 4000003 (fE xs s).head&&dI (fE xs s).head)]) e W3):=.inl ⟨by rw[HC.out];exact eO,by rw[HC.out];exact hr.low (au HR.out.2.2.2.2.1 BQ.out)⟩;obtain⟨e1,d1,e2,d2,e3,d3,P2,rfl,-,-⟩:=hr;go_wp2;exact⟨rfl,HE.out⟩
  ·have K6:=HQ.out.2;have DZ:=HS.out;have QE:=HR.out.2.2.2.2.2.1;have rh:=HQ.out.1.2.2;have xn:=HQ.out.1.aj (qG.block _ rh (by omega)) qG.size;have xr:=(HX.out.2.later BQ.out).aj (qG.block _ (HX.out.2.later BQ.out).2.2 (by omega)) qG.size;obtain⟨Y,hY⟩:=bO (cO W3 (w.1.size+1) 0 [vI r,vI s,vI (eQ x.head),vI x.g,.bool (aW 0 4000003 x.head&&dI x.head)]);have xy:=xr.put [vI r,vI s,vI (eQ x.head),vI x.g,.bool (aW 0 4000003 x.head&&dI x.head)] rfl;rw[<-hY]at xy;have rR:Y=(((((W3.setCell ⟨w.1.size+1,0,none⟩ (vI r)).setCell ⟨w.1.size+1,1,none⟩ (vI s)).setCell ⟨w.1.size+1,2,none⟩ (vI (eQ x.head))).setCell ⟨w.1.size+1,3,none⟩ (vI x.g)).setCell ⟨w.1.size+1,4,none⟩ (.bool (aW 0 4000003 x.head&&dI x.head))):=hY;have e8:Y.1.size=W3.1.size:=by rw[hY];exact aS _ _ _ _
   have UN:∀q,q≠w.1.size+1->Y.1[q]?=W3.1[q]?:=fun q hq=>by rw[hY];exact aO hq _ _ _
   have N8:=BQ.out.size;have rv:=HR.out.2.2.2.2.1.size
   have KE:Hid (FJ w B d a1 c1 a2 c2 a3 c3 k i P (tx.dR t (qc xs r s)) (JX xs t r s) (.agg #[vI r,vI s,vI (eQ (fE xs s).head),vI (fE xs s).g,.bool (aW 0 4000003 (fE xs s).head&&dI (fE xs s).head)]) (.returned (.agg #[vI r,vI s,vI (eQ x.head),vI x.g,.bool (aW 0 4000003 x.head&&dI x.head)])) Y):=by
    refine .inr ⟨by rw[HC.out];exact hz,by rw[tb.out],⟨u',P',⟨nD.bx.aj (UN d (by omega)) (Nat.le_of_eq e8.symm),nD.ow.aM (Nat.le_of_eq e8.symm) (fun q hq=>UN q ?_),nD.nd,nD.lo⟩,fun q hq=>(AX q hq).imp id (fun h=>by omega)⟩,?_⟩
    ·rcases AX q hq with h|h
     ·have:=HP.out q h;omega
     ·omega
    ·have hb:=((dV.refl d w).bN (au HR.out.2.2.2.2.1 BQ.out)).trans qG;refine⟨?_,?_,?_,by rw[e8];exact hb.size,fun q hq mc=>(UN q (by omega)).trans (hb.block q hq mc)⟩
     ·rw[hY];exact(aI (w:=W3) (B:=0) (Nat.zero_le _) _ _ _ aK).os.trans hb.os
     ·rw[hY];exact(aI (w:=W3) (B:=0) (Nat.zero_le _) _ _ _ aK).tape.trans hb.tape
     ·rw[hY];exact(aI (w:=W3) (B:=0) (Nat.zero_le _) _ _ _ aK).output.trans hb.output
   have m0:=xn.1 0 _ rfl;have c0:=xr.1 0 _ rfl;have f0:=xr.2.1 0;have m1:=xn.1 1 _ rfl;have c1:=xr.1 1 _ rfl;have f1:=xr.2.1 1;have m2:=xn.1 2 _ rfl;have c2:=xr.1 2 _ rfl;have f2:=xr.2.1 2;have m3:=xn.1 3 _ rfl;have c3:=xr.1 3 _ rfl;have f3:=xr.2.1 3;have m4:=xn.1 4 _ rfl;have c4:=xr.1 4 _ rfl;have f4:=xr.2.1 4;have y0:=xy.c5;have PX:=af rR;clear hY rR e8 UN xy xr xn nD AX qG K6 DZ QE rh N8 rv;go_wp2;rw[<-PX.out];exact bodyPost_ret (v:=.agg #[vI r,vI s,vI (eQ x.head),vI x.g,.bool (aW 0 4000003 x.head&&dI x.head)]) (by simp[results,results152,go_sem,y0]) rfl KE.out
end
section
open Go.Proofs.Tryz
def jy(aR:List (List Int))(r:Int):Bool:=dZ aR&&aW 0 ((aR.length:Int)-1) r
def Fx(aR:List (List Int))(r:Int):Int:=if jy aR r=true then fC (eU aR r.toNat) 0 else -1
theorem Fz{aR:List (List Int)}{r:Int}(h:jy aR r=true):∃i:Nat,r=(i:Int)/\i<aR.length/\1<=(eU aR i).length/\(eU aR i).length<=3:=by
 simp only[jy,Bool.and_eq_true,dD]at h;obtain⟨i,rfl⟩:=Int.eq_ofNat_of_zero_le h.2.1;have hi:i<aR.length:=by omega
 have hp:=h.1;simp only[dZ,Bool.and_eq_true]at hp;have:=List.all_eq_true.1 hp.2 i (List.mem_range.2 hi);simp only[eG,Bool.and_eq_true,decide_eq_true_eq]at this;exact⟨i,rfl,hi,this.1.1,this.1.2⟩
end
section
open Go.Proofs.Tryz
theorem mh(w:World)(a:OA)(n cap:Nat)(r:Int)(aR:List (List Int))(hn:n<=maxLen)(hs:yY w w.1.size a n aR):
  Calls prog 115 #[.slice a n cap,vI r] w fun e w'=>e=.returned (.bool (jy aR r))/\Below w.1.size w w':=by
 have hx:=hs.1;have hc:=pU w a n cap aR hn hs;unfold maxLen at hn;clear hs
 cases hp:dZ aR with
 | false=>
  rw[hp]at hc;have hV:jy aR r=false:=by simp[jy,hp]
  rw[hV];go_enter func115,ntmps115;go_wp2_with fail;refine hc.mono ?_;clear hc;rintro e w1 ⟨rfl,b1⟩;go_wp2;go_ret;exact⟨rfl,b1⟩
 | true=>
  rw[hp]at hc;have hV:jy aR r=aW 0 ((n:Int)-1) r:=by simp[jy,hp,hx]
  rw[hV];by_cases h0:0<=r
  ·by_cases h8:r<(n:Int)
   ·rw[jq (by omega) (by omega)];go_enter func115,ntmps115;go_wp2_with fail;refine hc.mono ?_;clear hc;rintro e w1 ⟨rfl,b1⟩;go_wp2;go_ret;exact⟨rfl,b1⟩
   ·have hd:decide (r<(n:Int))=false:=by simp;omega
    have hb:aW 0 ((n:Int)-1) r=false:=by cases h:aW 0 ((n:Int)-1) r with|false=>rfl|true=>rw[dD]at h;omega
    rw[hb];go_enter func115,ntmps115;go_wp2_with fail;refine hc.mono ?_;clear hc;rintro e w1 ⟨rfl,b1⟩;go_wp2;go_ret;exact⟨rfl,b1⟩
  ·have hd:decide (0<=r)=false:=by simp;omega
   have hb:aW 0 ((n:Int)-1) r=false:=by cases h:aW 0 ((n:Int)-1) r with|false=>rfl|true=>rw[dD]at h;omega
   rw[hb];go_enter func115,ntmps115;go_wp2_with fail;refine hc.mono ?_;clear hc;rintro e w1 ⟨rfl,b1⟩;go_wp2;go_ret;exact⟨rfl,b1⟩
theorem Am(w:World)(a:OA)(n cap:Nat)(r:Int)(aR:List (List Int))(hn:n<=maxLen)(hs:yY w w.1.size a n aR):
  Calls prog 219 #[.slice a n cap,vI r] w fun e w'=>e=.returned (vI (Fx aR r))/\Below w.1.size w w':=by
 go_enter func219,ntmps219;go_wp2_with fail;refine(mh w a n cap r aR hn hs).mono ?_
 cases hp:jy aR r with
 | false=>
  rintro e w1 ⟨rfl,b1⟩;go_wp2;go_ret;exact⟨by simp[Fx,hp],b1⟩
 | true=>
  obtain⟨i,rfl,hi,l1,l2⟩:=Fz hp;rintro e w1 ⟨rfl,b1⟩;obtain⟨hx,hs⟩:=hs;unfold maxLen at hn;rcases hs with hs|⟨b,off,rfl,hb,h1⟩
  ·omega
  ·obtain⟨a',aZ,hc,⟨_,x8⟩,kz⟩:=h1 i _ (gB hi);rcases x8 with x8|⟨b',di,rfl,fB,h2⟩
   ·omega
   ·have c1:=(b1.cell (p:=⟨b,off+i,none⟩) hb).trans hc;have c2:=(b1.cell (p:=⟨b',di+0,none⟩) fB).trans (h2 0 _ (jh (by omega)));have Ob:(i:Int)<(n:Int):=by omega
    have eC:(0:Int)<((eU aR i).length:Int):=by omega
    have HR:Hid (Fx aR (i:Int)=fC (eU aR i) 0):=by unfold Hid;simp[Fx,hp]
    have B1:Hid (Below w.1.size w w1):=b1;rw[Nat.add_zero]at c2;clear h1 h2 hc b1 hp;generalize (eU aR i).length=m at *;go_wp2;go_ret;exact⟨by rw[HR.out];rfl,B1.out⟩
end
section
open Go.Proofs.Tryz
def KC.Rd(X:World)(a:OA)(_:Nat)(xs:List C2):Prop:=uz X X.1.size a xs.length xs
def KC.Ow(w:World)(B:Nat)(a:OA)(_:Nat)(xs:List C2)(P:Nat->Prop):Prop:=(xs=[]\/∃q,a=some ⟨q,0,none⟩/\P q/\dJ w q 0 xs/\Room w q (xs.length*2))/\(∀q,P q->B<=q/\q<w.1.size)
theorem KC.Ow.sl{w:World}{B:Nat}{a:OA}{c:Nat}{xs:List C2}{P:Nat->Prop}(h:KC.Ow w B a c xs P):KC.Rd w a c xs:=by
 rcases h with ⟨rfl|⟨q,rfl,hp,h1,h2⟩,hb⟩
 ·exact⟨rfl,.inl rfl⟩
 ·exact⟨rfl,.inr ⟨q,0,rfl,(hb q hp).2,h1⟩⟩
end
section
open Go.Proofs.Tryz
variable {i:Nat}{k:C6}{w w':World}{y:Int}
def AA(k:C6)(i:Nat):M4:=bC k.aa (fC (eU k.f i) 0).toNat
noncomputable def NJ(k:C6)(y:Int):Option (List C2):=if aD k=true/\0<=y/\y<(k.f.length:Int)/\(AA k y.toNat).x=true then some (dX (AA k y.toNat).ag (zh (AA k y.toNat) y).toNat).cells else none
noncomputable def jT(k:C6)(y:Int):List C2:=(NJ k y).getD []
noncomputable def sG(k:C6)(y:Int):Bool:=(NJ k y).isSome
theorem BC(h:¬(aD k=true/\0<=y/\y<(k.f.length:Int)/\(AA k y.toNat).x=true)):jT k y=[]/\sG k y=false:=⟨by simp[jT,NJ,h],by simp[sG,NJ,h]⟩
theorem FU{j:Nat}(h1:aD k=true)(h2:i<k.f.length)(h3:(AA k i).x=true)(h4:zh (AA k i) (i:Int)=(j:Int)):jT k (i:Int)=(dX (AA k i).ag j).cells/\sG k (i:Int)=true:=by
 have h:aD k=true/\0<=(i:Int)/\(i:Int)<(k.f.length:Int)/\(AA k (i:Int).toNat).x=true:=⟨h1,by omega,by omega,h3⟩
 have e:NJ k (i:Int)=some (dX (AA k i).ag j).cells:=by
  unfold NJ;rw[if_pos h];simp only[Int.toNat_natCast];rw[h4];rfl
 exact⟨by rw[jT,e];rfl,by rw[sG,e];rfl⟩
theorem FW(h:aD k=true)(hi:i<k.f.length):∃z:Nat,fC (eU k.f i) 0=(z:Int)/\z<k.aa.length/\0<(eU k.f i).length/\AA k i=bC k.aa z/\fF (bC k.aa z)=true/\((bC k.aa z).x=true->Ai (bC k.aa z) (i:Int)=true):=by
 rw[sZ]at h;simp only[Bool.and_eq_true,decide_eq_true_eq]at h;obtain⟨_,_,⟨⟨_,_⟩,hm⟩,hp,Gg,_⟩:=h
 have hlen:1<=(eU k.f i).length:=by
  have qS:=hp;simp only[dZ,Bool.and_eq_true]at qS;have h1:=List.all_eq_true.1 qS.2 i (List.mem_range.2 hi);simp only[eG,Bool.and_eq_true,decide_eq_true_eq]at h1;omega
 have hz:=Dj hp hi (j:=0) (by omega);have hs:=List.all_eq_true.1 (List.all_eq_true.1 Gg i (List.mem_range.2 hi)) 0 (List.mem_range.2 (by omega));obtain⟨z,mN⟩:∃z:Nat,fC (eU k.f i) 0=(z:Int):=⟨_,(Int.toNat_of_nonneg hz.1).symm⟩
 simp only[ku,mN,Bool.and_eq_true,decide_eq_true_eq,Int.toNat_natCast]at hs;have vT:z<k.aa.length:=by omega
 exact⟨z,mN,vT,by omega,by rw[AA,mN];rfl,List.all_eq_true.1 hm z (List.mem_range.2 vT),fun ha=>by have:=hs.2;rw[ha]at this;simpa using this⟩
def D6(w:World)(N:List C2)(o:Bool)(e:Ending)(w':World):Prop:=∃(a:OA) (c:Nat) (P:Nat->Prop),e=.returned (.tuple #[.slice a N.length c,.bool o])/\KC.Ow w' w.1.size a c N P/\Below w.1.size w w'
theorem D6.zero(hn:jT k y=[]/\sG k y=false)(a:OA)(c:Nat)(h:Below w.1.size w w'):D6 w (jT k y) (sG k y) (.returned (.tuple #[.slice a 0 c,.bool false])) w':=by
 rw[hn.1,hn.2];exact⟨a,c,fun _=>False,rfl,⟨.inl rfl,fun _ h=>h.elim⟩,h⟩
theorem D6.some{xs:List C2}(hn:jT k y=xs/\sG k y=true){q c:Nat}(h1:w.1.size<=q)(h2:q<w'.1.size)(h3:dJ w' q 0 xs)(h4:Room w' q (xs.length*2))(h:Below w.1.size w w'):D6 w (jT k y) (sG k y) (.returned (.tuple #[.slice (some ⟨q,0,none⟩) xs.length c,.bool true])) w':=by
 rw[hn.1,hn.2];exact⟨_,c,fun x=>x=q,rfl,⟨.inr ⟨q,rfl,rfl,h3,h4⟩,fun x hx=>by subst hx;exact⟨h1,h2⟩⟩,h⟩
end
section
open Go.Proofs.Tryz
theorem uX(w:World)(a1:OA)(c1:Nat)(a2:OA)(c2:Nat)(a3:OA)(c3:Nat)(k:C6)(y:Int)(hl:df.L k)(h:df.Rd w a1 c1 a2 c2 a3 c3 k):Calls prog 185 #[.agg #[vI k.v,vI k.u,.slice a1 k.f.length c1,.slice a2 k.aa.length c2,.slice a3 k.c.length c3,.bool k.w],vI y] w (D6 w (jT k y) (sG k y)):=by
 have Zv:=hl.p;have la:=hl.m;unfold maxLen at Zv la;obtain⟨U,hU⟩:=bO (w.alloc (.cells #[vI k.v,vI k.u,.slice a1 k.f.length c1,.slice a2 k.aa.length c2,.slice a3 k.c.length c3,.bool k.w] 32));have b0:Below w.1.size w U:=by rw[hU];exact aK.alloc aU _
 have FA:Hid (Bx U w.1.size (dU a1 c1 a2 c2 a3 c3 k)):=by unfold Hid;rw[hU];exact Bx.made w (dU a1 c1 a2 c2 a3 c3 k) _
 have HR:=fP (h.later b0) hl b0;clear b0 h hl;have hc:=kJ U a1 c1 a2 c2 a3 c3 k HR.out.2.1 HR.out.1;go_enter func185,ntmps185;go_wp2_with fail;rw[<-hU];clear hU;refine hc.mono ?_;clear hc;rintro e w1 ⟨rfl,b1⟩;have B1:=af b1;clear b1
 cases hB:aD k with
 | false=>
  have HN:=af (BC (k:=k) (y:=y) (fun h=>by rw[h.1]at hB;cases hB));go_wp2;exact bodyPost_ret (v:=.tuple #[.slice none 0 0,.bool false]) (by simp[results,results185,go_sem]) rfl (D6.zero HN.out _ _ (au HR.out.2.2 B1.out))
 | true=>
 have hp:dZ k.f=true:=by
  rw[sZ]at hB;simp only[Bool.and_eq_true]at hB;exact hB.2.2.2.1
 have p2:=(FA.out.later B1.out).1 2 _ rfl;have hc:=mh w1 a1 k.f.length c1 y k.f HR.out.2.1.p (HR.out.1.p.later B1.out);go_wp2_with fail;refine hc.mono ?_;clear hc p2;rintro e w2 ⟨rfl,b2⟩;have B2:=af (au B1.out b2);clear b2
 cases hI:jy k.f y with
 | false=>
  have HN:=af (BC (k:=k) (y:=y) (fun h=>by
   have:jy k.f y=true:=by
    simp only[jy,Bool.and_eq_true];exact⟨hp,dD.2 ⟨h.2.1,by omega⟩⟩
   rw[this]at hI;cases hI))
  go_wp2;exact bodyPost_ret (v:=.tuple #[.slice none 0 0,.bool false]) (by simp[results,results185,go_sem]) rfl (D6.zero HN.out _ _ (au HR.out.2.2 B2.out))
 | true=>
 obtain⟨i,rfl,hi,IP,-⟩:=Fz hI;obtain⟨z,hz,vT,-,jQ,Vd,IB⟩:=FW hB hi;have xl:Fx k.f (i:Int)=(z:Int):=by rw[Fx,if_pos hI,Int.toNat_natCast];exact hz
 have Km:=HR.out.2.1.ms _ (List.mem_of_getElem? (iT vT));rcases HR.out.1.m with hs|⟨b2,lI,rfl,kU,h1⟩
 ·rw[hs]at vT;simp at vT
 obtain⟨⟨m0,m1,m2,m3,m4,m5⟩,bg,iw⟩:=h1 z _ (iT vT);have i2:(z:Int)<(k.aa.length:Int):=by omega
 have SF:Hid (∀X,Below U.1.size U X->(fun X:World=>Bx X w.1.size (dU a1 c1 (some ⟨b2,lI,none⟩) c2 a3 c3 k)/\X.cell? ⟨b2,lI+z*4,none⟩=some (.bool (bC k.aa z).x)/\X.cell? ⟨b2,lI+z*4+1,none⟩=some (.slice m0 (bC k.aa z).ag.length m1)/\X.cell? ⟨b2,lI+z*4+2,none⟩=some (.slice m2 (bC k.aa z).h.length m3)/\X.cell? ⟨b2,lI+z*4+3,none⟩=some (.slice m4 (bC k.aa z).ax.length m5)) X):=fun X hX=>⟨FA.out.later hX,(hX.cell (p:=⟨b2,lI+z*4,none⟩) kU).trans (bg 0 _ rfl),(hX.cell (p:=⟨b2,lI+z*4+1,none⟩) kU).trans (bg 1 _ rfl),(hX.cell (p:=⟨b2,lI+z*4+2,none⟩) kU).trans (bg 2 _ rfl),(hX.cell (p:=⟨b2,lI+z*4+3,none⟩) kU).trans (bg 3 _ rfl)⟩
 have HK:=fP iw.k Km Vd;have HH:=pI hB hi jQ IB;clear h1 bg iw Km Vd IB jQ hz hp hI;go_wp2_with fail;have bd:=B2.out.drew;have hS:=SF.out _ bd;refine aT (fun z=>z==13) (fun X:World=>Bx X w.1.size (dU a1 c1 (some ⟨b2,lI,none⟩) c2 a3 c3 k)/\X.cell? ⟨b2,lI+z*4,none⟩=some (.bool (bC k.aa z).x)/\X.cell? ⟨b2,lI+z*4+1,none⟩=some (.slice m0 (bC k.aa z).ag.length m1)/\X.cell? ⟨b2,lI+z*4+2,none⟩=some (.slice m2 (bC k.aa z).h.length m3)/\X.cell? ⟨b2,lI+z*4+3,none⟩=some (.slice m4 (bC k.aa z).ax.length m5)) (by kernel_rfl) ?_;generalize w2.drew=Wd at *;refine bf 0 rfl hS ?_;simp only[Act.put];refine fU 1 ?_ rfl ?_ hS ?_;rotate_left
 ·(intro X aA;have c0:=aA.1.1 0 _ rfl;have c1:=aA.1.1 1 _ rfl;have c2:=aA.1.1 2 _ rfl;have c3:=aA.1.1 3 _ rfl;have c4:=aA.1.1 4 _ rfl;have c5:=aA.1.1 5 _ rfl;go_simp;first|done|with_reducible rfl)
 simp only[Act.put];refine bf 2 rfl hS ?_;simp only[Act.put];refine fU 3 ?_ rfl ?_ hS ?_;rotate_left
 ·(intro X aA;have c0:=aA.1.1 0 _ rfl;have c1:=aA.1.1 1 _ rfl;have c2:=aA.1.1 2 _ rfl;have c3:=aA.1.1 3 _ rfl;have c4:=aA.1.1 4 _ rfl;have c5:=aA.1.1 5 _ rfl;go_simp;first|done|with_reducible rfl)
 simp only[Act.put];refine bf 4 rfl hS ?_;simp only[Act.put];refine bf 9 rfl hS ?_;simp only[Act.put];refine bG 5 rfl (fun K hK=>?_);go_simp;refine(Am Wd a1 k.f.length c1 (i:Int) k.f HR.out.2.1.p (HR.out.1.p.later bd)).mono ?_;rw[xl];rintro e X1 ⟨rfl,b1⟩;have bX:=au bd b1;refine hK.out _ _ (fun _=>SF.out _ bX) ?_;clear hK K;have hS:=SF.out _ bX;refine bf 6 rfl hS ?_;simp only[Act.put];refine fU 7 ?_ rfl ?_ hS ?_;rotate_left
 ·(intro X aA;have d0:=aA.2.1;have d1:=aA.2.2.1;have d2:=aA.2.2.2.1;have d3:=aA.2.2.2.2;go_simp;first|done|with_reducible rfl)
 simp only[Act.put];refine bG 8 rfl (fun K hK=>?_);go_simp;refine(qX X1 m0 m1 m2 m3 m4 m5 (bC k.aa z)).mono ?_;rintro e X2 ⟨rfl,b2⟩;have bY:=au bX b2;refine hK.out _ _ (fun _=>SF.out _ bY) ?_;clear hK K;have hS:=SF.out _ bY;refine bG 10 rfl (fun K hK=>?_);go_simp;refine(xE X2 m0 m1 (bC k.aa z) (i:Int) HK.out.2.1 HK.out.2.2 (HK.out.1.later bY)).mono ?_;rintro e X3 ⟨ha,b3⟩;have bZ:=au bY b3;have KZ:=dw (au HR.out.2.2 bZ) ((au HR.out.2.2 bY).size);rcases ha with ⟨ha,⟨hh,rfl⟩|⟨hh,j,q,cp,hj,EY,rfl,h1,h2,h3,h4,h5⟩⟩|⟨ha,rfl⟩
 ·have:=HH.out.2.2.2 ha;rw[hh]at this;cases this
 ·have HN:=af (FU (j:=j) HH.out.1 HH.out.2.1 (by rw[HH.out.2.2.1];exact ha) (by rw[HH.out.2.2.1];exact hj));rw[HH.out.2.2.1]at HN;have KF:=pI (Nat.le_trans KZ.out.2 h1) h2 h4 h5;clear h1 h2 h3 h4 h5;refine hK.out _ _ (fun _=>SF.out _ bZ) ?_;clear hK K;have hS:=SF.out _ bZ;refine bf 11 rfl hS ?_;simp only[Act.put];refine bf 12 rfl hS ?_;simp only[Act.put];refine bG 13 rfl (fun K hK=>?_);go_simp;refine hK.out _ _ (fun h=>absurd (show false=true from h.symm.trans (by kernel_rfl)) (by decide)) ?_;clear hK K;refine bG 14 rfl (fun K hK=>?_);go_simp;refine hK.out _ _ (fun h=>absurd (show false=true from h.symm.trans (by kernel_rfl)) (by decide)) ?_;clear hK K;refine bH (by kernel_rfl) ?_ _;go_wp2;exact bodyPost_ret (v:=.tuple #[.slice (some ⟨q,0,none⟩) (dX (bC k.aa z).ag j).cells.length cp,.bool true]) (by simp[results,results185,go_sem]) rfl (D6.some HN.out KF.out.1 KF.out.2.1 KF.out.2.2.1 KF.out.2.2.2 KZ.out.1)
 ·have HN:=af (BC (k:=k) (y:=(i:Int)) (fun h=>by
   have:=h.2.2.2
   rw[Int.toNat_natCast,HH.out.2.2.1,ha]at this;cases this))
  refine hK.out _ _ (fun _=>SF.out _ bZ) ?_;clear hK K;have hS:=SF.out _ bZ;refine bf 11 rfl hS ?_;simp only[Act.put];refine bf 12 rfl hS ?_;simp only[Act.put];refine bG 13 rfl (fun K hK=>?_);go_simp;refine hK.out _ _ (fun h=>absurd (show false=true from h.symm.trans (by kernel_rfl)) (by decide)) ?_;clear hK K;refine bG 14 rfl (fun K hK=>?_);go_simp;refine hK.out _ _ (fun h=>absurd (show false=true from h.symm.trans (by kernel_rfl)) (by decide)) ?_;clear hK K;refine bH (by kernel_rfl) ?_ _;go_wp2;exact bodyPost_ret (v:=.tuple #[.slice none 0 0,.bool false]) (by simp[results,results185,go_sem]) rfl (D6.zero HN.out _ _ KZ.out.1)
end
section
open Go.Proofs.Tryz
variable {k:C6}
theorem o9.up{w X w':World}{n:Int}{e:Ending}(h:o9 X k n e w')(b:Below w.1.size w X):o9 w k n e w':=h.low b
theorem RL(hk:aD k=true)(y:Int):jy k.f y=aW 0 ((k.f.length:Int)-1) y:=by
 simp only[aD,Bool.and_eq_true]at hk;rw[jy,hk.1.1.1.1.2];rfl
theorem Ae(w:World)(d:Nat)(a1:OA)(c1:Nat)(a2:OA)(c2:Nat)(a3:OA)(c3:Nat)(k:C6)(cs:List Value)(y:Int)(hk:aD k=true)(hl:df.L k)(h:df.Rd w a1 c1 a2 c2 a3 c3 k)(hd:Bx w d ((dU a1 c1 a2 c2 a3 c3 k)++cs))(hy:aW 0 ((k.f.length:Int)-1) y=true):Calls prog 61 #[.pointer (some ⟨d,0,none⟩),vI y] w fun e w'=>e=.returned (.tuple #[])/\Below w.1.size w w':=by
 have hh:=mh w a1 k.f.length c1 y k.f hl.p h.p;rw[RL hk,hy]at hh;have p2:=hd.1 2 _ rfl;clear hd h hl hk hy;go_enter func61,ntmps61;go_wp2_with fail;refine hh.mono ?_;clear hh p2;rintro e w1 ⟨rfl,b1⟩;go_wp2;exact bodyPost_end (v:=.tuple #[]) (by simp[results,results61]) rfl ⟨rfl,b1⟩
theorem Ll(w:World)(d:Nat)(a1:OA)(c1:Nat)(a2:OA)(c2:Nat)(a3:OA)(c3:Nat)(k:C6)(cs:List Value)(y:Int)(hk:aD k=true)(hl:df.L k)(h:df.Rd w a1 c1 a2 c2 a3 c3 k)(hd:Bx w d ((dU a1 c1 a2 c2 a3 c3 k)++cs))(hy:aW 0 ((k.f.length:Int)-1) y=false):Calls prog 61 #[.pointer (some ⟨d,0,none⟩),vI y] w (o9 w k 5):=by
 have hh:=mh w a1 k.f.length c1 y k.f hl.p h.p;rw[RL hk,hy]at hh;have p2:=hd.1 2 _ rfl;have K:=fP hd h hk;clear hd h hl hk hy;go_enter func61,ntmps61;go_wp2_with fail;refine hh.mono ?_;clear hh p2;rintro e w1 ⟨rfl,b1⟩;have hr:=fO w1 d a1 c1 a2 c2 a3 c3 k cs 5 K.out.2.2 (K.out.2.1.later b1) (K.out.1.later b1);have B1:=af (b1);clear b1;go_wp2_with fail;refine hr.mono ?_;clear hr;intro e w2 hr;have HX:=af (hr.up B1.out);obtain⟨b1,d1,b2,d2,b3,d3,P,rfl,-,-⟩:=hr;go_wp2;exact⟨rfl,HX.out⟩
theorem MW(w:World)(x:Int):Calls prog 62 #[vI x] w fun e w'=>e=.returned (.bool (aW 0 5 x))/\w'=w:=by
 cases hI:aW 0 5 x with
 | true=>
  obtain⟨h0,h1⟩:=dD.1 hI;have d1:decide (x<6)=true:=by simp;omega
  have d0:decide (0<=x)=true:=by simp[h0]
  clear hI h0 h1;go_enter func62,ntmps62;go_wp2;go_ret;exact⟨rfl,rfl⟩
 | false=>
  by_cases h0:0<=x
  ·have d1:decide (x<6)=false:=by
    rw[decide_eq_false_iff_not];intro h;rw[jq h0 (by omega)]at hI
    cases hI
   have d2:decide (x<=5)=false:=by
    rw[decide_eq_false_iff_not];intro h;rw[jq h0 h]at hI
    cases hI
   clear hI;go_enter func62,ntmps62;go_wp2;go_ret;exact⟨rfl,rfl⟩
  ·have d0:decide (0<=x)=false:=by simpa using h0
   clear hI h0;go_enter func62,ntmps62;go_wp2;go_ret;exact⟨rfl,rfl⟩
def DU(k:C6)(y s:Int):Int:=if (aW 0 ((k.f.length:Int)-1) y&&aW 0 5 s)=true then 0 else 5
theorem BG(w:World)(d:Nat)(a1:OA)(c1:Nat)(a2:OA)(c2:Nat)(a3:OA)(c3:Nat)(k:C6)(cs:List Value)(y s:Int)(hk:aD k=true)(hl:df.L k)(h:df.Rd w a1 c1 a2 c2 a3 c3 k)(hd:Bx w d ((dU a1 c1 a2 c2 a3 c3 k)++cs))(hc:DU k y s=0):Calls prog 27 #[.pointer (some ⟨d,0,none⟩),vI y,vI s] w fun e w'=>e=.returned (.agg #[vI y,vI s])/\Below w.1.size w w':=by
 have Oo:aW 0 ((k.f.length:Int)-1) y=true/\aW 0 5 s=true:=by
  unfold DU at hc;split at hc
  ·next hh=>rw[Bool.and_eq_true]at hh;exact hh
  ·cases hc
 obtain⟨U,hU,bU,xU,-⟩:=iI w [vI 0,vI 0] 56;have cn:=Ae U d a1 c1 a2 c2 a3 c3 k cs y hk hl (h.later bU) (hd.later bU) Oo.1;have cs2:=fun X=>MW X s
 rw[Oo.2]at cs2;have K:=dw bU xU;clear hk hl h hd hc Oo bU xU;go_enter func27,ntmps27;go_wp2_with fail;rw[<-hU];clear hU;refine cn.mono ?_;clear cn;rintro e w1 ⟨rfl,b1⟩;have x1:=K.out.2.later b1;have B1:=af (au K.out.1 b1);obtain⟨Y,hY⟩:=bO (cO w1 w.1.size 0 [vI y,vI s]);have xy:=x1.put [vI y,vI s] rfl;rw[<-hY]at xy;have PX:Hid (Y=(w1.setCell ⟨w.1.size,0,none⟩ (vI y)).setCell ⟨w.1.size,1,none⟩ (vI s)):=hY;have BY:Hid (Below w.1.size w Y):=by unfold Hid;rw[hY];exact aI aU _ _ _ B1.out
 have q0:=x1.c2;have f0:=x1.f2;have y0:=xy.c2;have c3:=cs2 w1;clear hY xy x1 b1 cs2;go_wp2_with fail;refine c3.mono ?_;clear c3;rintro e w2 ⟨rfl,rfl⟩;go_wp2;rw[<-PX.out];exact bodyPost_ret (v:=.agg #[vI y,vI s]) (by simp[results,results27,go_sem,y0]) rfl ⟨rfl,BY.out⟩
theorem EO(w:World)(d:Nat)(a1:OA)(c1:Nat)(a2:OA)(c2:Nat)(a3:OA)(c3:Nat)(k:C6)(cs:List Value)(y s:Int)(hk:aD k=true)(hl:df.L k)(h:df.Rd w a1 c1 a2 c2 a3 c3 k)(hd:Bx w d ((dU a1 c1 a2 c2 a3 c3 k)++cs))(hc:DU k y s≠0):Calls prog 27 #[.pointer (some ⟨d,0,none⟩),vI y,vI s] w (o9 w k 5):=by
 obtain⟨U,hU⟩:=bO (w.alloc (.cells #[vI 0,vI 0] 56));have bU:Below w.1.size w U:=by rw[hU];exact aK.alloc aU _
 have K:=pI bU (hd.later bU) (h.later bU) hk
 cases hy:aW 0 ((k.f.length:Int)-1) y with
 | false=>
  have cn:=Ll U d a1 c1 a2 c2 a3 c3 k cs y hk hl (h.later bU) (hd.later bU) hy;clear hk hl h hd hc hy bU;go_enter func27,ntmps27;go_wp2_with fail;rw[<-hU];clear hU;refine cn.mono ?_;clear cn;intro e w2 hr;have HX:=af (hr.up K.out.1);obtain⟨b1,d1,b2,d2,b3,d3,P,rfl,-,-⟩:=hr;go_wp2;exact⟨rfl,HX.out⟩
 | true=>
  have hs:aW 0 5 s=false:=by
   cases hs:aW 0 5 s with
   | false=>rfl
   | true=>exact absurd (by rw[DU,hy,hs];rfl) hc
  have cn:=Ae U d a1 c1 a2 c2 a3 c3 k cs y hk hl (h.later bU) (hd.later bU) hy;have cs2:=fun X=>MW X s
  rw[hs]at cs2;clear hk hl h hd hc hy hs bU;go_enter func27,ntmps27;go_wp2_with fail;rw[<-hU];clear hU;refine cn.mono ?_;clear cn;rintro e w1 ⟨rfl,b1⟩;have hr:=fO w1 d a1 c1 a2 c2 a3 c3 k cs 5 K.out.2.2.2 (K.out.2.2.1.later b1) (K.out.2.1.later b1);have B1:=af (au K.out.1 b1);have c3:=cs2 w1;clear b1 cs2;go_wp2_with fail;refine c3.mono ?_;clear c3;rintro e w2 ⟨rfl,rfl⟩;go_wp2_with fail;refine hr.mono ?_;clear hr;intro e w3 hr;have HX:=af (hr.up B1.out);obtain⟨b1,d1,b2,d2,b3,d3,P,rfl,-,-⟩:=hr;go_wp2;exact⟨rfl,HX.out⟩
end
namespace tx
open Go.Proofs.Tryz
def G5(xs:List N5)(r s:Int):N5:=match kS xs r s with
 | some i=>aH xs i
 | none=>⟨0,0,0,0,false⟩
theorem Rt{xs:List N5}{r s:Int}{i:Nat}(h:kS xs r s=some i):i<xs.length:=by
 unfold kS at h;exact(List.findIdx?_eq_some_iff_getElem.1 h).1
theorem kZ(w:World)(base p mb n:Nat)(v:Value)(xs:List N5)(r s:Int)(hl:xs.length<=1000)(h:sw w base p mb n v xs)(h1:aW 0 5 r=true)(h2:aW 0 5 s=true):
  Calls prog 59 #[.pointer (some ⟨p,0,none⟩),.agg #[vI r,vI s]] w fun e w'=>e=.returned (.tuple #[.agg #[vI (G5 xs r s).b,vI (G5 xs r s).e,vI (G5 xs r s).i,vI (G5 xs r s).g,.bool (G5 xs r s).j],.bool (kS xs r s).isSome])/\Below w.1.size w w':=by
 obtain⟨W0,dO,b0,k0,z0⟩:=iI w [vI r,vI s] 56;obtain⟨W1,fA⟩:=bO (W0.alloc (.cells #[vI 0,vI 0,vI 0,vI 0,.bool false] 99));have b1:Below W0.1.size W0 W1:=by rw[fA];exact aK.alloc aU _
 have k1:Bx W1 (w.1.size+1) [vI 0,vI 0,vI 0,vI 0,.bool false]:=by rw[fA,<-z0];exact Bx.made W0 [vI 0,vI 0,vI 0,vI 0,.bool false] _
 have h0:=h.later (au b0 b1);have kk:=k0.later b1;have lk:=fun d os=>((h0.mp).later (below_regrown W1 d os)).look h1 h2
 have m1:=fun d os=>((below_regrown W1 d os).cell (p:=⟨p,1,none⟩) h0.lp).trans h0.c1
 have t0:=fun d os=>((below_regrown W1 d os).cell (p:=⟨w.1.size,0,none⟩) kk.2.2).trans (kk.1 0 _ rfl)
 have t1:=fun d os=>((below_regrown W1 d os).cell (p:=⟨w.1.size,1,none⟩) kk.2.2).trans (kk.1 1 _ rfl)
 have H:=fP (au b0 b1) h0 k1;have Tz:W1=(w.alloc (.cells #[vI r,vI s] 56)).alloc (.cells #[vI 0,vI 0,vI 0,vI 0,.bool false] 99):=by rw[fA,dO]
 clear h h0 b0 b1 z0 h1 h2 k0 k1 kk dO fA W0;simp only[jI]at lk;obtain⟨x,hx⟩:=uD (G5 xs r s);rw[hx];unfold G5 at hx
 cases hw:kS xs r s with
 | none=>
  rw[hw]at hx lk;simp only at hx;subst hx;simp only[Option.getD_none,Option.isSome_none]at lk ⊢;clear hw;go_enter func59,ntmps59;go_wp2_with fail;rw[<-Tz];clear Tz;refine gy ?_;repeat (go_big_quiet_step (fail))
  refine wpQuiet_nil ?_;intro _ tL;obtain⟨⟨jH,bu⟩,jF⟩:=tL;subst jF;have bq:=below_regrown W1 jH bu;clear lk m1 t0 t1;generalize grow (redrawn W1 jH) bu=U at *;obtain⟨V,hV⟩:=bO (U.alloc (.cells #[vI 0,vI 0,vI 0,vI 0,.bool false] 99));have bV:Below U.1.size U V:=by rw[hV];exact aK.alloc aU _
  have xb:=(H.out.2.2.later bq).later bV;have xc:=xb.put [vI 0,vI 0,vI 0,vI 0,.bool false] rfl;have BE:Hid (Below w.1.size w (cO V (w.1.size+1) 0 [vI 0,vI 0,vI 0,vI 0,.bool false])):=aI (by omega) _ _ _ (au H.out.1 (au bq bV));have c0:=xb.c5;have f0:=xb.f5;rw[hV]at c0 f0;obtain⟨Y,hY⟩:=bO (cO V (w.1.size+1) 0 [vI 0,vI 0,vI 0,vI 0,.bool false]);rw[<-hY]at xc BE;have rR:Y=(((((V.setCell ⟨w.1.size+1,0,none⟩ (vI 0)).setCell ⟨w.1.size+1,1,none⟩ (vI 0)).setCell ⟨w.1.size+1,2,none⟩ (vI 0)).setCell ⟨w.1.size+1,3,none⟩ (vI 0)).setCell ⟨w.1.size+1,4,none⟩ (.bool false)):=hY;have y0:=xc.c5;have PX:=af rR;have HV:=af hV;clear hY rR xc xb bV bq hV;go_wp2;rw[<-HV.out,<-PX.out];exact bodyPost_ret (v:=.tuple #[.agg #[vI 0,vI 0,vI 0,vI 0,.bool false],.bool false]) (by simp[results,results59,go_sem,y0]) rfl ⟨rfl,BE.out⟩
 | some i=>
  rw[hw]at hx lk;simp only at hx;simp only[Option.getD_some,Option.isSome_some]at lk ⊢;have hi:=Rt hw;have Oc:=fD hi;rw[hx]at Oc;have HI:=af Oc;have HL:=dw hi hl;clear hw hx Oc hi hl;go_enter func59,ntmps59;go_wp2_with fail;rw[<-Tz];clear Tz;refine gy ?_;repeat (go_big_quiet_step (fail))
  refine wpQuiet_nil ?_;intro _ tL;obtain⟨⟨jH,bu⟩,jF⟩:=tL;subst jF;have bq:=below_regrown W1 jH bu;clear lk m1 t0 t1;generalize grow (redrawn W1 jH) bu=V at *;have hP:=H.out.2.1.later bq;obtain⟨ra,rc,rfl,ho⟩:=hP.row.form;rcases ho with h0|⟨q,rfl,-,-,bg,-⟩
  ·have:=HL.out.1;rw[h0]at this;simp at this
  obtain⟨g0,g1,g2,g3,g4⟩:=bg i x HI.out;rw[Nat.zero_add]at g0 g1 g2 g3 g4;have d0:=hP.c0;have xb:=H.out.2.2.later bq;have xc:=xb.put [vI (x).b,vI (x).e,vI (x).i,vI (x).g,.bool (x).j] rfl;have BE:Hid (Below w.1.size w (cO V (w.1.size+1) 0 [vI (x).b,vI (x).e,vI (x).i,vI (x).g,.bool (x).j])):=aI (by omega) _ _ _ (au H.out.1 bq);have c0:=xb.c5;have f0:=xb.f5;obtain⟨Y,hY⟩:=bO (cO V (w.1.size+1) 0 [vI (x).b,vI (x).e,vI (x).i,vI (x).g,.bool (x).j]);rw[<-hY]at xc BE;have rR:Y=(((((V.setCell ⟨w.1.size+1,0,none⟩ (vI (x).b)).setCell ⟨w.1.size+1,1,none⟩ (vI (x).e)).setCell ⟨w.1.size+1,2,none⟩ (vI (x).i)).setCell ⟨w.1.size+1,3,none⟩ (vI (x).g)).setCell ⟨w.1.size+1,4,none⟩ (.bool (x).j)):=hY;have y0:=xc.c5;have PX:=af rR;have ix:(i:Int)<(xs.length:Int):=by have:=HL.out.1;omega
  clear hY rR xc xb bq hP bg;go_wp2;rw[<-PX.out];exact bodyPost_ret (v:=.tuple #[.agg #[vI (x).b,vI (x).e,vI (x).i,vI (x).g,.bool (x).j],.bool true]) (by simp[results,results59,go_sem,y0]) rfl ⟨rfl,BE.out⟩
end tx
section
open Go.Proofs.Tryz
noncomputable def Gs(k:C6)(t:tx.T7)(r s:Int):Int:=if (tx.kS t.a r s).isSome=true then 0 else if sG k r=true then JX (jT k r) t r s else 6
noncomputable def nG(k:C6)(t:tx.T7)(r s:Int):tx.N5:=if (tx.kS t.a r s).isSome=true then tx.G5 t.a r s else qc (jT k r) r s
noncomputable def Gt(k:C6)(t:tx.T7)(r s:Int):tx.T7:=if (tx.kS t.a r s).isSome=true then t else tx.dR t (qc (jT k r) r s)
theorem Tg{k:C6}(hk:aD k=true)(y:Int):(jT k y).length<=6:=by
 by_cases h:aD k=true/\0<=y/\y<(k.f.length:Int)/\(AA k y.toNat).x=true
 ·obtain⟨i,rfl⟩:∃i:Nat,y=(i:Int):=⟨y.toNat,by omega⟩
  have hi:i<k.f.length:=by omega
  obtain⟨z,hz,vT,IP,jQ,Vd,IB⟩:=FW hk hi;have ha:(bC k.aa z).x=true:=by have:=h.2.2.2;rw[Int.toNat_natCast,jQ]at this;exact this
  have aN:=AY (bC k.aa z) (i:Int);rw[IB ha]at aN;rcases nk (bC k.aa z) (i:Int)with ⟨e,_⟩|⟨t,e,ht,_,_⟩
  ·rw[e]at aN;cases aN
  ·rw[(FU hk hi (by rw[jQ];exact ha) (by rw[jQ];exact e)).1,jQ];have:=I6 Vd _ (List.mem_of_getElem? (eZ ht));omega
 ·rw[(BC h).1];simp
theorem RG(w:World)(d:Nat)(a1:OA)(c1:Nat)(a2:OA)(c2:Nat)(a3:OA)(c3:Nat)(k:C6)(cs:List Value)(y:Int)(hk:aD k=true)(hl:df.L k)(h:df.Rd w a1 c1 a2 c2 a3 c3 k)(hd:Bx w d ((dU a1 c1 a2 c2 a3 c3 k)++cs))(hc:sG k y=false):Calls prog 153 #[.pointer (some ⟨d,0,none⟩),vI y] w (o9 w k 6):=by
 have hC:=uX w a1 c1 a2 c2 a3 c3 k y hl h;rw[hc]at hC;have p0:=hd.c6;have K:=fP hd h hk;clear hd h hl hk hc;go_enter func153,ntmps153;go_wp2_with fail;refine hC.mono ?_;clear hC p0;rintro e w1 ⟨ca,cc,P,rfl,-,b1⟩;have hr:=fO w1 d a1 c1 a2 c2 a3 c3 k cs 6 K.out.2.2 (K.out.2.1.later b1) (K.out.1.later b1);have B1:=af (b1);clear b1;generalize (jT k y).length=ln at *;go_wp2_with fail;refine hr.mono ?_;clear hr;intro e w2 hr;have HX:=af (hr.low B1.out);obtain⟨b1,d1,b2,d2,b3,d3,P,rfl,-,-⟩:=hr;go_wp2;exact⟨rfl,HX.out⟩
theorem O8(w:World)(d:Nat)(a1:OA)(c1:Nat)(a2:OA)(c2:Nat)(a3:OA)(c3:Nat)(k:C6)(cs:List Value)(y:Int)(hl:df.L k)(h:df.Rd w a1 c1 a2 c2 a3 c3 k)(hd:Bx w d ((dU a1 c1 a2 c2 a3 c3 k)++cs))(hc:sG k y=true):Calls prog 153 #[.pointer (some ⟨d,0,none⟩),vI y] w fun e w'=>∃ca cc,e=.returned (.slice ca (jT k y).length cc)/\uz w' w'.1.size ca (jT k y).length (jT k y)/\Below w.1.size w w':=by
 have hC:=uX w a1 c1 a2 c2 a3 c3 k y hl h;rw[hc]at hC;have p0:=hd.c6;clear hd h hl hc;go_enter func153,ntmps153;go_wp2_with fail;refine hC.mono ?_;clear hC p0;rintro e w1 ⟨ca,cc,P,rfl,how,b1⟩;have HS:=dw how.sl b1;clear how b1;obtain⟨ln,tH⟩:=uD ((jT k y).length);have HL:=af tH;rw[tH];clear tH;go_wp2;go_ret;exact⟨ca,cc,by rw[HL.out];rfl,HS.out.1,HS.out.2⟩
theorem Lv(w:World)(B d:Nat)(a1:OA)(c1:Nat)(a2:OA)(c2:Nat)(a3:OA)(c3:Nat)(k:C6)(i:Nat)(u:tx.TV)(t:tx.T7)(P:Nat->Prop)(r s:Int)(hk:aD k=true)(kP:df.L k)(h:df.Rd w a1 c1 a2 c2 a3 c3 k)(hd:DB w B d a1 c1 a2 c2 a3 c3 k i u t P)(hl:tx.TL t)(Ip:B<=w.1.size)(hT:tx.kv t=true)(hr:aW 0 5 r=true)(fI:aW 0 5 s=true):
  Calls prog 112 #[.pointer (some ⟨d,0,none⟩),.agg #[vI r,vI s]] w (FJ w B d a1 c1 a2 c2 a3 c3 k i P (Gt k t r s) (Gs k t r s) (.agg #[vI (nG k t r s).b,vI (nG k t r s).e,vI (nG k t r s).i,vI (nG k t r s).g,.bool (nG k t r s).j])):=by
 obtain⟨U0,kN,lD,nO,sM⟩:=iI w [vI r,vI s] 56;obtain⟨U1,uN,vH,zI,Gx⟩:=iI U0 [vI 0,vI 0,vI 0,vI 0,.bool false] 99;have hU:U1=(w.alloc (.cells #[vI r,vI s] 56)).alloc (.cells #[vI 0,vI 0,vI 0,vI 0,.bool false] 99):=by rw[uN,kN]
 have bU:=au lD vH;have x0:=nO.later vH;rw[sM]at zI;have jD:=tx.GN hT;have HR:=xZ (h.later bU) hk (hd.later bU) (show(t.a.length<=100/\(∀m∈t.a,tx.bS m=true)/\tx.uZ t.a)from⟨by have:=(tx.gG hT).1;omega,jD.1,jD.2⟩) bU hr fI (ph hd.bx.2.2 Ip hl kP);have HX:=dw zI (show U1.1.size=w.1.size+2 by rw[Gx,sM]);have HP:Hid (∀q,P q->q<w.1.size):=fun q hq=>(hd.ow.of hq).2
 have hS:(fun Z:World=>Below U1.1.size U1 Z/\Bx Z d [vI k.v,vI k.u,.slice a1 k.f.length c1,.slice a2 k.aa.length c2,.slice a3 k.c.length c3,.bool k.w,vI (i:Int),vI t.id,vI t.l,vI t.o,vI t.q,.slice u.ar t.a.length u.cr,.slice u.ah t.ai.length u.ch,vI t.az]/\Bx Z w.1.size [vI r,vI s]) U1.drew:=⟨aK.drew,HR.out.2.2.1.bx.later (aK.drew),x0.later (aK.drew)⟩
 clear kN uN lD vH bU nO zI sM Gx x0 h hk hd hl Ip jD hT hr fI kP;clear U0;go_enter func112,ntmps112;go_wp2_with fail;rw[<-hU];clear hU;refine aT (fun z=>z==12) (fun Z:World=>Below U1.1.size U1 Z/\Bx Z d [vI k.v,vI k.u,.slice a1 k.f.length c1,.slice a2 k.aa.length c2,.slice a3 k.c.length c3,.bool k.w,vI (i:Int),vI t.id,vI t.l,vI t.o,vI t.q,.slice u.ar t.a.length u.cr,.slice u.ah t.ai.length u.ch,vI t.az]/\Bx Z w.1.size [vI r,vI s]) (by kernel_rfl) ?_;generalize U1.drew=Wd at *;refine bf 0 rfl hS ?_;simp only[Act.put];refine Nr 1 (.pointer (some ⟨d,0,none⟩)) rfl ?_ hS ?_
 ·(intro w _;go_simp)
 simp only[Act.put];refine bf 2 rfl hS ?_;simp only[Act.put];refine bf 3 rfl hS ?_;simp only[Act.put];refine fU 4 (.slice u.ar t.a.length u.cr) rfl ?_ hS ?_
 ·(intro w aA;have eJ:=aA.2.1.1 11 _ rfl;clear hS aA;go_simp)
 simp only[Act.put];refine fU 6 (.agg #[vI r,vI s]) rfl ?_ hS ?_
 ·(intro w aA;have q0:=aA.2.2.1 0 _ rfl;have q1:=aA.2.2.1 1 _ rfl;clear hS aA;go_simp)
 simp only[Act.put];refine fZ (rs:=[5,11]) (by kernel_rfl) (by simp) ?_;refine gQ.cons rfl (fun K hK=>?lA) (gQ.cons rfl (fun K hK=>?lB) gQ.nil)
 case' lA=>
  go_simp;have cP:=tx.kM Wd u.ar u.cr t.a HR.out.2.2.2.1.1 (HR.out.2.2.1.ow.sl.later hS.1).r HR.out.2.2.2.1.2.1 HR.out.2.2.2.1.2.2;refine cP.mono ?_;clear cP;rintro e X ⟨p,mb,nn,pv,rfl,hp,-,bX⟩;replace hS:=nH (au hS.1 bX) (hS.2.1.later bX) (hS.2.2.later bX);generalize Wd.1.size=pB at hp;clear bX;refine hK.out _ _ (fun _=>hS) ?_;clear hK K;clear Wd;generalize X=Wd at *;refine fZ (rs:=[7,11]) (by kernel_rfl) (by simp) ?_;refine gQ.cons rfl (fun K hK=>?Z5) (gQ.cons rfl (fun K hK=>?Z6) gQ.nil)
  case' Z5=>
   go_simp;have cF:=tx.kZ Wd pB p mb nn pv t.a r s (by have:=HR.out.2.2.2.1.1;omega) hp HR.out.2.2.2.2.2.1 HR.out.2.2.2.2.2.2.1;refine cF.mono ?_;clear cF;rintro e X ⟨rfl,bX⟩;replace hS:=nH (au hS.1 bX) (hS.2.1.later bX) (hS.2.2.later bX);clear bX hp;refine hK.out _ _ (fun _=>hS) ?_;clear hK K;clear Wd;generalize X=Wd at *;refine bf 8 rfl hS ?_;simp only[Act.put];refine bf 9 rfl hS ?_;simp only[Act.put];refine bf 10 rfl hS ?_;simp only[Act.put];refine bG 11 rfl (fun K hK=>?_);go_simp;obtain⟨X,hX⟩:=bO (Wd.alloc (.cells #[vI 0,vI 0,vI 0,vI 0,.bool false] 99));obtain⟨bb,gu⟩:=bO Wd.1.size;have bX:Below Wd.1.size Wd X:=by rw[hX];exact aK.alloc aU _
   have xV:Bx X bb [vI 0,vI 0,vI 0,vI 0,.bool false]:=by rw[hX,gu];exact Bx.made Wd [vI 0,vI 0,vI 0,vI 0,.bool false] _
   rw[<-hX,<-gu];have HB:Hid (U1.1.size<=bb):=by unfold Hid;have:=hS.1.size;omega
   replace hS:=nH (au hS.1 bX) (hS.2.1.later bX) (hS.2.2.later bX);clear hX gu bX;refine hK.out _ _ (fun _=>hS) ?_;clear hK K;clear Wd;generalize X=Wd at *
  case' Z6=>
   go_simp;obtain⟨X,hX⟩:=bO (Wd.alloc (.cells #[vI 0,vI 0,vI 0,vI 0,.bool false] 99));obtain⟨bb,gu⟩:=bO Wd.1.size;have bX:Below Wd.1.size Wd X:=by rw[hX];exact aK.alloc aU _
   have xV:Bx X bb [vI 0,vI 0,vI 0,vI 0,.bool false]:=by rw[hX,gu];exact Bx.made Wd [vI 0,vI 0,vI 0,vI 0,.bool false] _
   rw[<-hX,<-gu];have HB:Hid (U1.1.size<=bb):=by unfold Hid;have:=hS.1.size;omega
   replace hp:=hp.later bX;replace hS:=nH (au hS.1 bX) (hS.2.1.later bX) (hS.2.2.later bX);clear hX gu bX;refine hK.out _ _ (fun _=>hS) ?_;clear hK K;clear Wd;generalize X=Wd at *;refine bG 7 rfl (fun K hK=>?_);go_simp;have cF:=tx.kZ Wd pB p mb nn pv t.a r s (by have:=HR.out.2.2.2.1.1;omega) hp HR.out.2.2.2.2.2.1 HR.out.2.2.2.2.2.2.1;refine cF.mono ?_;clear cF;rintro e X ⟨rfl,bX⟩;replace xV:=xV.later bX;replace hS:=nH (au hS.1 bX) (hS.2.1.later bX) (hS.2.2.later bX);clear bX hp;refine hK.out _ _ (fun _=>hS) ?_;clear hK K;clear Wd;generalize X=Wd at *;refine bf 8 rfl hS ?_;simp only[Act.put];refine bf 9 rfl hS ?_;simp only[Act.put];refine bf 10 rfl hS ?_;simp only[Act.put]
 case' lB=>
  go_simp;obtain⟨X,hX⟩:=bO (Wd.alloc (.cells #[vI 0,vI 0,vI 0,vI 0,.bool false] 99));obtain⟨bb,gu⟩:=bO Wd.1.size;have bX:Below Wd.1.size Wd X:=by rw[hX];exact aK.alloc aU _
  have xV:Bx X bb [vI 0,vI 0,vI 0,vI 0,.bool false]:=by rw[hX,gu];exact Bx.made Wd [vI 0,vI 0,vI 0,vI 0,.bool false] _
  rw[<-hX,<-gu];have HB:Hid (U1.1.size<=bb):=by unfold Hid;have:=hS.1.size;omega
  replace hS:=nH (au hS.1 bX) (hS.2.1.later bX) (hS.2.2.later bX);clear hX gu bX;refine hK.out _ _ (fun _=>hS) ?_;clear hK K;clear Wd;generalize X=Wd at *;refine bG 5 rfl (fun K hK=>?_);go_simp;have cP:=tx.kM Wd u.ar u.cr t.a HR.out.2.2.2.1.1 (HR.out.2.2.1.ow.sl.later hS.1).r HR.out.2.2.2.1.2.1 HR.out.2.2.2.1.2.2;refine cP.mono ?_;clear cP;rintro e X ⟨p,mb,nn,pv,rfl,hp,-,bX⟩;replace xV:=xV.later bX;replace hS:=nH (au hS.1 bX) (hS.2.1.later bX) (hS.2.2.later bX);generalize Wd.1.size=pB at hp;clear bX;refine hK.out _ _ (fun _=>hS) ?_;clear hK K;clear Wd;generalize X=Wd at *;refine bG 7 rfl (fun K hK=>?_);go_simp;have cF:=tx.kZ Wd pB p mb nn pv t.a r s (by have:=HR.out.2.2.2.1.1;omega) hp HR.out.2.2.2.2.2.1 HR.out.2.2.2.2.2.2.1;refine cF.mono ?_;clear cF;rintro e X ⟨rfl,bX⟩;replace xV:=xV.later bX;replace hS:=nH (au hS.1 bX) (hS.2.1.later bX) (hS.2.2.later bX);clear bX hp;refine hK.out _ _ (fun _=>hS) ?_;clear hK K;clear Wd;generalize X=Wd at *;refine bf 8 rfl hS ?_;simp only[Act.put];refine bf 9 rfl hS ?_;simp only[Act.put];refine bf 10 rfl hS ?_;simp only[Act.put]
 all_goals
  have c0:=xV.1 0 _ rfl;have f0:=xV.2.1 0;have c1:=xV.1 1 _ rfl;have f1:=xV.2.1 1;have c2:=xV.1 2 _ rfl;have f2:=xV.2.1 2;have c3:=xV.1 3 _ rfl;have f3:=xV.2.1 3;have c4:=xV.1 4 _ rfl;have f4:=xV.2.1 4;refine bG 12 rfl (fun K hK=>?_);go_simp;refine hK.out _ _ (fun h=>absurd (show false=true from h.symm.trans (by kernel_rfl)) (by decide)) ?_;clear hK K;refine bG 13 rfl (fun K hK=>?_);go_simp;refine hK.out _ _ (fun h=>absurd (show false=true from h.symm.trans (by kernel_rfl)) (by decide)) ?_;clear hK K;refine bH (by kernel_rfl) ?_ _;clear c0 f0 c1 f1 c2 f2 c3 f3 c4 f4;obtain⟨f,hf⟩:=uD (tx.G5 t.a r s);have HF:=af hf;rw[hf];clear hf;obtain⟨Y,hY⟩:=bO (cO Wd bb 0 [vI f.b,vI f.e,vI f.i,vI f.g,.bool f.j]);have yb:=xV.put [vI f.b,vI f.e,vI f.i,vI f.g,.bool f.j] rfl;rw[<-hY]at yb;have rR:Y=(((((Wd.setCell ⟨bb,0,none⟩ (vI f.b)).setCell ⟨bb,1,none⟩ (vI f.e)).setCell ⟨bb,2,none⟩ (vI f.i)).setCell ⟨bb,3,none⟩ (vI f.g)).setCell ⟨bb,4,none⟩ (.bool f.j)):=hY;rw[<-rR];have dQ:Y.1.size=Wd.1.size:=by rw[hY];exact aS _ _ _ _
  have dS:∀q,q≠bb->Y.1[q]?=Wd.1[q]?:=fun q hq=>by rw[hY];exact aO hq _ _ _
  have DZ:=HX.out.2;have QE:=HR.out.2.2.2.2.2.2.2.1;have DW:=HB.out;have BY:Hid (Below U1.1.size U1 Y):=by unfold Hid;rw[hY];exact aI DW _ _ _ hS.1
  have KY:=wL yb (HX.out.1.later BY.out) (hS.2.2.aj (dS _ (by omega)) (Nat.le_of_eq dQ.symm)) (HR.out.2.2.1.later BY.out) (au HR.out.2.2.2.2.1 BY.out) (HR.out.1.later BY.out);clear rR hY yb dQ dS hS xV DZ QE DW;obtain⟨ans,Zb⟩:∃v:Value,v=.agg #[vI (nG k t r s).b,vI (nG k t r s).e,vI (nG k t r s).i,vI (nG k t r s).g,.bool (nG k t r s).j]:=⟨_,rfl⟩
  have z7:=af Zb;clear Zb
  cases hw:(tx.kS t.a r s).isSome with
  | true=>
   have HC:Hid (Gs k t r s=0/\Gt k t r s=t/\nG k t r s=f):=⟨by rw[Gs,hw];rfl,by rw[Gt,hw];rfl,by rw[nG,hw];exact HF.out⟩
   clear hw;obtain⟨Z,hZ⟩:=bO (cO Y (w.1.size+1) 0 [vI f.b,vI f.e,vI f.i,vI f.g,.bool f.j]);have zb:=KY.out.2.1.put [vI f.b,vI f.e,vI f.i,vI f.g,.bool f.j] rfl;rw[<-hZ]at zb;have Za:Z=(((((Y.setCell ⟨w.1.size+1,0,none⟩ (vI f.b)).setCell ⟨w.1.size+1,1,none⟩ (vI f.e)).setCell ⟨w.1.size+1,2,none⟩ (vI f.i)).setCell ⟨w.1.size+1,3,none⟩ (vI f.g)).setCell ⟨w.1.size+1,4,none⟩ (.bool f.j)):=hZ;have zs:Z.1.size=Y.1.size:=by rw[hZ];exact aS _ _ _ _
   have zf:∀q,q≠w.1.size+1->Z.1[q]?=Y.1[q]?:=fun q hq=>by rw[hZ];exact aO hq _ _ _
   have bZ:Below w.1.size w Z:=by rw[hZ];exact aI (by omega) _ _ _ KY.out.2.2.2.2.1
   have QE:=HR.out.2.2.2.2.2.2.2.1;have nD:=KY.out.2.2.2.1
   have KE:Hid (FJ w B d a1 c1 a2 c2 a3 c3 k i P (Gt k t r s) (Gs k t r s) (.agg #[vI (nG k t r s).b,vI (nG k t r s).e,vI (nG k t r s).i,vI (nG k t r s).g,.bool (nG k t r s).j]) (.returned (.agg #[vI f.b,vI f.e,vI f.i,vI f.g,.bool f.j])) Z):=by
    unfold Hid;rw[HC.out.1,HC.out.2.1,HC.out.2.2];exact .inr ⟨rfl,rfl,⟨u,P,⟨nD.bx.aj (zf d (by omega)) (Nat.le_of_eq zs.symm),nD.ow.aM (Nat.le_of_eq zs.symm) (fun q hq=>zf q (by have:=HP.out q hq;omega)),nD.nd,nD.lo⟩,fun q hq=>.inl hq⟩,(dV.refl d w).bN bZ⟩
   have y0:=KY.out.1.1 0 _ rfl;have c0:=KY.out.2.1.1 0 _ rfl;have e0:=KY.out.2.1.2.1 0;have z0:=zb.1 0 _ rfl;have y1:=KY.out.1.1 1 _ rfl;have c1:=KY.out.2.1.1 1 _ rfl;have e1:=KY.out.2.1.2.1 1;have z1:=zb.1 1 _ rfl;have y2:=KY.out.1.1 2 _ rfl;have c2:=KY.out.2.1.1 2 _ rfl;have e2:=KY.out.2.1.2.1 2;have z2:=zb.1 2 _ rfl;have y3:=KY.out.1.1 3 _ rfl;have c3:=KY.out.2.1.1 3 _ rfl;have e3:=KY.out.2.1.2.1 3;have z3:=zb.1 3 _ rfl;have y4:=KY.out.1.1 4 _ rfl;have c4:=KY.out.2.1.1 4 _ rfl;have e4:=KY.out.2.1.2.1 4;have z4:=zb.1 4 _ rfl;have HZ:=af Za;clear hZ Za zs zf bZ QE nD;go_wp2;rw[<-HZ.out];exact bodyPost_ret (v:=.agg #[vI f.b,vI f.e,vI f.i,vI f.g,.bool f.j]) (by simp[results,results112,go_sem,z0,z1,z2,z3,z4]) rfl KE.out
  | false=>
   have HC:Hid (Gs k t r s=(if sG k r=true then JX (jT k r) t r s else 6)/\Gt k t r s=tx.dR t (qc (jT k r) r s)/\nG k t r s=qc (jT k r) r s):=⟨by rw[Gs,hw];rfl,by rw[Gt,hw];rfl,by rw[nG,hw];rfl⟩
   clear hw;have hS:(fun Z:World=>Bx Z w.1.size [vI r,vI s]) Y.drew:=KY.out.2.2.1.later (aK.drew);have bD:Below Y.1.size Y Y.drew:=aK.drew;have BD:=af bD;clear bD;go_wp2_with fail;refine aT (fun z=>z==7) (fun Z:World=>Bx Z w.1.size [vI r,vI s]) (by kernel_rfl) ?_;generalize Y.drew=D at *;refine bf 0 rfl hS ?_;simp only[Act.put];refine bf 1 rfl hS ?_;simp only[Act.put];refine bf 2 rfl hS ?_;simp only[Act.put];refine fU 3 (vI r) rfl ?_ hS ?_
   ·(intro w aA;have q0:=aA.1 0 _ rfl;clear hS aA;go_simp)
   simp only[Act.put];refine fU 5 (.agg #[vI r,vI s]) rfl ?_ hS ?_
   ·(intro w aA;have q0:=aA.1 0 _ rfl;have q1:=aA.1 1 _ rfl;clear hS aA;go_simp)
   simp only[Act.put]
   cases TD:sG k r with
   | false=>
    have oR:Hid (Gs k t r s=6):=by unfold Hid;rw[HC.out.1,TD];rfl
    have hp:=RG D d a1 c1 a2 c2 a3 c3 k [vI (i:Int),vI t.id,vI t.l,vI t.o,vI t.q,.slice u.ar t.a.length u.cr,.slice u.ah t.ai.length u.ch,vI t.az] r HR.out.2.1 HR.out.2.2.2.2.2.2.2.2.2.2 (KY.out.2.2.2.2.2.later BD.out) (KY.out.2.2.2.1.bx.later BD.out) TD;clear TD;refine bG 4 rfl (fun K hK=>?_);go_simp;refine hp.mono ?_;clear hp;intro e X hr;have HE:Hid (FJ w B d a1 c1 a2 c2 a3 c3 k i P (Gt k t r s) (Gs k t r s) (.agg #[vI (nG k t r s).b,vI (nG k t r s).e,vI (nG k t r s).i,vI (nG k t r s).g,.bool (nG k t r s).j]) e X):=.inl ⟨by rw[oR.out];decide,by rw[oR.out];exact hr.low (au KY.out.2.2.2.2.1 BD.out)⟩;obtain⟨e1,d1,e2,d2,e3,d3,P2,rfl,-,-⟩:=hr;go_wp2;exact⟨rfl,HE.out⟩
   | true=>
    have fb:Hid (Gs k t r s=JX (jT k r) t r s):=by unfold Hid;rw[HC.out.1,TD];rfl
    have hp:=O8 D d a1 c1 a2 c2 a3 c3 k [vI (i:Int),vI t.id,vI t.l,vI t.o,vI t.q,.slice u.ar t.a.length u.cr,.slice u.ah t.ai.length u.ch,vI t.az] r HR.out.2.2.2.2.2.2.2.2.2.2 (KY.out.2.2.2.2.2.later BD.out) (KY.out.2.2.2.1.bx.later BD.out) TD
    have jo:(jT k r).length<=maxLen:=by
     have:=Tg HR.out.2.1 r;unfold maxLen;omega
    clear TD;refine bG 4 rfl (fun K hK=>?_);go_simp;refine hp.mono ?_;clear hp;rintro e X ⟨ca,cc,rfl,rl,bX⟩;have BX:=af (au BD.out bX);replace hS:=hS.later bX;refine hK.out _ _ (fun _=>hS) ?_;clear hK K bX BD;clear D;have cL:=Le X B d a1 c1 a2 c2 a3 c3 k i u t P ca cc (jT k r) r s HR.out.2.1 (KY.out.2.2.2.2.2.later BX.out) (KY.out.2.2.2.1.later BX.out) HR.out.2.2.2.2.2.2.2.2.2.1 (by have:=HR.out.2.2.2.2.2.2.2.2.1;have:=KY.out.2.2.2.2.1.size;have:=BX.out.size;omega) jo rl;clear rl jo;obtain⟨xs,rW⟩:=uD (jT k r);have cy:=af rW;rw[rW]at cL;rw[rW];clear rW;refine bG 6 rfl (fun K hK=>?_);go_simp;refine cL.mono ?_;clear cL;intro e W3 hA;rcases hA with ⟨eO,hr⟩|⟨hz,rfl,⟨u',P',nD,AX⟩,qG⟩
    ·have HE:Hid (FJ w B d a1 c1 a2 c2 a3 c3 k i P (Gt k t r s) (Gs k t r s) (.agg #[vI (nG k t r s).b,vI (nG k t r s).e,vI (nG k t r s).i,vI (nG k t r s).g,.bool (nG k t r s).j]) e W3):=.inl ⟨by rw[fb.out,cy.out];exact eO,by rw[fb.out,cy.out];exact hr.low (au KY.out.2.2.2.2.1 BX.out)⟩;obtain⟨e1,d1,e2,d2,e3,d3,P2,rfl,-,-⟩:=hr;go_wp2;exact⟨rfl,HE.out⟩
    ·have DZ:=HX.out.2;have QE:=HR.out.2.2.2.2.2.2.2.1;have DW:=BX.out.size;have kU:=BY.out.size;obtain⟨x,hx⟩:=uD (fE xs s);have VN:Hid (nG k t r s=⟨r,s,eQ x.head,x.g,aW 0 4000003 x.head&&dI x.head⟩):=by unfold Hid;rw[HC.out.2.2,cy.out,qc,hx]
     rw[hx];clear hx;have jN:=hS.aj (qG.block _ hS.2.2 (by omega)) qG.size;have xr:=(KY.out.2.1.later BX.out).aj (qG.block _ (KY.out.2.1.later BX.out).2.2 (by omega)) qG.size;refine hK.out _ _ (fun _=>jN) ?_;clear hK K hS;obtain⟨Z,hZ⟩:=bO (cO W3 (w.1.size+1) 0 [vI r,vI s,vI (eQ x.head),vI x.g,.bool (aW 0 4000003 x.head&&dI x.head)]);have zb:=xr.put [vI r,vI s,vI (eQ x.head),vI x.g,.bool (aW 0 4000003 x.head&&dI x.head)] rfl;rw[<-hZ]at zb;have Za:Z=(((((W3.setCell ⟨w.1.size+1,0,none⟩ (vI r)).setCell ⟨w.1.size+1,1,none⟩ (vI s)).setCell ⟨w.1.size+1,2,none⟩ (vI (eQ x.head))).setCell ⟨w.1.size+1,3,none⟩ (vI x.g)).setCell ⟨w.1.size+1,4,none⟩ (.bool (aW 0 4000003 x.head&&dI x.head))):=hZ;have zs:Z.1.size=W3.1.size:=by rw[hZ];exact aS _ _ _ _
     have zf:∀q,q≠w.1.size+1->Z.1[q]?=W3.1[q]?:=fun q hq=>by rw[hZ];exact aO hq _ _ _
     have zo:Below 0 W3 Z:=by rw[hZ];exact aI (Nat.zero_le _) _ _ _ aK
     have KE:Hid (FJ w B d a1 c1 a2 c2 a3 c3 k i P (Gt k t r s) (Gs k t r s) (.agg #[vI (nG k t r s).b,vI (nG k t r s).e,vI (nG k t r s).i,vI (nG k t r s).g,.bool (nG k t r s).j]) (.returned (.agg #[vI r,vI s,vI (eQ x.head),vI x.g,.bool (aW 0 4000003 x.head&&dI x.head)])) Z):=by
      unfold Hid;rw[fb.out,HC.out.2.1,VN.out,cy.out];refine .inr ⟨hz,rfl,⟨u',P',⟨nD.bx.aj (zf d (by omega)) (Nat.le_of_eq zs.symm),nD.ow.aM (Nat.le_of_eq zs.symm) (fun q hq=>zf q ?_),nD.nd,nD.lo⟩,fun q hq=>(AX q hq).imp id (fun h=>by omega)⟩,?_⟩
      ·rcases AX q hq with h|h
       ·have:=HP.out q h;omega
       ·omega
      ·have hb:=((dV.refl d w).bN (au KY.out.2.2.2.2.1 BX.out)).trans qG;exact⟨zo.os.trans hb.os,zo.tape.trans hb.tape,zo.output.trans hb.output,by rw[zs];exact hb.size,fun q hq mc=>(zf q (by omega)).trans (hb.block q hq mc)⟩
     have c0:=xr.1 0 _ rfl;have f0:=xr.2.1 0;have z0:=zb.1 0 _ rfl;have c1:=xr.1 1 _ rfl;have f1:=xr.2.1 1;have z1:=zb.1 1 _ rfl;have c2:=xr.1 2 _ rfl;have f2:=xr.2.1 2;have z2:=zb.1 2 _ rfl;have c3:=xr.1 3 _ rfl;have f3:=xr.2.1 3;have z3:=zb.1 3 _ rfl;have c4:=xr.1 4 _ rfl;have f4:=xr.2.1 4;have z4:=zb.1 4 _ rfl;have SV:=af Za;clear hZ Za zs zf zo zb nD AX qG DZ QE DW kU xr;refine bG 7 rfl (fun K hK=>?_);go_simp;refine hK.out _ _ (fun h=>absurd (show false=true from h.symm.trans (by kernel_rfl)) (by decide)) ?_;clear hK K;refine bH (by kernel_rfl) ?_ _;rw[<-SV.out];clear c0 f0 c1 f1 c2 f2 c3 f3 c4 f4 jN;go_wp2;exact bodyPost_ret (v:=.agg #[vI r,vI s,vI (eQ x.head),vI x.g,.bool (aW 0 4000003 x.head&&dI x.head)]) (by simp[results,results112,go_sem,z0,z1,z2,z3,z4]) rfl KE.out
end
namespace tx
open Go.Proofs.Tryz
def PH(xs:List S5)(r s:Int):S5:=match l8 xs r s with
 | some i=>aF xs i
 | none=>⟨0,0,0,false,0⟩
theorem XR{xs:List S5}{r s:Int}{i:Nat}(h:l8 xs r s=some i):i<xs.length:=by
 unfold l8 at h;exact(List.findIdx?_eq_some_iff_getElem.1 h).1
theorem wo(w:World)(base p mb n:Nat)(v:Value)(xs:List S5)(r s:Int)(hl:xs.length<=1000)(h:oo w base p mb n v xs)(h1:aW 0 5 r=true)(h2:aW 0 5 s=true):
  Calls prog 111 #[.pointer (some ⟨p,0,none⟩),.agg #[vI r,vI s]] w fun e w'=>e=.returned (.tuple #[.agg #[vI (PH xs r s).b,vI (PH xs r s).e,vI (PH xs r s).g,.bool (PH xs r s).j,vI (PH xs r s).i],.bool (l8 xs r s).isSome])/\Below w.1.size w w':=by
 obtain⟨W0,dO,b0,k0,z0⟩:=iI w [vI r,vI s] 56;obtain⟨W1,fA⟩:=bO (W0.alloc (.cells #[vI 0,vI 0,vI 0,.bool false,vI 0] 96));have b1:Below W0.1.size W0 W1:=by rw[fA];exact aK.alloc aU _
 have k1:Bx W1 (w.1.size+1) [vI 0,vI 0,vI 0,.bool false,vI 0]:=by rw[fA,<-z0];exact Bx.made W0 [vI 0,vI 0,vI 0,.bool false,vI 0] _
 have h0:=h.later (au b0 b1);have kk:=k0.later b1;have lk:=fun d os=>((h0.mp).later (below_regrown W1 d os)).look h1 h2
 have m1:=fun d os=>((below_regrown W1 d os).cell (p:=⟨p,1,none⟩) h0.lp).trans h0.c1
 have t0:=fun d os=>((below_regrown W1 d os).cell (p:=⟨w.1.size,0,none⟩) kk.2.2).trans (kk.1 0 _ rfl)
 have t1:=fun d os=>((below_regrown W1 d os).cell (p:=⟨w.1.size,1,none⟩) kk.2.2).trans (kk.1 1 _ rfl)
 have H:=fP (au b0 b1) h0 k1;have Tz:W1=(w.alloc (.cells #[vI r,vI s] 56)).alloc (.cells #[vI 0,vI 0,vI 0,.bool false,vI 0] 96):=by rw[fA,dO]
 clear h h0 b0 b1 z0 h1 h2 k0 k1 kk dO fA W0;simp only[jI]at lk;obtain⟨x,hx⟩:=uD (PH xs r s);rw[hx];unfold PH at hx
 cases hw:l8 xs r s with
 | none=>
  rw[hw]at hx lk;simp only at hx;subst hx;simp only[Option.getD_none,Option.isSome_none]at lk ⊢;clear hw;go_enter func111,ntmps111;go_wp2_with fail;rw[<-Tz];clear Tz;refine gy ?_;repeat (go_big_quiet_step (fail))
  refine wpQuiet_nil ?_;intro _ tL;obtain⟨⟨jH,bu⟩,jF⟩:=tL;subst jF;have bq:=below_regrown W1 jH bu;clear lk m1 t0 t1;generalize grow (redrawn W1 jH) bu=U at *;obtain⟨V,hV⟩:=bO (U.alloc (.cells #[vI 0,vI 0,vI 0,.bool false,vI 0] 96));have bV:Below U.1.size U V:=by rw[hV];exact aK.alloc aU _
  have xb:=(H.out.2.2.later bq).later bV;have xc:=xb.put [vI 0,vI 0,vI 0,.bool false,vI 0] rfl;have BE:Hid (Below w.1.size w (cO V (w.1.size+1) 0 [vI 0,vI 0,vI 0,.bool false,vI 0])):=aI (by omega) _ _ _ (au H.out.1 (au bq bV));have c0:=xb.c5;have f0:=xb.f5;rw[hV]at c0 f0;obtain⟨Y,hY⟩:=bO (cO V (w.1.size+1) 0 [vI 0,vI 0,vI 0,.bool false,vI 0]);rw[<-hY]at xc BE;have rR:Y=(((((V.setCell ⟨w.1.size+1,0,none⟩ (vI 0)).setCell ⟨w.1.size+1,1,none⟩ (vI 0)).setCell ⟨w.1.size+1,2,none⟩ (vI 0)).setCell ⟨w.1.size+1,3,none⟩ (.bool false)).setCell ⟨w.1.size+1,4,none⟩ (vI 0)):=hY;have y0:=xc.c5;have PX:=af rR;have HV:=af hV;clear hY rR xc xb bV bq hV;go_wp2;rw[<-HV.out,<-PX.out];exact bodyPost_ret (v:=.tuple #[.agg #[vI 0,vI 0,vI 0,.bool false,vI 0],.bool false]) (by simp[results,results111,go_sem,y0]) rfl ⟨rfl,BE.out⟩
 | some i=>
  rw[hw]at hx lk;simp only at hx;simp only[Option.getD_some,Option.isSome_some]at lk ⊢;have hi:=XR hw;have Oc:=eX hi;rw[hx]at Oc;have HI:=af Oc;have HL:=dw hi hl;clear hw hx Oc hi hl;go_enter func111,ntmps111;go_wp2_with fail;rw[<-Tz];clear Tz;refine gy ?_;repeat (go_big_quiet_step (fail))
  refine wpQuiet_nil ?_;intro _ tL;obtain⟨⟨jH,bu⟩,jF⟩:=tL;subst jF;have bq:=below_regrown W1 jH bu;clear lk m1 t0 t1;generalize grow (redrawn W1 jH) bu=V at *;have hP:=H.out.2.1.later bq;obtain⟨ra,rc,rfl,ho⟩:=hP.row.form;rcases ho with h0|⟨q,rfl,-,-,bg,-⟩
  ·have:=HL.out.1;rw[h0]at this;simp at this
  obtain⟨g0,g1,g2,g3,g4⟩:=bg i x HI.out;rw[Nat.zero_add]at g0 g1 g2 g3 g4;have d0:=hP.c0;have xb:=H.out.2.2.later bq;have xc:=xb.put [vI (x).b,vI (x).e,vI (x).g,.bool (x).j,vI (x).i] rfl;have BE:Hid (Below w.1.size w (cO V (w.1.size+1) 0 [vI (x).b,vI (x).e,vI (x).g,.bool (x).j,vI (x).i])):=aI (by omega) _ _ _ (au H.out.1 bq);have c0:=xb.c5;have f0:=xb.f5;obtain⟨Y,hY⟩:=bO (cO V (w.1.size+1) 0 [vI (x).b,vI (x).e,vI (x).g,.bool (x).j,vI (x).i]);rw[<-hY]at xc BE;have rR:Y=(((((V.setCell ⟨w.1.size+1,0,none⟩ (vI (x).b)).setCell ⟨w.1.size+1,1,none⟩ (vI (x).e)).setCell ⟨w.1.size+1,2,none⟩ (vI (x).g)).setCell ⟨w.1.size+1,3,none⟩ (.bool (x).j)).setCell ⟨w.1.size+1,4,none⟩ (vI (x).i)):=hY;have y0:=xc.c5;have PX:=af rR;have ix:(i:Int)<(xs.length:Int):=by have:=HL.out.1;omega
  clear hY rR xc xb bq hP bg;go_wp2;rw[<-PX.out];exact bodyPost_ret (v:=.tuple #[.agg #[vI (x).b,vI (x).e,vI (x).g,.bool (x).j,vI (x).i],.bool true]) (by simp[results,results111,go_sem,y0]) rfl ⟨rfl,BE.out⟩
end tx
section
open Go.Proofs.Tryz
noncomputable def yU(k:C6)(t:tx.T7)(r s:Int):Int:=if (tx.l8 t.ai r s).isSome=true then 0 else Gs k t r s
noncomputable def wM(k:C6)(t:tx.T7)(r s:Int):tx.T7:=if (tx.l8 t.ai r s).isSome=true then t else Gt k t r s
noncomputable def Nq(k:C6)(t:tx.T7)(r s:Int):Int:=if (tx.l8 t.ai r s).isSome=true then(tx.PH t.ai r s).g else(nG k t r s).g
noncomputable def GG(k:C6)(t:tx.T7)(r s:Int):Bool:=if (tx.l8 t.ai r s).isSome=true then(tx.PH t.ai r s).j else(nG k t r s).j
theorem UG(w:World)(B d:Nat)(a1:OA)(c1:Nat)(a2:OA)(c2:Nat)(a3:OA)(c3:Nat)(k:C6)(i:Nat)(u:tx.TV)(t:tx.T7)(P:Nat->Prop)(r s:Int)(hk:aD k=true)(kP:df.L k)(h:df.Rd w a1 c1 a2 c2 a3 c3 k)(hd:DB w B d a1 c1 a2 c2 a3 c3 k i u t P)(hl:tx.TL t)(Ip:B<=w.1.size)(hT:tx.kv t=true)(hr:aW 0 5 r=true)(fI:aW 0 5 s=true):
  Calls prog 57 #[.pointer (some ⟨d,0,none⟩),.agg #[vI r,vI s]] w (FJ w B d a1 c1 a2 c2 a3 c3 k i P (wM k t r s) (yU k t r s) (.tuple #[vI (Nq k t r s),.bool (GG k t r s)])):=by
 obtain⟨U0,kN,lD,nO,sM⟩:=iI w [vI r,vI s] 56;have jD:=tx.Mg hT;have HR:=xZ (h.later lD) hk (hd.later lD) (show(t.ai.length<=100/\(∀m∈t.ai,bK m=true)/\tx.yD t.ai)from⟨by have:=(tx.gG hT).2;omega,jD.1,jD.2⟩) lD hr fI (YO hd.bx.2.2 Ip hl kP hT);have HX:=af (sM);have HP:Hid (∀q,P q->q<w.1.size):=fun q hq=>(hd.ow.of hq).2
 have hS:(fun Z:World=>Below U0.1.size U0 Z/\Bx Z d [vI k.v,vI k.u,.slice a1 k.f.length c1,.slice a2 k.aa.length c2,.slice a3 k.c.length c3,.bool k.w,vI (i:Int),vI t.id,vI t.l,vI t.o,vI t.q,.slice u.ar t.a.length u.cr,.slice u.ah t.ai.length u.ch,vI t.az]/\Bx Z w.1.size [vI r,vI s]) U0.drew:=⟨aK.drew,HR.out.2.2.1.bx.later (aK.drew),nO.later (aK.drew)⟩
 clear lD nO sM h hk hd hl Ip jD hT hr fI kP;go_enter func57,ntmps57;go_wp2_with fail;rw[<-kN];clear kN;refine aT (fun z=>z==12) (fun Z:World=>Below U0.1.size U0 Z/\Bx Z d [vI k.v,vI k.u,.slice a1 k.f.length c1,.slice a2 k.aa.length c2,.slice a3 k.c.length c3,.bool k.w,vI (i:Int),vI t.id,vI t.l,vI t.o,vI t.q,.slice u.ar t.a.length u.cr,.slice u.ah t.ai.length u.ch,vI t.az]/\Bx Z w.1.size [vI r,vI s]) (by kernel_rfl) ?_;generalize U0.drew=Wd at *;refine bf 0 rfl hS ?_;simp only[Act.put];refine Nr 1 (.pointer (some ⟨d,0,none⟩)) rfl ?_ hS ?_
 ·(intro w _;go_simp)
 simp only[Act.put];refine bf 2 rfl hS ?_;simp only[Act.put];refine bf 3 rfl hS ?_;simp only[Act.put];refine fU 4 (.slice u.ah t.ai.length u.ch) rfl ?_ hS ?_
 ·(intro w aA;have na:=aA.2.1.1 12 _ rfl;clear hS aA;go_simp)
 simp only[Act.put];refine fU 6 (.agg #[vI r,vI s]) rfl ?_ hS ?_
 ·(intro w aA;have q0:=aA.2.2.1 0 _ rfl;have q1:=aA.2.2.1 1 _ rfl;clear hS aA;go_simp)
 simp only[Act.put];refine fZ (rs:=[5,11]) (by kernel_rfl) (by simp) ?_;refine gQ.cons rfl (fun K hK=>?lA) (gQ.cons rfl (fun K hK=>?lB) gQ.nil)
 case' lA=>
  go_simp;have cP:=tx.rA Wd u.ah u.ch t.ai HR.out.2.2.2.1.1 (HR.out.2.2.1.ow.sl.later hS.1).s HR.out.2.2.2.1.2.1 HR.out.2.2.2.1.2.2;refine cP.mono ?_;clear cP;rintro e X ⟨p,mb,nn,pv,rfl,hp,-,bX⟩;replace hS:=nH (au hS.1 bX) (hS.2.1.later bX) (hS.2.2.later bX);generalize Wd.1.size=pB at hp;clear bX;refine hK.out _ _ (fun _=>hS) ?_;clear hK K;clear Wd;generalize X=Wd at *;refine fZ (rs:=[7,11]) (by kernel_rfl) (by simp) ?_;refine gQ.cons rfl (fun K hK=>?Z5) (gQ.cons rfl (fun K hK=>?Z6) gQ.nil)
  case' Z5=>
   go_simp;have cF:=tx.wo Wd pB p mb nn pv t.ai r s (by have:=HR.out.2.2.2.1.1;omega) hp HR.out.2.2.2.2.2.1 HR.out.2.2.2.2.2.2.1;refine cF.mono ?_;clear cF;rintro e X ⟨rfl,bX⟩;replace hS:=nH (au hS.1 bX) (hS.2.1.later bX) (hS.2.2.later bX);clear bX hp;refine hK.out _ _ (fun _=>hS) ?_;clear hK K;clear Wd;generalize X=Wd at *;refine bf 8 rfl hS ?_;simp only[Act.put];refine bf 9 rfl hS ?_;simp only[Act.put];refine bf 10 rfl hS ?_;simp only[Act.put];refine bG 11 rfl (fun K hK=>?_);go_simp;obtain⟨X,hX⟩:=bO (Wd.alloc (.cells #[vI 0,vI 0,vI 0,.bool false,vI 0] 96));obtain⟨bb,gu⟩:=bO Wd.1.size;have bX:Below Wd.1.size Wd X:=by rw[hX];exact aK.alloc aU _
   have xV:Bx X bb [vI 0,vI 0,vI 0,.bool false,vI 0]:=by rw[hX,gu];exact Bx.made Wd [vI 0,vI 0,vI 0,.bool false,vI 0] _
   rw[<-hX,<-gu];have HB:Hid (U0.1.size<=bb):=by unfold Hid;have:=hS.1.size;omega
   replace hS:=nH (au hS.1 bX) (hS.2.1.later bX) (hS.2.2.later bX);clear hX gu bX;refine hK.out _ _ (fun _=>hS) ?_;clear hK K;clear Wd;generalize X=Wd at *
  case' Z6=>
   go_simp;obtain⟨X,hX⟩:=bO (Wd.alloc (.cells #[vI 0,vI 0,vI 0,.bool false,vI 0] 96));obtain⟨bb,gu⟩:=bO Wd.1.size;have bX:Below Wd.1.size Wd X:=by rw[hX];exact aK.alloc aU _
   have xV:Bx X bb [vI 0,vI 0,vI 0,.bool false,vI 0]:=by rw[hX,gu];exact Bx.made Wd [vI 0,vI 0,vI 0,.bool false,vI 0] _
   rw[<-hX,<-gu];have HB:Hid (U0.1.size<=bb):=by unfold Hid;have:=hS.1.size;omega
   replace hp:=hp.later bX;replace hS:=nH (au hS.1 bX) (hS.2.1.later bX) (hS.2.2.later bX);clear hX gu bX;refine hK.out _ _ (fun _=>hS) ?_;clear hK K;clear Wd;generalize X=Wd at *;refine bG 7 rfl (fun K hK=>?_);go_simp;have cF:=tx.wo Wd pB p mb nn pv t.ai r s (by have:=HR.out.2.2.2.1.1;omega) hp HR.out.2.2.2.2.2.1 HR.out.2.2.2.2.2.2.1;refine cF.mono ?_;clear cF;rintro e X ⟨rfl,bX⟩;replace xV:=xV.later bX;replace hS:=nH (au hS.1 bX) (hS.2.1.later bX) (hS.2.2.later bX);clear bX hp;refine hK.out _ _ (fun _=>hS) ?_;clear hK K;clear Wd;generalize X=Wd at *;refine bf 8 rfl hS ?_;simp only[Act.put];refine bf 9 rfl hS ?_;simp only[Act.put];refine bf 10 rfl hS ?_;simp only[Act.put]
 case' lB=>
  go_simp;obtain⟨X,hX⟩:=bO (Wd.alloc (.cells #[vI 0,vI 0,vI 0,.bool false,vI 0] 96));obtain⟨bb,gu⟩:=bO Wd.1.size;have bX:Below Wd.1.size Wd X:=by rw[hX];exact aK.alloc aU _
  have xV:Bx X bb [vI 0,vI 0,vI 0,.bool false,vI 0]:=by rw[hX,gu];exact Bx.made Wd [vI 0,vI 0,vI 0,.bool false,vI 0] _
  rw[<-hX,<-gu];have HB:Hid (U0.1.size<=bb):=by unfold Hid;have:=hS.1.size;omega
  replace hS:=nH (au hS.1 bX) (hS.2.1.later bX) (hS.2.2.later bX);clear hX gu bX;refine hK.out _ _ (fun _=>hS) ?_;clear hK K;clear Wd;generalize X=Wd at *;refine bG 5 rfl (fun K hK=>?_);go_simp;have cP:=tx.rA Wd u.ah u.ch t.ai HR.out.2.2.2.1.1 (HR.out.2.2.1.ow.sl.later hS.1).s HR.out.2.2.2.1.2.1 HR.out.2.2.2.1.2.2;refine cP.mono ?_;clear cP;rintro e X ⟨p,mb,nn,pv,rfl,hp,-,bX⟩;replace xV:=xV.later bX;replace hS:=nH (au hS.1 bX) (hS.2.1.later bX) (hS.2.2.later bX);generalize Wd.1.size=pB at hp;clear bX;refine hK.out _ _ (fun _=>hS) ?_;clear hK K;clear Wd;generalize X=Wd at *;refine bG 7 rfl (fun K hK=>?_);go_simp;have cF:=tx.wo Wd pB p mb nn pv t.ai r s (by have:=HR.out.2.2.2.1.1;omega) hp HR.out.2.2.2.2.2.1 HR.out.2.2.2.2.2.2.1;refine cF.mono ?_;clear cF;rintro e X ⟨rfl,bX⟩;replace xV:=xV.later bX;replace hS:=nH (au hS.1 bX) (hS.2.1.later bX) (hS.2.2.later bX);clear bX hp;refine hK.out _ _ (fun _=>hS) ?_;clear hK K;clear Wd;generalize X=Wd at *;refine bf 8 rfl hS ?_;simp only[Act.put];refine bf 9 rfl hS ?_;simp only[Act.put];refine bf 10 rfl hS ?_;simp only[Act.put]
 all_goals
  have c0:=xV.1 0 _ rfl;have f0:=xV.2.1 0;have c1:=xV.1 1 _ rfl;have f1:=xV.2.1 1;have c2:=xV.1 2 _ rfl;have f2:=xV.2.1 2;have c3:=xV.1 3 _ rfl;have f3:=xV.2.1 3;have c4:=xV.1 4 _ rfl;have f4:=xV.2.1 4;refine bG 12 rfl (fun K hK=>?_);go_simp;refine hK.out _ _ (fun h=>absurd (show false=true from h.symm.trans (by kernel_rfl)) (by decide)) ?_;clear hK K;refine bG 13 rfl (fun K hK=>?_);go_simp;refine hK.out _ _ (fun h=>absurd (show false=true from h.symm.trans (by kernel_rfl)) (by decide)) ?_;clear hK K;refine bH (by kernel_rfl) ?_ _;clear c0 f0 c1 f1 c2 f2 c3 f3 c4 f4;obtain⟨f,hf⟩:=uD (tx.PH t.ai r s);have HF:=af hf;rw[hf];clear hf;obtain⟨Y,hY⟩:=bO (cO Wd bb 0 [vI f.b,vI f.e,vI f.g,.bool f.j,vI f.i]);have yb:=xV.put [vI f.b,vI f.e,vI f.g,.bool f.j,vI f.i] rfl;rw[<-hY]at yb;have rR:Y=(((((Wd.setCell ⟨bb,0,none⟩ (vI f.b)).setCell ⟨bb,1,none⟩ (vI f.e)).setCell ⟨bb,2,none⟩ (vI f.g)).setCell ⟨bb,3,none⟩ (.bool f.j)).setCell ⟨bb,4,none⟩ (vI f.i)):=hY;rw[<-rR];have dQ:Y.1.size=Wd.1.size:=by rw[hY];exact aS _ _ _ _
  have dS:∀q,q≠bb->Y.1[q]?=Wd.1[q]?:=fun q hq=>by rw[hY];exact aO hq _ _ _
  have DZ:=HX.out;have QE:=HR.out.2.2.2.2.2.2.2.1;have DW:=HB.out;have BY:Hid (Below U0.1.size U0 Y):=by unfold Hid;rw[hY];exact aI DW _ _ _ hS.1
  have KY:=nE yb (hS.2.2.aj (dS _ (by omega)) (Nat.le_of_eq dQ.symm)) (HR.out.2.2.1.later BY.out) (au HR.out.2.2.2.2.1 BY.out) (HR.out.1.later BY.out);clear rR hY yb dQ dS hS xV DZ QE DW
  cases hw:(tx.l8 t.ai r s).isSome with
  | true=>
   have HC:Hid (yU k t r s=0/\wM k t r s=t/\Nq k t r s=f.g/\GG k t r s=f.j):=⟨by rw[yU,hw];rfl,by rw[wM,hw];rfl,by rw[Nq,hw,<-HF.out];rfl,by rw[GG,hw,<-HF.out];rfl⟩
   clear hw
   have KE:Hid (∀Z,Below Y.1.size Y Z->FJ w B d a1 c1 a2 c2 a3 c3 k i P (wM k t r s) (yU k t r s) (.tuple #[vI (Nq k t r s),.bool (GG k t r s)]) (.returned (.tuple #[vI f.g,.bool f.j])) Z):=fun Z hZ=>by
    rw[HC.out.1,HC.out.2.1,HC.out.2.2.1,HC.out.2.2.2];exact .inr ⟨rfl,rfl,⟨u,P,KY.out.2.2.1.later hZ,fun q hq=>.inl hq⟩,(dV.refl d w).bN (au KY.out.2.2.2.1 hZ)⟩
   have y2:=KY.out.1.1 2 _ rfl;have y3:=KY.out.1.1 3 _ rfl;go_wp2_with fail;go_quiet (fail);go_wp2;exact bodyPost_ret (v:=.tuple #[vI f.g,.bool f.j]) (by simp[results,results57,go_sem]) rfl (KE.out _ (pE aK _))
  | false=>
   have HC:Hid (yU k t r s=Gs k t r s/\wM k t r s=Gt k t r s/\Nq k t r s=(nG k t r s).g/\GG k t r s=(nG k t r s).j):=⟨by rw[yU,hw];rfl,by rw[wM,hw];rfl,by rw[Nq,hw];rfl,by rw[GG,hw];rfl⟩
   clear hw;have cN:=Lv Y B d a1 c1 a2 c2 a3 c3 k i u t P r s HR.out.2.1 HR.out.2.2.2.2.2.2.2.2.2.2.1 KY.out.2.2.2.2 KY.out.2.2.1 HR.out.2.2.2.2.2.2.2.2.2.1 (by have:=HR.out.2.2.2.2.2.2.2.2.1;have:=KY.out.2.2.2.1.size;omega) HR.out.2.2.2.2.2.2.2.2.2.2.2 HR.out.2.2.2.2.2.1 HR.out.2.2.2.2.2.2.1;have y0:=KY.out.2.1.c2;go_wp2_with fail;refine cN.mono ?_;clear cN y0;intro e W3 hA;rcases hA with ⟨eO,hr⟩|⟨hz,rfl,⟨u',P',nD,AX⟩,qG⟩
   ·have HE:Hid (FJ w B d a1 c1 a2 c2 a3 c3 k i P (wM k t r s) (yU k t r s) (.tuple #[vI (Nq k t r s),.bool (GG k t r s)]) e W3):=.inl ⟨by rw[HC.out.1];exact eO,by rw[HC.out.1];exact hr.low KY.out.2.2.2.1⟩;obtain⟨e1,d1,e2,d2,e3,d3,P2,rfl,-,-⟩:=hr;go_wp2;exact⟨rfl,HE.out⟩
   ·obtain⟨n,hn⟩:=uD (nG k t r s);have ff:=af hn;rw[hn];clear hn;have KD:=fP (show(∃u P',DB W3 B d a1 c1 a2 c2 a3 c3 k i u (Gt k t r s) P'/\∀q,P' q->P q\/Y.1.size<=q)from⟨u',P',nD,AX⟩) qG hz;clear nD AX qG hz;obtain⟨V,hV,bV,xN,-⟩:=iI W3 [vI n.b,vI n.e,vI n.i,vI n.g,.bool n.j] 99
    have KE:Hid (∀Z,Below V.1.size V Z->FJ w B d a1 c1 a2 c2 a3 c3 k i P (wM k t r s) (yU k t r s) (.tuple #[vI (Nq k t r s),.bool (GG k t r s)]) (.returned (.tuple #[vI n.g,.bool n.j])) Z):=fun Z hZ=>by
     rw[HC.out.1,HC.out.2.1,HC.out.2.2.1,HC.out.2.2.2,ff.out];obtain⟨⟨u2,P2,h1,h2⟩,h3,h4⟩:=KD.out;have hs:=KY.out.2.2.2.1.size;exact .inr ⟨h4,rfl,⟨u2,P2,h1.later (au bV hZ),fun q hq=>(h2 q hq).imp id (fun h=>by omega)⟩,(((dV.refl d w).bN KY.out.2.2.2.1).trans h3).bN (au bV hZ)⟩
    have y3:=xN.1 3 _ rfl;have y4:=xN.1 4 _ rfl;clear bV xN;have HV:=af hV;go_wp2_with fail;rw[<-hV];clear hV;go_quiet (fail);go_wp2;exact bodyPost_ret (v:=.tuple #[vI n.g,.bool n.j]) (by simp[results,results57,go_sem]) rfl (KE.out _ (pE aK _))
end
section
open Go.Proofs.Tryz
variable {B d1 d2 d3 p:Nat}{Y:World}{b1 b2 b3:OA}{gm gp gt:Nat->Nat->Prop}{k:C6}{ms:List (MV×M4)}{ps:List ((Nat×Nat)×List Int)}{ts:List (tx.TV×tx.T7)}
theorem Kd.Part.put{D V:Type}{K:Kd D V}{X:World}{b n:Nat}{ys:List D}{g:Nat->Nat->Prop}(h:K.Part X B b n ys g){i:Nat}(hi:i<ys.length)(hn:ys.length<=n)(v:V)(d:D)(Q:Nat->Prop)(ho:K.Ow X B v d Q)(eO:∀q,Q q->q≠b)(Ww:∀j q,j<ys.length->j≠i->g j q->¬Q q):
  K.Part (cO X b (i*K.n) (K.cells v d)) B b n (ys.set i d) (fun j=>if j=i then Q else g j):=by
 have hs:(cO X b (i*K.n) (K.cells v d)).1.size=X.1.size:=aS _ _ _ _;have hk:∀q,q≠b->(cO X b (i*K.n) (K.cells v d)).1[q]?=X.1[q]?:=fun q hq=>aO hq _ _ _
 have hc:i*K.n+K.n<=n*K.n:=by rw[<-Nat.succ_mul];exact Nat.mul_le_mul_right _ (by omega)
 refine⟨Fy _ _ _ h.rm,fun j e hj=>?_,fun j q hj hq=>?_,fun j l q hj hl EY h1 h2=>?_⟩
 ·by_cases Ym:j=i
  ·subst Ym;rw[List.getElem?_set_self hi]at hj;obtain rfl:=Option.some.inj hj;refine⟨v,fun t u hu=>?_,by simp only[if_pos];exact K.aM ho (Nat.le_of_eq hs.symm) (fun q hq=>hk q (eO q hq))⟩;refine zA _ _ _ (fun t h1 h2=>?_) t u hu;rw[K.len]at h2;obtain⟨z,hz,_⟩:=h.rm t (by omega);exact⟨z,hz⟩
  ·rw[List.getElem?_set_ne (fun e=>Ym e.symm)]at hj;obtain⟨v',h1,h2⟩:=h.at_ j e hj;have EY:=(List.getElem?_eq_some_iff.1 hj).1;refine⟨v',fun t u hu=>?_,by simp only[if_neg Ym];exact K.aM h2 (Nat.le_of_eq hs.symm) (fun q hq=>hk q (h.ne j q EY hq))⟩;have ht:t<K.n:=by have:=(List.getElem?_eq_some_iff.1 hu).1;rwa[K.len]at this
   refine(Jq _ _ _ ?_).trans (h1 t u hu);rw[K.len];rcases Nat.lt_or_gt_of_ne Ym with aN|Zk
   ·have:=Nat.mul_le_mul_right K.n (Nat.succ_le_of_lt aN);rw[Nat.succ_mul]at this;left;omega
   ·have:=Nat.mul_le_mul_right K.n (Nat.succ_le_of_lt Zk);rw[Nat.succ_mul]at this;right;omega
 ·rw[List.length_set]at hj;by_cases e:j=i
  ·simp only[if_pos e]at hq;exact eO q hq
  ·simp only[if_neg e]at hq;exact h.ne j q hj hq
 ·rw[List.length_set]at hj hl;by_cases e1:j=i
  ·by_cases e2:l=i
   ·omega
   ·simp only[if_pos e1]at h1;simp only[if_neg e2]at h2;exact Ww l q hl e2 h2 h1
  ·by_cases e2:l=i
   ·simp only[if_neg e1]at h1;simp only[if_pos e2]at h2;exact Ww j q hj e1 h1 h2
   ·simp only[if_neg e1]at h1;simp only[if_neg e2]at h2;exact h.ap j l q hj hl EY h1 h2
def l9(k:C6)(i:Nat)(t:tx.T7):C6:=⟨k.v,k.u,k.f,k.aa,k.c.set i t,k.w⟩
theorem Hz{base:Nat}
  (hr:xe base p Y (.slice b1 k.f.length d1) (.slice b2 k.aa.length d2) (.slice b3 k.c.length d3) ps gp ms gm ts gt) (e1:ps.map (·.2)=k.f) (e2:ms.map (·.2)=k.aa) (e3:ts.map (·.2)=k.c){i:Nat} (hi:i<k.c.length) (u0:OA) (u1:Nat) (u2:OA) (u3:Nat) (t':tx.T7) (Q:Nat->Prop) (ho:KT.Ow Y B u0 u1 u2 u3 t' Q) (hB:B<=base) (hQ:∀q,Q q->¬Kd.lK (.slice b1 k.f.length d1) ps gp q/\¬Kd.lK (.slice b2 k.aa.length d2) ms gm q/\(Value.slice b3 k.c.length d3).ownBlock≠some q) (vb:∀j q,j<k.c.length->j≠i->gt j q->¬Q q):
  ∃b,b3=some ⟨b,0,none⟩/\base<=b/\b<Y.1.size/\b≠p/\Room Y b (k.c.length*7)/\(∀q,Q q->q≠b)/\∃P,(∀q,P q->Q q\/base<=q)/\df.Ow (cO Y b (i*7) (iO.cells ⟨u0,u1,u2,u3⟩ t')) B b1 d1 b2 d2 b3 d3 (l9 k i t') P:=by
 have lf:=Fv hr.P e1;have SC:=hr.M.own e2;have aN:ts.length=k.c.length:=by rw[<-e3];simp
 obtain⟨b,rfl,ze,-⟩:=hr.T.part e3 (fun h=>by rw[h]at aN;simp at aN;omega);have jB:=fun q (hq:Kd.lK (.slice (some ⟨b,0,none⟩) k.c.length d3) ts gt q)=>hr.T.blocks hq
 have hg:∀j q,j<k.c.length->gt j q->Kd.lK (.slice (some ⟨b,0,none⟩) k.c.length d3) ts gt q:=fun j q hj hq=>.inr ⟨j,by omega,hq⟩
 have gu:=jB b (.inl rfl);have dr:∀q,Q q->q≠b:=fun q hq e=>(hQ q hq).2.2 (by rw[e];rfl)
 have lP:=Kd.Part.put (K:=iO) (⟨ze.rm,fun j d hj=>by obtain⟨v,h1,h2⟩:=ze.at_ j d hj;exact⟨v,h1,iO.low h2 hB⟩,ze.ne,ze.ap⟩:iO.Part Y B b k.c.length k.c gt) hi aU ⟨u0,u1,u2,u3⟩ t' Q ho dr vb;have dS:∀q,q≠b->(cO Y b (i*7) (iO.cells ⟨u0,u1,u2,u3⟩ t')).1[q]?=Y.1[q]?:=fun q hq=>aO hq _ _ _
 have dQ:(cO Y b (i*7) (iO.cells ⟨u0,u1,u2,u3⟩ t')).1.size=Y.1.size:=aS _ _ _ _;have Zf:Kd.lK (.slice (some ⟨b,0,none⟩) k.c.length d3) ts gt b:=.inl rfl;have o1:KP.Ow (cO Y b (i*7) (iO.cells ⟨u0,u1,u2,u3⟩ t')) B b1 k.f _:=(lf.low hB).aM (Nat.le_of_eq dQ.symm) (fun q hq=>dS q (fun e=>by subst e;exact hr.pt q hq Zf));have o2:iN.xm (cO Y b (i*7) (iO.cells ⟨u0,u1,u2,u3⟩ t')) B b2 k.aa _:=(SC.low hB).aM (Nat.le_of_eq dQ.symm) (fun q hq=>dS q (fun e=>by subst e;exact hr.mt q hq Zf))
 refine⟨b,rfl,gu.1,gu.2,hr.tp b Zf,ze.rm,dr,fun q=>Kd.lK (.slice b1 k.f.length d1) ps gp q\/Kd.lK (.slice b2 k.aa.length d2) ms gm q\/(q=b\/(∃j,j<k.c.length/\j≠i/\gt j q)\/Q q),fun q hq=>by
  rcases hq with hq|hq|rfl|⟨j,hj,_,hq⟩|hq
  ·exact .inr (hr.P.blocks hq).1
  ·exact .inr (hr.M.blocks hq).1
  ·exact .inr gu.1
  ·exact .inr (jB q (hg j q hj hq)).1
  ·exact .inl hq,⟨_,_,fun q=>q=b\/(∃j,j<k.c.length/\j≠i/\gt j q)\/Q q,o1,o2,⟨.inr ⟨b,fun j=>if j=i then Q else gt j,rfl,.inl rfl,?_,fun j q hj hq=>?_⟩,fun q hq=>?_⟩,fun _ hq=>.inl hq,fun _ hq=>.inr (.inl hq),fun _ hq=>.inr (.inr hq),hr.pm,fun q hq TJ=>?_,fun q hq TJ=>?_⟩,fun q hq=>?_⟩
 ·have:(k.c.set i t').length=k.c.length:=by simp
  show iO.Part _ B b (k.c.set i t').length (k.c.set i t') _
  rw[this];exact lP
 ·have Od:j<k.c.length:=by simpa[l9]using hj
  by_cases e:j=i
  ·simp only[if_pos e]at hq;exact .inr (.inr hq)
  ·simp only[if_neg e]at hq;exact .inr (.inl ⟨j,Od,e,hq⟩)
 ·rw[dQ];rcases hq with rfl|⟨j,hj,_,hq⟩|hq
  ·exact⟨by omega,gu.2⟩
  ·have:=jB q (hg j q hj hq);exact⟨by omega,this.2⟩
  ·exact ho.of hq
 ·rcases TJ with rfl|⟨j,hj,_,hx⟩|hx
  ·exact hr.pt q hq Zf
  ·exact hr.pt q hq (hg j q hj hx)
  ·exact(hQ q hx).1 hq
 ·rcases TJ with rfl|⟨j,hj,_,hx⟩|hx
  ·exact hr.mt q hq Zf
  ·exact hr.mt q hq (hg j q hj hx)
  ·exact(hQ q hx).2.1 hq
 ·rw[dQ];rcases hq with hq|hq|rfl|⟨j,hj,_,hq⟩|hq
  ·have:=hr.P.blocks hq;exact⟨by omega,this.2⟩
  ·have:=hr.M.blocks hq;exact⟨by omega,this.2⟩
  ·exact⟨by omega,gu.2⟩
  ·have:=jB q (hg j q hj hq);exact⟨by omega,this.2⟩
  ·exact ho.of hq
theorem Tm{base:Nat}
  (hr:xe base p Y (.slice b1 k.f.length d1) (.slice b2 k.aa.length d2) (.slice b3 k.c.length d3) ps gp ms gm ts gt) (e1:ps.map (·.2)=k.f) (e2:ms.map (·.2)=k.aa) (e3:ts.map (·.2)=k.c){i:Nat} (hi:i<k.c.length) (u0:OA) (u1:Nat) (u2:OA) (u3:Nat) (t':tx.T7) (Q:Nat->Prop) (ho:KT.Ow Y B u0 u1 u2 u3 t' Q) (hB:B<=base) (hQ:∀q,Q q->q<base):
  ∃b,b3=some ⟨b,0,none⟩/\base<=b/\b<Y.1.size/\b≠p/\Room Y b (k.c.length*7)/\(∀q,Q q->q≠b)/\∃P,(∀q,P q->Q q\/base<=q)/\df.Ow (cO Y b (i*7) (iO.cells ⟨u0,u1,u2,u3⟩ t')) B b1 d1 b2 d2 b3 d3 (l9 k i t') P:=by
 have aN:ts.length=k.c.length:=by rw[<-e3];simp
 exact Hz hr e1 e2 e3 hi u0 u1 u2 u3 t' Q ho hB (fun q hq=>⟨fun h=>by have:=(hr.P.blocks h).1;have:=hQ q hq;omega,fun h=>by have:=(hr.M.blocks h).1;have:=hQ q hq;omega,fun h=>by have:=(hr.T.blocks (.inl h)).1;have:=hQ q hq;omega⟩) (fun j q hj _ h hq=>by have:=(hr.T.blocks (.inr ⟨j,by omega,h⟩)).1;have:=hQ q hq;omega)
theorem r9(w:World)(a1:OA)(c1:Nat)(a2:OA)(c2:Nat)(a3:OA)(c3:Nat)(k:C6)(y:Int)(hl:df.L k)(h:df.Rd w a1 c1 a2 c2 a3 c3 k):
  Calls prog 25 #[.agg #[vI k.v,vI k.u,.slice a1 k.f.length c1,.slice a2 k.aa.length c2,.slice a3 k.c.length c3,.bool k.w],vI y] w (vE w a1 c1 a2 c2 a3 c3 k y (fK k y)):=by
 obtain⟨W0,dO⟩:=bO (w.alloc (.cells #[vI k.v,vI k.u,.slice a1 k.f.length c1,.slice a2 k.aa.length c2,.slice a3 k.c.length c3,.bool k.w] 32));have b0:Below w.1.size w W0:=by rw[dO];exact aK.alloc aU _
 have hc:=Kh W0 a1 c1 a2 c2 a3 c3 k y hl (h.later b0);have H:=dw b0 h;clear b0 h hl;go_enter func25,ntmps25;go_wp2_with fail;rw[<-dO];clear dO;refine hc.mono ?_;clear hc;rintro e w1 (⟨hn,hr⟩|⟨hz,d,u0,u1,u2,u3,P,rfl,bL,how,Vf,Kt,b1⟩)
 ·have HX:Hid (vE w a1 c1 a2 c2 a3 c3 k y (fK k y) e w1):=.inl ⟨by simp[fK,hn],by rw[show fK k y=gV k y by simp[fK,hn]];exact hr.low H.out.1⟩;obtain⟨b1,d1,b2,d2,b3,d3,P,rfl,-,-⟩:=hr;go_wp2;exact⟨rfl,HX.out⟩
 ·have hk:aD k=true:=by
   cases hk:aD k with
   | true=>rfl
   | false=>simp[gV,hk]at hz
  have K1:=wL bL (how.low H.out.1.size) Vf (Nat.le_trans H.out.1.size Kt) (au H.out.1 b1) (H.out.2.later (au H.out.1 b1));have p9:=bL.1 9 _ rfl;clear bL how Vf Kt b1;by_cases Oj:(dm k y).o=1
  ·have kI:fK k y=0:=by simp[fK,hz,Oj]
   have HZ:=af kI;rw[Oj]at p9;clear hz kI Oj;go_wp2;go_ret;exact .inr ⟨HZ.out,d,u0,u1,u2,u3,P,rfl,K1.out.1,K1.out.2.1,K1.out.2.2.1,K1.out.2.2.2.1,K1.out.2.2.2.2.1⟩
  ·have kI:fK k y=4:=by simp[fK,hz,Oj]
   have eO:((dm k y).o != 1)=true:=by simpa using Oj
   have nQ:iE k=k:=by simp[iE,hk]
   have HX:Hid (∀e w',o9 w1 k 4 e w'->vE w a1 c1 a2 c2 a3 c3 k y (fK k y) e w'):=fun e w' h=>.inl ⟨by rw[kI];decide,by rw[kI,nQ];exact h.low K1.out.2.2.2.2.1⟩
   have ZE:=fO w1 d a1 c1 a2 c2 a3 c3 k [vI (ib k.c y),vI (dm k y).id,vI (dm k y).l,vI (dm k y).o,vI (dm k y).q,.slice u0 (dm k y).a.length u1,.slice u2 (dm k y).ai.length u3,vI (dm k y).az] 4 hk K1.out.2.2.2.2.2 K1.out.1;clear hz kI Oj nQ hk;go_wp2_with fail;refine ZE.mono ?_;clear ZE;intro e w6 hr;have yT:=hr;obtain⟨b1,d1,b2,d2,b3,d3,P,rfl,-,-⟩:=hr;have HR:=af yT;clear yT;go_wp2;exact⟨rfl,HX.out _ _ HR.out⟩
end
section
open Go.Proofs.Tryz
def sL(X:World)(B:Nat)(k:C6)(e:Ending)(w':World):Prop:=∃(a1:OA) (c1:Nat) (a2:OA) (c2:Nat) (a3:OA) (c3:Nat) (P:Nat->Prop),e=.returned (.agg #[vI k.v,vI k.u,.slice a1 k.f.length c1,.slice a2 k.aa.length c2,.slice a3 k.c.length c3,.bool k.w])/\df.Ow w' B a1 c1 a2 c2 a3 c3 k P/\Below X.1.size X w'
theorem Ia(w:World)(B d:Nat)(a1:OA)(c1:Nat)(a2:OA)(c2:Nat)(a3:OA)(c3:Nat)(k:C6)(i:Nat)(t':tx.T7)(u0:OA)(u1:Nat)(u2:OA)(u3:Nat)(P:Nat->Prop)(hk:aD k=true)(hi:i<k.c.length)(h:df.Rd w a1 c1 a2 c2 a3 c3 k)(hd:Bx w d [vI k.v,vI k.u,.slice a1 k.f.length c1,.slice a2 k.aa.length c2,.slice a3 k.c.length c3,.bool k.w,vI (i:Int),vI t'.id,vI t'.l,vI t'.o,vI t'.q,.slice u0 t'.a.length u1,.slice u2 t'.ai.length u3,vI t'.az])(ho:KT.Ow w B u0 u1 u2 u3 t' P)(hB:B<=w.1.size):
  Calls prog 28 #[.pointer (some ⟨d,0,none⟩)] w (sL w B (l9 k i t')):=by
 obtain⟨W0,dO,b0,x0,-⟩:=iI w sH 32;have d0:=hd.later b0;have p0:=d0.c6;have hc:=nz W0 a1 c1 a2 c2 a3 c3 k hk (h.later b0);have n60:=(UO.of hk).t;have H:=QG b0 x0 d0 (ho.later b0) hB (show(∀q,P q->q<w.1.size)from fun q hq=>(ho.of hq).2) hd.2.2;rw[dO]at p0;clear b0 x0 d0 h hd ho hB hk;go_enter func28,ntmps28;go_wp2_with fail;rw[<-dO];clear dO;refine hc.mono ?_;clear hc;rintro e w1 ⟨b1,d1,b2,d2,b3,d3,ps,gp,ms,gm,ts,gt,rfl,hr,e1,e2,e3,bl⟩;clear p0;obtain⟨W2,AU,bb2,x2,-⟩:=iI w1 (dU b1 d1 b2 d2 b3 d3 k) 32;obtain⟨rL,mC,pT,SB,hB,gC,Kt⟩:=H.out;have bd:Below W2.1.size W2 W2.drew:=aK.drew;have bW:=au (au bl bb2) bd;have gO:=mC.2.2;obtain⟨b,jB,DW,ia,pL,tK,dr,PP,YY,YW⟩:=Tm (hr.later (au bb2 bd)) e1 e2 e3 hi u0 u1 u2 u3 t' P (SB.later bW) (show B<=W0.1.size+3 by omega) (fun q hq=>by have:=gC q hq;omega);subst jB;have dY:=And.intro (x2.later bd) (pT.later bW);have HP:Hid (∀q,PP q->q≠w.1.size):=fun q hq e=>by rcases YY q hq with h|h;have:=gC q h;omega;omega
 have jn:(i:Int)<(k.c.length:Int):=by omega
 have r0:=fun j hj=>tK (i*7+j) (by omega)
 have QM:b≠w1.1.size:=fun e=>by have:=pL;have hs:=bl.size;have hc:=(hr.T.blocks (.inl (by rfl:(Value.slice (some ⟨b,0,none⟩) k.c.length d3).ownBlock=some b))).2;omega
 have Zu:b≠w.1.size:=fun e=>by omega
 have KH:=xZ YW (au rL bW) dY.1 (mC.later bW) (show w.1.size<=b by omega) QM Zu (show w.1.size<w1.1.size by have:=bl.size;omega);obtain⟨v0,g0,f0⟩:=r0 0 (by omega);obtain⟨v1,g1,f1⟩:=r0 1 (by omega);obtain⟨v2,g2,f2⟩:=r0 2 (by omega);obtain⟨v3,g3,f3⟩:=r0 3 (by omega);obtain⟨v4,g4,f4⟩:=r0 4 (by omega);obtain⟨v5,g5,f5⟩:=r0 5 (by omega);obtain⟨v6,g6,f6⟩:=r0 6 (by omega);rw[Nat.add_zero]at g0 f0;clear bb2 x2 rL mC pT SB hB gC Kt bd bW gO DW ia pL tK dr YW YY r0 hr e1 e2 e3 bl H QM Zu;go_wp2_with fail;rw[<-AU];clear AU;refine bR 11 (fun X:World=>Bx X w1.1.size (dU b1 d1 b2 d2 (some ⟨b,0,none⟩) d3 k)/\Bx X d [vI k.v,vI k.u,.slice a1 k.f.length c1,.slice a2 k.aa.length c2,.slice a3 k.c.length c3,.bool k.w,vI (i:Int),vI t'.id,vI t'.l,vI t'.o,vI t'.q,.slice u0 t'.a.length u1,.slice u2 t'.ai.length u3,vI t'.az]) (by kernel_rfl) ?_;generalize W2.drew=XD at *;refine eP 0 ?_ rfl ?_ dY ?_;rotate_left
 ·(intro w aA;go_simp;first|done|with_reducible rfl)
 simp only[Act.put];refine eP 1 ?_ rfl ?_ dY ?_;rotate_left
 ·(intro w aA;have q4:=aA.1.1 4 _ rfl;go_simp;first|done|with_reducible rfl|rfl)
 simp only[Act.put];refine eP 2 ?_ rfl ?_ dY ?_;rotate_left
 ·(intro w aA;go_simp;first|done|with_reducible rfl)
 simp only[Act.put];refine eP 3 ?_ rfl ?_ dY ?_;rotate_left
 ·(intro w aA;go_simp;first|done|with_reducible rfl)
 simp only[Act.put];refine eP 4 ?_ rfl ?_ dY ?_;rotate_left
 ·(intro w aA;go_simp;first|done|with_reducible rfl)
 simp only[Act.put];refine eP 5 ?_ rfl ?_ dY ?_;rotate_left
 ·(intro w aA;have q6:=aA.2.1 6 _ rfl;go_simp;first|done|with_reducible rfl|rfl)
 simp only[Act.put];refine eP 6 ?_ rfl ?_ dY ?_;rotate_left
 ·(intro w aA;go_simp;first|done|with_reducible rfl)
 simp only[Act.put];refine eP 7 ?_ rfl ?_ dY ?_;rotate_left
 ·(intro w aA;go_simp;first|done|with_reducible rfl)
 simp only[Act.put];refine eP 8 ?_ rfl ?_ dY ?_;rotate_left
 ·(intro w aA;go_simp;first|done|with_reducible rfl)
 simp only[Act.put];refine eP 9 ?_ rfl ?_ dY ?_;rotate_left
 ·(intro w aA;have q7:=aA.2.1 7 _ rfl;have q8:=aA.2.1 8 _ rfl;have q9:=aA.2.1 9 _ rfl;have r8:=aA.2.1 10 _ rfl;have eJ:=aA.2.1 11 _ rfl;have na:=aA.2.1 12 _ rfl;have sa:=aA.2.1 13 _ rfl;go_simp;first|done|with_reducible rfl|rfl)
 simp only[Act.put];refine ed 10 rfl (fun K hK=>?_);have Oc:=And.intro jn (show 0<=(i:Int) by omega);go_simp;refine hK.out _ _ (fun _=>dY) ?_;clear hK K Oc;refine ed 11 rfl (fun K hK=>?_);obtain⟨Y,hY⟩:=bO (cO XD b (i*7) (iO.cells ⟨u0,u1,u2,u3⟩ t'))
 have KY:Hid (df.Ow Y B b1 d1 b2 d2 (some ⟨b,0,none⟩) d3 (l9 k i t') PP/\Below w.1.size w Y/\Bx Y w1.1.size (dU b1 d1 b2 d2 (some ⟨b,0,none⟩) d3 k)/\Bx Y w.1.size sH):=by
  obtain⟨k1,k2,k3,k4,k5,k6,k7,k8⟩:=KH.out;rw[hY];exact⟨k1,aI (w:=w) k5 _ _ _ k2,k3.aj (aO (fun e=>k6 e.symm) _ _ _) (by rw[aS];exact Nat.le_refl _),k4.aj (aO (fun e=>k7 e.symm) _ _ _) (by rw[aS];exact Nat.le_refl _)⟩
 have z9:=af (KH.out.2.2.2.2.2.2.2);have pH:Y=(((((((XD.setCell ⟨b,i*7,none⟩ (vI t'.id)).setCell ⟨b,i*7+1,none⟩ (vI t'.l)).setCell ⟨b,i*7+2,none⟩ (vI t'.o)).setCell ⟨b,i*7+3,none⟩ (vI t'.q)).setCell ⟨b,i*7+4,none⟩ (.slice u0 t'.a.length u1)).setCell ⟨b,i*7+5,none⟩ (.slice u2 t'.ai.length u3)).setCell ⟨b,i*7+6,none⟩ (vI t'.az)):=by rw[hY];rfl
 have HY:=af pH;clear hY pH KH dY;go_simp;rw[<-HY.out];refine hK.out _ _ (fun h=>absurd rfl h) ?_;clear hK K g0 g1 g2 g3 g4 g5 g6 f0 f1 f2 f3 f4 f5 f6 HY;refine cZ (by kernel_rfl) ?_ _;have o0:=KY.out.2.2.1.c6;have r0:=KY.out.2.2.2.c6;have f0:=KY.out.2.2.2.f6;go_wp2;refine bodyPost_ret (v:=.agg #[vI k.v,vI k.u,.slice b1 k.f.length d1,.slice b2 k.aa.length d2,.slice (some ⟨b,0,none⟩) k.c.length d3,.bool k.w]) (by simp[results,results28,go_sem,r0]) rfl ?_;refine⟨b1,d1,b2,d2,some ⟨b,0,none⟩,d3,PP,by simp[l9],?_,?_⟩
 ·exact KY.out.1.aM (w':=cO Y w.1.size 0 (dU b1 d1 b2 d2 (some ⟨b,0,none⟩) d3 k)) (by rw[aS];exact Nat.le_refl _) (fun q hq=>aO (fun e=>HP.out q hq e) _ _ _)
 ·exact aI (w:=w) aU (dU b1 d1 b2 d2 (some ⟨b,0,none⟩) d3 k) Y 0 KY.out.2.1
end
section
open Go.Proofs.Tryz
variable {k:C6}
theorem lh{y:Int}(h:fK k y=0):aD k=true/\ib k.c y<k.c.length/\II k y=true/\(dm k y).o=1:=by
 have h0:gV k y=0:=by
  by_cases hc:gV k y=0
  ·exact hc
  ·simp only[fK,if_neg hc]at h;exact h
 have hp:(dm k y).o=1:=by
  by_cases hp:(dm k y).o=1
  ·exact hp
  ·simp[fK,h0,hp]at h
 cases hk:aD k with
 | false=>simp[gV,hk]at h0
 | true=>
  by_cases hi:ib k.c y<k.c.length
  ·cases hh:II k y with
   | false=>simp[gV,hk,hi,hh]at h0
   | true=>exact⟨rfl,hi,rfl,hp⟩
  ·simp[gV,hk,hi]at h0
theorem Qc(hk:aD k=true){r s:Int}(h:DU k r s=0):aW 0 5 r=true/\aW 0 5 s=true:=by
 unfold DU at h;split at h
 ·next hh=>
  rw[Bool.and_eq_true]at hh;have h1:=dD.1 hh.1;have:=(UO.of hk).p;exact⟨jq (by omega) (by omega),hh.2⟩
 ·cases h
end
namespace tx
open Go.Proofs.Tryz
variable {n:N5}
theorem Uo{xs:List N5}(h:kS xs n.b n.e=none):kS (oF xs n) n.b n.e=some (xs.take (oz xs n)).length/\G5 (oF xs n) n.b n.e=n:=by
 have h1:kS (xs.take (oz xs n)) n.b n.e=none:=ui.2 fun x hx=>ui.1 h x (List.mem_of_mem_take hx)
 have h2:kS (oF xs n) n.b n.e=some (xs.take (oz xs n)).length:=by
  unfold kS at h1 ⊢;rw[oF,List.append_assoc,List.findIdx?_append,h1];simp[List.findIdx?_cons]
 refine⟨h2,?_⟩;unfold G5;rw[h2]
 have h3:(oF xs n)[(xs.take (oz xs n)).length]?=some n:=by
  rw[oF,List.append_assoc,List.getElem?_append_right aU,Nat.sub_self];rfl
 show aH (oF xs n) _=n
 rw[aH,h3];rfl
theorem J7{t:T7}(h:kS t.a n.b n.e=none)(hb:eT t n=true):(kS (dR t n).a n.b n.e).isSome=true/\G5 (dR t n).a n.b n.e=n/\(dR t n).ai=t.ai:=by
 simp only[eT,Bool.and_eq_true,Bool.or_eq_true,h]at hb;obtain⟨⟨h1,h2⟩,h3⟩:=hb
 have hl:¬t.a.length=12:=by
  rcases h3 with h3|h3
  ·cases h3
  ·simpa using h3
 have e:dR t n=⟨t.id,t.l,t.o,t.q,oF t.a n,t.ai,t.az⟩:=by
  rw[dR,if_pos ⟨h1,h2⟩,if_neg (by rw[h];simp),if_neg hl]
 rw[e];have:=Uo h;exact⟨by rw[this.1];rfl,this.2,rfl⟩
end tx
section
open Go.Proofs.Tryz
theorem Ej(w:World)(a1:OA)(c1:Nat)(a2:OA)(c2:Nat)(a3:OA)(c3:Nat)(k:C6)(i z:Nat)(hl:df.L k)(h:df.Rd w a1 c1 a2 c2 a3 c3 k)(hi:i<k.f.length)(hz:fC (eU k.f i) 0=(z:Int))(vT:z<k.aa.length)(IP:0<(eU k.f i).length):
  Calls prog 93 #[.agg #[vI k.v,vI k.u,.slice a1 k.f.length c1,.slice a2 k.aa.length c2,.slice a3 k.c.length c3,.bool k.w],vI (i:Int)] w fun e w'=>e=.returned (if (bC k.aa z).x then .tuple #[vI (z:Int),vI (zh (bC k.aa z) (i:Int))]else .tuple #[vI (-1),vI (-1)])/\Below w.1.size w w':=by
 have Zv:=hl.p;have la:=hl.m;have xd:=hl.ps _ (List.mem_of_getElem? (gB hi));have Km:=hl.ms _ (List.mem_of_getElem? (iT vT));unfold maxLen at Zv la xd;obtain⟨U,hU⟩:=bO (w.alloc (.cells #[vI k.v,vI k.u,.slice a1 k.f.length c1,.slice a2 k.aa.length c2,.slice a3 k.c.length c3,.bool k.w] 32));have b0:Below w.1.size w U:=by rw[hU];exact aK.alloc aU _
 have FA:Hid (Bx U w.1.size (dU a1 c1 a2 c2 a3 c3 k)):=by unfold Hid;rw[hU];exact Bx.made w (dU a1 c1 a2 c2 a3 c3 k) _
 have HR:=fP (h.later b0) hl b0;clear b0 h hl;have b0:Below U.1.size U U:=aK;obtain⟨_,Vh⟩:=HR.out.1.p;rcases Vh with Vh|⟨b,off,rfl,hb,AX⟩
 ·omega
 obtain⟨a',aZ,pN,fI,kz⟩:=AX i _ (gB hi);obtain⟨_,x8⟩:=fI;rcases x8 with x8|⟨b',di,rfl,fB,h2⟩
 ·omega
 have mi:=h2 0 _ (jh IP);rw[hz]at mi;have x0:=(b0.cell (p:=⟨b,off+i,none⟩) hb).trans pN;have x1:=(b0.cell (p:=⟨b',di,none⟩) fB).trans mi;clear AX pN mi h2;rcases HR.out.1.m with hs|⟨b2,lI,rfl,kU,h1⟩
 ·rw[hs]at vT;simp at vT
 obtain⟨⟨m0,m1,m2,m3,m4,m5⟩,bg,iw⟩:=h1 z _ (iT vT);have e0:=(b0.cell (p:=⟨b2,lI+z*4,none⟩) kU).trans (bg 0 _ rfl);have e1:=(b0.cell (p:=⟨b2,lI+z*4+1,none⟩) kU).trans (bg 1 _ rfl);have e2:=(b0.cell (p:=⟨b2,lI+z*4+2,none⟩) kU).trans (bg 2 _ rfl);have e3:=(b0.cell (p:=⟨b2,lI+z*4+3,none⟩) kU).trans (bg 3 _ rfl);have jo:=Re U m0 m1 m2 m3 m4 m5 (bC k.aa z) (i:Int) Km (iN.later iw b0);have p2:=(FA.out.later b0).1 2 _ rfl;have p3:=(FA.out.later b0).1 3 _ rfl;have i1:(i:Int)<(k.f.length:Int):=by omega
 have i2:(z:Int)<(k.aa.length:Int):=by omega
 have i3:(0:Int)<((eU k.f i).length:Int):=by omega
 clear h1 bg iw Km b0 hz
 cases ha:(bC k.aa z).x with
 | false=>
  rw[ha]at e0;clear jo e1 e2 e3;rw[hU]at p2 p3 x0 x1 e0;go_enter func93,ntmps93;go_wp2;refine bodyPost_ret (v:=.tuple #[vI (-1),vI (-1)]) (by simp[results,results93,go_sem]) rfl ⟨rfl,?_⟩;have:=HR.out.2.2;rw[hU]at this;exact this
 | true=>
  rw[ha]at e0 jo;rw[hU]at p2 p3 x0 x1 e0 e1 e2 e3;go_enter func93,ntmps93;go_wp2_with fail;rw[<-hU];clear hU p2 p3 x0 x1 e0 e1 e2 e3;refine jo.mono ?_;clear jo;rintro e w1 ⟨rfl,b1⟩;have KB:=af (au HR.out.2.2 b1);clear b1;go_wp2;exact bodyPost_ret (v:=.tuple #[vI (z:Int),vI (zh (bC k.aa z) (i:Int))]) (by simp[results,results93,go_sem]) rfl ⟨rfl,KB.out⟩
end
end Go.Proofs.YtbiigfbhhkiodaaGreatDoor
