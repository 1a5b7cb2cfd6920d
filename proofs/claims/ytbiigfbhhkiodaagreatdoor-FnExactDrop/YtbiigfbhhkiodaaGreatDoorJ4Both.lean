import Derived.Test.YtbiigfbhhkiodaaGreatDoorJ3Both
set_option maxHeartbeats 16000000
set_option maxRecDepth 100000
namespace Go.Proofs.YtbiigfbhhkiodaaGreatDoor
open Go.RowKit
open Go.Sort (grow)
namespace tx
open Go.Proofs.Tryz
theorem uH(w:World)(v:TV)(t:T7)(hr:t.a.length<=1048576)(Vi:t.ai.length<=1048576)(h:uA w v t):
  Calls prog 108 #[v.val t] w (YF w t):=by
 obtain⟨ar,cr,ah,ch⟩:=v;simp only[TV.val];obtain⟨W1,fA⟩:=bO (w.alloc (.cells #[vI t.id,vI t.l,vI t.o,vI t.q,.slice ar t.a.length cr,.slice ah t.ai.length ch,vI t.az] 91));have z1:W1.1.size=w.1.size+1:=by rw[fA];simp
 have x1:BT W1 w.1.size ⟨ar,cr,ah,ch⟩ t:=by rw[fA];exact BT.box w ⟨ar,cr,ah,ch⟩ t _
 have b1:Below w.1.size w W1:=by rw[fA];exact aK.alloc aU _
 obtain⟨W,hW⟩:=bO (W1.alloc (.cells #[vI 0,vI 0,vI 0,vI 0,.slice none 0 0,.slice none 0 0,vI 0] 91));have b2:Below W1.1.size W1 W:=by rw[hW];exact aK.alloc aU _
 have yR:BT W (w.1.size+1) ⟨none,0,none,0⟩ ⟨0,0,0,0,[],[],0⟩:=by rw[hW,<-z1];exact BT.zero W1 _
 have sW:W.1.size=w.1.size+2:=by rw[hW];simp[z1]
 have yA:=x1.later b2;have bW:=b1.trans (b2.mono b1.size);have aaa:Below W.1.size W W:=aK;obtain⟨a1,c1,Y1,lY,jG,Im⟩:=Qp (gZ.nil W W.1.size) t.a hr 88 ar cr ((h.later (bW.trans (aaa.mono bW.size))).r) aaa.size;have qN:Below W.1.size W Y1:=aaa.grown Im aaa.size (fun q e=>by cases e);have Py:=yA.later qN;have VE:=yR.later qN;have SH:=Py.L8 a1 c1 t.a;have VF:=VE.dS (p:=⟨w.1.size,4,none⟩) (by dsimp only;omega) (.slice a1 t.a.length c1);have MF:Below w.1.size w (Y1.setCell ⟨w.1.size,4,none⟩ (.slice a1 t.a.length c1)):=(bW.trans (qN.mono bW.size)).setCell (p:=⟨w.1.size,4,none⟩) aU _;have Dm:gZ (Y1.setCell ⟨w.1.size,4,none⟩ (.slice a1 t.a.length c1)) W.1.size (.slice a1 t.a.length c1) t.a:=jG.aM (fun q hq _ _=>Below.heap_setCell _ _ _ _ (by show q≠w.1.size;omega));have Yu:(Y1.setCell ⟨w.1.size,4,none⟩ (.slice a1 t.a.length c1)).1.size=Y1.1.size:=by simp[World.setCell]
 have NH:Below (Y1.setCell ⟨w.1.size,4,none⟩ (.slice a1 t.a.length c1)).1.size (Y1.setCell ⟨w.1.size,4,none⟩ (.slice a1 t.a.length c1)) (Y1.setCell ⟨w.1.size,4,none⟩ (.slice a1 t.a.length c1)):=aK;obtain⟨a2,c2,Y2,oM,uk,Io⟩:=Qq (iJ.nil (Y1.setCell ⟨w.1.size,4,none⟩ (.slice a1 t.a.length c1)) (Y1.setCell ⟨w.1.size,4,none⟩ (.slice a1 t.a.length c1)).1.size) t.ai Vi 89 ah ch ((h.later (MF.trans (NH.mono MF.size))).s) NH.size;have sQ:Below (Y1.setCell ⟨w.1.size,4,none⟩ (.slice a1 t.a.length c1)).1.size (Y1.setCell ⟨w.1.size,4,none⟩ (.slice a1 t.a.length c1)) Y2:=NH.grown Io NH.size (fun q e=>by cases e);have PL:=SH.later sQ;have VG:=VF.later sQ;have od:=PL.Dv a2 c2 t.ai;have VH:=VG.dS (p:=⟨w.1.size,5,none⟩) (by dsimp only;omega) (.slice a2 t.ai.length c2);have nI:Below w.1.size w (Y2.setCell ⟨w.1.size,5,none⟩ (.slice a2 t.ai.length c2)):=(MF.trans (sQ.mono MF.size)).setCell (p:=⟨w.1.size,5,none⟩) aU _;have lX:gZ (Y2.setCell ⟨w.1.size,5,none⟩ (.slice a2 t.ai.length c2)) W.1.size (.slice a1 t.a.length c1) t.a:=(Dm.later sQ).aM (fun q hq _ _=>Below.heap_setCell _ _ _ _ (by show q≠w.1.size;omega));have DZ:W.1.size<=(Y1.setCell ⟨w.1.size,4,none⟩ (.slice a1 t.a.length c1)).1.size:=by rw[Yu];exact qN.size
 have nX:iJ (Y2.setCell ⟨w.1.size,5,none⟩ (.slice a2 t.ai.length c2)) (Y1.setCell ⟨w.1.size,4,none⟩ (.slice a1 t.a.length c1)).1.size (.slice a2 t.ai.length c2) t.ai:=uk.aM (fun q hq _ _=>Below.heap_setCell _ _ _ _ (by show q≠w.1.size;omega));have jA:=VH.put ⟨a1,c1,a2,c2⟩ t;have p4:=yA.c4;have k4:=Py.c4;have GZ:=Py.fz 4;have p5:=(SH.later NH).c5;have k5:=PL.c5;have Vp:=PL.fz 5;dsimp only at p4 k4 p5 k5;obtain⟨o0,o1,o2,o3,o4,o5,o6,-,-⟩:=od;have KR:=VH;have QL:∀q,(Value.slice a1 t.a.length c1).ownBlock=some q->W.1.size<=q/\q<(Y1.setCell ⟨w.1.size,4,none⟩ (.slice a1 t.a.length c1)).1.size:=fun q e=>Dm.lt e
 have KO:OT (Y2.setCell ⟨w.1.size,5,none⟩ (.slice a2 t.ai.length c2)) w.1.size ⟨a1,c1,a2,c2⟩ t (fun q=>(Value.slice a1 t.a.length c1).ownBlock=some q) (fun q=>(Value.slice a2 t.ai.length c2).ownBlock=some q):=by
  obtain⟨_,_,e1,o1⟩:=lX.form;obtain⟨_,_,e2,o2⟩:=nX.form
  cases e1;cases e2;exact⟨o1,o2,fun q h1 h2=>by have:=(QL q h1).2;have:=(nX.lt h2).1;omega,fun q h1=>⟨by have:=(lX.lt h1).1;omega,(lX.lt h1).2⟩,fun q h1=>⟨by have:=(nX.lt h1).1;omega,(nX.lt h1).2⟩⟩
 have KH:Hid (OT (Y2.setCell ⟨w.1.size,5,none⟩ (.slice a2 t.ai.length c2)) w.1.size ⟨a1,c1,a2,c2⟩ t (fun q=>(Value.slice a1 t.a.length c1).ownBlock=some q) (fun q=>(Value.slice a2 t.ai.length c2).ownBlock=some q)/\Below w.1.size w (Y2.setCell ⟨w.1.size,5,none⟩ (.slice a2 t.ai.length c2))/\(∀q,lZ (fun q=>(Value.slice a1 t.a.length c1).ownBlock=some q) (fun q=>(Value.slice a2 t.ai.length c2).ownBlock=some q) q->w.1.size+2<=q)):=⟨KO,nI,fun q hq=>by
  rcases hq with hq|hq
  ·have:=(lX.lt hq).1;omega
  ·have:=(nX.lt hq).1;omega⟩
 simp only[iq]at jA;obtain⟨u0,u1,u2,u3,u4,u5,u6,-,-⟩:=jA;have KX:=dw (show((Y2.setCell ⟨w.1.size,5,none⟩ (.slice a2 t.ai.length c2)).cell? ⟨w.1.size,0,none⟩=some (vI t.id)/\(Y2.setCell ⟨w.1.size,5,none⟩ (.slice a2 t.ai.length c2)).cell? ⟨w.1.size,1,none⟩=some (vI t.l)/\(Y2.setCell ⟨w.1.size,5,none⟩ (.slice a2 t.ai.length c2)).cell? ⟨w.1.size,2,none⟩=some (vI t.o)/\(Y2.setCell ⟨w.1.size,5,none⟩ (.slice a2 t.ai.length c2)).cell? ⟨w.1.size,3,none⟩=some (vI t.q)/\(Y2.setCell ⟨w.1.size,5,none⟩ (.slice a2 t.ai.length c2)).cell? ⟨w.1.size,4,none⟩=some (.slice a1 t.a.length c1)/\(Y2.setCell ⟨w.1.size,5,none⟩ (.slice a2 t.ai.length c2)).cell? ⟨w.1.size,5,none⟩=some (.slice a2 t.ai.length c2)/\(Y2.setCell ⟨w.1.size,5,none⟩ (.slice a2 t.ai.length c2)).cell? ⟨w.1.size,6,none⟩=some (vI t.az))from⟨o0,o1,o2,o3,o4,o5,o6⟩) KR;have KU:=af (And.intro u0 (And.intro u1 (And.intro u2 (And.intro u3 (And.intro u4 (And.intro u5 u6))))));have K1:=af (And.intro k4 (And.intro GZ p5));have K2:=af (And.intro k5 Vp);have R1:=af lY;have R2:=af oM;rw[fA]at hW;have eL:W.1.size=w.1.size+1+1:=by omega
 clear sW;clear fA x1 b1 b2 z1 yA yR bW aaa qN jG Im Py VE SH VF MF Dm NH uk Io sQ PL VG nI lX nX DZ QL h KO KR o0 o1 o2 o3 o4 o5 o6 u0 u1 u2 u3 u4 u5 u6 k4 GZ p5 k5 Vp lY oM;go_enter func108,ntmps108;have r1:=R1.out;have r2:=R2.out;skip;skip;rw[hW]at r1;obtain⟨k4,GZ,p5⟩:=K1.out;obtain⟨k5,Vp⟩:=K2.out;obtain⟨⟨o0,o1,o2,o3,o4,o5,o6⟩,⟨r0,r1',r2',r3,r4,r5,r6,fr,-⟩⟩:=KX.out;have f0:=fr 0;have f1:=fr 1;have f2:=fr 2;have f3:=fr 3;have f4:=fr 4;have f5:=fr 5;have f6:=fr 6;clear fr K1 K2 KX R1 R2 hW p4 Yu eL;go_wp2_with (first|(at_builtin;refine eD _ rfl (.const (.slice none 0 0)) (.tmp 4) 88 rfl _ _ _ _ rfl rfl r1 ?_)|(at_builtin;refine eD _ rfl (.const (.slice none 0 0)) (.tmp 8) 89 rfl _ _ _ _ rfl rfl r2 ?_));obtain⟨u0,u1,u2,u3,u4,u5,u6⟩:=KU.out;refine bodyPost_ret (v:=.agg #[vI t.id,vI t.l,vI t.o,vI t.q,.slice a1 t.a.length c1,.slice a2 t.ai.length c2,vI t.az]) (by simp[results,results108,go_sem,u0,u1,u2,u3,u4,u5,u6]) rfl ?_;obtain⟨ot,bX,q2⟩:=KH.out;refine⟨a1,c1,a2,c2,fun q=>(Value.slice a1 t.a.length c1).ownBlock=some q,fun q=>(Value.slice a2 t.ai.length c2).ownBlock=some q,rfl,?_,?_⟩
 ·exact ot.aM (by simp[World.setCell]) (fun q _ hq=>fu (s:=w.1.size+1) (v:=⟨a1,c1,a2,c2⟩) (t:=t) (by have:=q2 q hq;omega))
 ·exact cz (s:=w.1.size+1) (v:=⟨a1,c1,a2,c2⟩) (t:=t) bX (by omega)
end tx
section
open Go.Proofs.Tryz
theorem NP(w:World)(b off cap:Nat)(zs:List Int)(hb:b<w.1.size)(hs:eY w b off zs)(hn:zs.length<=1000):
  Calls prog 116 #[.slice (some ⟨b,off,none⟩) zs.length cap] w fun e w'=>∃q cp,e=.returned (.slice (some ⟨q,0,none⟩) zs.length cp)/\ON w' w.1.size (.slice (some ⟨q,0,none⟩) zs.length cp) zs/\Below w.1.size w w':=by
 have bA:Below w.1.size w (w.alloc (.cells #[] 2)):=aK.alloc aU _;obtain⟨v',W',hr,ho,hg,hl⟩:=Fu (w.alloc (.cells #[] 2)) w.1.size _ [] zs b off cap 69 (ON.empty w) (hs.below bA hb) (by simp;omega) bA.size;rw[List.nil_append]at ho;have kU:Below w.1.size w W':=bA.grown hg bA.size (fun k h=>by cases h;exact Nat.le_refl _)
 obtain⟨g,cp,rfl⟩:∃g cp,v'=.slice (some ⟨g,0,none⟩) zs.length cp:=by
  rcases ho.form with ⟨rfl,_⟩|⟨g,cp,e,_⟩
  ·rcases hl with h|h<;>cases h
  ·exact⟨g,cp,e⟩
 have HK:=dw ho kU;clear ho hg hl kU bA hs;have heq:=Go.Lib.run_eql_slice_nil w 69 2 (some ⟨b,off,none⟩) zs.length cap 0 0 underlying69;go_enter func116,ntmps116;go_wp2_with (at_builtin;refine eD _ rfl (.tmp 5) (.tmp 6) 69 rfl _ _ _ _ rfl rfl hr ?_);go_ret;exact⟨g,cp,rfl,HK.out.1,HK.out.2⟩
theorem nz(w:World)(a1:OA)(c1:Nat)(a2:OA)(c2:Nat)(a3:OA)(c3:Nat)(k:C6)(hk:aD k=true)(h:df.Rd w a1 c1 a2 c2 a3 c3 k):
  Calls prog 63 #[.agg #[vI k.v,vI k.u,.slice a1 k.f.length c1,.slice a2 k.aa.length c2,.slice a3 k.c.length c3,.bool k.w]] w (UQ w k):=by
 have H:=dw (UO.of hk) h;clear hk h;obtain⟨W0,dO⟩:=bO (((w.alloc (.cells #[vI k.v,vI k.u,.slice a1 k.f.length c1,.slice a2 k.aa.length c2,.slice a3 k.c.length c3,.bool k.w] 32)).alloc (.cells #[vI 0,vI 0,.slice none 0 0,.slice none 0 0,.slice none 0 0,.bool false] 32)).alloc (.cells #[vI k.v,vI k.u,.slice none 0 0,.slice none 0 0,.slice none 0 0,.bool k.w] 32))
 have S0:Hid (EH w (dU a1 c1 a2 c2 a3 c3 k) sH k W0 (.slice none 0 0) (.slice none 0 0) (.slice none 0 0) [] jM [] jM [] jM):=by
  obtain⟨U1,uN,b1,x1,z1⟩:=iI w (dU a1 c1 a2 c2 a3 c3 k) 32;obtain⟨U2,Iq,b2,x2,z2⟩:=iI U1 sH 32;have x3:Bx W0 U2.1.size [vI k.v,vI k.u,.slice none 0 0,.slice none 0 0,.slice none 0 0,.bool k.w]:=by rw[dO,Iq,uN];exact Bx.made _ [vI k.v,vI k.u,.slice none 0 0,.slice none 0 0,.slice none 0 0,.bool k.w] _
  have b3:Below U2.1.size U2 W0:=by rw[dO,Iq,uN];exact aK.alloc aU _
  rw[show U2.1.size=w.1.size+2 by omega]at x3;rw[show U1.1.size=w.1.size+1 by omega]at x2;exact⟨(x1.later b2).later b3,x2.later b3,x3,xe.nil _ _ _,au (au b1 b2) b3⟩
 have p2:=S0.out.arg.1 2 _ rfl;rw[dO]at p2;go_enter func63,ntmps63;go_wp2;rw[<-dO];rw[<-dO]at p2;clear dO p2;go_loopw[21] (fun v wr=>∃(j:Nat) (bP:OA) (dP:Nat) (ps:List ((Nat×Nat)×List Int)) (gp:Nat->Nat->Prop),j<=k.f.length/\v=vI j/\ps.map (·.2)=k.f.take j/\EH w (dU a1 c1 a2 c2 a3 c3 k) sH k wr (.slice bP j dP) (.slice none 0 0) (.slice none 0 0) ps gp [] jM [] jM) (fun v _=>k.f.length-(intOf v).toNat)
 case atStart=>exact⟨0,none,0,[],jM,Nat.zero_le _,rfl,by simp,S0.out⟩
 case round=>
  obtain⟨j,bP,dP,ps,gp,hj,rfl,pK,fq⟩:=hrel;have tH:k.f.length<=1000:=by have:=H.out.1.p;omega
  have p2:=fq.arg.1 2 _ rfl;have p3:=fq.arg.1 3 _ rfl;have p4:=fq.arg.1 4 _ rfl;by_cases aN:j<k.f.length
  ·skip
   have bg:=gB aN;have IE:ps.length=j:=by have:=congrArg List.length pK;simpa[Nat.min_eq_left hj]using this
   have iw:=H.out.2.later fq.uU;obtain⟨_,fI⟩:=iw.p;rcases fI with h0|⟨b,off,rfl,hb,fI⟩
   ·omega
   obtain⟨z0,z1,e0,⟨_,nM⟩,kz⟩:=fI j _ bg;obtain⟨mi,IP⟩:=H.out.1.ps _ (List.mem_of_getElem? bg);rcases nM with h0|⟨zb,zo,rfl,Yp,ZW⟩
   ·omega
   have Sr:=e0;clear fI iw;obtain⟨X0,QB,bX,xX,-⟩:=iI wr [.slice (some ⟨zb,zo,none⟩) (eU k.f j).length z1] 102;have jo:=NP X0.drew zb zo z1 (eU k.f j) (by have:=bX.size;show zb<X0.1.size;omega) (ZW.below (bX.drew) Yp) (by omega);have HS:=af fq;have HX:=dw bX (show wr.1.size+1<=X0.1.size by rw[QB];simp);have HB:=af xX;have HM:=fP pK IE bg;clear fq bX xX pK IE bg ZW Yp kz;go_wp2_with fail;rw[<-QB];clear QB;refine bR 9 (fun X:World=>Bx X (w.1.size+2) [vI k.v,vI k.u,(.slice bP j dP),(.slice none 0 0),(.slice none 0 0),.bool k.w]/\Bx X wr.1.size [.slice (some ⟨zb,zo,none⟩) (eU k.f j).length z1]) (by kernel_rfl) ?_;have dY:(fun X:World=>Bx X (w.1.size+2) [vI k.v,vI k.u,(.slice bP j dP),(.slice none 0 0),(.slice none 0 0),.bool k.w]/\Bx X wr.1.size [.slice (some ⟨zb,zo,none⟩) (eU k.f j).length z1]) X0.drew:=⟨(HS.out.own.later HX.out.1).later aK.drew,(HB.out).later aK.drew⟩
   have HD:Hid (Below wr.1.size wr X0.drew/\X0.1.size<=X0.drew.1.size):=⟨au HX.out.1 aK.drew,Nat.le_refl _⟩
   have qe:=dY.2.2.2;generalize X0.drew=XD at *;refine eP 0 ?_ rfl ?_ dY ?_;rotate_left
   ·(intro w aA;go_simp;first|done|with_reducible rfl)
   simp only[Act.put];refine eP 1 ?_ rfl ?_ dY ?_;rotate_left
   ·(intro w aA;have q:=aA.1.1 2 _ rfl;go_simp;first|done|with_reducible rfl|exact q)
   simp only[Act.put];refine eP 2 ?_ rfl ?_ dY ?_;rotate_left
   ·(intro w aA;go_simp;first|done|with_reducible rfl)
   simp only[Act.put];refine eP 3 ?_ rfl ?_ dY ?_;rotate_left
   ·(intro w aA;have q:=aA.2.1 0 _ rfl;go_simp;first|done|with_reducible rfl|exact q)
   simp only[Act.put];refine ed 4 rfl (fun K hK=>?_);go_simp;refine jo.mono ?_;clear jo;rintro e X2 ⟨q,cp,rfl,ho,b2⟩;have hO:=EI.low ho.kp HD.out.1.size;have Q:=fun x:Nat=>x=q
   have nI:=au HD.out.1 b2;have gN:(fun X:World=>Bx X (w.1.size+2) [vI k.v,vI k.u,(.slice bP j dP),(.slice none 0 0),(.slice none 0 0),.bool k.w]/\Bx X wr.1.size [.slice (some ⟨zb,zo,none⟩) (eU k.f j).length z1]) X2:=⟨dY.1.later b2,dY.2.later b2⟩
   obtain⟨X3,nL,b3,x3,-⟩:=iI X2 [(.slice (some ⟨q,0,none⟩) (eU k.f j).length cp)] 102;have jN:(fun X:World=>Bx X (w.1.size+2) [vI k.v,vI k.u,(.slice bP j dP),(.slice none 0 0),(.slice none 0 0),.bool k.w]/\Bx X wr.1.size [.slice (some ⟨zb,zo,none⟩) (eU k.f j).length z1]) X3:=⟨gN.1.later b3,gN.2.later b3⟩
   obtain⟨v',Y,hr,sJ,kQ,ig,dQ,a',c',rfl⟩:=HS.out.Nj (au nI b3) (q,cp) (eU k.f j) (fun x=>x=q) X2.1.size (by rw[HM.out.2.1];omega) 28 x3.1 (EI.aM hO b3.size (fun q hq=>b3.block q (EI.of hO hq).2));have oO:(fun X:World=>Bx X (w.1.size+2) [vI k.v,vI k.u,(.slice bP j dP),(.slice none 0 0),(.slice none 0 0),.bool k.w]/\Bx X wr.1.size [.slice (some ⟨zb,zo,none⟩) (eU k.f j).length z1]) Y:=⟨kQ,jN.2.aj (ig _ (.inr ⟨by have:=HD.out.1.size;omega,jN.2.2.2⟩)) dQ⟩
   have HE:Hid ((ps++[((q,cp),eU k.f j)]).map (·.2)=k.f.take (j+1)):=by unfold Hid;rw[List.map_append,HM.out.1];exact mM HM.out.2.2
   rw[HM.out.2.1]at hr sJ;have KE:=af sJ;refine hK.out _ _ (fun _=>gN) ?_;clear hK K b2 nI b3 x3 sJ kQ ig dQ hO dY;refine eP 5 ?_ rfl ?_ gN ?_;rotate_left
   ·(intro w aA;go_simp;first|done|with_reducible rfl)
   simp only[Act.put];refine ed 6 rfl (fun K hK=>?_);go_simp;rw[<-nL];refine hK.out _ _ (fun _=>jN) ?_;clear hK K gN;refine ed 7 rfl (fun K hK=>?_);refine bJ _ rfl (.tmp 26) (.tmp 31) 28 rfl _ _ _ _ (by first|rfl|simp[Act.eval,Act.put]) (by first|rfl|simp[Act.eval,Act.put]) hr ?_;refine hK.out _ _ (fun _=>oO) ?_;clear hK K hr jN nL;simp only[Act.put];refine ed 8 rfl (fun K hK=>?_);go_simp;refine hK.out _ _ (fun _=>oO) ?_;clear hK K;refine ed 9 rfl (fun K hK=>?_);have o2:=oO.1.1 2 _ rfl;have dc:=oO.1.2.1 2;go_simp;refine hK.out _ _ (fun h=>absurd rfl h) ?_;clear hK K;refine cZ (by kernel_rfl) ?_ _;go_wp2;exact⟨⟨j+1,a',c',_,_,by omega,by simp,HE.out,KE.out⟩,by simp[intOf];omega⟩
  ·obtain rfl:k.f.length=j:=by omega
   have hd:decide ((k.f.length:Int)<(k.f.length:Int))=false:=by simp
   rw[List.take_length]at pK;have EP:Hid (ps.map (·.2)=k.f):=pK;have S1:=af fq;clear pK fq hj aN tH;go_wp2;clear p2 p3 p4;generalize wr=WP at *;go_loopw[38] (fun v wr=>∃(j:Nat) (bM:OA) (dM:Nat) (ms:List ((MV)×M4)) (gm:Nat->Nat->Prop),j<=k.aa.length/\v=vI j/\ms.map (·.2)=k.aa.take j/\EH w (dU a1 c1 a2 c2 a3 c3 k) sH k wr (.slice bP k.f.length dP) (.slice bM j dM) (.slice none 0 0) ps gp ms gm [] jM) (fun v _=>k.aa.length-(intOf v).toNat)
   case atStart=>exact⟨0,none,0,[],jM,Nat.zero_le _,rfl,by simp,S1.out⟩
   case round=>
    obtain⟨j,bM,dM,ms,gm,hj,rfl,pK,fq⟩:=hrel;have tH:k.aa.length<=1000:=by have:=H.out.1.m;omega
    have p2:=fq.arg.1 2 _ rfl;have p3:=fq.arg.1 3 _ rfl;have p4:=fq.arg.1 4 _ rfl;by_cases aN:j<k.aa.length
    ·skip
     have bg:=iT aN;have IE:ms.length=j:=by have:=congrArg List.length pK;simpa[Nat.min_eq_left hj]using this
     have iw:=H.out.2.later fq.uU;rcases iw.m with h0|⟨b,off,rfl,hb,tJ⟩
     ·rw[h0]at aN;simp at aN
     obtain⟨⟨m0,m1,m2,m3,m4,m5⟩,lu,MO⟩:=tJ j _ bg;have Sr:wr.cell? ⟨b,off+j*4,none⟩=some (.bool (bC k.aa j).x):=lu 0 _ rfl;have Wl:wr.cell? ⟨b,off+j*4+1,none⟩=some (.slice m0 (bC k.aa j).ag.length m1):=lu 1 _ rfl;have Wm:wr.cell? ⟨b,off+j*4+2,none⟩=some (.slice m2 (bC k.aa j).h.length m3):=lu 2 _ rfl;have Wn:wr.cell? ⟨b,off+j*4+3,none⟩=some (.slice m4 (bC k.aa j).ax.length m5):=lu 3 _ rfl;clear tJ iw lu;obtain⟨X0,QB,bX,xX,-⟩:=iI wr [.bool (bC k.aa j).x,.slice m0 (bC k.aa j).ag.length m1,.slice m2 (bC k.aa j).h.length m3,.slice m4 (bC k.aa j).ax.length m5] 87;have jo:=Di X0 ⟨m0,m1,m2,m3,m4,m5⟩ (bC k.aa j) (H.out.1.ms _ (List.mem_of_getElem? bg)) (Ag.later MO bX);simp only[MV.val]at jo;have HS:=af fq;have HX:Hid (Below wr.1.size wr X0/\wr.1.size+1<=X0.1.size):=⟨bX,by rw[QB];simp⟩
     have HB:=af xX;have HM:Hid (ms.map (·.2)=k.aa.take j/\ms.length=j/\k.aa[j]?=some (bC k.aa j)):=⟨pK,IE,bg⟩
     clear fq bX xX pK IE bg MO;go_wp2_with fail;rw[<-QB];clear QB;refine jo.mono ?_;clear jo;rintro e w2 ⟨⟨u0,u1,u2,u3,u4,u5⟩,pp,gk,gr,rfl,mR,b2⟩;obtain⟨X1,pD,b3,xM,-⟩:=iI w2 [.slice u2 (bC k.aa j).h.length u3,.bool (bC k.aa j).x,.slice u0 (bC k.aa j).ag.length u1,.slice u4 (bC k.aa j).ax.length u5] 178;obtain⟨Q,hQ⟩:=MR.ow mR;have py:iN.Ow X1 wr.1.size ⟨u0,u1,u2,u3,u4,u5⟩ (bC k.aa j) Q:=iN.aM (iN.low hQ (by have:=HX.out.2;omega)) b3.size (fun q hq=>b3.block q (iN.of hQ hq).2);have MF:Below wr.1.size wr X1:=au (au HX.out.1 b2) b3;have rv:wr.1.size<w2.1.size:=by have:=HX.out.2;have:=b2.size;omega
     have fm:Hid (Below wr.1.size wr X1/\iN.Ow X1 wr.1.size ⟨u0,u1,u2,u3,u4,u5⟩ (bC k.aa j) Q):=⟨MF,py⟩
     have HB1:Hid (Bx X1 w2.1.size [.slice u2 (bC k.aa j).h.length u3,.bool (bC k.aa j).x,.slice u0 (bC k.aa j).ag.length u1,.slice u4 (bC k.aa j).ax.length u5]):=xM;have jo:=NY X1.drew w2.1.size (bC k.aa j).x u2 (bC k.aa j).h.length u3 u0 (bC k.aa j).ag.length u1 u4 (bC k.aa j).ax.length u5 (xM.1 0 _ rfl) (xM.1 1 _ rfl) (xM.1 2 _ rfl) (xM.1 3 _ rfl) xM.2.2;clear mR b2 b3 xM hQ py MF;go_wp2_with fail;rw[<-pD];clear pD;refine bR 6 (fun X:World=>Bx X (w.1.size+2) [vI k.v,vI k.u,(.slice bP k.f.length dP),(.slice bM j dM),(.slice none 0 0),.bool k.w]/\Bx X w2.1.size [.slice u2 (bC k.aa j).h.length u3,.bool (bC k.aa j).x,.slice u0 (bC k.aa j).ag.length u1,.slice u4 (bC k.aa j).ax.length u5]) (by kernel_rfl) ?_;have dY:(fun X:World=>Bx X (w.1.size+2) [vI k.v,vI k.u,(.slice bP k.f.length dP),(.slice bM j dM),(.slice none 0 0),.bool k.w]/\Bx X w2.1.size [.slice u2 (bC k.aa j).h.length u3,.bool (bC k.aa j).x,.slice u0 (bC k.aa j).ag.length u1,.slice u4 (bC k.aa j).ax.length u5]) X1.drew:=⟨(HS.out.own.later fm.out.1).later aK.drew,(HB1.out).later aK.drew⟩
     have HD:Hid (Below wr.1.size wr X1.drew/\X1.1.size<=X1.drew.1.size):=⟨au fm.out.1 aK.drew,Nat.le_refl _⟩
     have HQ:Hid (iN.Ow X1.drew wr.1.size ⟨u0,u1,u2,u3,u4,u5⟩ (bC k.aa j) Q):=iN.aM fm.out.2 aU (fun q _=>rfl);have qe:w2.1.size<X1.drew.1.size:=dY.2.2.2;generalize X1.drew=XD at *;refine eP 0 ?_ rfl ?_ dY ?_;rotate_left
     ·(intro w aA;go_simp;first|done|with_reducible rfl)
     simp only[Act.put];refine eP 1 ?_ rfl ?_ dY ?_;rotate_left
     ·(intro w aA;have q:=aA.1.1 3 _ rfl;go_simp;first|done|with_reducible rfl|exact q)
     simp only[Act.put];refine ed 2 rfl (fun K hK=>?_);go_simp;refine jo.mono ?_;clear jo;rintro e X2 ⟨rfl,b2⟩;have hO:iN.Ow X2 wr.1.size ⟨u0,u1,u2,u3,u4,u5⟩ (bC k.aa j) Q:=iN.aM HQ.out b2.size (fun q hq=>b2.block q (iN.of HQ.out hq).2);have nI:=au HD.out.1 b2;have gN:(fun X:World=>Bx X (w.1.size+2) [vI k.v,vI k.u,(.slice bP k.f.length dP),(.slice bM j dM),(.slice none 0 0),.bool k.w]/\Bx X w2.1.size [.slice u2 (bC k.aa j).h.length u3,.bool (bC k.aa j).x,.slice u0 (bC k.aa j).ag.length u1,.slice u4 (bC k.aa j).ax.length u5]) X2:=⟨dY.1.later b2,dY.2.later b2⟩
     obtain⟨X3,nL,b3,x3,-⟩:=iI X2 [(.bool (bC k.aa j).x),(.slice u0 (bC k.aa j).ag.length u1),(.slice u2 (bC k.aa j).h.length u3),(.slice u4 (bC k.aa j).ax.length u5)] 87;have jN:(fun X:World=>Bx X (w.1.size+2) [vI k.v,vI k.u,(.slice bP k.f.length dP),(.slice bM j dM),(.slice none 0 0),.bool k.w]/\Bx X w2.1.size [.slice u2 (bC k.aa j).h.length u3,.bool (bC k.aa j).x,.slice u0 (bC k.aa j).ag.length u1,.slice u4 (bC k.aa j).ax.length u5]) X3:=⟨gN.1.later b3,gN.2.later b3⟩
     obtain⟨v',Y,hr,sJ,kQ,ig,dQ,a',c',rfl⟩:=HS.out.Ni (au nI b3) (⟨u0,u1,u2,u3,u4,u5⟩:MV) (bC k.aa j) Q X2.1.size (by rw[HM.out.2.1];omega) 29 x3.1 (iN.aM hO b3.size (fun q hq=>b3.block q (iN.of hO hq).2));have oO:(fun X:World=>Bx X (w.1.size+2) [vI k.v,vI k.u,(.slice bP k.f.length dP),(.slice bM j dM),(.slice none 0 0),.bool k.w]/\Bx X w2.1.size [.slice u2 (bC k.aa j).h.length u3,.bool (bC k.aa j).x,.slice u0 (bC k.aa j).ag.length u1,.slice u4 (bC k.aa j).ax.length u5]) Y:=⟨kQ,jN.2.aj (ig _ (.inr ⟨by have:=HD.out.1.size;omega,jN.2.2.2⟩)) dQ⟩
     have HE:Hid ((ms++[((⟨u0,u1,u2,u3,u4,u5⟩:MV),bC k.aa j)]).map (·.2)=k.aa.take (j+1)):=by unfold Hid;rw[List.map_append,HM.out.1];exact mM HM.out.2.2
     rw[HM.out.2.1]at hr sJ;have KE:=af sJ;refine hK.out _ _ (fun _=>gN) ?_;clear hK K b2 nI b3 x3 sJ kQ ig dQ hO dY;refine ed 3 rfl (fun K hK=>?_);go_simp;rw[<-nL];refine hK.out _ _ (fun _=>jN) ?_;clear hK K gN;refine ed 4 rfl (fun K hK=>?_);refine bJ _ rfl (.tmp 45) (.tmp 47) 29 rfl _ _ _ _ (by first|rfl|simp[Act.eval,Act.put]) (by first|rfl|simp[Act.eval,Act.put]) hr ?_;refine hK.out _ _ (fun _=>oO) ?_;clear hK K hr jN nL;simp only[Act.put];refine ed 5 rfl (fun K hK=>?_);go_simp;refine hK.out _ _ (fun _=>oO) ?_;clear hK K;refine ed 6 rfl (fun K hK=>?_);have o3:=oO.1.1 3 _ rfl;have tM:=oO.1.2.1 3;go_simp;refine hK.out _ _ (fun h=>absurd rfl h) ?_;clear hK K;refine cZ (by kernel_rfl) ?_ _;go_wp2;exact⟨⟨j+1,a',c',_,_,by omega,by simp,HE.out,KE.out⟩,by simp[intOf];omega⟩
    ·obtain rfl:k.aa.length=j:=by omega
     have hd:decide ((k.aa.length:Int)<(k.aa.length:Int))=false:=by simp
     rw[List.take_length]at pK;have EM:Hid (ms.map (·.2)=k.aa):=pK;have S1:=af fq;clear pK fq hj aN tH;go_wp2;clear p2 p3 p4;generalize wr=WM at *;go_loopw[54] (fun v wr=>∃(j:Nat) (bT:OA) (dT:Nat) (ts:List ((tx.TV)×tx.T7)) (gt:Nat->Nat->Prop),j<=k.c.length/\v=vI j/\ts.map (·.2)=k.c.take j/\EH w (dU a1 c1 a2 c2 a3 c3 k) sH k wr (.slice bP k.f.length dP) (.slice bM k.aa.length dM) (.slice bT j dT) ps gp ms gm ts gt) (fun v _=>k.c.length-(intOf v).toNat)
     case atStart=>exact⟨0,none,0,[],jM,Nat.zero_le _,rfl,by simp,S1.out⟩
     case round=>
      obtain⟨j,bT,dT,ts,gt,hj,rfl,pK,fq⟩:=hrel;have tH:k.c.length<=1000:=by have:=H.out.1.t;omega
      have p2:=fq.arg.1 2 _ rfl;have p3:=fq.arg.1 3 _ rfl;have p4:=fq.arg.1 4 _ rfl;by_cases aN:j<k.c.length
      ·skip
       have bg:=gL aN;have IE:ts.length=j:=by have:=congrArg List.length pK;simpa[Nat.min_eq_left hj]using this
       have iw:=H.out.2.later fq.uU;rcases iw.t with h0|⟨b,off,rfl,hb,tJ⟩
       ·rw[h0]at aN;simp at aN
       obtain⟨⟨t0,t1,t2,t3⟩,lu,MO⟩:=tJ j _ bg;have Sr:wr.cell? ⟨b,off+j*7,none⟩=some (vI (bn k.c j).id):=lu 0 _ rfl;have Wl:wr.cell? ⟨b,off+j*7+1,none⟩=some (vI (bn k.c j).l):=lu 1 _ rfl;have Wm:wr.cell? ⟨b,off+j*7+2,none⟩=some (vI (bn k.c j).o):=lu 2 _ rfl;have Wn:wr.cell? ⟨b,off+j*7+3,none⟩=some (vI (bn k.c j).q):=lu 3 _ rfl;have gg:wr.cell? ⟨b,off+j*7+4,none⟩=some (.slice t0 (bn k.c j).a.length t1):=lu 4 _ rfl;have gj:wr.cell? ⟨b,off+j*7+5,none⟩=some (.slice t2 (bn k.c j).ai.length t3):=lu 5 _ rfl;have gn:wr.cell? ⟨b,off+j*7+6,none⟩=some (vI (bn k.c j).az):=lu 6 _ rfl;clear tJ iw lu;obtain⟨X0,QB,bX,xX,-⟩:=iI wr (tx.jJ t0 t1 t2 t3 (bn k.c j)) 91;obtain⟨l1,l2⟩:=H.out.1.ts _ (List.mem_of_getElem? bg);have pn:Below wr.1.size wr X0.drew:=bX.drew;have jo:=tx.uH X0.drew ⟨t0,t1,t2,t3⟩ (bn k.c j) (by omega) (by omega) (tx.uA.later MO pn);simp only[tx.TV.val]at jo;have HS:=af fq;have HX:Hid (Below wr.1.size wr X0/\wr.1.size+1<=X0.1.size):=⟨bX,by rw[QB];simp⟩
       have HB:=af xX;have HM:Hid (ts.map (·.2)=k.c.take j/\ts.length=j/\k.c[j]?=some (bn k.c j)):=⟨pK,IE,bg⟩
       clear fq bX xX pK IE bg MO pn l1 l2;go_wp2_with fail;rw[<-QB];clear QB;refine bR 7 (fun X:World=>Bx X (w.1.size+2) [vI k.v,vI k.u,(.slice bP k.f.length dP),(.slice bM k.aa.length dM),(.slice bT j dT),.bool k.w]/\Bx X wr.1.size (tx.jJ t0 t1 t2 t3 (bn k.c j))) (by kernel_rfl) ?_;have dY:(fun X:World=>Bx X (w.1.size+2) [vI k.v,vI k.u,(.slice bP k.f.length dP),(.slice bM k.aa.length dM),(.slice bT j dT),.bool k.w]/\Bx X wr.1.size (tx.jJ t0 t1 t2 t3 (bn k.c j))) X0.drew:=⟨(HS.out.own.later HX.out.1).later aK.drew,(HB.out).later aK.drew⟩
       have HD:Hid (Below wr.1.size wr X0.drew/\X0.1.size<=X0.drew.1.size):=⟨au HX.out.1 aK.drew,Nat.le_refl _⟩
       have qe:=dY.2.2.2;generalize X0.drew=XD at *;refine eP 0 ?_ rfl ?_ dY ?_;rotate_left
       ·(intro w aA;go_simp;first|done|with_reducible rfl)
       simp only[Act.put];refine eP 1 ?_ rfl ?_ dY ?_;rotate_left
       ·(intro w aA;have q:=aA.1.1 4 _ rfl;go_simp;first|done|with_reducible rfl|exact q)
       simp only[Act.put];refine eP 2 ?_ rfl ?_ dY ?_;rotate_left
       ·(intro w aA;have q0:=aA.2.1 0 _ rfl;have q1:=aA.2.1 1 _ rfl;have q2:=aA.2.1 2 _ rfl;have q3:=aA.2.1 3 _ rfl;have q4:=aA.2.1 4 _ rfl;have q5:=aA.2.1 5 _ rfl;have q6:=aA.2.1 6 _ rfl;go_simp;first|done|rfl)
       simp only[Act.put];refine ed 3 rfl (fun K hK=>?_);go_simp;refine jo.mono ?_;clear jo;rintro e X2 ⟨u0,u1,u2,u3,PR,PS,rfl,ho,b2⟩;simp only[tx.TV.val];have hO:iO.Ow X2 wr.1.size ⟨u0,u1,u2,u3⟩ (bn k.c j) (tx.lZ PR PS):=iO.low (KT.ow ho) HD.out.1.size;have nI:=au HD.out.1 b2;have gN:=And.intro (dY.1.later b2) (dY.2.later b2);obtain⟨X3,nL,b3,x3,-⟩:=iI X2 [(vI (bn k.c j).id),(vI (bn k.c j).l),(vI (bn k.c j).o),(vI (bn k.c j).q),(.slice u0 (bn k.c j).a.length u1),(.slice u2 (bn k.c j).ai.length u3),(vI (bn k.c j).az)] 91;have jN:=And.intro (gN.1.later b3) (gN.2.later b3);obtain⟨v',Y,hr,sJ,kQ,ig,dQ,a',c',rfl⟩:=HS.out.Nk (au nI b3) (⟨u0,u1,u2,u3⟩:tx.TV) (bn k.c j) (tx.lZ PR PS) X2.1.size (by rw[HM.out.2.1];omega) 30 x3.1 (iO.aM hO b3.size (fun q hq=>b3.block q (iO.of hO hq).2));have oO:=And.intro kQ (show Bx Y wr.1.size (tx.jJ t0 t1 t2 t3 (bn k.c j))from jN.2.aj (ig _ (.inr ⟨by have:=HD.out.1.size;omega,jN.2.2.2⟩)) dQ);have HE:Hid ((ts++[((⟨u0,u1,u2,u3⟩:tx.TV),bn k.c j)]).map (·.2)=k.c.take (j+1)):=by unfold Hid;rw[List.map_append,HM.out.1];exact mM HM.out.2.2
       rw[HM.out.2.1]at hr sJ;have KE:=af sJ;refine hK.out _ _ (fun _=>gN) ?_;clear hK K b2 nI b3 x3 sJ kQ ig dQ hO dY;refine ed 4 rfl (fun K hK=>?_);go_simp;rw[<-nL];refine hK.out _ _ (fun _=>jN) ?_;clear hK K gN;refine ed 5 rfl (fun K hK=>?_);refine bJ _ rfl (.tmp 59) (.tmp 62) 30 rfl _ _ _ _ (by first|rfl|simp[Act.eval,Act.put]) (by first|rfl|simp[Act.eval,Act.put]) hr ?_;refine hK.out _ _ (fun _=>oO) ?_;clear hK K hr jN nL;simp only[Act.put];refine ed 6 rfl (fun K hK=>?_);go_simp;refine hK.out _ _ (fun _=>oO) ?_;clear hK K;refine ed 7 rfl (fun K hK=>?_);have o4:=oO.1.1 4 _ rfl;have tP:=oO.1.2.1 4;go_simp;refine hK.out _ _ (fun h=>absurd rfl h) ?_;clear hK K;refine cZ (by kernel_rfl) ?_ _;go_wp2;exact⟨⟨j+1,a',c',_,_,by omega,by simp,HE.out,KE.out⟩,by simp[intOf];omega⟩
      ·obtain rfl:k.c.length=j:=by omega
       have hd:decide ((k.c.length:Int)<(k.c.length:Int))=false:=by simp
       rw[List.take_length]at pK;have ET:=af (pK);have S1:=af fq;clear pK fq hj aN tH;have o0:=S1.out.own.c6;have r0:=S1.out.res.c6;have f0:=S1.out.res.f6;go_wp2;refine bodyPost_ret (v:=.agg #[vI k.v,vI k.u,.slice bP k.f.length dP,.slice bM k.aa.length dM,.slice bT k.c.length dT,.bool k.w]) (by simp[results,results63,go_sem,r0]) rfl ?_;refine⟨bP,dP,bM,dM,bT,dT,ps,gp,ms,gm,ts,gt,rfl,?_,EP.out,EM.out,ET.out,?_⟩
       ·exact S1.out.rows.aM (Y:=cO wr (w.1.size+1) 0 (dU bP dP bM dM bT dT k)) (by rw[aS];exact Nat.le_refl _) (fun q _ hb _=>aO (by omega) _ _ _)
       ·exact aI (w:=w) (by omega) (dU bP dP bM dM bT dT k) wr 0 S1.out.uU
end
namespace tx
open Go.Proofs.Tryz
def eH(f:Nat->Bool)(n:Nat)(i:Int):Prop:=(i=-1/\∀j,j<n->f j=false)\/∃k:Nat,i=(k:Int)/\k<n/\f k=true/\∀j,j<k->f j=false
theorem iC{f:Nat->Bool}{n:Nat}{i:Int}(h:eH f n i):decide (0<=i)=!((List.range n).all fun j=>!f j):=by
 rcases h with ⟨rfl,h⟩|⟨k,rfl,hk,hf,_⟩
 ·have:((List.range n).all fun j=>!f j)=true:=by rw[List.all_eq_true];intro j hj;simp[h j (List.mem_range.1 hj)]
  rw[this];rfl
 ·have:((List.range n).all fun j=>!f j)=false:=by rw[List.all_eq_false];exact⟨k,List.mem_range.2 hk,by simp[hf]⟩
  rw[this];simp
theorem jO(w:World)(x:Int):Calls prog 188 #[vI x] w fun e w'=>e=.returned (.bool (aW 1 1000000 x))/\w'=w:=by
 go_enter func188,ntmps188;go_wp2;all_goals (go_ret;refine⟨dW ?_,rfl⟩;simp[dD];try omega)
theorem iQ(w:World)(x:Int):Calls prog 189 #[vI x] w fun e w'=>e=.returned (.bool (aW 0 7 x))/\w'=w:=by
 go_enter func189,ntmps189;go_wp2;all_goals (go_ret;refine⟨dW ?_,rfl⟩;simp[dD];try omega)
theorem mF(w:World)(x:Int):Calls prog 190 #[vI x] w fun e w'=>e=.returned (.bool (aW 1 9 x))/\w'=w:=by
 go_enter func190,ntmps190;go_wp2;all_goals (go_ret;refine⟨dW ?_,rfl⟩;simp[dD];try omega)
theorem pR(w:World)(x:Int):Calls prog 191 #[vI x] w fun e w'=>e=.returned (.bool (aW 0 1000 x))/\w'=w:=by
 go_enter func191,ntmps191;go_wp2;all_goals (go_ret;refine⟨dW ?_,rfl⟩;simp[dD];try omega)
theorem kX(w:World)(x:Int):Calls prog 175 #[vI x] w fun e w'=>e=.returned (.bool (aW 0 1000000 x))/\w'=w:=by
 go_enter func175,ntmps175;go_wp2;all_goals (go_ret;refine⟨dW ?_,rfl⟩;simp[dD];try omega)
theorem IV(w:World)(x:Int):Calls prog 224 #[vI x] w fun e w'=>e=.returned (.bool (aW 0 1000000 x))/\w'=w:=by
 go_enter func224,ntmps224;go_wp2;all_goals (go_ret;refine⟨dW ?_,rfl⟩;simp[dD];try omega)
theorem Ch(w:World)(s:N5):Calls prog 193 #[.agg #[vI s.b,vI s.e,vI s.i,vI s.g,.bool s.j]] w fun e w'=>e=.returned (.bool (bS s))/\Below w.1.size w w':=by
 obtain⟨r,l,v,u,x⟩:=s;go_enter func193,ntmps193
 cases h1:aW 0 5 r<;>cases h2:aW 0 5 l<;>cases h3:aW 0 1000000 v;all_goals go_wp2_with (first|(go_at_call 224;refine(IV _ _).mono ?_;rintro e w' ⟨rfl,rfl⟩)|(go_at_call 195;refine(gX _ _).mono ?_;rintro e w' ⟨rfl,rfl⟩)|(go_at_call 62;refine(tV _ _).mono ?_;rintro e w' ⟨rfl,rfl⟩)|(go_at_call 40;refine(uF _ _).mono ?_;rintro e w' ⟨rfl,rfl⟩))
 all_goals (go_ret;refine⟨dW ?_,aK.alloc aU _⟩;simp only[bS,h1,h2,h3,Bool.and_true,Bool.and_false,Bool.false_and,Bool.true_and];try simp[dD];try omega)
def rk(r s:Int):Int:=r*6+s
theorem Jr(w:World)(r s:Int)(h1:aW 0 5 r=true)(h2:aW 0 5 s=true):Calls prog 252 #[.agg #[vI r,vI s]] w fun e w'=>e=.returned (vI (rk r s))/\Below w.1.size w w':=by
 rw[dD]at h1 h2;have e1:IntKind.i64.wrap (r*6)=r*6:=by simp[IntKind.wrap,IntKind.bits,IntKind.signed];omega
 have e2:IntKind.i64.wrap (r*6+s)=r*6+s:=by simp[IntKind.wrap,IntKind.bits,IntKind.signed];omega
 go_enter func252,ntmps252;go_wp2;go_ret;exact⟨by simp[rk],aK.alloc aU _⟩
theorem nS{r s q t:Int}(h1:aW 0 5 s=true)(h2:aW 0 5 t=true):jv r s q t=decide (rk r s<rk q t):=by
 rw[dD]at h1 h2;have hk:∀a b,rk a b=a*6+b:=fun _ _=>rfl
 have hd:(r<q\/r=q/\s<t)↔rk r s<rk q t:=by
  rw[hk,hk];constructor
  ·rintro (h|⟨h,h'⟩)<;>omega
  ·intro h;by_cases hr:r<q
   ·exact .inl hr
   ·exact .inr ⟨by omega,by omega⟩
 rw[Bool.eq_iff_iff];simp[jv,hd]
theorem gY(w:World)(s:N5):Calls prog 249 #[.agg #[vI s.b,vI s.e,vI s.i,vI s.g,.bool s.j]] w fun e w'=>e=.returned (.agg #[vI s.b,vI s.e])/\Below w.1.size w w':=by
 obtain⟨f0,f1,f2,f3,f4⟩:=s;go_enter func249,ntmps249;go_wp2;refine bodyPost_ret (v:=.agg #[vI f0,vI f1]) (by simp[results,results249,go_sem]) rfl ⟨rfl,?_⟩;exact(aK.alloc aU _).alloc (by simp) _
theorem qZ(w:World)(s:N5)(h1:aW 0 5 s.b=true)(h2:aW 0 5 s.e=true):Calls prog 220 #[.agg #[vI s.b,vI s.e,vI s.i,vI s.g,.bool s.j]] w fun e w'=>e=.returned (vI (rk s.b s.e))/\Below w.1.size w w':=by
 have b0:Below w.1.size w (w.alloc (.cells #[vI s.b,vI s.e,vI s.i,vI s.g,.bool s.j] 99)):=aK.alloc aU _;have c1:=gY (w.alloc (.cells #[vI s.b,vI s.e,vI s.i,vI s.g,.bool s.j] 99)) s
 have hm:∀w:World,(method 458 99 (.agg #[vI s.b,vI s.e,vI s.i,vI s.g,.bool s.j]) "loop.example/g00153/impl.cell").run prog w=.ok (249,.agg #[vI s.b,vI s.e,vI s.i,vI s.g,.bool s.j]) w:=fun _=>by kernel_rfl
 go_enter func220,ntmps220;go_wp2_with (first|(go_at_call 249;refine c1.mono ?_;rintro e w1 ⟨rfl,b1⟩)|(go_at_call 252;refine(Jr _ _ _ h1 h2).mono ?_;rintro e w2 ⟨rfl,b2⟩));go_ret;exact⟨rfl,b0.trans ((b1.trans (b2.mono b1.size)).mono b0.size)⟩
theorem gF(w:World)(s:S5):Calls prog 157 #[.agg #[vI s.b,vI s.e,vI s.g,.bool s.j,vI s.i]] w fun e w'=>e=.returned (.agg #[vI s.b,vI s.e])/\Below w.1.size w w':=by
 obtain⟨f0,f1,f2,f3,f4⟩:=s;go_enter func157,ntmps157;go_wp2;refine bodyPost_ret (v:=.agg #[vI f0,vI f1]) (by simp[results,results157,go_sem]) rfl ⟨rfl,?_⟩;exact(aK.alloc aU _).alloc (by simp) _
theorem rC(w:World)(s:S5)(h1:aW 0 5 s.b=true)(h2:aW 0 5 s.e=true):Calls prog 228 #[.agg #[vI s.b,vI s.e,vI s.g,.bool s.j,vI s.i]] w fun e w'=>e=.returned (vI (rk s.b s.e))/\Below w.1.size w w':=by
 have b0:Below w.1.size w (w.alloc (.cells #[vI s.b,vI s.e,vI s.g,.bool s.j,vI s.i] 96)):=aK.alloc aU _;have c1:=gF (w.alloc (.cells #[vI s.b,vI s.e,vI s.g,.bool s.j,vI s.i] 96)) s
 have hm:∀w:World,(method 458 96 (.agg #[vI s.b,vI s.e,vI s.g,.bool s.j,vI s.i]) "loop.example/g00153/impl.cell").run prog w=.ok (157,.agg #[vI s.b,vI s.e,vI s.g,.bool s.j,vI s.i]) w:=fun _=>by kernel_rfl
 go_enter func228,ntmps228;go_wp2_with (first|(go_at_call 157;refine c1.mono ?_;rintro e w1 ⟨rfl,b1⟩)|(go_at_call 252;refine(Jr _ _ _ h1 h2).mono ?_;rintro e w2 ⟨rfl,b2⟩));go_ret;exact⟨rfl,b0.trans ((b1.trans (b2.mono b1.size)).mono b0.size)⟩
end tx
namespace tx
open Go.Proofs.Tryz
theorem gI{s:N5}(h:bS s=true):aW 0 5 s.b=true/\aW 0 5 s.e=true:=by simp only[bS,Bool.and_eq_true]at h;exact⟨h.1.1.1,h.1.1.2⟩
theorem Jj(w:World)(s:N5)(g:Nat)(hg:w.cell? ⟨g,0,none⟩=some (.func (.func 193) #[] #[]))(hl:g<w.1.size):Calls prog 221 #[.agg #[vI s.b,vI s.e,vI s.i,vI s.g,.bool s.j],.pointer (some ⟨g,0,none⟩)] w fun e w'=>e=.returned (.bool (!bS s))/\Below w.1.size w w':=by
 obtain⟨W,hW⟩:=bO (w.alloc (.cells #[vI s.b,vI s.e,vI s.i,vI s.g,.bool s.j] 99));have b0:Below w.1.size w W:=by rw[hW];exact aK.alloc aU _
 have d:=(b0.cell (p:=⟨g,0,none⟩) hl).trans hg;have c1:=Ch W s;have KB:=af (b0);clear hg hl b0;rw[hW]at d;go_enter func221,ntmps221;go_wp2_with fail;rw[<-hW];refine c1.mono ?_;clear c1 hW d;rintro e w1 ⟨rfl,b1⟩;go_wp2;go_ret;exact⟨rfl,KB.out.trans (b1.mono KB.out.size)⟩
theorem ab(w:World)(a:OA)(cap:Nat)(xs:List N5)(g:Nat)(hn:xs.length<=maxLen)(hs:ky w w.1.size a xs.length xs)(hg:w.cell? ⟨g,0,none⟩=some (.func (.func 193) #[] #[]))(yQ:g<w.1.size):
  Calls prog 253 #[.slice a xs.length cap,.func (.func 221) #[] #[.pointer (some ⟨g,0,none⟩)]] w fun e w'=>(∃i:Int,e=.returned (vI i)/\eH (fun i=>!bS (aH xs i)) xs.length i)/\Below w.1.size w w':=by
 unfold maxLen at hn;obtain⟨hx,hs⟩:=hs;clear hx;obtain⟨f,hf⟩:∃f:Nat->Bool,f=fun i=>!bS (aH xs i):=⟨_,rfl⟩
 have HF:Hid (∀(X:World) (i:Nat),Below w.1.size w X->Calls prog 221 #[.agg #[vI (aH xs i).b,vI (aH xs i).e,vI (aH xs i).i,vI (aH xs i).g,.bool (aH xs i).j],.pointer (some ⟨g,0,none⟩)] X fun e w'=>e=.returned (.bool (f i))/\Below X.1.size X w'):=fun X i hX=>by
  rw[hf];exact Jj X (aH xs i) g ((hX.cell (p:=⟨g,0,none⟩) yQ).trans hg) (Nat.lt_of_lt_of_le yQ hX.size)
 rw[<-hf];clear hf hg;obtain⟨n,hN⟩:=bO xs.length;rw[<-hN]at hn hs ⊢;have HN:=af (hN);clear hN;go_enter func253,ntmps253;go_wp2;go_loopw[8] (fun v wr=>∃j:Nat,j<=n/\v=vI j/\Below w.1.size w wr/\∀i,i<j->f i=false) (fun v _=>n-(intOf v).toNat)
 case atStart=>exact⟨0,Nat.zero_le _,rfl,aK,fun i h=>absurd h (by omega)⟩
 case round=>
  obtain⟨j,hj,rfl,aB,aQ⟩:=hrel;by_cases aN:j<n
  ·rcases hs with hs|⟨b,off,rfl,hb,h1⟩
   ·omega
   ·obtain⟨c0,c1,c2,c3,c4⟩:=(h1.below aB hb) j _ (fD (by rw[<-HN.out];exact aN));have KA:=dw aQ aB;have hw:=HF.out wr j aB;clear h1 aQ aB
    cases hp:f j with
    | true=>
     rw[hp]at hw;go_wp2_with fail;refine hw.mono ?_;clear hw;rintro e w1 ⟨rfl,b1⟩;go_wp2;go_ret;exact⟨⟨_,rfl,.inr ⟨j,rfl,aN,hp,KA.out.1⟩⟩,KA.out.2.trans (b1.mono KA.out.2.size)⟩
    | false=>
     rw[hp]at hw;go_wp2_with fail;refine hw.mono ?_;clear hw;rintro e w1 ⟨rfl,b1⟩;go_wp2
     exact⟨⟨j+1,by omega,by simp,KA.out.2.trans (b1.mono KA.out.2.size),fun i hi=>by
      by_cases e:i=j
      ·rw[e];exact hp
      ·exact KA.out.1 i (by omega)⟩,by simp[intOf];omega⟩
  ·have:j=n:=by omega
   subst this;have hd:decide ((j:Int)<(j:Int))=false:=by simp
   have KA:=af (aQ);clear hs aQ;go_wp2;go_ret;exact⟨⟨_,rfl,.inl ⟨rfl,KA.out⟩⟩,aB⟩
theorem Z9(w:World)(a:OA)(cap:Nat)(xs:List N5)(g:Nat)(hn:xs.length<=maxLen)(hs:ky w w.1.size a xs.length xs)(hg:w.cell? ⟨g,0,none⟩=some (.func (.func 193) #[] #[]))(yQ:g<w.1.size):
  Calls prog 222 #[.slice a xs.length cap,.func (.func 221) #[] #[.pointer (some ⟨g,0,none⟩)]] w fun e w'=>e=.returned (.bool (!((List.range xs.length).all fun i=>bS (aH xs i))))/\Below w.1.size w w':=by
 have c1:=ab w a cap xs g hn hs hg yQ
 have HE:Hid (∀i:Int,eH (fun i=>!bS (aH xs i)) xs.length i->decide (0<=i)=!((List.range xs.length).all fun i=>bS (aH xs i))):=fun i h=>by
  rw[iC h];simp
 clear hn hs hg yQ;go_enter func222,ntmps222;go_wp2_with fail;refine c1.mono ?_;clear c1;rintro e w1 ⟨⟨i,rfl,hi⟩,b1⟩;have KE:=af (HE.out i hi);clear hi HE;go_wp2;go_ret;exact⟨by rw[<-KE.out];rfl,b1⟩
def Az(xs:List N5)(i:Nat):Bool:=decide (i=0)||decide (rk (aH xs (i-1)).b (aH xs (i-1)).e<rk (aH xs i).b (aH xs i).e)
theorem Jg(w:World)(a:OA)(cap:Nat)(xs:List N5)(hn:xs.length<=maxLen)(hs:ky w w.1.size a xs.length xs)(il:∀i,i<xs.length->bS (aH xs i)=true):
  Calls prog 223 #[.slice a xs.length cap,.func (.func 220) #[] #[]] w fun e w'=>e=.returned (.bool ((List.range xs.length).all (Az xs)))/\Below w.1.size w w':=by
 unfold maxLen at hn;obtain⟨_,hs⟩:=hs;have HO:=af il;clear il;obtain⟨n,hN⟩:=bO xs.length;have HN:=af (hN);rw[<-hN]at hn hs ⊢;clear hN;go_enter func223,ntmps223;go_wp2;go_loopw[5] (fun v wr=>∃j:Nat,(j<=n\/n=0/\j=1)/\0<j/\v=vI j/\Below w.1.size w wr/\(List.range j).all (Az xs)=true) (fun v _=>n-(intOf v).toNat)
 case atStart=>exact⟨1,by omega,by omega,rfl,aK,by simp[Az]⟩
 case round=>
  obtain⟨j,hj,Yl,rfl,aB,aQ⟩:=hrel;by_cases aN:j<n
  ·rcases hs with hs|⟨b,off,rfl,hb,h1⟩
   ·omega
   obtain⟨i,rfl⟩:∃i,j=i+1:=⟨j-1,by omega⟩
   obtain⟨t0,t1,t2,t3,t4⟩:=(h1.below aB hb) (i+1) _ (fD (by rw[<-HN.out];exact aN));obtain⟨u0,u1,u2,u3,u4⟩:=(h1.below aB hb) i _ (fD (by rw[<-HN.out];omega));have sI:=Nat.lt_of_lt_of_le hb aB.size;have lift:∀{o:Nat}{u:Value},wr.cell? ⟨b,o,none⟩=some u->∀d os,(grow (redrawn wr d) os).cell? ⟨b,o,none⟩=some u:=fun {o u} h d os=>((below_regrown wr d os).cell (p:=⟨b,o,none⟩) sI).trans h
   have x0:=lift t0;have x1:=lift t1;have x2:=lift t2;have x3:=lift t3;have x4:=lift t4;have y0:=lift u0;have y1:=lift u1;have y2:=lift u2;have y3:=lift u3;have y4:=lift u4;have k1:=gI (HO.out (i+1) (by rw[<-HN.out];exact aN));have k2:=gI (HO.out i (by rw[<-HN.out];omega));have cA:∀d os,Calls prog 220 #[.agg #[vI (aH xs (i+1)).b,vI (aH xs (i+1)).e,vI (aH xs (i+1)).i,vI (aH xs (i+1)).g,.bool (aH xs (i+1)).j]] (grow (redrawn wr d) os) fun e gH=>e=.returned (vI (rk (aH xs (i+1)).b (aH xs (i+1)).e))/\∃p:Regrown,gH=grow (redrawn wr p.d) p.os:=fun d os=>Calls.regrown_of (qZ _ _ k1.1 k1.2)
   have cB:∀d os,Calls prog 220 #[.agg #[vI (aH xs i).b,vI (aH xs i).e,vI (aH xs i).i,vI (aH xs i).g,.bool (aH xs i).j]] (grow (redrawn wr d) os) fun e gH=>e=.returned (vI (rk (aH xs i).b (aH xs i).e))/\∃p:Regrown,gH=grow (redrawn wr p.d) p.os:=fun d os=>Calls.regrown_of (qZ _ _ k2.1 k2.2)
   have K:=dw aB aQ;have hi:(i:Int)<(n:Int):=by omega
   clear lift t0 t1 t2 t3 t4 u0 u1 u2 u3 u4 k1 k2 h1 aB aQ;have U:Hid (Az xs (i+1)=decide (rk (aH xs i).b (aH xs i).e<rk (aH xs (i+1)).b (aH xs (i+1)).e)):=by unfold Hid;simp[Az]
   have HL:=af (aN);have wb:((i+1:Nat):Int)<(n:Int):=by omega
   clear aN;generalize rk (aH xs (i+1)).b (aH xs (i+1)).e=x at *;generalize rk (aH xs i).b (aH xs i).e=y at *;generalize (aH xs (i+1)).b=a0 at *;generalize (aH xs (i+1)).e=a1 at *;generalize (aH xs (i+1)).g=a2 at *;generalize (aH xs (i+1)).j=a3 at *;generalize (aH xs (i+1)).i=a4 at *;generalize (aH xs i).b=e0 at *;generalize (aH xs i).e=e1 at *;generalize (aH xs i).g=e2 at *;generalize (aH xs i).j=e3 at *;generalize (aH xs i).i=e4 at *;by_cases hq:x<=y
   ·have KU:Hid (Az xs (i+1)=false):=by unfold Hid;rw[U.out];simp;omega
    have dq:decide (x<=y)=true:=by simpa using hq
    clear hq U;go_wp2_with fail;refine gy ?_;repeat (go_big_quiet_step (first|(go_at_call_of 220 (Value.agg #[vI a0,vI a1,vI a4,vI a2,.bool a3]);exact cA _ _)|(go_at_call_of 220 (Value.agg #[vI e0,vI e1,vI e4,vI e2,.bool e3]);exact cB _ _)))
    refine wpQuiet_nil ?_;intro _ tL;obtain⟨⟨jH,bu⟩,jF⟩:=tL;subst jF;have bq:=below_regrown wr jH bu;go_wp2;go_ret;exact⟨by rw[mr HL.out KU.out];rfl,K.out.1.trans (bq.mono K.out.1.size)⟩
   ·have KU:Hid (Az xs (i+1)=true):=by unfold Hid;rw[U.out];simp;omega
    have dq:decide (x<=y)=false:=by simpa using hq
    clear hq U;go_wp2_with fail;refine gy ?_;repeat (go_big_quiet_step (first|(go_at_call_of 220 (Value.agg #[vI a0,vI a1,vI a4,vI a2,.bool a3]);exact cA _ _)|(go_at_call_of 220 (Value.agg #[vI e0,vI e1,vI e4,vI e2,.bool e3]);exact cB _ _)))
    refine wpQuiet_nil ?_;intro _ tL;obtain⟨⟨jH,bu⟩,jF⟩:=tL;subst jF;have bq:=below_regrown wr jH bu;go_wp2;exact⟨⟨i+1+1,.inl HL.out,by omega,by simp,K.out.1.trans (bq.mono K.out.1.size),mD K.out.2 KU.out⟩,by have:=HL.out;simp[intOf];omega⟩
  ·have hd:decide ((j:Int)<(n:Int))=false:=by simp;omega
   have KA:Hid ((List.range n).all (Az xs)=true):=by
    unfold Hid;rw[List.all_eq_true]at aQ ⊢;exact fun x hx=>aQ x (List.mem_range.2 (by have:=List.mem_range.1 hx;omega))
   clear hs aQ;go_wp2;go_ret;exact⟨by rw[KA.out];rfl,aB⟩
theorem Je{xs:List N5}:(List.range xs.length).all (qY xs)=((List.range xs.length).all (fun i=>bS (aH xs i))&&(List.range xs.length).all (Az xs)):=by
 rw[Bool.eq_iff_iff,Bool.and_eq_true,List.all_eq_true,List.all_eq_true,List.all_eq_true];constructor
 ·intro h
  have h1:∀i,i<xs.length->bS (aH xs i)=true:=fun i hi=>by
   have:=h i (List.mem_range.2 hi);simp only[qY,Bool.and_eq_true]at this;exact this.1
  refine⟨fun i hi=>h1 i (List.mem_range.1 hi),fun i hi=>?_⟩;have AV:=List.mem_range.1 hi;have:=h i hi;simp only[qY,Bool.and_eq_true,Bool.or_eq_true,decide_eq_true_eq]at this;simp only[Az,Bool.or_eq_true,decide_eq_true_eq];by_cases e:i=0
  ·exact .inl e
  ·rcases this.2 with e'|e'
   ·exact .inl e'
   ·rw[nS (gI (h1 (i-1) (by omega))).2 (gI (h1 i AV)).2]at e';exact .inr (by simpa using e')
 ·rintro ⟨h1,h2⟩ i hi;have AV:=List.mem_range.1 hi;have g1:=h1 i hi;have g2:=h2 i hi;simp only[Az,Bool.or_eq_true,decide_eq_true_eq]at g2;simp only[qY,Bool.and_eq_true,Bool.or_eq_true,decide_eq_true_eq];refine⟨g1,?_⟩;by_cases e:i=0
  ·exact .inl e
  ·rcases g2 with e'|e'
   ·exact .inl e'
   ·refine .inr ?_;rw[nS (gI (h1 (i-1) (List.mem_range.2 (by omega)))).2 (gI g1).2];simpa using e'
theorem Lm(w:World)(a:OA)(cap:Nat)(xs:List N5)(hn:xs.length<=maxLen)(hs:ky w w.1.size a xs.length xs):
  Calls prog 192 #[.slice a xs.length cap,.func (.func 193) #[] #[]] w fun e w'=>e=.returned (.bool (decide (xs.length<=12)&&(List.range xs.length).all (qY xs)))/\Below w.1.size w w':=by
 obtain⟨W,hW⟩:=bO (w.alloc (.cells #[.func (.func 193) #[] #[]] 200));have b0:Below w.1.size w W:=by rw[hW];exact aK.alloc aU _
 have g0:W.cell? ⟨w.1.size,0,none⟩=some (.func (.func 193) #[] #[]):=by rw[hW];go_simp
 have s0:w.1.size<W.1.size:=by rw[hW];simp
 have c1:=Z9 W a cap xs w.1.size hn (hs.later b0) g0 s0;have H:=fP hs hn b0;have HA:=af (@Je xs);clear hs b0 g0 s0;unfold maxLen at hn;by_cases wJ:xs.length<=12
 case neg=>
  have d12:decide ((xs.length:Int)<=12)=false:=by simp;omega
  have KN:Hid (decide (xs.length<=12)=false):=by unfold Hid;simp;omega
  rw[hW]at H;clear c1 hW wJ;go_enter func192,ntmps192;go_wp2;go_ret;exact⟨by rw[KN.out];rfl,H.out.2.2⟩
 have d12:decide ((xs.length:Int)<=12)=true:=by simp;omega
 have KN:Hid (decide (xs.length<=12)=true):=by unfold Hid;simp;omega
 cases Ir:(List.range xs.length).all (fun i=>bS (aH xs i))with
 | false=>
  rw[Ir]at c1;clear wJ;go_enter func192,ntmps192;go_wp2_with fail;rw[<-hW];clear hW;refine c1.mono ?_;clear c1;rintro e w1 ⟨rfl,b1⟩;go_wp2;go_ret;exact⟨by rw[KN.out,HA.out,Ir];rfl,H.out.2.2.trans (b1.mono H.out.2.2.size)⟩
 | true=>
  rw[Ir]at c1;have HO:Hid (∀i,i<xs.length->bS (aH xs i)=true):=fun i hi=>List.all_eq_true.1 Ir i (List.mem_range.2 hi)
  clear wJ;go_enter func192,ntmps192;go_wp2_with fail;rw[<-hW];clear hW;refine c1.mono ?_;clear c1;rintro e w1 ⟨rfl,b1⟩;have bw:=H.out.2.2.trans (b1.mono H.out.2.2.size);have c2:=Jg w1 a cap xs H.out.2.1 (H.out.1.later bw) HO.out;have KB:=af (bw);clear b1 bw;go_wp2_with fail;refine c2.mono ?_;clear c2;rintro e w2 ⟨rfl,b2⟩;go_wp2;go_ret;exact⟨by rw[KN.out,HA.out,Ir];rfl,KB.out.trans (b2.mono KB.out.size)⟩
theorem fM{s:S5}(h:bK s=true):aW 0 5 s.b=true/\aW 0 5 s.e=true:=by simp only[bK,Bool.and_eq_true]at h;exact⟨h.1.1.1,h.1.1.2⟩
theorem JH(w:World)(s:S5)(g:Nat)(hg:w.cell? ⟨g,0,none⟩=some (.func (.func 156) #[] #[]))(hl:g<w.1.size):Calls prog 225 #[.agg #[vI s.b,vI s.e,vI s.g,.bool s.j,vI s.i],.pointer (some ⟨g,0,none⟩)] w fun e w'=>e=.returned (.bool (!bK s))/\Below w.1.size w w':=by
 obtain⟨W,hW⟩:=bO (w.alloc (.cells #[vI s.b,vI s.e,vI s.g,.bool s.j,vI s.i] 96));have b0:Below w.1.size w W:=by rw[hW];exact aK.alloc aU _
 have d:=(b0.cell (p:=⟨g,0,none⟩) hl).trans hg;have c1:=uE W s;have KB:=af (b0);clear hg hl b0;rw[hW]at d;go_enter func225,ntmps225;go_wp2_with fail;rw[<-hW];refine c1.mono ?_;clear c1 hW d;rintro e w1 ⟨rfl,b1⟩;go_wp2;go_ret;exact⟨rfl,KB.out.trans (b1.mono KB.out.size)⟩
theorem bh(w:World)(a:OA)(cap:Nat)(xs:List S5)(g:Nat)(hn:xs.length<=maxLen)(hs:Sl w w.1.size a xs.length xs)(hg:w.cell? ⟨g,0,none⟩=some (.func (.func 156) #[] #[]))(yQ:g<w.1.size):
  Calls prog 254 #[.slice a xs.length cap,.func (.func 225) #[] #[.pointer (some ⟨g,0,none⟩)]] w fun e w'=>(∃i:Int,e=.returned (vI i)/\eH (fun i=>!bK (aF xs i)) xs.length i)/\Below w.1.size w w':=by
 unfold maxLen at hn;obtain⟨hx,hs⟩:=hs;clear hx;obtain⟨f,hf⟩:∃f:Nat->Bool,f=fun i=>!bK (aF xs i):=⟨_,rfl⟩
 have HF:Hid (∀(X:World) (i:Nat),Below w.1.size w X->Calls prog 225 #[.agg #[vI (aF xs i).b,vI (aF xs i).e,vI (aF xs i).g,.bool (aF xs i).j,vI (aF xs i).i],.pointer (some ⟨g,0,none⟩)] X fun e w'=>e=.returned (.bool (f i))/\Below X.1.size X w'):=fun X i hX=>by
  rw[hf];exact JH X (aF xs i) g ((hX.cell (p:=⟨g,0,none⟩) yQ).trans hg) (Nat.lt_of_lt_of_le yQ hX.size)
 rw[<-hf];clear hf hg;obtain⟨n,hN⟩:=bO xs.length;rw[<-hN]at hn hs ⊢;have HN:=af (hN);clear hN;go_enter func254,ntmps254;go_wp2;go_loopw[8] (fun v wr=>∃j:Nat,j<=n/\v=vI j/\Below w.1.size w wr/\∀i,i<j->f i=false) (fun v _=>n-(intOf v).toNat)
 case atStart=>exact⟨0,Nat.zero_le _,rfl,aK,fun i h=>absurd h (by omega)⟩
 case round=>
  obtain⟨j,hj,rfl,aB,aQ⟩:=hrel;by_cases aN:j<n
  ·rcases hs with hs|⟨b,off,rfl,hb,h1⟩
   ·omega
   ·obtain⟨c0,c1,c2,c3,c4⟩:=(h1.below aB hb) j _ (eX (by rw[<-HN.out];exact aN));have KA:=dw aQ aB;have hw:=HF.out wr j aB;clear h1 aQ aB
    cases hp:f j with
    | true=>
     rw[hp]at hw;go_wp2_with fail;refine hw.mono ?_;clear hw;rintro e w1 ⟨rfl,b1⟩;go_wp2;go_ret;exact⟨⟨_,rfl,.inr ⟨j,rfl,aN,hp,KA.out.1⟩⟩,KA.out.2.trans (b1.mono KA.out.2.size)⟩
    | false=>
     rw[hp]at hw;go_wp2_with fail;refine hw.mono ?_;clear hw;rintro e w1 ⟨rfl,b1⟩;go_wp2
     exact⟨⟨j+1,by omega,by simp,KA.out.2.trans (b1.mono KA.out.2.size),fun i hi=>by
      by_cases e:i=j
      ·rw[e];exact hp
      ·exact KA.out.1 i (by omega)⟩,by simp[intOf];omega⟩
  ·have:j=n:=by omega
   subst this;have hd:decide ((j:Int)<(j:Int))=false:=by simp
   have KA:=af (aQ);clear hs aQ;go_wp2;go_ret;exact⟨⟨_,rfl,.inl ⟨rfl,KA.out⟩⟩,aB⟩
theorem ba(w:World)(a:OA)(cap:Nat)(xs:List S5)(g:Nat)(hn:xs.length<=maxLen)(hs:Sl w w.1.size a xs.length xs)(hg:w.cell? ⟨g,0,none⟩=some (.func (.func 156) #[] #[]))(yQ:g<w.1.size):
  Calls prog 226 #[.slice a xs.length cap,.func (.func 225) #[] #[.pointer (some ⟨g,0,none⟩)]] w fun e w'=>e=.returned (.bool (!((List.range xs.length).all fun i=>bK (aF xs i))))/\Below w.1.size w w':=by
 have c1:=bh w a cap xs g hn hs hg yQ
 have HE:Hid (∀i:Int,eH (fun i=>!bK (aF xs i)) xs.length i->decide (0<=i)=!((List.range xs.length).all fun i=>bK (aF xs i))):=fun i h=>by
  rw[iC h];simp
 clear hn hs hg yQ;go_enter func226,ntmps226;go_wp2_with fail;refine c1.mono ?_;clear c1;rintro e w1 ⟨⟨i,rfl,hi⟩,b1⟩;have KE:=af (HE.out i hi);clear hi HE;go_wp2;go_ret;exact⟨by rw[<-KE.out];rfl,b1⟩
def AB(xs:List S5)(i:Nat):Bool:=decide (i=0)||decide (rk (aF xs (i-1)).b (aF xs (i-1)).e<rk (aF xs i).b (aF xs i).e)
theorem JD(w:World)(a:OA)(cap:Nat)(xs:List S5)(hn:xs.length<=maxLen)(hs:Sl w w.1.size a xs.length xs)(il:∀i,i<xs.length->bK (aF xs i)=true):
  Calls prog 227 #[.slice a xs.length cap,.func (.func 228) #[] #[]] w fun e w'=>e=.returned (.bool ((List.range xs.length).all (AB xs)))/\Below w.1.size w w':=by
 unfold maxLen at hn;obtain⟨_,hs⟩:=hs;have HO:=af il;clear il;obtain⟨n,hN⟩:=bO xs.length;have HN:=af (hN);rw[<-hN]at hn hs ⊢;clear hN;go_enter func227,ntmps227;go_wp2;go_loopw[5] (fun v wr=>∃j:Nat,(j<=n\/n=0/\j=1)/\0<j/\v=vI j/\Below w.1.size w wr/\(List.range j).all (AB xs)=true) (fun v _=>n-(intOf v).toNat)
 case atStart=>exact⟨1,by omega,by omega,rfl,aK,by simp[AB]⟩
 case round=>
  obtain⟨j,hj,Yl,rfl,aB,aQ⟩:=hrel;by_cases aN:j<n
  ·rcases hs with hs|⟨b,off,rfl,hb,h1⟩
   ·omega
   obtain⟨i,rfl⟩:∃i,j=i+1:=⟨j-1,by omega⟩
   obtain⟨t0,t1,t2,t3,t4⟩:=(h1.below aB hb) (i+1) _ (eX (by rw[<-HN.out];exact aN));obtain⟨u0,u1,u2,u3,u4⟩:=(h1.below aB hb) i _ (eX (by rw[<-HN.out];omega));have sI:=Nat.lt_of_lt_of_le hb aB.size;have lift:∀{o:Nat}{u:Value},wr.cell? ⟨b,o,none⟩=some u->∀d os,(grow (redrawn wr d) os).cell? ⟨b,o,none⟩=some u:=fun {o u} h d os=>((below_regrown wr d os).cell (p:=⟨b,o,none⟩) sI).trans h
   have x0:=lift t0;have x1:=lift t1;have x2:=lift t2;have x3:=lift t3;have x4:=lift t4;have y0:=lift u0;have y1:=lift u1;have y2:=lift u2;have y3:=lift u3;have y4:=lift u4;have k1:=fM (HO.out (i+1) (by rw[<-HN.out];exact aN));have k2:=fM (HO.out i (by rw[<-HN.out];omega));have cA:∀d os,Calls prog 228 #[.agg #[vI (aF xs (i+1)).b,vI (aF xs (i+1)).e,vI (aF xs (i+1)).g,.bool (aF xs (i+1)).j,vI (aF xs (i+1)).i]] (grow (redrawn wr d) os) fun e gH=>e=.returned (vI (rk (aF xs (i+1)).b (aF xs (i+1)).e))/\∃p:Regrown,gH=grow (redrawn wr p.d) p.os:=fun d os=>Calls.regrown_of (rC _ _ k1.1 k1.2)
   have cB:∀d os,Calls prog 228 #[.agg #[vI (aF xs i).b,vI (aF xs i).e,vI (aF xs i).g,.bool (aF xs i).j,vI (aF xs i).i]] (grow (redrawn wr d) os) fun e gH=>e=.returned (vI (rk (aF xs i).b (aF xs i).e))/\∃p:Regrown,gH=grow (redrawn wr p.d) p.os:=fun d os=>Calls.regrown_of (rC _ _ k2.1 k2.2)
   have K:=dw aB aQ;have hi:(i:Int)<(n:Int):=by omega
   clear lift t0 t1 t2 t3 t4 u0 u1 u2 u3 u4 k1 k2 h1 aB aQ;have U:Hid (AB xs (i+1)=decide (rk (aF xs i).b (aF xs i).e<rk (aF xs (i+1)).b (aF xs (i+1)).e)):=by unfold Hid;simp[AB]
   have HL:=af (aN);have wb:((i+1:Nat):Int)<(n:Int):=by omega
   clear aN;generalize rk (aF xs (i+1)).b (aF xs (i+1)).e=x at *;generalize rk (aF xs i).b (aF xs i).e=y at *;generalize (aF xs (i+1)).b=a0 at *;generalize (aF xs (i+1)).e=a1 at *;generalize (aF xs (i+1)).g=a2 at *;generalize (aF xs (i+1)).j=a3 at *;generalize (aF xs (i+1)).i=a4 at *;generalize (aF xs i).b=e0 at *;generalize (aF xs i).e=e1 at *;generalize (aF xs i).g=e2 at *;generalize (aF xs i).j=e3 at *;generalize (aF xs i).i=e4 at *;by_cases hq:x<=y
   ·have KU:Hid (AB xs (i+1)=false):=by unfold Hid;rw[U.out];simp;omega
    have dq:decide (x<=y)=true:=by simpa using hq
    clear hq U;go_wp2_with fail;refine gy ?_;repeat (go_big_quiet_step (first|(go_at_call_of 228 (Value.agg #[vI a0,vI a1,vI a2,.bool a3,vI a4]);exact cA _ _)|(go_at_call_of 228 (Value.agg #[vI e0,vI e1,vI e2,.bool e3,vI e4]);exact cB _ _)))
    refine wpQuiet_nil ?_;intro _ tL;obtain⟨⟨jH,bu⟩,jF⟩:=tL;subst jF;have bq:=below_regrown wr jH bu;go_wp2;go_ret;exact⟨by rw[mr HL.out KU.out];rfl,K.out.1.trans (bq.mono K.out.1.size)⟩
   ·have KU:Hid (AB xs (i+1)=true):=by unfold Hid;rw[U.out];simp;omega
    have dq:decide (x<=y)=false:=by simpa using hq
    clear hq U;go_wp2_with fail;refine gy ?_;repeat (go_big_quiet_step (first|(go_at_call_of 228 (Value.agg #[vI a0,vI a1,vI a2,.bool a3,vI a4]);exact cA _ _)|(go_at_call_of 228 (Value.agg #[vI e0,vI e1,vI e2,.bool e3,vI e4]);exact cB _ _)))
    refine wpQuiet_nil ?_;intro _ tL;obtain⟨⟨jH,bu⟩,jF⟩:=tL;subst jF;have bq:=below_regrown wr jH bu;go_wp2;exact⟨⟨i+1+1,.inl HL.out,by omega,by simp,K.out.1.trans (bq.mono K.out.1.size),mD K.out.2 KU.out⟩,by have:=HL.out;simp[intOf];omega⟩
  ·have hd:decide ((j:Int)<(n:Int))=false:=by simp;omega
   have KA:Hid ((List.range n).all (AB xs)=true):=by
    unfold Hid;rw[List.all_eq_true]at aQ ⊢;exact fun x hx=>aQ x (List.mem_range.2 (by have:=List.mem_range.1 hx;omega))
   clear hs aQ;go_wp2;go_ret;exact⟨by rw[KA.out];rfl,aB⟩
theorem JA{xs:List S5}:(List.range xs.length).all (rz xs)=((List.range xs.length).all (fun i=>bK (aF xs i))&&(List.range xs.length).all (AB xs)):=by
 rw[Bool.eq_iff_iff,Bool.and_eq_true,List.all_eq_true,List.all_eq_true,List.all_eq_true];constructor
 ·intro h
  have h1:∀i,i<xs.length->bK (aF xs i)=true:=fun i hi=>by
   have:=h i (List.mem_range.2 hi);simp only[rz,Bool.and_eq_true]at this;exact this.1
  refine⟨fun i hi=>h1 i (List.mem_range.1 hi),fun i hi=>?_⟩;have AV:=List.mem_range.1 hi;have:=h i hi;simp only[rz,Bool.and_eq_true,Bool.or_eq_true,decide_eq_true_eq]at this;simp only[AB,Bool.or_eq_true,decide_eq_true_eq];by_cases e:i=0
  ·exact .inl e
  ·rcases this.2 with e'|e'
   ·exact .inl e'
   ·rw[nS (fM (h1 (i-1) (by omega))).2 (fM (h1 i AV)).2]at e';exact .inr (by simpa using e')
 ·rintro ⟨h1,h2⟩ i hi;have AV:=List.mem_range.1 hi;have g1:=h1 i hi;have g2:=h2 i hi;simp only[AB,Bool.or_eq_true,decide_eq_true_eq]at g2;simp only[rz,Bool.and_eq_true,Bool.or_eq_true,decide_eq_true_eq];refine⟨g1,?_⟩;by_cases e:i=0
  ·exact .inl e
  ·rcases g2 with e'|e'
   ·exact .inl e'
   ·refine .inr ?_;rw[nS (fM (h1 (i-1) (List.mem_range.2 (by omega)))).2 (fM g1).2];simpa using e'
theorem LU(w:World)(a:OA)(cap:Nat)(xs:List S5)(hn:xs.length<=maxLen)(hs:Sl w w.1.size a xs.length xs):
  Calls prog 194 #[.slice a xs.length cap,.func (.func 156) #[] #[]] w fun e w'=>e=.returned (.bool (decide (xs.length<=12)&&(List.range xs.length).all (rz xs)))/\Below w.1.size w w':=by
 obtain⟨W,hW⟩:=bO (w.alloc (.cells #[.func (.func 156) #[] #[]] 146));have b0:Below w.1.size w W:=by rw[hW];exact aK.alloc aU _
 have g0:W.cell? ⟨w.1.size,0,none⟩=some (.func (.func 156) #[] #[]):=by rw[hW];go_simp
 have s0:w.1.size<W.1.size:=by rw[hW];simp
 have c1:=ba W a cap xs w.1.size hn (hs.later b0) g0 s0;have H:=fP hs hn b0;have HA:=af (@JA xs);clear hs b0 g0 s0;unfold maxLen at hn;by_cases wJ:xs.length<=12
 case neg=>
  have d12:decide ((xs.length:Int)<=12)=false:=by simp;omega
  have KN:Hid (decide (xs.length<=12)=false):=by unfold Hid;simp;omega
  rw[hW]at H;clear c1 hW wJ;go_enter func194,ntmps194;go_wp2;go_ret;exact⟨by rw[KN.out];rfl,H.out.2.2⟩
 have d12:decide ((xs.length:Int)<=12)=true:=by simp;omega
 have KN:Hid (decide (xs.length<=12)=true):=by unfold Hid;simp;omega
 cases Ir:(List.range xs.length).all (fun i=>bK (aF xs i))with
 | false=>
  rw[Ir]at c1;clear wJ;go_enter func194,ntmps194;go_wp2_with fail;rw[<-hW];clear hW;refine c1.mono ?_;clear c1;rintro e w1 ⟨rfl,b1⟩;go_wp2;go_ret;exact⟨by rw[KN.out,HA.out,Ir];rfl,H.out.2.2.trans (b1.mono H.out.2.2.size)⟩
 | true=>
  rw[Ir]at c1;have HO:Hid (∀i,i<xs.length->bK (aF xs i)=true):=fun i hi=>List.all_eq_true.1 Ir i (List.mem_range.2 hi)
  clear wJ;go_enter func194,ntmps194;go_wp2_with fail;rw[<-hW];clear hW;refine c1.mono ?_;clear c1;rintro e w1 ⟨rfl,b1⟩;have bw:=H.out.2.2.trans (b1.mono H.out.2.2.size);have c2:=JD w1 a cap xs H.out.2.1 (H.out.1.later bw) HO.out;have KB:=af (bw);clear b1 bw;go_wp2_with fail;refine c2.mono ?_;clear c2;rintro e w2 ⟨rfl,b2⟩;go_wp2;go_ret;exact⟨by rw[KN.out,HA.out,Ir];rfl,KB.out.trans (b2.mono KB.out.size)⟩
end tx
namespace tx
open Go.Proofs.Tryz
theorem qU(w:World)(v:TV)(t:T7)(hl:TL t)(hs:uA w v t):
  Calls prog 155 #[v.val t] w fun e w'=>e=.returned (.bool (kv t))/\Below w.1.size w w':=by
 obtain⟨ar,cr,ah,ch⟩:=v;simp only[TV.val];obtain⟨W,hW⟩:=bO (w.alloc (.cells #[vI t.id,vI t.l,vI t.o,vI t.q,.slice ar t.a.length cr,.slice ah t.ai.length ch,vI t.az] 91));have b0:Below w.1.size w W:=by rw[hW];exact aK.alloc aU _
 have x0:BT W w.1.size ⟨ar,cr,ah,ch⟩ t:=by rw[hW];exact BT.box w ⟨ar,cr,ah,ch⟩ t _
 have H:=fP (hs.later b0) x0 hl;have BW:=af (b0);clear hs b0 x0 hl;by_cases g0:aW 1 1000000 t.id=true
 case neg=>
  have d0:aW 1 1000000 t.id=false:=by simpa using g0
  have hb:kv t=false:=by simp[kv,nP,d0]
  rw[hb];rw[hW]at BW;clear H hW;go_enter func155,ntmps155;go_wp2_with (first|(go_at_call 188;refine(jO _ _).mono ?_;rintro e w' ⟨rfl,rfl⟩)|(go_at_call 189;refine(iQ _ _).mono ?_;rintro e w' ⟨rfl,rfl⟩)|(go_at_call 190;refine(mF _ _).mono ?_;rintro e w' ⟨rfl,rfl⟩)|(go_at_call 191;refine(pR _ _).mono ?_;rintro e w' ⟨rfl,rfl⟩)|(go_at_call 175;refine(kX _ _).mono ?_;rintro e w' ⟨rfl,rfl⟩));go_ret;exact⟨rfl,BW.out⟩
 by_cases g1:aW 0 7 t.l=true
 case neg=>
  have d1:aW 0 7 t.l=false:=by simpa using g1
  have hb:kv t=false:=by simp[kv,nP,d1]
  rw[hb];rw[hW]at BW;clear H hW;go_enter func155,ntmps155;go_wp2_with (first|(go_at_call 188;refine(jO _ _).mono ?_;rintro e w' ⟨rfl,rfl⟩)|(go_at_call 189;refine(iQ _ _).mono ?_;rintro e w' ⟨rfl,rfl⟩)|(go_at_call 190;refine(mF _ _).mono ?_;rintro e w' ⟨rfl,rfl⟩)|(go_at_call 191;refine(pR _ _).mono ?_;rintro e w' ⟨rfl,rfl⟩)|(go_at_call 175;refine(kX _ _).mono ?_;rintro e w' ⟨rfl,rfl⟩));go_ret;exact⟨rfl,BW.out⟩
 by_cases g2:aW 1 9 t.o=true
 case neg=>
  have d2:aW 1 9 t.o=false:=by simpa using g2
  have hb:kv t=false:=by simp[kv,nP,d2]
  rw[hb];rw[hW]at BW;clear H hW;go_enter func155,ntmps155;go_wp2_with (first|(go_at_call 188;refine(jO _ _).mono ?_;rintro e w' ⟨rfl,rfl⟩)|(go_at_call 189;refine(iQ _ _).mono ?_;rintro e w' ⟨rfl,rfl⟩)|(go_at_call 190;refine(mF _ _).mono ?_;rintro e w' ⟨rfl,rfl⟩)|(go_at_call 191;refine(pR _ _).mono ?_;rintro e w' ⟨rfl,rfl⟩)|(go_at_call 175;refine(kX _ _).mono ?_;rintro e w' ⟨rfl,rfl⟩));go_ret;exact⟨rfl,BW.out⟩
 by_cases g3:aW 0 1000 t.q=true
 case neg=>
  have d3:aW 0 1000 t.q=false:=by simpa using g3
  have hb:kv t=false:=by simp[kv,nP,d3]
  rw[hb];rw[hW]at BW;clear H hW;go_enter func155,ntmps155;go_wp2_with (first|(go_at_call 188;refine(jO _ _).mono ?_;rintro e w' ⟨rfl,rfl⟩)|(go_at_call 189;refine(iQ _ _).mono ?_;rintro e w' ⟨rfl,rfl⟩)|(go_at_call 190;refine(mF _ _).mono ?_;rintro e w' ⟨rfl,rfl⟩)|(go_at_call 191;refine(pR _ _).mono ?_;rintro e w' ⟨rfl,rfl⟩)|(go_at_call 175;refine(kX _ _).mono ?_;rintro e w' ⟨rfl,rfl⟩));go_ret;exact⟨rfl,BW.out⟩
 by_cases g4:aW 0 1000000 t.az=true
 case neg=>
  have d4:aW 0 1000000 t.az=false:=by simpa using g4
  have hb:kv t=false:=by simp[kv,nP,d4]
  rw[hb];rw[hW]at BW;clear H hW;go_enter func155,ntmps155;go_wp2_with (first|(go_at_call 188;refine(jO _ _).mono ?_;rintro e w' ⟨rfl,rfl⟩)|(go_at_call 189;refine(iQ _ _).mono ?_;rintro e w' ⟨rfl,rfl⟩)|(go_at_call 190;refine(mF _ _).mono ?_;rintro e w' ⟨rfl,rfl⟩)|(go_at_call 191;refine(pR _ _).mono ?_;rintro e w' ⟨rfl,rfl⟩)|(go_at_call 175;refine(kX _ _).mono ?_;rintro e w' ⟨rfl,rfl⟩));go_ret;exact⟨rfl,BW.out⟩
 have HM:Hid (kv t=((decide (t.a.length<=12)&&(List.range t.a.length).all (qY t.a))&&(decide (t.ai.length<=12)&&(List.range t.ai.length).all (rz t.ai)))):=by
  unfold Hid;simp only[kv,nP,g0,g1,g2,g3,g4,Bool.true_and]
  cases decide (t.a.length<=12)<;>cases decide (t.ai.length<=12)<;>simp
 have c1:=Lm W ar cr t.a H.out.2.2.r H.out.1.r;generalize hR:(decide (t.a.length<=12)&&(List.range t.a.length).all (qY t.a))=R at *;go_enter func155,ntmps155;go_wp2_with (first|(go_at_call 188;refine(jO _ _).mono ?_;rintro e w' ⟨rfl,rfl⟩)|(go_at_call 189;refine(iQ _ _).mono ?_;rintro e w' ⟨rfl,rfl⟩)|(go_at_call 190;refine(mF _ _).mono ?_;rintro e w' ⟨rfl,rfl⟩)|(go_at_call 191;refine(pR _ _).mono ?_;rintro e w' ⟨rfl,rfl⟩)|(go_at_call 175;refine(kX _ _).mono ?_;rintro e w' ⟨rfl,rfl⟩)|fail);rw[<-hW];clear hW g0 g1 g2 g3 g4;refine c1.mono ?_;clear c1;rintro e w1 ⟨rfl,b1⟩;have a5:=(H.out.2.1.later b1).c5;have KB:=af (BW.out.trans (b1.mono BW.out.size));have c2:=LU w1 ah ch t.ai H.out.2.2.s (H.out.1.later b1).s;clear b1
 cases R with
 | false=>
  clear c2;go_wp2;go_ret;exact⟨by rw[HM.out];rfl,KB.out⟩
 | true=>
  go_wp2_with fail;refine c2.mono ?_;clear c2;rintro e w2 ⟨rfl,b2⟩;go_wp2;go_ret;exact⟨by rw[HM.out];rfl,KB.out.trans (b2.mono KB.out.size)⟩
end tx
section
open Go.Proofs.Tryz
variable {P:Program}{Q:Exit->Act->World->Prop}{Z:Nat->Bool}{a:Act}{f i j:Nat}{md:Region.Mode}{o oj:Oper}{ops:Array Oper}{rs:List Nat}{v:Value}{w:World}
def rZ(n:Nat)(Z:Nat->Bool)(L:Array Bool):Bool:=(List.range n).any fun z=>Z z&&L.getD z false
theorem mG{n:Nat}{L:Array Bool}(hz:Z i=false):rZ n Z (L.setIfInBounds i true)=rZ n Z L:=by
 unfold rZ;congr 1;funext z;by_cases e:i=z
 ·subst e;simp[hz]
 ·rw[getD_set_ne false e]
def DL(P:Program)(md:Region.Mode)(ops:Array Oper)(Q:Exit->Act->World->Prop)(S:World->Prop)(Z:Nat->Bool):Nat->Array Bool->Act->World->Prop
 | 0,L,a,w=>Region.ready md ops L=[]/\Q .normal a w
 | f+1,L,a,w=>(Region.ready md ops L=[]->Q .normal a w)/\∀i∈Region.ready md ops L,wpOp P ops Q i (fun a' w'=>(rZ ops.size Z (L.setIfInBounds i true)=false->S w')/\DL P md ops Q S Z f (L.setIfInBounds i true) a' w') a w
theorem Mj{S:World->Prop}:∀(f:Nat) (L:Array Bool) (a:Act) (w:World),DL P md ops Q S Z f L a w->wpAny P md ops Q f L a w:=by
 intro f
 induction f with
 | zero=>exact fun _ _ _ h=>h
 | succ f ih=>exact fun L a w h=>⟨h.1,fun i hi=>wpOp_mono (fun a' w' k=>ih _ a' w' k.2) (h.2 i hi)⟩
def DJ(md:Region.Mode)(ops:Array Oper)(s i:Nat):Bool:=match ops[s]? with
 | some o=>o.after.any fun e=>Region.binds md e&&e.on==i
 | none=>false
theorem Df{L:Array Bool}(hr:i∈Region.ready md ops L)(aQ:∀e∈oj.after,Region.binds md e=true->L.getD e.on false=true)(hj:ops[j]?=some oj)(hw:DJ md ops j i=true):False:=by
 simp only[DJ,hj,Array.any_eq_true,Bool.and_eq_true,beq_iff_eq]at hw;obtain⟨k,hk,hb,he⟩:=hw;have h1:=aQ _ (Array.getElem_mem hk) hb;have h0:=(mem_ready.1 hr).1;rw[he]at h1;rcases Nat.lt_or_ge i L.size with h|h
 ·simp[h]at h0 h1;rw[h0]at h1;cases h1
 ·simp[Array.getElem?_eq_none h]at h1
def waitAll(md:Region.Mode)(ops:Array Oper)(Z:Nat->Bool)(i:Nat):Bool:=(List.range ops.size).all fun z=>!Z z||DJ md ops z i
theorem GQ(h:waitAll md ops Z i=true){z:Nat}(ho:ops[z]?=some o)(hz:Z z=true):DJ md ops z i=true:=by
 have aN:z<ops.size:=by
  rcases Nat.lt_or_ge z ops.size with h|h
  ·exact h
  ·rw[Array.getElem?_eq_none h]at ho;cases ho
 have:=List.all_eq_true.1 h z (List.mem_range.2 aN);simpa[hz]using this
theorem Ru{L:Array Bool}(hr:i∈Region.ready md ops L)(aQ:∀e∈oj.after,Region.binds md e=true->L.getD e.on false=true)(DY:ops[j]?=some oj):∀x∈oj.after,Region.binds md x=true->x.on≠i:=fun x hx hb he=>Df hr aQ DY (by
 simp only[DJ,DY,Array.any_eq_true,Bool.and_eq_true,beq_iff_eq];obtain⟨k,hk,rfl⟩:=Array.getElem_of_mem hx
 exact⟨k,hk,hb,he⟩)
theorem Pt{S:World->Prop}(ho:ops[i]?=some o)(Q0:Z i=false)(hw:waitAll md ops Z i=true)(IK:∀(j:Nat) (o:Oper) cs b,ops[j]?=some o->o.op≠.select cs b)(hQ:∀c a w,Q (.panic c) (a.put o.dst v) w->Q (.panic c) a w):
  ∀(f:Nat) (L:Array Bool) (a:Act) (w:World),rZ ops.size Z L=false->
   (∀j oj,ops[j]?=some oj->j≠i->L.getD j true=false->(∀e∈oj.after,Region.binds md e=true->e.on≠i)->o.apart ops oj=true)->
   i∈Region.ready md ops L->YieldsIf P ops S o v a->S w->DL P md ops Q S Z f (L.setIfInBounds i true) (a.put o.dst v) w->DL P md ops Q S Z (f+1) L a w:=by
 intro f
 induction f with
 | zero=>
  intro L a w hL _ hr hy hS H;refine⟨fun h=>absurd hr (by rw[h];simp),fun j hj=>?_⟩;by_cases e:j=i
  ·rw[e];exact hy.wpOp ho hS ⟨fun _=>hS,H⟩
  ·have:=ready_mono hj e;rw[H.1]at this
   cases this
 | succ f ih=>
  intro L a w hL z8 hr hy hS H;refine⟨fun h=>absurd hr (by rw[h];simp),fun j hj=>?_⟩;by_cases e:j=i
  ·rw[e];exact hy.wpOp ho hS ⟨fun _=>hS,H⟩
  ·obtain⟨Vk,oj,DY,aQ⟩:=mem_ready.1 hj
   have eh:Z j=false:=by
    cases hz:Z j with
    | false=>rfl
    | true=>exact(Df hr aQ DY (GQ hw DY hz)).elim
   have step:=wpOp_putIf DY (z8 j oj DY e Vk (Ru hr aQ DY)) (fun cs b=>IK i o cs b ho) (fun cs b=>IK j oj cs b DY) hQ hy (H.2 j (ready_mono hj e));refine wpOp_mono (fun a' w' k=>?_) step;have YZ:S w':=k.2.1 (by rw[mG eh,mG Q0];exact hL);refine⟨fun _=>YZ,ih _ a' w' (by rw[mG eh];exact hL) (fun x ox hx ZN Vl ZO=>z8 x ox hx ZN ?_ ZO) (ready_mono hr (Ne.symm e)) k.1 YZ ?_⟩
   ·by_cases h:j=x
    ·rw[<-h];exact Vk
    ·rw[getD_set_ne true h]at Vl;exact Vl
   ·rw[Array.setIfInBounds_comm _ _ e];exact k.2.2
theorem Sa{S:World->Prop}(ho:ops[i]?=some o)(Q0:Z i=false)(IK:∀(j:Nat) (o:Oper) cs b,ops[j]?=some o->o.op≠.select cs b)(hQ:∀c a w,Q (.panic c) (a.put o.dst v) w->Q (.panic c) a w):
  ∀(f:Nat) (L:Array Bool) (a:Act) (w:World),
   (∀j oj,ops[j]?=some oj->j≠i->L.getD j true=false->(∀e∈oj.after,Region.binds md e=true->e.on≠i)->o.apart ops oj=true)->
   i∈Region.ready md ops L->YieldsIf P ops (fun _=>True) o v a->(rZ ops.size Z L=false->S w)->DL P md ops Q S Z f (L.setIfInBounds i true) (a.put o.dst v) w->DL P md ops Q S Z (f+1) L a w:=by
 intro f
 induction f with
 | zero=>
  intro L a w _ hr hy hS H;refine⟨fun h=>absurd hr (by rw[h];simp),fun j hj=>?_⟩;by_cases e:j=i
  ·rw[e];exact hy.wpOp ho trivial ⟨fun h=>hS (by rw[<-mG Q0];exact h),H⟩
  ·have:=ready_mono hj e;rw[H.1]at this
   cases this
 | succ f ih=>
  intro L a w z8 hr hy hS H;refine⟨fun h=>absurd hr (by rw[h];simp),fun j hj=>?_⟩;by_cases e:j=i
  ·rw[e];exact hy.wpOp ho trivial ⟨fun h=>hS (by rw[<-mG Q0];exact h),H⟩
  ·obtain⟨Vk,oj,DY,aQ⟩:=mem_ready.1 hj;have step:=wpOp_putIf DY (z8 j oj DY e Vk (Ru hr aQ DY)) (fun cs b=>IK i o cs b ho) (fun cs b=>IK j oj cs b DY) hQ hy (H.2 j (ready_mono hj e));refine wpOp_mono (fun a' w' k=>?_) step;have YZ:rZ ops.size Z (L.setIfInBounds j true)=false->S w':=fun h=>k.2.1 (by rw[Array.setIfInBounds_comm _ _ (Ne.symm e),mG Q0];exact h)
   refine⟨YZ,ih _ a' w' (fun x ox hx ZN Vl ZO=>z8 x ox hx ZN ?_ ZO) (ready_mono hr (Ne.symm e)) k.1 YZ ?_⟩
   ·by_cases h:j=x
    ·rw[<-h];exact Vk
    ·rw[getD_set_ne true h]at Vl;exact Vl
   ·rw[Array.setIfInBounds_comm _ _ e];exact k.2.2
theorem Sb{S:World->Prop}{L:Array Bool}(ho:ops[i]?=some o)(hc:(!Z i&&!rZ ops.size Z L&&waitAll md ops Z i&&Region.noSelect ops&&Region.free md ops L i&&(Region.ready md ops L).contains i)=true)
  (hQ:∀c a w,Q (.panic c) (a.put o.dst v) w->Q (.panic c) a w) (hy:YieldsIf P ops S o v a) (hS:S w) (h:DL P md ops Q S Z f (L.setIfInBounds i true) (a.put o.dst v) w):DL P md ops Q S Z (f+1) L a w:=by
 simp only[Bool.and_eq_true,Bool.not_eq_true']at hc;obtain⟨⟨⟨⟨⟨h0,hl⟩,h1⟩,h2⟩,h3⟩,h4⟩:=hc;exact Pt ho h0 h1 (Region.noSelect_spec h2) hQ f L a w hl (Region.free_spec ho h3) (by simpa using h4) hy hS h
theorem uL{S:World->Prop}{L:Array Bool}(ho:ops[i]?=some o)(hc:(!Z i&&Region.noSelect ops&&Region.free md ops L i&&(Region.ready md ops L).contains i)=true)
  (hQ:∀c a w,Q (.panic c) (a.put o.dst v) w->Q (.panic c) a w) (hy:YieldsIf P ops (fun _=>True) o v a) (hS:S w) (h:DL P md ops Q S Z f (L.setIfInBounds i true) (a.put o.dst v) w):DL P md ops Q S Z (f+1) L a w:=by
 simp only[Bool.and_eq_true,Bool.not_eq_true']at hc;obtain⟨⟨⟨h0,h2⟩,h3⟩,h4⟩:=hc;exact Sa ho h0 (Region.noSelect_spec h2) hQ f L a w (Region.free_spec ho h3) (by simpa using h4) hy (fun _=>hS) h
def gQ(P:Program)(md:Region.Mode)(ops:Array Oper)(Q:Exit->Act->World->Prop)(S:World->Prop)(Z:Nat->Bool)(f:Nat)(L:Array Bool)(a:Act)(w:World)(rs:List Nat):Prop:=
 ∀i∈rs,wpOp P ops Q i (fun a' w'=>(rZ ops.size Z (L.setIfInBounds i true)=false->S w')/\DL P md ops Q S Z f (L.setIfInBounds i true) a' w') a w
theorem gQ.nil{S:World->Prop}{L:Array Bool}:gQ P md ops Q S Z f L a w []:=fun _ h=>by cases h
theorem gQ.cons{S:World->Prop}{L:Array Bool}(ho:ops[i]?=some o)
  (h:∀K':Act->World->Prop,Shut (∀a w,(rZ ops.size Z (L.setIfInBounds i true)=false->S w)->DL P md ops Q S Z f (L.setIfInBounds i true) a w->K' a w)->if Region.wanted o (yielded ops a.tmps)=true then Oper.wp P o a w K' Q else K' (a.put o.dst undef) w)
  (hs:gQ P md ops Q S Z f L a w rs):gQ P md ops Q S Z f L a w (i::rs):=fun j hj=>by
 rcases List.mem_cons.1 hj with rfl|hj
 ·exact wpOp_step ho (fun K' hK=>h K' (fun a w hS hW=>hK a w ⟨hS,hW⟩))
 ·exact hs j hj
theorem fZ{S:World->Prop}{L:Array Bool}(hr:Region.ready md ops L=rs)(eO:rs≠[])(h:gQ P md ops Q S Z f L a w rs):DL P md ops Q S Z (f+1) L a w:=
 ⟨fun h0=>absurd (hr.symm.trans h0) eO,fun i hi=>h i (by rw[<-hr];exact hi)⟩
theorem bH{S:World->Prop}{L:Array Bool}(hr:Region.ready md ops L=[])(h:Q .normal a w)(f:Nat):DL P md ops Q S Z f L a w:=by
 cases f with
 | zero=>exact⟨hr,h⟩
 | succ f=>exact⟨fun _=>h,fun i hi=>by rw[hr]at hi;cases hi⟩
theorem aT{id:Nat}(Z:Nat->Bool)(S:World->Prop)(hm:P.follows .mixedOrders=true)(h:DL P .any ops Q S Z ops.size (Array.replicate ops.size false) a w.drew):(Code.region id ops true).wp P Q a w:=
 wp_region_any hm (Mj _ _ _ _ h)
theorem fU{S:World->Prop}(i:Nat)(v:Value){L:Array Bool}(ho:ops[i]?=some o)(hy:∀w,S w->(execOp a.eval o).run P w=.ok (.value v) w)(hS:S w)(h:DL P md ops Q S Z f (L.setIfInBounds i true) (a.put o.dst v) w)(hc:(!Z i&&!rZ ops.size Z L&&waitAll md ops Z i&&Region.noSelect ops&&Region.free md ops L i&&(Region.ready md ops L).contains i)=true:=by kernel_rfl)(hQ:∀c a w,Q (.panic c) (a.put o.dst v) w->Q (.panic c) a w:=by exact fun _ _ _ h=>h)(hw:Region.wanted o (yielded ops a.tmps)=true:=by rfl):DL P md ops Q S Z (f+1) L a w:=Sb ho hc hQ (Or.inl ⟨hw,hy⟩) hS h
theorem Nr{S:World->Prop}(i:Nat)(v:Value){L:Array Bool}(ho:ops[i]?=some o)(hy:∀w,True->(execOp a.eval o).run P w=.ok (.value v) w)(hS:S w)(h:DL P md ops Q S Z f (L.setIfInBounds i true) (a.put o.dst v) w)(hc:(!Z i&&Region.noSelect ops&&Region.free md ops L i&&(Region.ready md ops L).contains i)=true:=by kernel_rfl)(hQ:∀c a w,Q (.panic c) (a.put o.dst v) w->Q (.panic c) a w:=by exact fun _ _ _ h=>h)(hw:Region.wanted o (yielded ops a.tmps)=true:=by rfl):DL P md ops Q S Z (f+1) L a w:=uL ho hc hQ (Or.inl ⟨hw,hy⟩) hS h
theorem bG{S:World->Prop}(i:Nat){L:Array Bool}(ho:ops[i]?=some o)(h:∀K':Act->World->Prop,Shut (∀a w,(rZ ops.size Z (L.setIfInBounds i true)=false->S w)->DL P md ops Q S Z f (L.setIfInBounds i true) a w->K' a w)->if Region.wanted o (yielded ops a.tmps)=true then Oper.wp P o a w K' Q else K' (a.put o.dst undef) w)(hr:Region.ready md ops L=[i]:=by kernel_rfl):DL P md ops Q S Z (f+1) L a w:=fZ hr (by simp) (gQ.cons ho h gQ.nil)
theorem bf{S:World->Prop}(i:Nat){L:Array Bool}(ho:ops[i]?=some o)(hS:S w)(h:DL P md ops Q S Z f (L.setIfInBounds i true) (a.put o.dst v) w)(hy:∀w,True->(execOp a.eval o).run P w=.ok (.value v) w:=by(intro w _;go_simp;first|done|with_reducible rfl|(rw[if_pos (by omega)])|(rw[if_pos (by omega)];go_simp)))(hc:(!Z i&&Region.noSelect ops&&Region.free md ops L i&&(Region.ready md ops L).contains i)=true:=by kernel_rfl)(hQ:∀c a w,Q (.panic c) (a.put o.dst v) w->Q (.panic c) a w:=by exact fun _ _ _ h=>h)(hw:Region.wanted o (yielded ops a.tmps)=true:=by rfl):DL P md ops Q S Z (f+1) L a w:=uL ho hc hQ (Or.inl ⟨hw,hy⟩) hS h
end
section
open Go.Proofs.Tryz
theorem Rp(w:World)(s:tx.N5)(g n:Nat)(hg:w.cell? ⟨g,0,none⟩=some (vI (n:Int)))(yQ:g<w.1.size):Calls prog 267 #[.agg #[vI s.b,vI s.e,vI s.i,vI s.g,.bool s.j],.pointer (some ⟨g,0,none⟩)] w fun e w'=>e=.returned (.bool (decide ((n:Int)<=s.b)))/\Below w.1.size w w':=by
 obtain⟨wr,hW⟩:=bO (w.alloc (.cells #[vI s.b,vI s.e,vI s.i,vI s.g,.bool s.j] 99));have b0:Below w.1.size w wr:=by rw[hW];exact aK.alloc aU _
 have FX:Hid (Bx wr w.1.size [vI s.b,vI s.e,vI s.i,vI s.g,.bool s.j]):=by rw[hW];exact Bx.made w [vI s.b,vI s.e,vI s.i,vI s.g,.bool s.j] _
 have hm:∀w:World,(method 458 99 (.agg #[vI s.b,vI s.e,vI s.i,vI s.g,.bool s.j]) "loop.example/g00153/impl.cell").run prog w=.ok (249,.agg #[vI s.b,vI s.e,vI s.i,vI s.g,.bool s.j]) w:=fun _=>by kernel_rfl
 have TE:∀X:World,(Instr.field 56 (.agg #[vI s.b,vI s.e]) 0).run prog X=.ok (vI s.b) X:=fun _=>by kernel_rfl
 have SF:Hid (∀X,Below wr.1.size wr X->(fun X:World=>Bx X w.1.size [vI s.b,vI s.e,vI s.i,vI s.g,.bool s.j]/\X.cell? ⟨g,0,none⟩=some (vI (n:Int))) X):=fun X hX=>⟨FX.out.later hX,((au b0 hX).cell (p:=⟨g,0,none⟩) yQ).trans hg⟩
 have KB:=af b0;clear b0 hg yQ;go_enter func267,ntmps267;go_wp2_with fail;rw[<-hW];clear hW;have bd:Below wr.1.size wr wr.drew:=aK.drew;have hS:=SF.out _ bd;refine aT (fun z=>z==6) (fun X:World=>Bx X w.1.size [vI s.b,vI s.e,vI s.i,vI s.g,.bool s.j]/\X.cell? ⟨g,0,none⟩=some (vI (n:Int))) (by kernel_rfl) ?_;generalize wr.drew=Wd at *;refine fU 0 ?_ rfl ?_ hS ?_;rotate_left
 ·(intro X aA;have c0:=aA.1.1 0 _ rfl;have c1:=aA.1.1 1 _ rfl;have c2:=aA.1.1 2 _ rfl;have c3:=aA.1.1 3 _ rfl;have c4:=aA.1.1 4 _ rfl;go_simp;first|done|with_reducible rfl)
 simp only[Act.put];refine fU 4 ?_ rfl ?_ hS ?_;rotate_left
 ·(intro X aA;have c5:=aA.2;go_simp;first|done|with_reducible rfl)
 simp only[Act.put];refine bf 1 rfl hS ?_;simp only[Act.put];refine bG 2 rfl (fun K hK=>?_);go_simp;refine(tx.gY Wd s).mono ?_;rintro e X2 ⟨rfl,b2⟩;have bX:=au bd b2;refine hK.out _ _ (fun _=>SF.out _ bX) ?_;clear hK K;have hS:=SF.out _ bX;refine bf 3 rfl hS ?_;simp only[Act.put];refine bf 5 rfl hS ?_;simp only[Act.put];refine bG 6 rfl (fun K hK=>?_);go_simp;refine hK.out _ _ (fun h=>absurd (show false=true from h.symm.trans (by kernel_rfl)) (by decide)) ?_;clear hK K;refine bH (by kernel_rfl) ?_ _;go_wp2;go_ret;exact⟨rfl,au KB.out bX⟩
theorem Jf(w:World)(a:OA)(cap:Nat)(xs:List tx.N5)(g n:Nat)(hn:xs.length<=maxLen)(hs:tx.ky w w.1.size a xs.length xs)(hg:w.cell? ⟨g,0,none⟩=some (vI (n:Int)))(yQ:g<w.1.size):
  Calls prog 253 #[.slice a xs.length cap,.func (.func 267) #[] #[.pointer (some ⟨g,0,none⟩)]] w fun e w'=>(∃i:Int,e=.returned (vI i)/\eH (fun i=>decide ((n:Int)<=(tx.aH xs i).b)) xs.length i)/\Below w.1.size w w':=by
 unfold maxLen at hn;obtain⟨_,hs⟩:=hs;obtain⟨f,hf⟩:∃f:Nat->Bool,f=fun i=>decide ((n:Int)<=(tx.aH xs i).b):=⟨_,rfl⟩
 have HF:Hid (∀(X:World) (i:Nat),Below w.1.size w X->Calls prog 267 #[.agg #[vI (tx.aH xs i).b,vI (tx.aH xs i).e,vI (tx.aH xs i).i,vI (tx.aH xs i).g,.bool (tx.aH xs i).j],.pointer (some ⟨g,0,none⟩)] X fun e w'=>e=.returned (.bool (f i))/\Below X.1.size X w'):=fun X i hX=>by
  rw[hf];exact Rp X (tx.aH xs i) g n ((hX.cell (p:=⟨g,0,none⟩) yQ).trans hg) (Nat.lt_of_lt_of_le yQ hX.size)
 rw[<-hf];clear hf hg;go_enter func253,ntmps253;go_wp2;go_loopw[8] (fun v wr=>∃j:Nat,j<=xs.length/\v=vI j/\Below w.1.size w wr/\∀i,i<j->f i=false) (fun v _=>xs.length-(intOf v).toNat)
 case atStart=>exact⟨0,Nat.zero_le _,rfl,aK,fun i h=>absurd h (by omega)⟩
 case round=>
  obtain⟨j,hj,rfl,aB,aQ⟩:=hrel;by_cases aN:j<xs.length
  ·rcases hs with hs|⟨b,off,rfl,hb,h1⟩
   ·omega
   ·obtain⟨c0,c1,c2,c3,c4⟩:=(h1.below aB hb) j _ (tx.fD aN);have KA:=dw aQ aB;have hw:=HF.out wr j aB;have jn:(j:Int)<(xs.length:Int):=by omega
    clear h1 aQ aB
    cases hp:f j with
    | true=>
     rw[hp]at hw;go_wp2_with fail;refine hw.mono ?_;clear hw;rintro e w1 ⟨rfl,b1⟩;go_wp2;go_ret;exact⟨⟨_,rfl,.inr ⟨j,rfl,aN,hp,KA.out.1⟩⟩,KA.out.2.trans (b1.mono KA.out.2.size)⟩
    | false=>
     rw[hp]at hw;go_wp2_with fail;refine hw.mono ?_;clear hw;rintro e w1 ⟨rfl,b1⟩;go_wp2
     exact⟨⟨j+1,by omega,by simp,KA.out.2.trans (b1.mono KA.out.2.size),fun i hi=>by
      by_cases e:i=j
      ·rw[e];exact hp
      ·exact KA.out.1 i (by omega)⟩,by simp[intOf];omega⟩
  ·obtain rfl:j=xs.length:=by omega
   have hd:decide ((xs.length:Int)<(xs.length:Int))=false:=by simp
   have KA:=dw aQ aB;clear hs aQ aB;go_wp2;go_ret;exact⟨⟨_,rfl,.inl ⟨rfl,KA.out.1⟩⟩,KA.out.2⟩
theorem Rv(w:World)(a:OA)(cap:Nat)(xs:List tx.N5)(n:Nat)(hn:xs.length<=maxLen)(hs:tx.ky w w.1.size a xs.length xs):
  Calls prog 237 #[.slice a xs.length cap,vI (n:Int)] w fun e w'=>e=.returned (.bool (lW n xs))/\Below w.1.size w w':=by
 obtain⟨W,hW⟩:=bO (w.alloc (.cells #[vI (n:Int)] 3));have b0:Below w.1.size w W:=by rw[hW];exact aK.alloc aU _
 have g0:W.cell? ⟨w.1.size,0,none⟩=some (vI (n:Int)):=by rw[hW];go_simp
 have gl:w.1.size<W.1.size:=by rw[hW];simp
 have c1:=Jf W a cap xs w.1.size n hn ((hs.below b0).mono b0.size) g0 gl
 have HE:Hid (∀i:Int,eH (fun i=>decide ((n:Int)<=(tx.aH xs i).b)) xs.length i->(!decide (0<=i))=lW n xs):=fun i h=>by
  rw[iC h,lW];simp only[Bool.not_not];congr 1;funext j;rw[Bool.eq_iff_iff];simp
 have KB:=af b0;clear b0 g0 gl hs hn
 have Zh:Calls prog 222 #[.slice a xs.length cap,.func (.func 267) #[] #[.pointer (some ⟨w.1.size,0,none⟩)]] W fun e w'=>e=.returned (.bool (!lW n xs))/\Below W.1.size W w':=by
  clear hW KB;go_enter func222,ntmps222;go_wp2_with fail;refine c1.mono ?_;clear c1;rintro e w1 ⟨⟨i,rfl,hi⟩,b1⟩;have KE:=af (HE.out i hi);have K1:=af b1;clear hi HE b1;go_wp2;go_ret;exact⟨by rw[<-KE.out];simp,K1.out⟩
 clear c1 HE;go_enter func237,ntmps237;go_wp2_with fail;rw[<-hW];clear hW;refine Zh.mono ?_;clear Zh;rintro e w1 ⟨rfl,b1⟩;have K1:=af b1;clear b1;go_wp2;go_ret;exact⟨by simp,au KB.out K1.out⟩
theorem RN(w:World)(s:S5)(g n:Nat)(hg:w.cell? ⟨g,0,none⟩=some (vI (n:Int)))(yQ:g<w.1.size):Calls prog 268 #[.agg #[vI s.b,vI s.e,vI s.g,.bool s.j,vI s.i],.pointer (some ⟨g,0,none⟩)] w fun e w'=>e=.returned (.bool (decide ((n:Int)<=s.b)))/\Below w.1.size w w':=by
 obtain⟨wr,hW⟩:=bO (w.alloc (.cells #[vI s.b,vI s.e,vI s.g,.bool s.j,vI s.i] 96));have b0:Below w.1.size w wr:=by rw[hW];exact aK.alloc aU _
 have FX:Hid (Bx wr w.1.size [vI s.b,vI s.e,vI s.g,.bool s.j,vI s.i]):=by rw[hW];exact Bx.made w [vI s.b,vI s.e,vI s.g,.bool s.j,vI s.i] _
 have hm:∀w:World,(method 458 96 (.agg #[vI s.b,vI s.e,vI s.g,.bool s.j,vI s.i]) "loop.example/g00153/impl.cell").run prog w=.ok (157,.agg #[vI s.b,vI s.e,vI s.g,.bool s.j,vI s.i]) w:=fun _=>by kernel_rfl
 have TE:∀X:World,(Instr.field 56 (.agg #[vI s.b,vI s.e]) 0).run prog X=.ok (vI s.b) X:=fun _=>by kernel_rfl
 have SF:Hid (∀X,Below wr.1.size wr X->(fun X:World=>Bx X w.1.size [vI s.b,vI s.e,vI s.g,.bool s.j,vI s.i]/\X.cell? ⟨g,0,none⟩=some (vI (n:Int))) X):=fun X hX=>⟨FX.out.later hX,((au b0 hX).cell (p:=⟨g,0,none⟩) yQ).trans hg⟩
 have KB:=af b0;clear b0 hg yQ;go_enter func268,ntmps268;go_wp2_with fail;rw[<-hW];clear hW;have bd:Below wr.1.size wr wr.drew:=aK.drew;have hS:=SF.out _ bd;refine aT (fun z=>z==6) (fun X:World=>Bx X w.1.size [vI s.b,vI s.e,vI s.g,.bool s.j,vI s.i]/\X.cell? ⟨g,0,none⟩=some (vI (n:Int))) (by kernel_rfl) ?_;generalize wr.drew=Wd at *;refine fU 0 ?_ rfl ?_ hS ?_;rotate_left
 ·(intro X aA;have c0:=aA.1.1 0 _ rfl;have c1:=aA.1.1 1 _ rfl;have c2:=aA.1.1 2 _ rfl;have c3:=aA.1.1 3 _ rfl;have c4:=aA.1.1 4 _ rfl;go_simp;first|done|with_reducible rfl)
 simp only[Act.put];refine fU 4 ?_ rfl ?_ hS ?_;rotate_left
 ·(intro X aA;have c5:=aA.2;go_simp;first|done|with_reducible rfl)
 simp only[Act.put];refine bf 1 rfl hS ?_;simp only[Act.put];refine bG 2 rfl (fun K hK=>?_);go_simp;refine(tx.gF Wd s).mono ?_;rintro e X2 ⟨rfl,b2⟩;have bX:=au bd b2;refine hK.out _ _ (fun _=>SF.out _ bX) ?_;clear hK K;have hS:=SF.out _ bX;refine bf 3 rfl hS ?_;simp only[Act.put];refine bf 5 rfl hS ?_;simp only[Act.put];refine bG 6 rfl (fun K hK=>?_);go_simp;refine hK.out _ _ (fun h=>absurd (show false=true from h.symm.trans (by kernel_rfl)) (by decide)) ?_;clear hK K;refine bH (by kernel_rfl) ?_ _;go_wp2;go_ret;exact⟨rfl,au KB.out bX⟩
theorem JB(w:World)(a:OA)(cap:Nat)(xs:List S5)(g n:Nat)(hn:xs.length<=maxLen)(hs:tx.Sl w w.1.size a xs.length xs)(hg:w.cell? ⟨g,0,none⟩=some (vI (n:Int)))(yQ:g<w.1.size):
  Calls prog 254 #[.slice a xs.length cap,.func (.func 268) #[] #[.pointer (some ⟨g,0,none⟩)]] w fun e w'=>(∃i:Int,e=.returned (vI i)/\eH (fun i=>decide ((n:Int)<=(tx.aF xs i).b)) xs.length i)/\Below w.1.size w w':=by
 unfold maxLen at hn;obtain⟨_,hs⟩:=hs;obtain⟨f,hf⟩:∃f:Nat->Bool,f=fun i=>decide ((n:Int)<=(tx.aF xs i).b):=⟨_,rfl⟩
 have HF:Hid (∀(X:World) (i:Nat),Below w.1.size w X->Calls prog 268 #[.agg #[vI (tx.aF xs i).b,vI (tx.aF xs i).e,vI (tx.aF xs i).g,.bool (tx.aF xs i).j,vI (tx.aF xs i).i],.pointer (some ⟨g,0,none⟩)] X fun e w'=>e=.returned (.bool (f i))/\Below X.1.size X w'):=fun X i hX=>by
  rw[hf];exact RN X (tx.aF xs i) g n ((hX.cell (p:=⟨g,0,none⟩) yQ).trans hg) (Nat.lt_of_lt_of_le yQ hX.size)
 rw[<-hf];clear hf hg;go_enter func254,ntmps254;go_wp2;go_loopw[8] (fun v wr=>∃j:Nat,j<=xs.length/\v=vI j/\Below w.1.size w wr/\∀i,i<j->f i=false) (fun v _=>xs.length-(intOf v).toNat)
 case atStart=>exact⟨0,Nat.zero_le _,rfl,aK,fun i h=>absurd h (by omega)⟩
 case round=>
  obtain⟨j,hj,rfl,aB,aQ⟩:=hrel;by_cases aN:j<xs.length
  ·rcases hs with hs|⟨b,off,rfl,hb,h1⟩
   ·omega
   ·obtain⟨c0,c1,c2,c3,c4⟩:=(h1.below aB hb) j _ (tx.eX aN);have KA:=dw aQ aB;have hw:=HF.out wr j aB;have jn:(j:Int)<(xs.length:Int):=by omega
    clear h1 aQ aB
    cases hp:f j with
    | true=>
     rw[hp]at hw;go_wp2_with fail;refine hw.mono ?_;clear hw;rintro e w1 ⟨rfl,b1⟩;go_wp2;go_ret;exact⟨⟨_,rfl,.inr ⟨j,rfl,aN,hp,KA.out.1⟩⟩,KA.out.2.trans (b1.mono KA.out.2.size)⟩
    | false=>
     rw[hp]at hw;go_wp2_with fail;refine hw.mono ?_;clear hw;rintro e w1 ⟨rfl,b1⟩;go_wp2
     exact⟨⟨j+1,by omega,by simp,KA.out.2.trans (b1.mono KA.out.2.size),fun i hi=>by
      by_cases e:i=j
      ·rw[e];exact hp
      ·exact KA.out.1 i (by omega)⟩,by simp[intOf];omega⟩
  ·obtain rfl:j=xs.length:=by omega
   have hd:decide ((xs.length:Int)<(xs.length:Int))=false:=by simp
   have KA:=dw aQ aB;clear hs aQ aB;go_wp2;go_ret;exact⟨⟨_,rfl,.inl ⟨rfl,KA.out.1⟩⟩,KA.out.2⟩
theorem RP(w:World)(a:OA)(cap:Nat)(xs:List S5)(n:Nat)(hn:xs.length<=maxLen)(hs:tx.Sl w w.1.size a xs.length xs):
  Calls prog 238 #[.slice a xs.length cap,vI (n:Int)] w fun e w'=>e=.returned (.bool (qd n xs))/\Below w.1.size w w':=by
 obtain⟨W,hW⟩:=bO (w.alloc (.cells #[vI (n:Int)] 3));have b0:Below w.1.size w W:=by rw[hW];exact aK.alloc aU _
 have g0:W.cell? ⟨w.1.size,0,none⟩=some (vI (n:Int)):=by rw[hW];go_simp
 have gl:w.1.size<W.1.size:=by rw[hW];simp
 have c1:=JB W a cap xs w.1.size n hn ((hs.below b0).mono b0.size) g0 gl
 have HE:Hid (∀i:Int,eH (fun i=>decide ((n:Int)<=(tx.aF xs i).b)) xs.length i->(!decide (0<=i))=qd n xs):=fun i h=>by
  rw[iC h,qd];simp only[Bool.not_not];congr 1;funext j;rw[Bool.eq_iff_iff];simp
 have KB:=af b0;clear b0 g0 gl hs hn
 have Zh:Calls prog 226 #[.slice a xs.length cap,.func (.func 268) #[] #[.pointer (some ⟨w.1.size,0,none⟩)]] W fun e w'=>e=.returned (.bool (!qd n xs))/\Below W.1.size W w':=by
  clear hW KB;go_enter func226,ntmps226;go_wp2_with fail;refine c1.mono ?_;clear c1;rintro e w1 ⟨⟨i,rfl,hi⟩,b1⟩;have KE:=af (HE.out i hi);have K1:=af b1;clear hi HE b1;go_wp2;go_ret;exact⟨by rw[<-KE.out];simp,K1.out⟩
 clear c1 HE;go_enter func238,ntmps238;go_wp2_with fail;rw[<-hW];clear hW;refine Zh.mono ?_;clear Zh;rintro e w1 ⟨rfl,b1⟩;have K1:=af b1;clear b1;go_wp2;go_ret;exact⟨by simp,au KB.out K1.out⟩
end
section
open Go.Proofs.Tryz
def oC(k:C6)(t:tx.T7):Bool:=tx.kv t&&decide (t.l<(k.aa.length:Int))&&decide (t.az<=k.u)&&lW k.f.length t.a&&qd k.f.length t.ai
theorem Mh(w:World)(t0:OA)(t1:Nat)(t2:OA)(t3:Nat)(t:tx.T7)(a1:OA)(c1:Nat)(a2:OA)(c2:Nat)(a3:OA)(c3:Nat)(k:C6)(hl:tx.TL t)(h:tx.uA w ⟨t0,t1,t2,t3⟩ t):Calls prog 207 #[.agg #[vI t.id,vI t.l,vI t.o,vI t.q,.slice t0 t.a.length t1,.slice t2 t.ai.length t3,vI t.az],.agg #[vI k.v,vI k.u,.slice a1 k.f.length c1,.slice a2 k.aa.length c2,.slice a3 k.c.length c3,.bool k.w]] w fun e w'=>e=.returned (.bool (oC k t))/\Below w.1.size w w':=by
 obtain⟨U0,kN,b0,x0,z0⟩:=iI w (tx.jJ t0 t1 t2 t3 t) 91;obtain⟨U,hU,b1,x1,-⟩:=iI U0 (dU a1 c1 a2 c2 a3 c3 k) 32;rw[z0]at x1;have bU:=au b0 b1;have FA:=af (x0.later b1);have FB:=af (x1);have HR:=fP (h.later bU) hl bU;have hc:=tx.qU U ⟨t0,t1,t2,t3⟩ t hl (h.later bU);simp only[tx.TV.val]at hc;rw[kN]at hU;clear b0 x0 z0 b1 x1 bU kN h hl;go_enter func207,ntmps207;go_wp2_with fail;rw[<-hU];clear hU;refine hc.mono ?_;clear hc;rintro e w1 ⟨rfl,b1⟩;have B1:=af b1;clear b1
 cases hB:tx.kv t with
 | false=>
  have hb:Hid (oC k t=false):=by unfold Hid;simp[oC,hB]
  go_wp2;go_ret;exact⟨by rw[hb.out];rfl,au HR.out.2.2 B1.out⟩
 | true=>
 have q1:=(FA.out.later B1.out).1 1 _ rfl;have q6:=(FA.out.later B1.out).1 6 _ rfl;have q4:=(FA.out.later B1.out).1 4 _ rfl;have r1:=(FB.out.later B1.out).1 1 _ rfl;have r2:=(FB.out.later B1.out).1 2 _ rfl;have r3:=(FB.out.later B1.out).1 3 _ rfl;by_cases gh:t.l<(k.aa.length:Int)
 case neg=>
  have dh:decide ((k.aa.length:Int)<=t.l)=true:=by simp<;>omega
  have hb:Hid (oC k t=false):=by unfold Hid;simp[oC,gh]
  go_wp2;go_ret;exact⟨by rw[hb.out];rfl,au HR.out.2.2 B1.out⟩
 have dh:decide ((k.aa.length:Int)<=t.l)=false:=by simp<;>omega
 by_cases gs:t.az<=k.u
 case neg=>
  have ds:decide (k.u<t.az)=true:=by simp<;>omega
  have hb:Hid (oC k t=false):=by unfold Hid;simp[oC,gs]
  go_wp2;go_ret;exact⟨by rw[hb.out];rfl,au HR.out.2.2 B1.out⟩
 have ds:decide (k.u<t.az)=false:=by simp<;>omega
 have HY:Hid (oC k t=(lW k.f.length t.a&&qd k.f.length t.ai)):=by unfold Hid;simp[oC,hB,gh,gs]
 have hc:=Rv w1 t0 t1 t.a k.f.length HR.out.2.1.r (HR.out.1.later B1.out).r;clear gh gs;go_wp2_with fail;refine hc.mono ?_;clear hc q1 q6 q4 r1 r2 r3 dh ds;rintro e w2 ⟨rfl,b2⟩;have B2:=af (au B1.out b2);clear b2
 cases hR:lW k.f.length t.a with
 | false=>
  have hb:Hid (oC k t=false):=by unfold Hid;rw[HY.out,hR];rfl
  go_wp2;go_ret;exact⟨by rw[hb.out];rfl,au HR.out.2.2 B2.out⟩
 | true=>
 have q5:=(FA.out.later B2.out).1 5 _ rfl;have r2:=(FB.out.later B2.out).1 2 _ rfl;have hc:=RP w2 t2 t3 t.ai k.f.length HR.out.2.1.s (HR.out.1.later B2.out).s;have HZ:Hid (oC k t=qd k.f.length t.ai):=by unfold Hid;rw[HY.out,hR];rfl
 go_wp2_with fail;refine hc.mono ?_;clear hc q5 r2;rintro e w3 ⟨rfl,b3⟩;have B3:=af (au B2.out b3);clear b3;go_wp2;go_ret;exact⟨by rw[HZ.out];simp,au HR.out.2.2 B3.out⟩
theorem UJ(w:World)(g:Nat)(t0:OA)(t1:Nat)(t2:OA)(t3:Nat)(t:tx.T7)(a1:OA)(c1:Nat)(a2:OA)(c2:Nat)(a3:OA)(c3:Nat)(k:C6)(hl:tx.TL t)(h:tx.uA w ⟨t0,t1,t2,t3⟩ t)(hg:Bx w g (dU a1 c1 a2 c2 a3 c3 k)):Calls prog 206 #[.agg #[vI t.id,vI t.l,vI t.o,vI t.q,.slice t0 t.a.length t1,.slice t2 t.ai.length t3,vI t.az],.pointer (some ⟨g,0,none⟩)] w fun e w'=>e=.returned (.bool (!oC k t))/\Below w.1.size w w':=by
 obtain⟨U,hU⟩:=bO (w.alloc (.cells #[vI t.id,vI t.l,vI t.o,vI t.q,.slice t0 t.a.length t1,.slice t2 t.ai.length t3,vI t.az] 91));have b0:Below w.1.size w U:=by rw[hU];exact aK.alloc aU _
 have hc:=Mh U t0 t1 t2 t3 t a1 c1 a2 c2 a3 c3 k hl (h.later b0);have hx:=hg.later b0;have p0:=hx.c6;have KB:=af b0;rw[hU]at p0;clear b0 hx hg h hl;go_enter func206,ntmps206;go_wp2_with fail;rw[<-hU];clear hU p0;refine hc.mono ?_;clear hc;rintro e w1 ⟨rfl,b1⟩;have B1:=af b1;clear b1;go_wp2;go_ret;exact⟨rfl,au KB.out B1.out⟩
theorem IQ(w:World)(t0:OA)(t1:Nat)(t2:OA)(t3:Nat)(t:tx.T7):Calls prog 209 #[.agg #[vI t.id,vI t.l,vI t.o,vI t.q,.slice t0 t.a.length t1,.slice t2 t.ai.length t3,vI t.az]] w fun e w'=>e=.returned (vI t.id)/\Below w.1.size w w':=by
 go_enter func209,ntmps209;go_wp2;go_ret;exact⟨rfl,aK.alloc aU _⟩
def JY(ts:List tx.T7)(i:Nat):Bool:=decide (i=0)||decide ((bn ts (i-1)).id<(bn ts i).id)
theorem kG{A X Y:World}(h:Below A.1.size A X)(b:Below X.1.size X Y):Below A.1.size A Y:=au h b
theorem LQ(w:World)(a:OA)(cap:Nat)(ts:List tx.T7)(hn:ts.length<=maxLen)(hs:iO.vG w a ts):
  Calls prog 208 #[.slice a ts.length cap,.func (.func 209) #[] #[]] w fun e w'=>e=.returned (.bool ((List.range ts.length).all (JY ts)))/\Below w.1.size w w':=by
 unfold maxLen at hn;go_enter func208,ntmps208;go_wp2;go_loopw[5] (fun i wr=>∃j:Nat,(j+1<=ts.length\/j=0)/\i=vI (((j+1:Nat)):Int)/\Below w.1.size w wr/\(List.range (j+1)).all (JY ts)=true) (fun i _=>ts.length-(intOf i).toNat)
 case atStart=>exact⟨0,.inr rfl,rfl,aK,by simp[JY]⟩
 case round=>
  obtain⟨j,hj,rfl,aB,aQ⟩:=hrel;have K:=dw aB aQ;by_cases aN:j+1<ts.length
  ·rcases hs with hs|⟨b,off,rfl,hb,h1⟩
   ·rw[hs]at aN;simp at aN
   obtain⟨⟨nx,nB,nF,n6⟩,hx,_⟩:=h1 (j+1) _ (gL aN);obtain⟨⟨y0',y1',y2',oa⟩,hy,_⟩:=h1 j _ (gL (by omega));have x0:=fun dd os=>((kG K.out.1 (below_regrown wr dd os)).cell (p:=⟨b,off+(j+1)*7,none⟩) hb).trans (hx 0 _ rfl)
   have x1:=fun dd os=>((kG K.out.1 (below_regrown wr dd os)).cell (p:=⟨b,off+(j+1)*7+1,none⟩) hb).trans (hx 1 _ rfl)
   have x2:=fun dd os=>((kG K.out.1 (below_regrown wr dd os)).cell (p:=⟨b,off+(j+1)*7+2,none⟩) hb).trans (hx 2 _ rfl)
   have x3:=fun dd os=>((kG K.out.1 (below_regrown wr dd os)).cell (p:=⟨b,off+(j+1)*7+3,none⟩) hb).trans (hx 3 _ rfl)
   have x4:=fun dd os=>((kG K.out.1 (below_regrown wr dd os)).cell (p:=⟨b,off+(j+1)*7+4,none⟩) hb).trans (hx 4 _ rfl)
   have x5:=fun dd os=>((kG K.out.1 (below_regrown wr dd os)).cell (p:=⟨b,off+(j+1)*7+5,none⟩) hb).trans (hx 5 _ rfl)
   have x6:=fun dd os=>((kG K.out.1 (below_regrown wr dd os)).cell (p:=⟨b,off+(j+1)*7+6,none⟩) hb).trans (hx 6 _ rfl)
   have y0:=fun dd os=>((kG K.out.1 (below_regrown wr dd os)).cell (p:=⟨b,off+j*7,none⟩) hb).trans (hy 0 _ rfl)
   have y1:=fun dd os=>((kG K.out.1 (below_regrown wr dd os)).cell (p:=⟨b,off+j*7+1,none⟩) hb).trans (hy 1 _ rfl)
   have y2:=fun dd os=>((kG K.out.1 (below_regrown wr dd os)).cell (p:=⟨b,off+j*7+2,none⟩) hb).trans (hy 2 _ rfl)
   have y3:=fun dd os=>((kG K.out.1 (below_regrown wr dd os)).cell (p:=⟨b,off+j*7+3,none⟩) hb).trans (hy 3 _ rfl)
   have y4:=fun dd os=>((kG K.out.1 (below_regrown wr dd os)).cell (p:=⟨b,off+j*7+4,none⟩) hb).trans (hy 4 _ rfl)
   have y5:=fun dd os=>((kG K.out.1 (below_regrown wr dd os)).cell (p:=⟨b,off+j*7+5,none⟩) hb).trans (hy 5 _ rfl)
   have y6:=fun dd os=>((kG K.out.1 (below_regrown wr dd os)).cell (p:=⟨b,off+j*7+6,none⟩) hb).trans (hy 6 _ rfl)
   have cQ:∀d os,Calls prog 209 #[.agg #[vI (bn ts (j+1)).id,vI (bn ts (j+1)).l,vI (bn ts (j+1)).o,vI (bn ts (j+1)).q,.slice nx (bn ts (j+1)).a.length nB,.slice nF (bn ts (j+1)).ai.length n6,vI (bn ts (j+1)).az]] (grow (redrawn wr d) os) fun e gH=>e=.returned (vI (bn ts (j+1)).id)/\∃p:Regrown,gH=grow (redrawn wr p.d) p.os:=fun d os=>Calls.regrown_of (IQ _ _ _ _ _ _)
   have cR:∀d os,Calls prog 209 #[.agg #[vI (bn ts j).id,vI (bn ts j).l,vI (bn ts j).o,vI (bn ts j).q,.slice y0' (bn ts j).a.length y1',.slice y2' (bn ts j).ai.length oa,vI (bn ts j).az]] (grow (redrawn wr d) os) fun e gH=>e=.returned (vI (bn ts j).id)/\∃p:Regrown,gH=grow (redrawn wr p.d) p.os:=fun d os=>Calls.regrown_of (IQ _ _ _ _ _ _)
   have Yl:(j:Int)<(ts.length:Int):=by omega
   have qs:((j+1:Nat):Int)<(ts.length:Int):=by omega
   have HL:=af (aN);have U:Hid (JY ts (j+1)=decide ((bn ts j).id<(bn ts (j+1)).id)):=by unfold Hid;simp[JY]
   clear hx hy aB aQ h1 aN;generalize bn ts (j+1)=JR at *;generalize bn ts j=JQ at *;by_cases hq:JR.id<=JQ.id
   ·have K6:decide (JR.id<=JQ.id)=true:=by simp[hq]
    have hU:JY ts (j+1)=false:=by rw[U.out];simp;omega
    clear hq;go_wp2_with fail;refine gy ?_;repeat (go_big_quiet_step (first|(go_at_call_of 209 (Value.agg #[vI JR.id,vI JR.l,vI JR.o,vI JR.q,.slice nx JR.a.length nB,.slice nF JR.ai.length n6,vI JR.az]);exact cQ _ _)|(go_at_call_of 209 (Value.agg #[vI JQ.id,vI JQ.l,vI JQ.o,vI JQ.q,.slice y0' JQ.a.length y1',.slice y2' JQ.ai.length oa,vI JQ.az]);exact cR _ _)))
    refine jb fun dq bu=>?_
    have bq:=below_regrown wr dq bu;go_wp2;go_ret;exact⟨by rw[iR (f:=JY ts) HL.out hU];rfl,K.out.1.trans (bq.mono K.out.1.size)⟩
   ·have K6:decide (JR.id<=JQ.id)=false:=by simp;omega
    have hU:JY ts (j+1)=true:=by rw[U.out];simp;omega
    clear hq;go_wp2_with fail;refine gy ?_;repeat (go_big_quiet_step (first|(go_at_call_of 209 (Value.agg #[vI JR.id,vI JR.l,vI JR.o,vI JR.q,.slice nx JR.a.length nB,.slice nF JR.ai.length n6,vI JR.az]);exact cQ _ _)|(go_at_call_of 209 (Value.agg #[vI JQ.id,vI JQ.l,vI JQ.o,vI JQ.q,.slice y0' JQ.a.length y1',.slice y2' JQ.ai.length oa,vI JQ.az]);exact cR _ _)))
    refine jb fun dq bu=>?_
    have bq:=below_regrown wr dq bu;go_wp2;exact⟨⟨j+1,.inl (by have:=HL.out;omega),by simp,K.out.1.trans (bq.mono K.out.1.size),kF (f:=JY ts) K.out.2 hU⟩,by have:=HL.out;simp[intOf];omega⟩
  ·have hd:decide (((j+1:Nat):Int)<(ts.length:Int))=false:=by simp;omega
   have hA:(List.range ts.length).all (JY ts)=true:=by
    by_cases h0:ts.length=0
    ·rw[h0];rfl
    ·have:ts.length=j+1:=by omega
     rw[this];exact aQ
   have HA:=af hA;clear hs aQ hA;go_wp2;go_ret;exact⟨by rw[HA.out];rfl,aB⟩
def Vo(w:World)(xs:List tx.T7)(g:Nat)(f:Nat->Bool):Prop:=
 ∀(X:World) (i:Nat) (t0:OA) (t1:Nat) (t2:OA) (t3:Nat),Below w.1.size w X->i<xs.length->iO.Rd X ⟨t0,t1,t2,t3⟩ (bn xs i)->Calls prog 206 #[.agg #[vI (bn xs i).id,vI (bn xs i).l,vI (bn xs i).o,vI (bn xs i).q,.slice t0 (bn xs i).a.length t1,.slice t2 (bn xs i).ai.length t3,vI (bn xs i).az],.pointer (some ⟨g,0,none⟩)] X fun e w'=>e=.returned (.bool (f i))/\Below X.1.size X w'
theorem mT(w:World)(a:OA)(cap:Nat)(xs:List tx.T7)(g:Nat)(f:Nat->Bool)(hn:xs.length<=maxLen)(hs:iO.vG w a xs)(hf:Vo w xs g f):
  Calls prog 239 #[.slice a xs.length cap,.func (.func 206) #[] #[.pointer (some ⟨g,0,none⟩)]] w fun e w'=>(∃i:Int,e=.returned (vI i)/\eH f xs.length i)/\Below w.1.size w w':=by
 unfold maxLen at hn;have HF:=af hf;clear hf;go_enter func239,ntmps239;go_wp2;go_loopw[8] (fun v wr=>∃j:Nat,j<=xs.length/\v=vI j/\Below w.1.size w wr/\∀i,i<j->f i=false) (fun v _=>xs.length-(intOf v).toNat)
 case atStart=>exact⟨0,Nat.zero_le _,rfl,aK,fun i h=>absurd h (by omega)⟩
 case round=>
  obtain⟨j,hj,rfl,aB,aQ⟩:=hrel;by_cases aN:j<xs.length
  ·rcases hs with hs|⟨b,off,rfl,hb,h1⟩
   ·rw[hs]at aN;simp at aN
   obtain⟨⟨t0,t1,t2,t3⟩,bg,iw⟩:=h1 j _ (gL aN);have e0:=(aB.cell (p:=⟨b,off+j*7,none⟩) hb).trans (bg 0 _ rfl);have e1:=(aB.cell (p:=⟨b,off+j*7+1,none⟩) hb).trans (bg 1 _ rfl);have e2:=(aB.cell (p:=⟨b,off+j*7+2,none⟩) hb).trans (bg 2 _ rfl);have e3:=(aB.cell (p:=⟨b,off+j*7+3,none⟩) hb).trans (bg 3 _ rfl);have e4:=(aB.cell (p:=⟨b,off+j*7+4,none⟩) hb).trans (bg 4 _ rfl);have e5:=(aB.cell (p:=⟨b,off+j*7+5,none⟩) hb).trans (bg 5 _ rfl);have e6:=(aB.cell (p:=⟨b,off+j*7+6,none⟩) hb).trans (bg 6 _ rfl);have hw:=HF.out wr j t0 t1 t2 t3 aB aN (iO.later iw aB);have KA:=dw aQ aB;have jn:(j:Int)<(xs.length:Int):=by omega
   clear h1 bg iw aQ aB
   cases hp:f j with
   | true=>
    rw[hp]at hw;go_wp2_with fail;refine hw.mono ?_;clear hw;rintro e w1 ⟨rfl,b1⟩;go_wp2;go_ret;exact⟨⟨_,rfl,.inr ⟨j,rfl,aN,hp,KA.out.1⟩⟩,KA.out.2.trans (b1.mono KA.out.2.size)⟩
   | false=>
    rw[hp]at hw;go_wp2_with fail;refine hw.mono ?_;clear hw;rintro e w1 ⟨rfl,b1⟩;go_wp2
    exact⟨⟨j+1,by omega,by simp,KA.out.2.trans (b1.mono KA.out.2.size),fun i hi=>by
     by_cases e:i=j
     ·rw[e];exact hp
     ·exact KA.out.1 i (by omega)⟩,by simp[intOf];omega⟩
  ·obtain rfl:j=xs.length:=by omega
   have hd:decide ((xs.length:Int)<(xs.length:Int))=false:=by simp
   have KA:=dw aQ aB;clear aQ aB hs;go_wp2;go_ret;exact⟨⟨_,rfl,.inl ⟨rfl,KA.out.1⟩⟩,KA.out.2⟩
theorem Q5(w:World)(a:OA)(cap:Nat)(xs:List tx.T7)(g:Nat)(f:Nat->Bool)(hn:xs.length<=maxLen)(hs:iO.vG w a xs)(hf:Vo w xs g f):
  Calls prog 210 #[.slice a xs.length cap,.func (.func 206) #[] #[.pointer (some ⟨g,0,none⟩)]] w fun e w'=>e=.returned (.bool (!((List.range xs.length).all fun j=>!f j)))/\Below w.1.size w w':=by
 have hc:=mT w a cap xs g f hn hs hf;clear hs hf;go_enter func210,ntmps210;go_wp2_with fail;refine hc.mono ?_;clear hc;rintro e w1 ⟨⟨i,rfl,hi⟩,b1⟩;have h:=iC hi;have KB:=af b1;clear b1 hi;go_wp2;go_ret;exact⟨by rw[<-h];rfl,KB.out⟩
theorem Ns(k:C6):uT k=((List.range k.c.length).all (JY k.c)&&(List.range k.c.length).all (fun i=>oC k (bn k.c i))):=by
 unfold uT;rw[<-FN];apply all_congr;intro i _;unfold qi JY oC
 cases tx.kv (bn k.c i)<;>cases decide (i=0)<;>cases decide ((bn k.c (i-1)).id<(bn k.c i).id)<;>simp
theorem Mi(w:World)(a1:OA)(c1:Nat)(a2:OA)(c2:Nat)(a3:OA)(c3:Nat)(k:C6)(hl:df.L k)(h:df.Rd w a1 c1 a2 c2 a3 c3 k):Calls prog 179 #[.agg #[vI k.v,vI k.u,.slice a1 k.f.length c1,.slice a2 k.aa.length c2,.slice a3 k.c.length c3,.bool k.w]] w fun e w'=>e=.returned (.bool (decide (k.c.length<=60)&&uT k))/\Below w.1.size w w':=by
 obtain⟨U,hU⟩:=bO (w.alloc (.cells #[vI k.v,vI k.u,.slice a1 k.f.length c1,.slice a2 k.aa.length c2,.slice a3 k.c.length c3,.bool k.w] 32));have b0:Below w.1.size w U:=by rw[hU];exact aK.alloc aU _
 have FA:Hid (Bx U w.1.size (dU a1 c1 a2 c2 a3 c3 k)):=by rw[hU];exact Bx.made w (dU a1 c1 a2 c2 a3 c3 k) _
 have HR:=dw (h.later b0) hl;have BW:=af (b0);have lt:=hl.t;unfold maxLen at lt;have p4:=FA.out.1 4 _ rfl;rw[hU]at p4;clear b0 h hl;by_cases g5:k.c.length<=60
 case neg=>
  have d5:decide ((k.c.length:Int)<=60)=false:=by simp<;>omega
  have hb:(decide (k.c.length<=60)&&uT k)=false:=by simp[g5]
  rw[hb];rw[hU]at BW;clear FA HR hU hb;go_enter func179,ntmps179;go_wp2;go_ret;exact⟨rfl,BW.out⟩
 have d5:decide ((k.c.length:Int)<=60)=true:=by simp<;>omega
 have HB:Hid ((decide (k.c.length<=60)&&uT k)=((List.range k.c.length).all (JY k.c)&&(List.range k.c.length).all (fun i=>oC k (bn k.c i)))):=by unfold Hid;rw[<-Ns];simp[g5]
 have hc:=LQ U a3 c3 k.c HR.out.2.t HR.out.1.t;go_enter func179,ntmps179;go_wp2_with fail;rw[<-hU];clear hU p4;refine hc.mono ?_;clear hc;rintro e w1 ⟨rfl,b1⟩;have B1:=af b1;clear b1
 cases hR:(List.range k.c.length).all (JY k.c)with
 | false=>
  go_wp2;go_ret;exact⟨by rw[HB.out,hR];rfl,au BW.out B1.out⟩
 | true=>
 have p4:=(FA.out.later B1.out).1 4 _ rfl;have hc:=Q5 w1 a3 c3 k.c w.1.size (fun i=>!oC k (bn k.c i)) HR.out.2.t (HR.out.1.later B1.out).t (fun X i t0 t1 t2 t3 hb hi hr=>UJ X w.1.size t0 t1 t2 t3 (bn k.c i) a1 c1 a2 c2 a3 c3 k (HR.out.2.ts _ (List.mem_of_getElem? (gL hi))) hr (FA.out.later (au B1.out hb)));have he:(!((List.range k.c.length).all fun j=>!(fun i=>!oC k (bn k.c i)) j))=!((List.range k.c.length).all fun i=>oC k (bn k.c i)):=by simp
 rw[he]at hc;clear he;have HZ:Hid ((decide (k.c.length<=60)&&uT k)=(List.range k.c.length).all (fun i=>oC k (bn k.c i))):=by unfold Hid;rw[HB.out,hR];rfl
 generalize ((List.range k.c.length).all fun i=>oC k (bn k.c i))=BB at *;go_wp2_with fail;refine hc.mono ?_;clear hc p4;rintro e w2 ⟨rfl,b2⟩;have B2:=af (au B1.out b2);clear b2;go_wp2;go_ret;exact⟨by rw[HZ.out];simp,au BW.out B2.out⟩
end
section
open Go.Proofs.Tryz
def TU(w:World)(n:Nat)(rs:List K2)(g:Nat)(f:Nat->Bool):Prop:=
 ∀(X:World) (i:Nat) (a':OA) (aZ:Nat),Below w.1.size w X->i<n->uz X X.1.size a' (dX rs i).cells.length (dX rs i).cells->Calls prog 317 #[(dX rs i).val a' aZ,.pointer (some ⟨g,0,none⟩)] X fun e w'=>e=.returned (.bool (f i))/\Below X.1.size X w'
theorem Xh(w:World)(a:OA)(n cap:Nat)(rs:List K2)(g:Nat)(f:Nat->Bool)(hn:n<=maxLen)(hs:DR w w.1.size a n rs)(hf:TU w n rs g f):
  Calls prog 273 #[.slice a n cap,.func (.func 317) #[] #[.pointer (some ⟨g,0,none⟩)]] w fun e w'=>(∃i:Int,e=.returned (vI i)/\eH f n i)/\Below w.1.size w w':=by
 unfold maxLen at hn;obtain⟨hx,hs⟩:=hs;have HF:=af hf;clear hf;go_enter func273,ntmps273;go_wp2;go_loopw[8] (fun v wr=>∃j:Nat,j<=n/\v=vI j/\Below w.1.size w wr/\∀i,i<j->f i=false) (fun v _=>n-(intOf v).toNat)
 case atStart=>exact⟨0,Nat.zero_le _,rfl,aK,fun i h=>absurd h (by omega)⟩
 case round=>
  obtain⟨j,hj,rfl,aB,aQ⟩:=hrel;by_cases aN:j<n
  ·rcases hs with hs|⟨b,off,rfl,hb,h1⟩
   ·omega
   ·have hr:=(h1 j _ (eZ (by omega))).below aB hb;have c0:=hr.c0;obtain⟨a',aZ,c1,fI,kz⟩:=hr.c1;have KA:=dw aQ aB;have hw:=HF.out wr j a' aZ aB aN (fI.mono aB.size);simp only[K2.val]at hw;clear h1 hr aQ fI aB kz;generalize (dX rs j).cells.length=ln at *
    cases hp:f j with
    | true=>
     rw[hp]at hw;go_wp2_with fail;refine hw.mono ?_;clear hw;rintro e w1 ⟨rfl,b1⟩;go_wp2;go_ret;exact⟨⟨_,rfl,.inr ⟨j,rfl,aN,hp,KA.out.1⟩⟩,KA.out.2.trans (b1.mono KA.out.2.size)⟩
    | false=>
     rw[hp]at hw;go_wp2_with fail;refine hw.mono ?_;clear hw;rintro e w1 ⟨rfl,b1⟩;go_wp2
     exact⟨⟨j+1,by omega,by simp,KA.out.2.trans (b1.mono KA.out.2.size),fun i hi=>by
      by_cases e:i=j
      ·rw[e];exact hp
      ·exact KA.out.1 i (by omega)⟩,by simp[intOf];omega⟩
  ·have:j=n:=by omega
   subst this;have hd:decide ((j:Int)<(j:Int))=false:=by simp
   have KA:=af (aQ);clear hs aQ;go_wp2;go_ret;exact⟨⟨_,rfl,.inl ⟨rfl,KA.out⟩⟩,aB⟩
theorem I6{m:M4}(h:fF m=true):∀c∈m.ag,c.cells.length=6:=by
 simp only[fF,Bool.and_eq_true,decide_eq_true_eq]at h;obtain⟨⟨⟨⟨⟨h1,h2⟩,h3⟩,_⟩,h4⟩,h5⟩:=h;intro c hc;obtain⟨i,hi,rfl⟩:=List.getElem_of_mem hc;have:=List.all_eq_true.1 h4 i (List.mem_range.2 hi);simp only[ou,dX,List.getElem?_eq_getElem hi,Option.getD_some,Bool.and_eq_true,gM,decide_eq_true_eq]at this;exact this.1.2.1
def oJ(m:M4)(a:OA)(c:Nat):Value:=if m.x then .iface 263 (.agg #[.slice a m.ag.length c])else .iface 265 (.agg #[])
theorem qX(w:World)(m0:OA)(m1:Nat)(m2:OA)(m3:Nat)(m4:OA)(m5:Nat)(m:M4):Calls prog 150 #[.agg #[.bool m.x,.slice m0 m.ag.length m1,.slice m2 m.h.length m3,.slice m4 m.ax.length m5]] w fun e w'=>e=.returned (oJ m m0 m1)/\Below w.1.size w w':=by
 cases ha:m.x with
 | true=>
  have hv:oJ m m0 m1=.iface 263 (.agg #[.slice m0 m.ag.length m1]):=by simp[oJ,ha]
  rw[hv];clear hv;go_enter func150,ntmps150;go_wp2;go_ret;exact⟨rfl,aK.alloc aU _⟩
 | false=>
  have hv:oJ m m0 m1=.iface 265 (.agg #[]):=by simp[oJ,ha]
  rw[hv];clear hv;go_enter func150,ntmps150;go_wp2;go_ret;exact⟨rfl,aK.alloc aU _⟩
theorem Ct(w:World)(a:OA)(n c:Nat):Calls prog 316 #[.agg #[.slice a n c]] w fun e w'=>e=.returned (.bool true)/\Below w.1.size w w':=by
 go_enter func316,ntmps316;go_wp2;go_ret;exact⟨rfl,aK.alloc aU _⟩
theorem Cs(w:World):Calls prog 318 #[.agg #[]] w fun e w'=>e=.returned (.bool false)/\Below w.1.size w w':=by
 go_enter func318,ntmps318;go_wp2;go_ret;exact⟨rfl,aK.alloc aU _⟩
theorem RZ(w:World)(x y:Int)(a:OA)(n c g:Nat)(hg:w.cell? ⟨g,0,none⟩=some (vI y))(yQ:g<w.1.size):Calls prog 317 #[.agg #[vI x,.slice a n c],.pointer (some ⟨g,0,none⟩)] w fun e w'=>e=.returned (.bool (decide (x=y)))/\Below w.1.size w w':=by
 have b0:Below w.1.size w (w.alloc (.cells #[vI x,.slice a n c] 143)):=aK.alloc aU _;have p0:=(b0.cell (p:=⟨g,0,none⟩) yQ).trans hg;have he:(x==y)=decide (x=y):=by by_cases h:x=y<;>simp[h]
 have KB:=af b0;clear b0 hg yQ;go_enter func317,ntmps317;go_wp2;go_ret;exact⟨by rw[<-he];rfl,KB.out⟩
end
section
open Go.Proofs.Tryz
def PU(w w':World)(m:M4)(y:Int)(e:Ending):Prop:=
 (Ai m y=false/\e=.returned (.tuple #[.slice none 0 0,.bool false]))\/
 (Ai m y=true/\∃i q cp:Nat,zh m y=(i:Int)/\i<m.ag.length/\e=.returned (.tuple #[.slice (some ⟨q,0,none⟩) (dX m.ag i).cells.length cp,.bool true])/\w.1.size<=q/\q<w'.1.size/\(dX m.ag i).cells.length<=cp/\dJ w' q 0 (dX m.ag i).cells/\Room w' q ((dX m.ag i).cells.length*2))
theorem NK(w:World)(a:OA)(c:Nat)(m:M4)(y:Int)(hl:ML m)(hB:fF m=true)(hs:DR w w.1.size a m.ag.length m.ag):
  Calls prog 315 #[.agg #[.slice a m.ag.length c],vI y] w fun e w'=>PU w w' m y e/\Below w.1.size w w':=by
 have hn:=hl.k;obtain⟨U,hU⟩:=bO ((w.alloc (.cells #[.slice a m.ag.length c] 263)).alloc (.cells #[vI y] 2));have b0:Below w.1.size w U:=by rw[hU];exact(aK.alloc aU _).alloc (by simp) _
 have z0:U.1.size=w.1.size+2:=by rw[hU];simp
 have p0:U.cell? ⟨w.1.size,0,none⟩=some (.slice a m.ag.length c):=by rw[hU];go_simp
 have p1:U.cell? ⟨w.1.size+1,0,none⟩=some (vI y):=by rw[hU];go_simp
 have hc:=Xh U a m.ag.length c m.ag (w.1.size+1) (fun j=>decide ((dX m.ag j).b=y)) hn (hs.later b0)
  (fun X i a' c' hb hi fI=>RZ X (dX m.ag i).b y a' _ c' (w.1.size+1) ((hb.cell (p:=⟨w.1.size+1,0,none⟩) (by simp;omega)).trans p1) (by have:=hb.size;omega))
 have H:=fP b0 z0 (hs.later b0);have P0:=af p0;clear b0 z0 hs p1;unfold maxLen at hn;rw[hU]at p0;go_enter func315,ntmps315;go_wp2_with fail;rw[<-hU];clear hU p0;refine hc.mono ?_;clear hc;rintro e w1 ⟨⟨i,rfl,hi⟩,b1⟩;have dy:=Il hi (nk m y);have aN:=AY m y;rw[<-dy]at aN;have B1:=af b1
 cases hh:Ai m y with
 | false=>
  rw[hh]at aN;have d:decide (i<0)=true:=aN;clear aN hi dy b1;go_wp2;refine bodyPost_ret (v:=.tuple #[.slice none 0 0,.bool false]) (by simp[results,results315,go_sem]) rfl ?_;exact⟨.inl ⟨hh,rfl⟩,au H.out.1 B1.out⟩
 | true=>
  rw[hh]at aN;have d:decide (i<0)=false:=aN;rcases hi with ⟨rfl,_⟩|⟨j,rfl,hj,_,_⟩
  ·simp at d
  obtain⟨_,hk⟩:=H.out.2.2;rcases hk with hk|⟨b,off,rfl,hb,h1⟩
  ·omega
  have q0:=(b1.cell (p:=⟨w.1.size,0,none⟩) (by have:=H.out.2.1;simp;omega)).trans P0.out;have hr:=(h1 j _ (eZ hj)).below b1 hb;obtain⟨a',aZ,c1,fI,kz⟩:=hr.c1;have hlen:=I6 hB _ (List.mem_of_getElem? (eZ hj));have ho:=yw w1 a' aZ (dX m.ag j).cells (by omega) (by omega) (fI.mono b1.size);have HJ:=fP dy.symm hj hh;clear aN dy b1 h1 hr fI kz hlen hB;go_wp2_with fail;refine ho.mono ?_;clear ho q0 c1;rintro e w2 ⟨q,cp,rfl,h2,h3,h4,h5,h6,b2⟩;have HF:=nE h2 h3 h4 h5 h6;have B2:=af (au (au H.out.1 B1.out) b2);have S1:=af ((au H.out.1 B1.out).size);clear b2 h2 h3 h4 h5 h6;go_wp2;refine bodyPost_ret (v:=.tuple #[.slice (some ⟨q,0,none⟩) (dX m.ag j).cells.length cp,.bool true]) (by simp[results,results315,go_sem]) rfl ?_;exact⟨.inr ⟨HJ.out.2.2,j,q,cp,HJ.out.1,HJ.out.2.1,rfl,Nat.le_trans S1.out HF.out.1,HF.out.2⟩,B2.out⟩
theorem MM:prog.underlying 310=some (.interface #[("loop.example/g00153/impl.cells",312),("loop.example/g00153/impl.lives",219)]):=by kernel_rfl
theorem xE(w:World)(a:OA)(c:Nat)(m:M4)(y:Int)(hl:ML m)(hB:fF m=true)(hs:DR w w.1.size a m.ag.length m.ag):
  Calls prog 218 #[oJ m a c,vI y] w fun e w'=>((m.x=true/\PU w w' m y e)\/(m.x=false/\e=.returned (.tuple #[.slice none 0 0,.bool false])))/\Below w.1.size w w':=by
 cases ha:m.x with
 | true=>
  have hv:oJ m a c=.iface 263 (.agg #[.slice a m.ag.length c]):=by simp[oJ,ha]
  rw[hv];have ht:∀w:World,(Instr.typeAssert (.iface 263 (.agg #[.slice a m.ag.length c])) 226 310 true).run prog w=.ok (.tuple #[.iface 263 (.agg #[.slice a m.ag.length c]),.bool true]) w:=fun w=>run_typeAssert_hasB MM (by kernel_rfl) _ _ w
  have hm:∀w:World,(method 458 263 (.agg #[.slice a m.ag.length c]) "loop.example/g00153/impl.cells").run prog w=.ok (315,.agg #[.slice a m.ag.length c]) w:=fun _=>by kernel_rfl
  have hc:=NK w a c m y hl hB hs;clear hv hl hB hs ha;go_enter func218,ntmps218;go_wp2_with fail;refine hc.mono ?_;clear hc;rintro e w1 ⟨h1,b1⟩;have H1:=af h1;have B1:=af b1;clear b1;rcases h1 with ⟨_,rfl⟩|⟨_,i,q,cp,_,_,rfl,_⟩
  ·go_wp2;refine bodyPost_ret (v:=.tuple #[.slice none 0 0,.bool false]) (by simp[results,results218,go_sem]) rfl ?_;exact⟨.inl ⟨trivial,H1.out⟩,B1.out⟩
  ·go_wp2;refine bodyPost_ret (v:=.tuple #[.slice (some ⟨q,0,none⟩) (dX m.ag i).cells.length cp,.bool true]) (by simp[results,results218,go_sem]) rfl ?_;exact⟨.inl ⟨trivial,H1.out⟩,B1.out⟩
 | false=>
  have hv:oJ m a c=.iface 265 (.agg #[]):=by simp[oJ,ha]
  rw[hv];have ht:∀w:World,(Instr.typeAssert (.iface 265 (.agg #[])) 226 310 true).run prog w=.ok (.tuple #[.nilIface,.bool false]) w:=fun w=>run_typeAssert_lacksB MM (by kernel_rfl) (by kernel_rfl) _ _ w
  clear hv hl hB hs ha;go_enter func218,ntmps218;go_wp2;refine bodyPost_ret (v:=.tuple #[.slice none 0 0,.bool false]) (by simp[results,results218,go_sem]) rfl ?_;exact⟨.inr ⟨trivial,rfl⟩,aK⟩
theorem L6(w:World)(a:OA)(c:Nat)(m:M4)(y:Int)(hl:ML m)(hB:fF m=true)(hs:DR w w.1.size a m.ag.length m.ag):
  Calls prog 205 #[oJ m a c,vI y] w fun e w'=>e=.returned (.bool (!m.x||Ai m y))/\Below w.1.size w w':=by
 have hc:=xE w a c m y hl hB hs;clear hl hB hs
 cases ha:m.x with
 | true=>
  have hv:oJ m a c=.iface 263 (.agg #[.slice a m.ag.length c]):=by simp[oJ,ha]
  rw[hv]at hc ⊢
  have hm:∀w:World,(method 458 263 (.agg #[.slice a m.ag.length c]) "loop.example/g00153/impl.lives").run prog w=.ok (316,.agg #[.slice a m.ag.length c]) w:=fun _=>by kernel_rfl
  have HA:=af ha;clear hv ha;go_enter func205,ntmps205;go_wp2_with fail;refine hc.mono ?_;clear hc;rintro e w1 ⟨h1,b1⟩;have B1:=af b1;have hL:=Ct w1 a m.ag.length c;clear b1;rcases h1 with ⟨_,h1⟩|⟨h1,_⟩
  case inr=>rw[HA.out]at h1;cases h1
  rcases h1 with ⟨hh,rfl⟩|⟨hh,i,q,cp,_,_,rfl,_⟩
  ·have HH:=af hh;clear hh;go_wp2_with fail;refine hL.mono ?_;clear hL;rintro e w2 ⟨rfl,b2⟩;have B2:=af (au B1.out b2);clear b2;go_wp2;go_ret;exact⟨by rw[HH.out];rfl,B2.out⟩
  ·have HH:=af hh;clear hh hL;go_wp2;go_ret;exact⟨by rw[HH.out];rfl,B1.out⟩
 | false=>
  have hv:oJ m a c=.iface 265 (.agg #[]):=by simp[oJ,ha]
  rw[hv]at hc ⊢
  have hm:∀w:World,(method 458 265 (.agg #[]) "loop.example/g00153/impl.lives").run prog w=.ok (318,.agg #[]) w:=fun _=>by kernel_rfl
  have HA:=af ha;clear hv ha;go_enter func205,ntmps205;go_wp2_with fail;refine hc.mono ?_;clear hc;rintro e w1 ⟨h1,b1⟩;have B1:=af b1;have hL:=Cs w1;clear b1;rcases h1 with ⟨h1,_⟩|⟨_,rfl⟩
  ·rw[HA.out]at h1;cases h1
  go_wp2_with fail;refine hL.mono ?_;clear hL;rintro e w2 ⟨rfl,b2⟩;have B2:=af (au B1.out b2);clear b2;go_wp2;go_ret;exact⟨rfl,B2.out⟩
end
section
open Go.Proofs.Tryz
variable {X w:World}{b j:Nat}{ms:List M4}
theorem Q8:(prog.info? 226).map (fun i=>(i.zero,i.size,i.bytes))=some (some (.nilIface),1,16):=by kernel_rfl
theorem Rm(n:Nat)(hn:n<=1048576)(w:World):(Instr.makeSlice 259 (vI (n:Int)) (vI (n:Int))).run prog w=.ok (.slice (some ⟨w.1.size,0,none⟩) n n) (w.alloc (.cells (madeCells #[.nilIface] n) 226)):=by
 obtain⟨i,hi,oQ⟩:=Option.map_eq_some_iff.1 Q8;simp only[Prod.mk.injEq]at oQ;obtain⟨hz,hs,hb⟩:=oQ;have:=run_make (P:=prog) w 259 226 i _ underlying259 hi hz .i64 .i64 (n:Int) (n:Int) (by omega) (by omega) (by rw[hb];omega) (by omega);rw[hs]at this;simpa[Value.cells]using this
def xh(w X:World)(b j:Nat)(ms:List M4):Prop:=∀t,t<j->∃a c,X.cell? ⟨b,t,none⟩=some (oJ (bC ms t) a c)/\DR w w.1.size a (bC ms t).ag.length (bC ms t).ag
theorem xh.below{Y:World}{B:Nat}(h:xh w X b j ms)(hb:Below B X Y)(hB:b<B):xh w Y b j ms:=fun t ht=>by
 obtain⟨a,c,h1,h2⟩:=h t ht;exact⟨a,c,(hb.cell (p:=⟨b,t,none⟩) hB).trans h1,h2⟩
theorem xh.set(h:xh w X b j ms){v:Value}(hv:X.cell? ⟨b,j,none⟩=some v){a:OA}{c:Nat}(hs:DR w w.1.size a (bC ms j).ag.length (bC ms j).ag):xh w (X.setCell ⟨b,j,none⟩ (oJ (bC ms j) a c)) b (j+1) ms:=fun t ht=>by
 by_cases e:t=j
 ·subst e;exact⟨a,c,ay hv,hs⟩
 ·obtain⟨a',c',h1,h2⟩:=h t (by omega);exact⟨a',c',(ae e).trans h1,h2⟩
theorem M6(m:M4)(a:OA)(c:Nat):∃T u,oJ m a c=.iface T u:=by
 cases h:m.x
 ·exact⟨_,_,by simp only[oJ,h];rfl⟩
 ·exact⟨_,_,by simp only[oJ,h];rfl⟩
theorem Ep(w:World)(a:OA)(cap:Nat)(ms:List M4)(hn:ms.length<=8)(hs:iN.vG w a ms):
  Calls prog 178 #[.slice a ms.length cap] w fun e w'=>e=.returned (.slice (some ⟨w.1.size,0,none⟩) ms.length ms.length)/\xh w w' w.1.size ms.length ms/\w.1.size<w'.1.size/\Below w.1.size w w':=by
 have mQ:=Rm ms.length (by omega);go_enter func178,ntmps178;go_wp2;go_loopw[11] (fun v wr=>∃j:Nat,j<=ms.length/\v=vI j/\Below w.1.size w wr/\w.1.size<wr.1.size/\Room wr w.1.size ms.length/\xh w wr w.1.size j ms) (fun v _=>ms.length-(intOf v).toNat)
 case atStart=>exact⟨0,Nat.zero_le _,rfl,aK.alloc aU _,by simp,iF _ _ _ _,fun t ht=>by omega⟩
 case round=>
  obtain⟨j,hj,rfl,aB,dQ,rU,TG⟩:=hrel;by_cases aN:j<ms.length
  ·rcases hs with hs|⟨b,off,rfl,hb,h1⟩
   ·rw[hs]at aN;simp at aN
   obtain⟨⟨m0,m1,m2,m3,m4,m5⟩,bg,iw⟩:=h1 j _ (iT aN);have e0:=(aB.cell (p:=⟨b,off+j*4,none⟩) hb).trans (bg 0 _ rfl);have e1:=(aB.cell (p:=⟨b,off+j*4+1,none⟩) hb).trans (bg 1 _ rfl);have e2:=(aB.cell (p:=⟨b,off+j*4+2,none⟩) hb).trans (bg 2 _ rfl);have e3:=(aB.cell (p:=⟨b,off+j*4+3,none⟩) hb).trans (bg 3 _ rfl);have jn:(j:Int)<(ms.length:Int):=by omega
   have KH:=nE aB dQ rU TG iw.k;obtain⟨V,hV⟩:=bO (wr.alloc (.cells #[.bool (bC ms j).x,.slice m0 (bC ms j).ag.length m1,.slice m2 (bC ms j).h.length m3,.slice m4 (bC ms j).ax.length m5] 87));have bV:Hid (Below wr.1.size wr V):=by unfold Hid;rw[hV];exact aK.alloc aU _
   have hc:=qX V m0 m1 m2 m3 m4 m5 (bC ms j);clear bg iw h1 aB dQ rU TG mQ;go_wp2_with fail;rw[<-hV];clear hV e0 e1 e2 e3;refine hc.mono ?_;clear hc;rintro e w1 ⟨rfl,b1⟩;have KB:=af (au bV.out b1);obtain⟨z,hz,hf⟩:∃v,w1.cell? ⟨w.1.size,j,none⟩=some v/\w1.frozen? ⟨w.1.size,j,none⟩=false:=(KH.out.2.2.1.below KB.out KH.out.2.1) j aN;have Z:=af hz;obtain⟨T0,u0,Sz⟩:=M6 (bC ms j) m0 m1;have HM:=af Sz;rw[Sz];clear b1 Sz;go_wp2;have TG:=(KH.out.2.2.2.1.below KB.out KH.out.2.1).set Z.out (c:=m1) KH.out.2.2.2.2;rw[HM.out]at TG;exact⟨⟨j+1,by omega,by simp,((KH.out.1.trans (KB.out.mono KH.out.1.size)).setCell (p:=⟨w.1.size,j,none⟩) aU _),by simp[World.setCell];exact Nat.lt_of_lt_of_le KH.out.2.1 KB.out.size,(KH.out.2.2.1.below KB.out KH.out.2.1).set _,TG⟩,by simp[intOf];omega⟩
  ·obtain rfl:j=ms.length:=by omega
   have hd:decide ((ms.length:Int)<(ms.length:Int))=false:=by simp
   have KH:=fP aB dQ TG;clear aB dQ rU TG mQ hs;go_wp2;go_ret;exact⟨rfl,KH.out.2.2,KH.out.2.1,KH.out.1⟩
theorem LK(w0 w:World)(a:OA)(cap q:Nat)(aR:List (List Int))(ms:List M4)(hl:∀m∈ms,ML m)(hB:jP ms=true)(hP:dZ aR=true)(Gg:aR.length<=maxLen)(qT:∀zs∈aR,zs.length<=maxLen)
  (h0:Below w0.1.size w0 w) (hq:q<w.1.size) (hm:xh w0 w q ms.length ms) (hs:yY w w.1.size a aR.length aR):
  Calls prog 177 #[.slice a aR.length cap,.slice (some ⟨q,0,none⟩) ms.length ms.length] w fun e w'=>e=.returned (.bool (jw aR ms))/\Below w.1.size w w':=by
 have H:=wL hl hB qT hm hs h0;have HZ:Hid (∀r j,r<aR.length->j<(eU aR r).length->0<=fC (eU aR r) j/\fC (eU aR r) j<=7):=fun r j hr hj=>Dj hP hr hj
 have HD:Hid (jw aR ms=(List.range aR.length).all fun r=>l7 ms r (eU aR r)):=rfl;unfold maxLen at Gg;clear hl hB hP qT hm hs h0;go_enter func177,ntmps177;go_wp2;go_loopw[11] (fun v wr=>∃r:Nat,r<=aR.length/\v=vI r/\Below w.1.size w wr/\(List.range r).all (fun r=>l7 ms r (eU aR r))=true) (fun v _=>aR.length-(intOf v).toNat)
 case atStart=>exact⟨0,Nat.zero_le _,rfl,aK,rfl⟩
 case round=>
 obtain⟨r,hr,rfl,aB,aQ⟩:=hrel;have KC:=dw aB aQ;clear aB aQ;by_cases TF:r<aR.length
 case neg=>
  obtain rfl:r=aR.length:=by omega
  have hd:decide ((aR.length:Int)<(aR.length:Int))=false:=by simp
  go_wp2;go_ret;exact⟨by rw[HD.out,KC.out.2];rfl,KC.out.1⟩
 obtain⟨_,Vh⟩:=H.out.2.2.2.2.1;rcases Vh with Vh|⟨b,off,rfl,hb,AX⟩
 ·omega
 obtain⟨a',aZ,hc,fI,kz⟩:=AX r _ (gB TF);have c:=(KC.out.1.cell (p:=⟨b,off+r,none⟩) hb).trans hc;have fh:=af (fI);have jr:(r:Int)<(aR.length:Int):=by omega
 have lz:=H.out.2.2.1 _ (List.mem_of_getElem? (gB TF));unfold maxLen at lz;have HF:Hid (l7 ms r (eU aR r)=false->jw aR ms=false):=fun hh=>by rw[HD.out];exact iR (f:=fun r=>l7 ms r (eU aR r)) TF hh
 have fp:Hid (∀j,j<(eU aR r).length->0<=fC (eU aR r) j/\fC (eU aR r) j<=7):=fun j hj=>HZ.out r j TF hj
 have YA:Hid (l7 ms r (eU aR r)=(List.range (eU aR r).length).all fun j=>ku ms r (fC (eU aR r) j)):=rfl;have Yy:Hid (l7 ms r (eU aR r)=true->(List.range (r+1)).all (fun r=>l7 ms r (eU aR r))=true):=fun hh=>kF (f:=fun r=>l7 ms r (eU aR r)) KC.out.2 hh
 clear AX hc fI;generalize nM:eU aR r=zs at *;obtain⟨V,hV⟩:=bO (wr.alloc (.cells #[.slice a' zs.length aZ] 102));have KV:Hid (Below w.1.size w V):=au KC.out.1 (by rw[hV];exact aK.alloc aU _);go_wp2;rw[<-hV];clear c jr nM hV;generalize wr=wC at *;generalize V=wD at *;go_loopw[19] (fun v wr=>∃j:Nat,j<=zs.length/\v=vI j/\Below w.1.size w wr/\(List.range j).all (fun j=>ku ms r (fC zs j))=true) (fun v _=>zs.length-(intOf v).toNat)
 case atStart=>exact⟨0,Nat.zero_le _,rfl,KV.out,rfl⟩
 case round=>
 obtain⟨j,hj,rfl,aB,aQ⟩:=hrel;have KD:=dw aB aQ;clear aB aQ;by_cases Oe:j<zs.length
 case neg=>
  obtain rfl:j=zs.length:=by omega
  have hd:decide ((zs.length:Int)<(zs.length:Int))=false:=by simp
  have hh:=Yy.out (by rw[YA.out];exact KD.out.2);go_wp2;exact⟨⟨r+1,by omega,by simp,KD.out.1,hh⟩,by simp[intOf];omega⟩
 obtain⟨_,x8⟩:=fh.out;rcases x8 with x8|⟨b',di,rfl,fB,h2⟩
 ·omega
 have hz:=fp.out j Oe;obtain⟨i,hi⟩:∃i:Nat,fC zs j=(i:Int):=⟨(fC zs j).toNat,by omega⟩
 have N9:=h2 j _ (jh Oe);rw[hi]at N9;have xz:=(KD.out.1.cell (p:=⟨b',di+j,none⟩) fB).trans N9;have jz:(j:Int)<(zs.length:Int):=by omega
 have HB:Hid (ku ms r (fC zs j)=(decide ((i:Int)<(ms.length:Int))&&(!(bC ms i).x||Ai (bC ms i) (r:Int)))):=by unfold Hid ku;rw[hi];rfl
 have Pz:Hid (ku ms r (fC zs j)=false->jw aR ms=false):=fun hh=>HF.out (by rw[YA.out];exact iR (f:=fun j=>ku ms r (fC zs j)) Oe hh)
 clear N9 h2 hz hi;by_cases Oa:i<ms.length
 case neg=>
  have dz:decide ((ms.length:Int)<=(i:Int))=true:=by simp<;>omega
  have gf:decide (ms.length<=i)=true:=by simp<;>omega
  have uV:Hid (jw aR ms=false):=Pz.out (by rw[HB.out];simp[Oa]);go_wp2;go_ret;exact⟨by rw[uV.out];rfl,KD.out.1⟩
 have dz:decide ((ms.length:Int)<=(i:Int))=false:=by simp<;>omega
 have gf:decide (ms.length<=i)=false:=by simp<;>omega
 have im:(i:Int)<(ms.length:Int):=by omega
 obtain⟨a2,c2,km,mQ⟩:=(H.out.2.2.2.1.below KD.out.1 hq) i Oa;have SE:=L6 wr a2 c2 (bC ms i) (r:Int) (H.out.1 _ (List.mem_of_getElem? (iT Oa))) (by have:=H.out.2.1;exact List.all_eq_true.1 this i (List.mem_range.2 Oa)) (mQ.later (au H.out.2.2.2.2.2 KD.out.1));obtain⟨T0,u0,Sz⟩:=M6 (bC ms i) a2 c2;rw[Sz]at km SE;clear mQ Sz
 cases hh:(!(bC ms i).x||Ai (bC ms i) (r:Int))with
 | false=>
  rw[hh]at SE;have uV:Hid (jw aR ms=false):=Pz.out (by rw[HB.out,hh];simp);clear hh;go_wp2_with fail;refine SE.mono ?_;clear SE;rintro e w1 ⟨rfl,b1⟩;have KB:=af (au KD.out.1 b1);clear b1;go_wp2;go_ret;exact⟨by rw[uV.out];rfl,KB.out⟩
 | true=>
  rw[hh]at SE;have TI:Hid ((List.range (j+1)).all (fun j=>ku ms r (fC zs j))=true):=kF (f:=fun j=>ku ms r (fC zs j)) KD.out.2 (by rw[HB.out,hh];simp[Oa]);clear hh;go_wp2_with fail;refine SE.mono ?_;clear SE;rintro e w1 ⟨rfl,b1⟩;have KB:=af (au KD.out.1 b1);clear b1;go_wp2;exact⟨⟨j+1,by omega,by simp,KB.out,TI.out⟩,by simp[intOf];omega⟩
end
section
open Go.Proofs.Tryz
def Vn(w:World)(xs:List M4)(f:Nat->Bool):Prop:=
 ∀(X:World) (i:Nat) (m0:OA) (m1:Nat) (m2:OA) (m3:Nat) (m4:OA) (m5:Nat),Below w.1.size w X->i<xs.length->iN.Rd X ⟨m0,m1,m2,m3,m4,m5⟩ (bC xs i)->Calls prog 202 #[.agg #[.bool (bC xs i).x,.slice m0 (bC xs i).ag.length m1,.slice m2 (bC xs i).h.length m3,.slice m4 (bC xs i).ax.length m5]] X fun e w'=>e=.returned (.bool (f i))/\Below X.1.size X w'
theorem mS(w:World)(a:OA)(cap:Nat)(xs:List M4)(f:Nat->Bool)(hn:xs.length<=maxLen)(hs:iN.vG w a xs)(hf:Vn w xs  f):
  Calls prog 236 #[.slice a xs.length cap,.func (.func 202) #[] #[]] w fun e w'=>(∃i:Int,e=.returned (vI i)/\eH f xs.length i)/\Below w.1.size w w':=by
 unfold maxLen at hn;have HF:=af hf;clear hf;go_enter func236,ntmps236;go_wp2;go_loopw[8] (fun v wr=>∃j:Nat,j<=xs.length/\v=vI j/\Below w.1.size w wr/\∀i,i<j->f i=false) (fun v _=>xs.length-(intOf v).toNat)
 case atStart=>exact⟨0,Nat.zero_le _,rfl,aK,fun i h=>absurd h (by omega)⟩
 case round=>
  obtain⟨j,hj,rfl,aB,aQ⟩:=hrel;by_cases aN:j<xs.length
  ·rcases hs with hs|⟨b,off,rfl,hb,h1⟩
   ·rw[hs]at aN;simp at aN
   obtain⟨⟨m0,m1,m2,m3,m4,m5⟩,bg,iw⟩:=h1 j _ (iT aN);have e0:=(aB.cell (p:=⟨b,off+j*4,none⟩) hb).trans (bg 0 _ rfl);have e1:=(aB.cell (p:=⟨b,off+j*4+1,none⟩) hb).trans (bg 1 _ rfl);have e2:=(aB.cell (p:=⟨b,off+j*4+2,none⟩) hb).trans (bg 2 _ rfl);have e3:=(aB.cell (p:=⟨b,off+j*4+3,none⟩) hb).trans (bg 3 _ rfl);have hw:=HF.out wr j m0 m1 m2 m3 m4 m5 aB aN (iN.later iw aB);have KA:=dw aQ aB;have jn:(j:Int)<(xs.length:Int):=by omega
   clear h1 bg iw aQ aB
   cases hp:f j with
   | true=>
    rw[hp]at hw;go_wp2_with fail;refine hw.mono ?_;clear hw;rintro e w1 ⟨rfl,b1⟩;go_wp2;go_ret;exact⟨⟨_,rfl,.inr ⟨j,rfl,aN,hp,KA.out.1⟩⟩,KA.out.2.trans (b1.mono KA.out.2.size)⟩
   | false=>
    rw[hp]at hw;go_wp2_with fail;refine hw.mono ?_;clear hw;rintro e w1 ⟨rfl,b1⟩;go_wp2
    exact⟨⟨j+1,by omega,by simp,KA.out.2.trans (b1.mono KA.out.2.size),fun i hi=>by
     by_cases e:i=j
     ·rw[e];exact hp
     ·exact KA.out.1 i (by omega)⟩,by simp[intOf];omega⟩
  ·obtain rfl:j=xs.length:=by omega
   have hd:decide ((xs.length:Int)<(xs.length:Int))=false:=by simp
   have KA:=dw aQ aB;clear aQ aB hs;go_wp2;go_ret;exact⟨⟨_,rfl,.inl ⟨rfl,KA.out.1⟩⟩,KA.out.2⟩
theorem Q4(w:World)(a:OA)(cap:Nat)(xs:List M4)(f:Nat->Bool)(hn:xs.length<=maxLen)(hs:iN.vG w a xs)(hf:Vn w xs  f):
  Calls prog 204 #[.slice a xs.length cap,.func (.func 202) #[] #[]] w fun e w'=>e=.returned (.bool (!((List.range xs.length).all fun j=>!f j)))/\Below w.1.size w w':=by
 have hc:=mS w a cap xs  f hn hs hf;clear hs hf;go_enter func204,ntmps204;go_wp2_with fail;refine hc.mono ?_;clear hc;rintro e w1 ⟨⟨i,rfl,hi⟩,b1⟩;have h:=iC hi;have KB:=af b1;clear b1 hi;go_wp2;go_ret;exact⟨by rw[<-h];rfl,KB.out⟩
theorem OD(X:World)(m0:OA)(m1:Nat)(m2:OA)(m3:Nat)(m4:OA)(m5:Nat)(m:M4)(hl:ML m)(h:Ag X ⟨m0,m1,m2,m3,m4,m5⟩ m):Calls prog 202 #[.agg #[.bool m.x,.slice m0 m.ag.length m1,.slice m2 m.h.length m3,.slice m4 m.ax.length m5]] X fun e w'=>e=.returned (.bool (!fF m))/\Below X.1.size X w':=by
 obtain⟨U,hU⟩:=bO (X.alloc (.cells #[.bool m.x,.slice m0 m.ag.length m1,.slice m2 m.h.length m3,.slice m4 m.ax.length m5] 87));have b0:Below X.1.size X U:=by rw[hU];exact aK.alloc aU _
 have hc:=yg U ⟨m0,m1,m2,m3,m4,m5⟩ m hl (h.later b0);simp only[MV.val]at hc;have KB:=af b0;clear b0 hl h;go_enter func202,ntmps202;go_wp2_with fail;rw[<-hU];clear hU;refine hc.mono ?_;clear hc;rintro e w1 ⟨rfl,b1⟩;go_wp2;go_ret;exact⟨rfl,au KB.out b1⟩
theorem Cu(w:World)(a:OA)(cap:Nat)(ms:List M4)(hn:ms.length<=maxLen)(hl:∀m∈ms,ML m)(hs:iN.vG w a ms):
  Calls prog 176 #[.slice a ms.length cap] w fun e w'=>e=.returned (.bool (decide (1<=ms.length)&&decide (ms.length<=8)&&jP ms))/\Below w.1.size w w':=by
 have hc:=Q4 w a cap ms (fun i=>!fF (bC ms i)) hn hs (fun X i m0 m1 m2 m3 m4 m5 hb hi hr=>OD X m0 m1 m2 m3 m4 m5 (bC ms i) (hl _ (List.mem_of_getElem? (iT hi))) hr);have he:(!((List.range ms.length).all fun j=>!(fun i=>!fF (bC ms i)) j))=!jP ms:=by simp[jP]
 rw[he]at hc;clear hs hl he;unfold maxLen at hn;by_cases g1:1<=ms.length
 case neg=>
  have d1:decide ((1:Int)<=(ms.length:Int))=false:=by simp<;>omega
  have hb:(decide (1<=ms.length)&&decide (ms.length<=8)&&jP ms)=false:=by simp[g1]
  rw[hb];clear hc g1 hb;go_enter func176,ntmps176;go_wp2;go_ret;exact⟨rfl,aK⟩
 have d1:decide ((1:Int)<=(ms.length:Int))=true:=by simp<;>omega
 by_cases g2:ms.length<=8
 case neg=>
  have d2:decide ((ms.length:Int)<=8)=false:=by simp<;>omega
  have hb:(decide (1<=ms.length)&&decide (ms.length<=8)&&jP ms)=false:=by simp[g2]
  rw[hb];clear hc g2 hb g1;go_enter func176,ntmps176;go_wp2;go_ret;exact⟨rfl,aK⟩
 have d2:decide ((ms.length:Int)<=8)=true:=by simp<;>omega
 have hb:(decide (1<=ms.length)&&decide (ms.length<=8)&&jP ms)=jP ms:=by simp[g1,g2]
 rw[hb];clear g1 g2 hb;go_enter func176,ntmps176;go_wp2_with fail;refine hc.mono ?_;clear hc;rintro e w1 ⟨rfl,b1⟩;have KB:=af b1;clear b1;go_wp2;go_ret;exact⟨by simp,KB.out⟩
end
section
open Go.Proofs.Tryz
theorem iQ(w:World)(x:Int):Calls prog 189 #[vI x] w fun e w'=>e=.returned (.bool (aW 0 7 x))/\w'=w:=by
 by_cases h0:0<=x
 ·by_cases h8:x<8
  ·rw[jq (by omega) (by omega)];go_enter func189,ntmps189;go_wp2;go_ret;exact⟨rfl,rfl⟩
  ·have hd:decide (x<8)=false:=by simp;omega
   have hb:aW 0 7 x=false:=by cases h:aW 0 7 x with|false=>rfl|true=>rw[dD]at h;omega
   rw[hb];go_enter func189,ntmps189;go_wp2;go_ret;exact⟨rfl,rfl⟩
 ·have hd:decide (0<=x)=false:=by simp;omega
  have hb:aW 0 7 x=false:=by cases h:aW 0 7 x with|false=>rfl|true=>rw[dD]at h;omega
  rw[hb];go_enter func189,ntmps189;go_wp2;go_ret;exact⟨rfl,rfl⟩
theorem Ov(w:World)(a:OA)(n cap:Nat)(z:Int)(zs:List Int)(hn:n<=maxLen)(hs:sD w w.1.size a n zs):
  Calls prog 255 #[.slice a n cap,vI z] w fun e w'=>(∃i:Int,e=.returned (vI i)/\decide (0<=i)=hasB zs z)/\w'=w:=by
 unfold maxLen at hn;obtain⟨hx,hs⟩:=hs;go_enter func255,ntmps255;go_wp2;go_loop[8] (fun v=>∃k:Nat,k<=n/\v=vI k/\∀i,i<k->fC zs i≠z) (fun v=>n-(intOf v).toNat)
 case atStart=>exact⟨0,Nat.zero_le _,rfl,fun i h=>absurd h (by omega)⟩
 case round=>
  obtain⟨k,hk,rfl,aQ⟩:=hrel;have K:=dw aQ hx;by_cases aN:k<n
  ·rcases hs with hs|⟨b,off,rfl,hb,h1⟩
   ·omega
   ·have c:=h1 k _ (jh (by omega));clear h1 aQ hx;by_cases he:fC zs k=z
    ·have q:(z==fC zs k)=true:=by simp[he]
     have HE:Hid (fC zs k=z):=he;clear he;go_wp2;go_ret;exact⟨⟨_,rfl,by rw[MK (by rw[K.out.2];exact aN) HE.out];simp⟩,rfl⟩
    ·have q:(z==fC zs k)=false:=by simp;exact fun h=>he h.symm
     have HE:Hid (fC zs k≠z):=he;clear he;go_wp2;refine⟨⟨k+1,by omega,by simp,fun i hi=>?_⟩,by simp[intOf];omega⟩;by_cases e:i=k
     ·rw[e];exact HE.out
     ·exact K.out.1 i (by omega)
  ·have:k=n:=by omega
   subst this;have hd:decide ((k:Int)<(k:Int))=false:=by simp
   clear aQ hx hs;go_wp2;go_ret;exact⟨⟨_,rfl,by rw[QC (by rw[K.out.2];exact K.out.1)];rfl⟩,rfl⟩
theorem FY(w:World)(a:OA)(n cap:Nat)(z:Int)(zs:List Int)(hn:n<=maxLen)(hs:sD w w.1.size a n zs):
  Calls prog 230 #[.slice a n cap,vI z] w fun e w'=>e=.returned (.bool (hasB zs z))/\w'=w:=by
 have hi:=Ov w a n cap z zs hn hs;clear hs;go_enter func230,ntmps230;go_wp2_with fail;refine hi.mono ?_;clear hi;rintro e w1 ⟨⟨i,rfl,hb⟩,rfl⟩;go_wp2;go_ret;exact⟨rfl,rfl⟩
theorem Jm(w:World)(a:OA)(cap:Nat)(zs:List Int)(hs:sD w w.1.size a zs.length zs)(kz:zs.length<=cap):
  Calls prog 198 #[.agg #[.slice a zs.length cap]] w fun e w'=>e=.returned (.bool (eG zs))/\Below w.1.size w w':=by
 have b0:Below w.1.size w (w.alloc (.cells #[.slice a zs.length cap] 102)):=aK.alloc aU _;by_cases h3:zs.length<1\/3<zs.length
 ·have ey:eG zs=false:=by
   rcases h3 with h|h
   ·simp[eG,show ¬1<=zs.length by omega]
   ·simp[eG,show ¬zs.length<=3 by omega]
  rw[ey];rcases h3 with h|h
  ·have d3:decide ((zs.length:Int)<1)=true:=by simp;omega
   go_enter func198,ntmps198;go_wp2;go_ret;exact⟨rfl,b0⟩
  ·have d3:decide ((zs.length:Int)<1)=false:=by simp;omega
   have d4:decide ((3:Int)<(zs.length:Int))=true:=by simp;omega
   go_enter func198,ntmps198;go_wp2;go_ret;exact⟨rfl,b0⟩
 ·have d3:decide ((zs.length:Int)<1)=false:=by simp;omega
  have d4:decide ((3:Int)<(zs.length:Int))=false:=by simp;omega
  have HG:Hid (eG zs=(List.range zs.length).all (kH zs)):=by unfold Hid;simp[eG,show 1<=zs.length by omega,show zs.length<=3 by omega]
  have KS:Hid (sD w w.1.size a zs.length zs):=hs;have KB:Hid (Below w.1.size w (w.alloc (.cells #[.slice a zs.length cap] 102))):=b0;clear hs b0;go_enter func198,ntmps198;go_wp2;go_loopw[18] (fun v18 wr=>∃k:Nat,k<=zs.length/\v18=vI k/\Below (w.1.size+1) (w.alloc (.cells #[.slice a zs.length cap] 102)) wr/\(List.range k).all (kH zs)=true) (fun v18 _=>zs.length-(intOf v18).toNat)
  case atStart=>exact⟨0,Nat.zero_le _,rfl,aK,rfl⟩
  case round=>
   obtain⟨k,hk,rfl,N8,WJ⟩:=hrel;have rT:=KB.out.trans (N8.mono (by omega));by_cases Gc:k<zs.length
   ·obtain⟨_,x8⟩:=KS.out;rcases x8 with x8|⟨b',di,rfl,fB,h2⟩
    ·omega
    ·have cp:wr.cell? ⟨w.1.size,0,none⟩=some (.slice (some ⟨b',di,none⟩) zs.length cap):=(N8.cell (p:=⟨w.1.size,0,none⟩) (by simp)).trans (by go_simp);have ck:=(rT.cell (p:=⟨b',di+k,none⟩) fB).trans (h2 k _ (jh Gc))
     have fq:sD wr wr.1.size (some ⟨b',di,none⟩) k (zs.take k):=⟨by rw[List.length_take];omega,.inr ⟨b',di,rfl,Nat.lt_of_lt_of_le fB rT.size,fun i z e=>by
      rw[List.getElem?_take]at e;split at e
      ·exact(h2.below rT fB) i z e
      ·cases e⟩⟩
     have KQ:=fP N8 WJ rT;have kc:k<=maxLen:=by unfold maxLen;omega
     have cH:=FY wr _ k cap (fC zs k) (zs.take k) kc fq;have cM:=iQ wr (fC zs k);have HK:Hid (kH zs k=(aW 0 7 (fC zs k)&&!hasB (zs.take k) (fC zs k))):=rfl;have wg:k<=cap:=by omega
     clear h2 N8 WJ fq rT;generalize fC zs k=z at *
     cases g1:aW 0 7 z with
     | false=>
      rw[g1]at cM;have WI:kH zs k=false:=by rw[HK.out,g1];rfl
      go_wp2_with fail;refine cM.mono ?_;clear cM cH;rintro e wr ⟨rfl,rfl⟩;go_wp2;go_ret;exact⟨by rw[HG.out,iR Gc WI];rfl,KQ.out.2.2⟩
     | true=>
      rw[g1]at cM
      cases g2:hasB (zs.take k) z with
      | true=>
       rw[g2]at cH;have WI:kH zs k=false:=by rw[HK.out,g1,g2];rfl
       go_wp2_with fail;refine cM.mono ?_;clear cM;rintro e wr ⟨rfl,rfl⟩;go_wp2_with fail;refine cH.mono ?_;clear cH;rintro e wr ⟨rfl,rfl⟩;go_wp2;go_ret;exact⟨by rw[HG.out,iR Gc WI];rfl,KQ.out.2.2⟩
      | false=>
       rw[g2]at cH;have Zk:kH zs k=true:=by rw[HK.out,g1,g2];rfl
       go_wp2_with fail;refine cM.mono ?_;clear cM;rintro e wr ⟨rfl,rfl⟩;go_wp2_with fail;refine cH.mono ?_;clear cH;rintro e wr ⟨rfl,rfl⟩;go_wp2;exact⟨⟨k+1,by omega,by simp,KQ.out.1,kF KQ.out.2.1 Zk⟩,by simp[intOf];omega⟩
   ·have:k=zs.length:=by omega
    subst this;have hd:decide ((zs.length:Int)<(zs.length:Int))=false:=by simp
    go_wp2;go_ret;exact⟨by rw[HG.out,WJ];rfl,rT⟩
end
section
open Go.Proofs.Tryz
theorem Pv(w:World)(a:OA)(cap:Nat)(zs:List Int)(hs:sD w w.1.size a zs.length zs)(kz:zs.length<=cap):
  Calls prog 197 #[.agg #[.slice a zs.length cap]] w fun e w'=>e=.returned (.bool (!eG zs))/\Below w.1.size w w':=by
 have b0:Below w.1.size w (w.alloc (.cells #[.slice a zs.length cap] 102)):=aK.alloc aU _;have hc:=Jm (w.alloc (.cells #[.slice a zs.length cap] 102)) a cap zs (hs.later b0) kz;have B0:Hid (Below w.1.size w (w.alloc (.cells #[.slice a zs.length cap] 102))):=b0;clear hs b0;generalize eG zs=V at *;generalize zs.length=n at *;go_enter func197,ntmps197;go_wp2_with fail;refine hc.mono ?_;clear hc;rintro e w1 ⟨rfl,b1⟩;go_wp2;go_ret;exact⟨rfl,B0.out.trans (b1.mono (by simp))⟩
theorem Ei(w:World)(a:OA)(n cap:Nat)(aR:List (List Int))(hn:n<=maxLen)(hs:yY w w.1.size a n aR):
  Calls prog 231 #[.slice a n cap,.func (.func 197) #[] #[]] w fun e w'=>(∃i:Int,e=.returned (vI i)/\decide (0<=i)=!((List.range n).all fun i=>eG (eU aR i)))/\Below w.1.size w w':=by
 unfold maxLen at hn;obtain⟨hx,hs⟩:=hs;go_enter func231,ntmps231;go_wp2;go_loopw[8] (fun v wr=>∃j:Nat,j<=n/\v=vI j/\Below w.1.size w wr/\(List.range j).all (fun i=>eG (eU aR i))=true) (fun v _=>n-(intOf v).toNat)
 case atStart=>exact⟨0,Nat.zero_le _,rfl,aK,rfl⟩
 case round=>
  obtain⟨j,hj,rfl,aB,aQ⟩:=hrel;by_cases aN:j<n
  ·rcases hs with hs|⟨b,off,rfl,hb,h1⟩
   ·omega
   ·obtain⟨a',aZ,hc,fI,kz⟩:=h1 j _ (gB (by omega));have c:=(aB.cell (p:=⟨b,off+j,none⟩) hb).trans hc;have KA:=dw aQ aB;have hw:=Pv wr a' aZ (eU aR j) ((fI.below aB).mono aB.size) kz;have HF:Hid (eG (eU aR j)=false->((List.range n).all fun i=>eG (eU aR i))=false):=fun h=>iR aN h
    have HT:Hid (eG (eU aR j)=true->((List.range (j+1)).all fun i=>eG (eU aR i))=true):=fun h=>kF aQ h
    clear h1 hc aQ fI aB kz;generalize (eU aR j).length=m at *
    cases hp:eG (eU aR j)with
    | false=>
     rw[hp]at hw;go_wp2_with fail;refine hw.mono ?_;clear hw;rintro e w1 ⟨rfl,b1⟩;go_wp2;go_ret;exact⟨⟨_,rfl,by rw[HF.out hp];simp⟩,KA.out.2.trans (b1.mono KA.out.2.size)⟩
    | true=>
     rw[hp]at hw;go_wp2_with fail;refine hw.mono ?_;clear hw;rintro e w1 ⟨rfl,b1⟩;go_wp2;exact⟨⟨j+1,by omega,by simp,KA.out.2.trans (b1.mono KA.out.2.size),HT.out hp⟩,by simp[intOf];omega⟩
  ·have:j=n:=by omega
   subst this;have hd:decide ((j:Int)<(j:Int))=false:=by simp
   clear hs;go_wp2;go_ret;exact⟨⟨_,rfl,by rw[aQ];rfl⟩,aB⟩
theorem y9(w:World)(a:OA)(n cap:Nat)(aR:List (List Int))(hn:n<=maxLen)(hs:yY w w.1.size a n aR):
  Calls prog 199 #[.slice a n cap,.func (.func 197) #[] #[]] w fun e w'=>e=.returned (.bool (!((List.range n).all fun i=>eG (eU aR i))))/\Below w.1.size w w':=by
 have hi:=Ei w a n cap aR hn hs;clear hs;generalize (!((List.range n).all fun i=>eG (eU aR i)))=V at *;go_enter func199,ntmps199;go_wp2_with fail;refine hi.mono ?_;clear hi;rintro e w1 ⟨⟨i,rfl,hb⟩,b1⟩;go_wp2;go_ret;exact⟨rfl,b1⟩
theorem pU(w:World)(a:OA)(n cap:Nat)(aR:List (List Int))(hn:n<=maxLen)(hs:yY w w.1.size a n aR):
  Calls prog 160 #[.slice a n cap] w fun e w'=>e=.returned (.bool (dZ aR))/\Below w.1.size w w':=by
 have hx:=hs.1;have hc:=y9 w a n cap aR hn hs;unfold maxLen at hn;by_cases h1:1<=n
 ·by_cases h6:n<=6
  ·have d1:(1:Int)<=(n:Int):=by omega
   have d6:(n:Int)<=6:=by omega
   have hV:dZ aR=((List.range n).all fun i=>eG (eU aR i)):=by simp[dZ,hx,h1,h6]
   rw[hV];generalize ((List.range n).all fun i=>eG (eU aR i))=V at *;clear hs hV;go_enter func160,ntmps160;go_wp2_with fail;refine hc.mono ?_;clear hc;rintro e w1 ⟨rfl,b1⟩;go_wp2;go_ret;exact⟨by simp,b1⟩
  ·have d1:(1:Int)<=(n:Int):=by omega
   have d6:decide ((n:Int)<=6)=false:=by simp;omega
   have hV:dZ aR=false:=by simp[dZ,hx,h6]
   rw[hV];clear hs hV hc;go_enter func160,ntmps160;go_wp2;go_ret;exact⟨rfl,aK⟩
 ·obtain rfl:n=0:=by omega
  have hV:dZ aR=false:=by simp[dZ,hx]
  rw[hV];clear hs hV hc;go_enter func160,ntmps160;go_wp2;go_ret;exact⟨rfl,aK⟩
end
section
open Go.Proofs.Tryz
theorem Gm(w:World)(x:Int):Calls prog 174 #[vI x] w fun e w'=>e=.returned (.bool (aW 1 1000000 x))/\w'=w:=by
 have hc:=tx.jO w x;go_enter func174,ntmps174;go_wp2_with fail;refine hc.mono ?_;clear hc;rintro e w1 ⟨rfl,rfl⟩;go_wp2;go_ret;exact⟨rfl,rfl⟩
theorem sZ(k:C6):aD k=(aW 1 1000000 k.v&&(aW 0 1000000 k.u&&((decide (1<=k.aa.length)&&decide (k.aa.length<=8)&&jP k.aa)&&(dZ k.f&&(jw k.f k.aa&&(decide (k.c.length<=60)&&uT k)))))):=by
 unfold aD;ac_rfl
theorem kJ(w:World)(a1:OA)(c1:Nat)(a2:OA)(c2:Nat)(a3:OA)(c3:Nat)(k:C6)(hl:df.L k)(h:df.Rd w a1 c1 a2 c2 a3 c3 k):Calls prog 146 #[.agg #[vI k.v,vI k.u,.slice a1 k.f.length c1,.slice a2 k.aa.length c2,.slice a3 k.c.length c3,.bool k.w]] w fun e w'=>e=.returned (.bool (aD k))/\Below w.1.size w w':=by
 obtain⟨U,hU⟩:=bO (w.alloc (.cells #[vI k.v,vI k.u,.slice a1 k.f.length c1,.slice a2 k.aa.length c2,.slice a3 k.c.length c3,.bool k.w] 32));have b0:Below w.1.size w U:=by rw[hU];exact aK.alloc aU _
 have FA:Hid (Bx U w.1.size (dU a1 c1 a2 c2 a3 c3 k)):=by unfold Hid;rw[hU];exact Bx.made w (dU a1 c1 a2 c2 a3 c3 k) _
 have HR:=fP (h.later b0) hl b0;have HC:=af (sZ k);have hc:=Gm U k.v;clear b0 h hl;go_enter func146,ntmps146;go_wp2_with fail;rw[<-hU];clear hU;refine hc.mono ?_;clear hc;rintro e w1 ⟨rfl,rfl⟩;generalize w1=U at *
 cases g1:aW 1 1000000 k.v with
 | false=>
  have hb:Hid (aD k=false):=by unfold Hid;rw[HC.out,g1];rfl
  go_wp2;go_ret;exact⟨by rw[hb.out];rfl,HR.out.2.2⟩
 | true=>
 have p1:=FA.out.1 1 _ rfl;have hc:=tx.kX U k.u;go_wp2_with fail;refine hc.mono ?_;clear hc p1;rintro e w1 ⟨rfl,rfl⟩;generalize w1=U at *
 cases g2:aW 0 1000000 k.u with
 | false=>
  have hb:Hid (aD k=false):=by unfold Hid;rw[HC.out,g2];simp
  go_wp2;go_ret;exact⟨by rw[hb.out];rfl,HR.out.2.2⟩
 | true=>
 have p3:=FA.out.1 3 _ rfl;have hc:=Cu U a2 c2 k.aa HR.out.2.1.m HR.out.2.1.ms HR.out.1.m;go_wp2_with fail;refine hc.mono ?_;clear hc p3;rintro e w1 ⟨rfl,b1⟩;have B1:=af b1;clear b1
 cases g3:(decide (1<=k.aa.length)&&decide (k.aa.length<=8)&&jP k.aa)with
 | false=>
  have hb:Hid (aD k=false):=by unfold Hid;rw[HC.out,g3];simp
  go_wp2;go_ret;exact⟨by rw[hb.out];rfl,au HR.out.2.2 B1.out⟩
 | true=>
 have p2:=(FA.out.later B1.out).1 2 _ rfl;have hc:=pU w1 a1 k.f.length c1 k.f HR.out.2.1.p (HR.out.1.p.later B1.out);go_wp2_with fail;refine hc.mono ?_;clear hc p2;rintro e w2 ⟨rfl,b2⟩;have B2:=af (au B1.out b2);clear b2 B1;generalize w1=wA at *
 cases g4:dZ k.f with
 | false=>
  have hb:Hid (aD k=false):=by unfold Hid;rw[HC.out,g4];simp
  go_wp2;go_ret;exact⟨by rw[hb.out];rfl,au HR.out.2.2 B2.out⟩
 | true=>
 have FK:Hid (aD k=(jw k.f k.aa&&(decide (k.c.length<=60)&&uT k))):=by unfold Hid;rw[HC.out,g1,g2,g3,g4];rfl
 have HG:Hid (k.aa.length<=8/\jP k.aa=true/\dZ k.f=true):=by
  simp only[Bool.and_eq_true,decide_eq_true_eq]at g3;exact⟨g3.1.2,g3.2,g4⟩
 clear g1 g2 g3 g4 HC;have SF:Hid (∀X,Below U.1.size U X->(fun X:World=>Bx X w.1.size (dU a1 c1 a2 c2 a3 c3 k)) X):=fun X hX=>FA.out.later hX
 go_wp2_with fail;have bd:=B2.out.drew;have hS:=SF.out _ bd;refine aT (fun z=>z==10) (fun X:World=>Bx X w.1.size (dU a1 c1 a2 c2 a3 c3 k)) (by kernel_rfl) ?_;generalize w2.drew=Wd at *;refine bf 0 rfl hS ?_;simp only[Act.put];refine fU 1 ?_ rfl ?_ hS ?_;rotate_left
 ·(intro X aA;have c0:=aA.1 0 _ rfl;have c1:=aA.1 1 _ rfl;have c2:=aA.1 2 _ rfl;have c3:=aA.1 3 _ rfl;have c4:=aA.1 4 _ rfl;have c5:=aA.1 5 _ rfl;go_simp;first|done|with_reducible rfl)
 simp only[Act.put];refine bf 2 rfl hS ?_;simp only[Act.put];refine fU 3 ?_ rfl ?_ hS ?_;rotate_left
 ·(intro X aA;have c0:=aA.1 0 _ rfl;have c1:=aA.1 1 _ rfl;have c2:=aA.1 2 _ rfl;have c3:=aA.1 3 _ rfl;have c4:=aA.1 4 _ rfl;have c5:=aA.1 5 _ rfl;go_simp;first|done|with_reducible rfl)
 simp only[Act.put];refine bG 4 rfl (fun K hK=>?_);go_simp;refine(Ep Wd a2 c2 k.aa HG.out.1 (HR.out.1.m.later bd)).mono ?_;rintro e X1 ⟨rfl,TG,dQ,b1⟩;have bX:=au bd b1;refine hK.out _ _ (fun _=>SF.out _ bX) ?_;clear hK K;have hS:=SF.out _ bX;refine bG 5 rfl (fun K hK=>?_);go_simp;refine(LK Wd X1 a1 c1 Wd.1.size k.f k.aa HR.out.2.1.ms HG.out.2.1 HG.out.2.2 HR.out.2.1.p HR.out.2.1.ps b1 dQ TG (HR.out.1.p.later bX)).mono ?_;rintro e X2 ⟨rfl,b2⟩;have bY:=au bX b2;refine hK.out _ _ (fun _=>SF.out _ bY) ?_;clear hK K;have hS:=SF.out _ bY
 cases g5:jw k.f k.aa with
 | false=>
  have hb:Hid (aD k=false):=by unfold Hid;rw[FK.out,g5];rfl
  refine bf 6 rfl hS ?_;simp only[Act.put];refine uL (i:=7) (v:=undef) rfl (by kernel_rfl) (fun _ _ _ h=>h) (Or.inr ⟨by rfl,rfl⟩) hS ?_;simp only[Act.put];refine uL (i:=8) (v:=undef) rfl (by kernel_rfl) (fun _ _ _ h=>h) (Or.inr ⟨by rfl,rfl⟩) hS ?_;simp only[Act.put];refine bf 9 rfl hS ?_;simp only[Act.put];refine bG 10 rfl (fun K hK=>?_);go_simp;refine hK.out _ _ (fun h=>absurd (show false=true from h.symm.trans (by kernel_rfl)) (by decide)) ?_;clear hK K;refine bH (by kernel_rfl) ?_ _;go_wp2;go_ret;exact⟨by rw[hb.out];rfl,au HR.out.2.2 bY⟩
 | true=>
  have hb:Hid (aD k=(decide (k.c.length<=60)&&uT k)):=by unfold Hid;rw[FK.out,g5];rfl
  refine bf 6 rfl hS ?_;simp only[Act.put];refine fU 7 ?_ rfl ?_ hS ?_;rotate_left
  ·(intro X aA;have c0:=aA.1 0 _ rfl;have c1:=aA.1 1 _ rfl;have c2:=aA.1 2 _ rfl;have c3:=aA.1 3 _ rfl;have c4:=aA.1 4 _ rfl;have c5:=aA.1 5 _ rfl;go_simp;first|done|with_reducible rfl)
  simp only[Act.put];refine bG 8 rfl (fun K hK=>?_);go_simp;refine(Mi X2 a1 c1 a2 c2 a3 c3 k HR.out.2.1 (HR.out.1.later bY)).mono ?_;rintro e X3 ⟨rfl,b3⟩;have bZ:=au bY b3;refine hK.out _ _ (fun _=>SF.out _ bZ) ?_;clear hK K;have hS:=SF.out _ bZ;refine bf 9 rfl hS ?_;simp only[Act.put];refine bG 10 rfl (fun K hK=>?_);go_simp;refine hK.out _ _ (fun h=>absurd (show false=true from h.symm.trans (by kernel_rfl)) (by decide)) ?_;clear hK K;refine bH (by kernel_rfl) ?_ _;go_wp2;go_ret;exact⟨by rw[hb.out];rfl,au HR.out.2.2 bZ⟩
end
end Go.Proofs.YtbiigfbhhkiodaaGreatDoor
