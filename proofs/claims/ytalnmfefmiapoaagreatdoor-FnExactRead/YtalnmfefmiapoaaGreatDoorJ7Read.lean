import Derived.Test.YtalnmfefmiapoaaGreatDoorJ6Read
set_option maxHeartbeats 16000000
set_option maxRecDepth 100000
namespace Go.Proofs.YtalnmfefmiapoaaGreatDoor
open Go.RowKit
open Go.Sort (grow)
namespace tx
variable {xs:List N5}
def jB(xs:List N5)(r s:Int):Option Nat:=xs.findIdx? fun x=>decide (x.b=r)&&decide (x.e=s)
theorem E9{x:N5}(h:jB xs x.b x.e=none):jB (xs++[x])=Dg (jB xs) x.b x.e xs.length:=by
 funext r s;unfold jB Dg;rw[List.findIdx?_append];by_cases e:r=x.b/\s=x.e
 ·obtain⟨rfl,rfl⟩:=e;unfold jB at h;rw[h];simp[List.findIdx?_cons]
 ·rw[if_neg e]
  have:[x].findIdx? (fun x=>decide (x.b=r)&&decide (x.e=s))=none:=by
   simp[List.findIdx?_cons];intro h1 h2;exact e ⟨h1.symm,h2.symm⟩
  rw[this];simp
theorem qj{r s:Int}:jB xs r s=none↔∀x∈xs,¬(x.b=r/\x.e=s):=by
 unfold jB;rw[List.findIdx?_eq_none_iff];constructor
 ·intro h x hx e;have:=h x hx;simp[e.1,e.2]at this
 ·intro h x hx;have:=h x hx;simp only[Bool.and_eq_false_iff,decide_eq_false_iff_not];by_cases e:x.b=r
  ·exact .inr (fun e'=>this ⟨e,e'⟩)
  ·exact .inl e
structure jS(W:World)(base p mb n:Nat)(v:Value)(xs:List N5):Prop where
 c0:W.cell? ⟨p,0,none⟩=some v
 c1:W.cell? ⟨p,1,none⟩=some (.map (some mb))
 fz:∀j,W.frozen? ⟨p,j,none⟩=false
 row:eZ W base v xs
 mp:j3 W mb n (jB xs)
 ok:∀s∈xs,bn s=true
 vp:v.ownBlock≠some p
 vm:v.ownBlock≠some mb
 pm:p≠mb
 bp:base<=p
 bm:base<=mb
 lp:p<W.1.size
theorem jS.later{W V:World}{base p mb n:Nat}{v:Value}{xs:List N5}(h:jS W base p mb n v xs)(hb:Below W.1.size W V):jS V base p mb n v xs:=
 ⟨(hb.cell (p:=⟨p,0,none⟩) h.lp).trans h.c0,(hb.cell (p:=⟨p,1,none⟩) h.lp).trans h.c1,fun j=>(hb.frozen (p:=⟨p,j,none⟩) h.lp).trans (h.fz j),h.row.later hb,h.mp.later hb,h.ok,h.vp,h.vm,h.pm,h.bp,h.bm,Nat.lt_of_lt_of_le h.lp hb.size⟩
theorem jS.XZ{W:World}{base p mb n:Nat}{v:Value}(h:jS W base p mb n v xs)(hx:xs≠[]):∃q cap,v=.slice (some ⟨q,0,none⟩) xs.length cap/\kM W base p q mb n cap xs:=by
 obtain⟨a,c,e,ho⟩:=h.row.form;rcases ho with ho|⟨q,rfl,hq,hl,ha,hr⟩
 ·exact absurd ho hx
 ·refine⟨q,c,e,⟨by rw[<-e];exact h.c0,h.c1,h.fz,ha,hr,?_,h.mp.any,h.ok,fun e'=>h.vp (by rw[hq,e']),h.pm,fun e'=>h.vm (by rw[hq,e']),h.bp,(h.row.lt hq).1,h.bm,h.lp,hl⟩⟩;rcases h.row.2 with ⟨h0,_⟩|⟨q',aZ,cur,h0,_,_,hc,_⟩
  ·rw[h0]at e;cases e
  ·rw[h0]at e;cases e;exact hc
theorem G9(w:World)(base p q mb n cap:Nat)(xs:List N5)(c:Nat)(h:kM w base p q mb n cap xs)(hl:xs.length<=1000)(hc:c<xs.length)(hs:c=0\/gG xs ((c-1)/2)<=gG xs c):
  Calls Tryz.prog 172 #[.pointer (some ⟨p,0,none⟩),vI (c:Int)] w fun e w'=>e=.returned (.tuple #[])/\Below w.1.size w w':=by
 have H:=aB h;clear h;go_enter Tryz.func172,Tryz.ntmps172;go_wp2;go_loopw[1] (fun v wr=>v=vI (c:Int)/\wr=w) (fun _ _=>0)
 case atStart=>exact⟨rfl,rfl⟩
 case round=>
  obtain⟨rfl,rfl⟩:=hrel;rcases c with _|e
  ·have d0:decide ((0:Int)<((0:Nat):Int))=false:=by simp
   go_wp2;refine bodyPost_end (v:=.tuple #[]) (by simp[results,Tryz.results172,go_sem]) rfl ⟨rfl,aJ⟩
  ·have d0:decide ((0:Int)<((e+1:Nat):Int))=true:=by simp
   obtain⟨x,hx⟩:∃x,xs[e+1]?=some x:=⟨_,List.getElem?_eq_getElem (by omega)⟩
   obtain⟨y,hy⟩:∃y,xs[e/2]?=some y:=⟨_,List.getElem?_eq_getElem (by omega)⟩
   have c1:=rR wr base p q mb n cap xs (e+1) (e/2) x y H.out hx hy;rw[(ku hx).symm,(ku hy).symm]at c1
   have dl:decide (gG xs (e+1)<gG xs (e/2))=false:=by
    have:=hs.resolve_left (by omega);rw[show(e+1-1)/2=e/2 by omega]at this;simpa using this
   rw[dl]at c1;have ea:((e+1:Nat):Int)=(e:Int)+1:=by omega
   have eb:((e/2:Nat):Int)=(e:Int)/2:=by omega
   rw[ea,eb]at c1;clear dl ea eb hx hy hs;go_wp2_with fail;refine c1.mono ?_;clear c1;rintro e' w1 ⟨rfl,b1⟩;have KB:=aB b1;clear b1;go_wp2;refine bodyPost_ret (v:=.tuple #[]) (by simp[results,Tryz.results172,go_sem]) rfl ⟨rfl,KB.out⟩
theorem Kn(w:World)(base p mb n:Nat)(v:Value)(xs:List N5)(x:N5)(h:jS w base p mb n v xs)(hn:n<=1000)(hl:xs.length<=100)(je:bn x=true)(qK:jB xs x.b x.e=none)(MQ:base<=w.1.size)(hs:xs=[]\/gG (xs++[x]) ((xs.length-1)/2)<=gG (xs++[x]) xs.length):
  Calls Tryz.prog 145 #[.pointer (some ⟨p,0,none⟩),.agg #[vI x.b,vI x.e,vI x.j,vI x.g,.bool x.i]] w fun e w'=>e=.returned (.tuple #[])/\∃v',jS w' base p mb (n+1) v' (xs++[x])/\Below base w w':=by
 obtain⟨W0,eB⟩:∃W,W=w.alloc (.cells #[vI x.b,vI x.e,vI x.j,vI x.g,.bool x.i] 112):=⟨_,rfl⟩
 have b0:Below w.1.size w W0:=by rw[eB];exact aJ.alloc aR _
 have z0:W0.1.size=w.1.size+1:=by rw[eB];simp
 have x0:aL W0 w.1.size 0 x:=by rw[eB];exact aL.box w x _
 have h0:=h.later b0;have hk:=fP je;have Am:p<w.1.size:=h.lp;have dr:mb<w.1.size:=h.mp.lt
 have lk:∀d os,(Instr.lookup 165 (.map (some mb)) (jV x.b x.e) true).run Tryz.prog (grow (redrawn W0 d) os)=.ok (.tuple #[vI 0,.bool false]) (grow (redrawn W0 d) os):=fun d os=>by
  have hu:=((h0.mp).later (below_regrown W0 d os)).look hk.1 hk.2;rw[qK]at hu;exact hu
 have lift:∀{b o:Nat}{u:Value},b<W0.1.size->W0.cell? ⟨b,o,none⟩=some u->∀d os,(grow (redrawn W0 d) os).cell? ⟨b,o,none⟩=some u:=fun {b o u} hb hh d os=>((below_regrown W0 d os).cell (p:=⟨b,o,none⟩) hb).trans hh
 have m1:=lift (by omega) h0.c1;have t0:=lift (by omega) x0.c0;have t1:=lift (by omega) x0.c1;have t2:=lift (by omega) x0.c2;have t3:=lift (by omega) x0.c3;have t4:=lift (by omega) x0.c4;have cC:∀d os,Calls Tryz.prog 209 #[.agg #[vI x.b,vI x.e,vI x.j,vI x.g,.bool x.i]] (grow (redrawn W0 d) os) fun e fq=>e=.returned (.agg #[vI x.b,vI x.e])/\∃p:Regrown,fq=grow (redrawn W0 p.d) p.os:=fun d os=>Calls.regrown_of (gI _ _)
 have hm:∀w:World,(method 454 112 (.agg #[vI x.b,vI x.e,vI x.j,vI x.g,.bool x.i]) "loop.example/g00153/impl.cell").run Tryz.prog w=.ok (209,.agg #[vI x.b,vI x.e,vI x.j,vI x.g,.bool x.i]) w:=fun _=>by kernel_rfl
 have H:Hid (jS W0 base p mb n v xs/\aL W0 w.1.size 0 x/\Below w.1.size w W0/\W0.1.size=w.1.size+1/\base<=w.1.size/\jB xs x.b x.e=none/\bn x=true/\v.ownBlock≠some w.1.size):=⟨h0,x0,b0,z0,MQ,qK,je,fun e=>by have:=(h.row.lt e).2;omega⟩
 have HS:=aB hs;clear h h0 x0 b0 z0 MQ qK je hs lift;simp only[jV,Nat.zero_add]at lk t0 t1 t2 t3 t4;go_enter Tryz.func145,Tryz.ntmps145;go_wp2_with fail;rw[<-eB];clear eB;refine wp_region_quiet_below (by kernel_rfl) (by kernel_rfl) ?_;repeat (go_big_quiet_step (exact cC _ _))
 refine wpQuiet_nil ?_;intro _ dD;obtain⟨⟨lH,bI⟩,aT⟩:=dD;subst aT;have bq:=below_regrown W0 lH bI
 have K1:Hid (jS (grow (redrawn W0 lH) bI) base p mb n v xs/\aL (grow (redrawn W0 lH) bI) w.1.size 0 x/\Below w.1.size w (grow (redrawn W0 lH) bI)/\w.1.size<(grow (redrawn W0 lH) bI).1.size):=by
  obtain⟨g1,g2,g3,g4,_⟩:=H.out;have:=bq.size;exact⟨g1.later bq,g2.below bq (by omega),g3.trans (bq.mono g3.size),by omega⟩
 clear bq m1 t0 t1 t2 t3 t4 cC lk;obtain⟨av,ac,MP,-⟩:=K1.out.1.row.form;have m0:=K1.out.1.c0;rw[MP]at m0;have HV:=aB MP;clear MP;go_upto_region 5 with fail
 clear m0;generalize grow (redrawn W0 lH) bI=W1 at *;have hS:(fun X:World=>X.cell? ⟨p,0,none⟩=some v/\aL X w.1.size 0 x) W1.drew:=⟨K1.out.1.c0,K1.out.2.1.below ((Below.refl W1.1.size W1).drew) K1.out.2.2.2⟩
 refine bu (fun z=>z==10) (fun X:World=>X.cell? ⟨p,0,none⟩=some v/\aL X w.1.size 0 x) (by kernel_rfl) ?_;have KD:Hid (Below W1.1.size W1 W1.drew):=aJ.drew;generalize W1.drew=Wd at *;refine cz 0 ?_ rfl ?_ hS ?_;rotate_left
 ·(intro w _;go_simp;first|done|with_reducible rfl|(rw[if_pos (by omega)])|(rw[if_pos (by omega)];go_simp))
 simp only[Act.put];refine cz 1 ?_ rfl ?_ hS ?_;rotate_left
 ·(intro w _;go_simp;first|done|with_reducible rfl|(rw[if_pos (by omega)])|(rw[if_pos (by omega)];go_simp))
 simp only[Act.put];refine cz 2 ?_ rfl ?_ hS ?_;rotate_left
 ·(intro w _;go_simp;first|done|with_reducible rfl|(rw[if_pos (by omega)])|(rw[if_pos (by omega)];go_simp))
 simp only[Act.put];refine cz 3 ?_ rfl ?_ hS ?_;rotate_left
 ·(intro w _;go_simp;first|done|with_reducible rfl|(rw[if_pos (by omega)])|(rw[if_pos (by omega)];go_simp))
 simp only[Act.put];refine jg 4 ?_ rfl ?_ hS ?_;rotate_left
 ·(intro w aG;obtain⟨s0,⟨a0,a1,a2,a3,a4⟩⟩:=aG;go_simp;first|done|with_reducible rfl)
 simp only[Act.put];refine jg 5 ?_ rfl ?_ hS ?_;rotate_left
 ·(intro w aG;obtain⟨s0,⟨a0,a1,a2,a3,a4⟩⟩:=aG;go_simp;first|done|with_reducible rfl)
 simp only[Act.put];obtain⟨V,hV⟩:∃V,V=Wd.alloc (.cells #[vI x.b,vI x.e,vI x.j,vI x.g,.bool x.i] 112):=⟨_,rfl⟩
 have bV:Below Wd.1.size Wd V:=by rw[hV];exact aJ.alloc aR _
 have D5:Below W1.1.size W1 V:=KD.out.trans (bV.mono KD.out.size);have nu:bR V Wd.1.size 0 [x]:=by rw[hV];exact(aL.box Wd _ _).one
 have iL:=(K1.out.1.later D5)
 obtain⟨v5,Y5,hr,pY,iT,jd⟩:=rZ iL.row [x] (by simp;omega) 47 Wd.1.size 0 1 nu (by have:=iL.bp;have:=iL.lp;omega)
 obtain⟨a5,k5,rfl⟩:∃a5 k5,v5=Value.slice a5 (xs.length+1) k5:=by
  obtain⟨a5,k5,e5,-⟩:=pY.form;exact⟨a5,k5,by simpa using e5⟩
 have tX:w.1.size<V.1.size:=Nat.lt_of_lt_of_le K1.out.2.2.2 D5.size;have MN:(fun X:World=>X.cell? ⟨p,0,none⟩=some v/\aL X w.1.size 0 x) V:=⟨iL.c0,K1.out.2.1.below D5 K1.out.2.2.2⟩
 have kb:∀b,b<V.1.size->v.ownBlock≠some b->Y5.1[b]?=V.1[b]?:=fun b hb fF=>iT.block b hb (fun e=>fF e.symm)
 have Ai:(fun X:World=>X.cell? ⟨p,0,none⟩=some v/\aL X w.1.size 0 x) Y5:=⟨(World.cell?_of_block (a:=⟨p,0,none⟩) (kb p iL.lp iL.vp)).trans iL.c0,aL.mM MN.2 (kb _ tX H.out.2.2.2.2.2.2.2)⟩
 have uq:∀b,b<V.1.size->v.ownBlock≠some b->(Value.slice a5 (xs.length+1) k5).ownBlock≠some b:=fun b hb fF e=>by
  rcases jd with h|h
  ·rw[h]at e;exact fF e
  ·rw[h]at e;cases e;omega
 have K5:Hid (eZ Y5 base (Value.slice a5 (xs.length+1) k5) (xs++[x])/\Y5.cell? ⟨p,0,none⟩=some v/\Y5.cell? ⟨p,1,none⟩=some (.map (some mb))/\(∀j,Y5.frozen? ⟨p,j,none⟩=false)/\j3 Y5 mb n (jB xs)/\(Value.slice a5 (xs.length+1) k5).ownBlock≠some p/\(Value.slice a5 (xs.length+1) k5).ownBlock≠some mb/\p<Y5.1.size/\Below base w Y5/\aL Y5 w.1.size 0 x/\w.1.size<Y5.1.size/\(Value.slice a5 (xs.length+1) k5).ownBlock≠some w.1.size/\mb<V.1.size):=by
  have yS:=kb p iL.lp iL.vp;have VT:=kb mb iL.mp.lt iL.vm;have Vu:Below base w V:=(K1.out.2.2.1.mono H.out.2.2.2.2.1).trans (D5.mono (by have:=K1.out.1.bp;have:=K1.out.1.lp;omega));refine⟨pY,Ai.1,(World.cell?_of_block (a:=⟨p,1,none⟩) yS).trans iL.c1,fun j=>(World.frozen?_of_block (a:=⟨p,j,none⟩) yS).trans (iL.fz j),iL.mp.aj VT,uq p iL.lp iL.vp,uq mb iL.mp.lt iL.vm,Nat.lt_of_lt_of_le iL.lp iT.size,?_,Ai.2,Nat.lt_of_lt_of_le tX iT.size,uq _ tX H.out.2.2.2.2.2.2.2,iL.mp.lt⟩;exact Vu.grown iT (by have:=iL.bp;have:=iL.lp;omega) (fun b e=>(iL.row.lt e).1)
 rw[hV]at hr;have f0:=K5.out.2.2.2.1 0;have e0:=K5.out.2.1;simp only[List.length_cons,List.length_nil,Nat.zero_add]at hr;refine cZ 6 rfl (fun K hK=>?_);go_simp;refine hK.out _ _ (fun _=>by rw[<-hV];exact MN) ?_;clear hK K;refine cZ 7 rfl (fun K hK=>?_);refine df _ rfl (.tmp 34) (.tmp 36) 47 rfl _ _ _ _ (by first|rfl|simp[Act.eval,Act.put]) (by first|rfl|simp[Act.eval,Act.put]) hr ?_;refine hK.out _ _ (fun _=>Ai) ?_;clear hK K hr;simp only[Act.put];refine cz 8 ?_ rfl ?_ Ai ?_;rotate_left
 ·(intro w _;go_simp;first|done|with_reducible rfl|(rw[if_pos (by omega)])|(rw[if_pos (by omega)];go_simp))
 simp only[Act.put];refine cz 9 ?_ rfl ?_ Ai ?_;rotate_left
 ·(intro w _;go_simp;first|done|with_reducible rfl|(rw[if_pos (by omega)])|(rw[if_pos (by omega)];go_simp))
 simp only[Act.put];refine cZ 10 rfl (fun K hK=>?_);go_simp;refine hK.out _ _ (fun h=>absurd (show false=true from h.symm.trans (by kernel_rfl)) (by decide)) ?_;clear hK K;refine dL (by kernel_rfl) ?_ _
 have KU:Hid (aL (Y5.setCell ⟨p,0,none⟩ (Value.slice a5 (xs.length+1) k5)) w.1.size 0 x/\eZ (Y5.setCell ⟨p,0,none⟩ (Value.slice a5 (xs.length+1) k5)) base (Value.slice a5 (xs.length+1) k5) (xs++[x])/\(Y5.setCell ⟨p,0,none⟩ (Value.slice a5 (xs.length+1) k5)).cell? ⟨p,0,none⟩=some (Value.slice a5 (xs.length+1) k5)/\(Y5.setCell ⟨p,0,none⟩ (Value.slice a5 (xs.length+1) k5)).cell? ⟨p,1,none⟩=some (.map (some mb))/\(∀j,(Y5.setCell ⟨p,0,none⟩ (Value.slice a5 (xs.length+1) k5)).frozen? ⟨p,j,none⟩=false)/\j3 (Y5.setCell ⟨p,0,none⟩ (Value.slice a5 (xs.length+1) k5)) mb n (jB xs)/\(Value.slice a5 (xs.length+1) k5).ownBlock≠some p/\(Value.slice a5 (xs.length+1) k5).ownBlock≠some mb/\p<(Y5.setCell ⟨p,0,none⟩ (Value.slice a5 (xs.length+1) k5)).1.size/\Below base w (Y5.setCell ⟨p,0,none⟩ (Value.slice a5 (xs.length+1) k5))/\w.1.size<(Y5.setCell ⟨p,0,none⟩ (Value.slice a5 (xs.length+1) k5)).1.size/\(Value.slice a5 (xs.length+1) k5).ownBlock≠some w.1.size):=by
  obtain⟨g1,g2,g3,g4,g5,g6,g7,g8,g9,I7,I8,MH,g13⟩:=K5.out;have bp:=K1.out.1.bp;have dZ:∀b,b≠p->(Y5.setCell ⟨p,0,none⟩ (Value.slice a5 (xs.length+1) k5)).1[b]?=Y5.1[b]?:=fun b hb=>Below.heap_setCell _ _ _ _ hb
  refine⟨aL.mM I7 (dZ _ (by omega)),g1.aQ (fun b _ _ e=>dZ b (fun e'=>g6 (by rw[e,e']))),az g2,(ae (by omega)).trans g3,fun j=>by rw[World.frozen?_setCell];exact g4 j,g5.aj (dZ mb (fun e=>K1.out.1.pm e.symm)),g6,g7,by simpa[World.setCell]using g8,g9.setCell (p:=⟨p,0,none⟩) bp _,by simpa[World.setCell]using I8,MH⟩
 clear K5 hS MN Ai kb uq iT jd pY iL nu D5 bV hV V tX f0 e0 KD;generalize Y5.setCell ⟨p,0,none⟩ (Value.slice a5 (xs.length+1) k5)=W5 at *;clear Y5;have hS:(fun X:World=>X.cell? ⟨p,1,none⟩=some (.map (some mb))/\aL X w.1.size 0 x) W5.drew:=⟨KU.out.2.2.2.1,KU.out.1.below ((Below.refl W5.1.size W5).drew) KU.out.2.2.2.2.2.2.2.2.2.2.1⟩
 go_upto_region 6 with fail
 refine bu (fun z=>z==8) (fun X:World=>X.cell? ⟨p,1,none⟩=some (.map (some mb))/\aL X w.1.size 0 x) (by kernel_rfl) ?_;have KD:Hid (Below W5.1.size W5 W5.drew):=aJ.drew;generalize W5.drew=We at *;refine cz 0 ?_ rfl ?_ hS ?_;rotate_left
 ·(intro w _;go_simp;first|done|with_reducible rfl|(rw[if_pos (by omega)])|(rw[if_pos (by omega)];go_simp))
 simp only[Act.put];refine cz 1 ?_ rfl ?_ hS ?_;rotate_left
 ·(intro w _;go_simp;first|done|with_reducible rfl|(rw[if_pos (by omega)])|(rw[if_pos (by omega)];go_simp))
 simp only[Act.put];refine cz 2 ?_ rfl ?_ hS ?_;rotate_left
 ·(intro w _;go_simp;first|done|with_reducible rfl|(rw[if_pos (by omega)])|(rw[if_pos (by omega)];go_simp))
 simp only[Act.put];refine jg 3 ?_ rfl ?_ hS ?_;rotate_left
 ·(intro w aG;obtain⟨s0,⟨a0,a1,a2,a3,a4⟩⟩:=aG;go_simp;first|done|with_reducible rfl)
 simp only[Act.put];refine jg 4 ?_ rfl ?_ hS ?_;rotate_left
 ·(intro w aG;obtain⟨s0,⟨a0,a1,a2,a3,a4⟩⟩:=aG;go_simp;first|done|with_reducible rfl)
 simp only[Act.put];refine cz 5 ?_ rfl ?_ hS ?_;rotate_left
 ·(intro w _;go_simp;first|done|with_reducible rfl|(rw[if_pos (by omega)])|(rw[if_pos (by omega)];go_simp))
 simp only[Act.put];refine cz 7 ?_ rfl ?_ hS ?_;rotate_left
 ·(intro w _;go_simp;first|done|with_reducible rfl|(rw[if_pos (by omega)])|(rw[if_pos (by omega)];go_simp))
 simp only[Act.put];refine cZ 6 rfl (fun K hK=>?_);go_simp;refine(gI We x).mono ?_;rintro e X2 ⟨rfl,b2⟩;have bX:Below W5.1.size W5 X2:=KD.out.trans (b2.mono KD.out.size);obtain⟨Y,fO,BH,uU,DR⟩:=(KU.out.2.2.2.2.2.1.later bX).store (by omega) hk.1 hk.2 xs.length (by omega);rw[<-E9 H.out.2.2.2.2.2.1]at BH
 have iD:(fun X:World=>X.cell? ⟨p,1,none⟩=some (.map (some mb))/\aL X w.1.size 0 x) X2:=by
  obtain⟨g1,g2,g3,g4,g5,g6,g7,g8,g9,I7,I8,MH⟩:=KU.out;exact⟨(bX.cell (p:=⟨p,1,none⟩) g9).trans g4,g1.below bX I8⟩
 have K7:Hid (jS Y base p mb (n+1) (Value.slice a5 (xs.length+1) k5) (xs++[x])/\Below base w Y):=by
  obtain⟨g1,g2,g3,g4,g5,g6,g7,g8,g9,I7,I8,MH⟩:=KU.out;have mH:=K1.out.1.pm;have yS:=(uU.block p (Nat.lt_of_lt_of_le g9 bX.size) mH).trans (bX.block p g9);refine⟨⟨(World.cell?_of_block (a:=⟨p,0,none⟩) yS).trans g3,(World.cell?_of_block (a:=⟨p,1,none⟩) yS).trans g4,fun j=>(World.frozen?_of_block (a:=⟨p,j,none⟩) yS).trans (g5 j),g2.aQ (fun b _ hb e=>(uU.block b (Nat.lt_of_lt_of_le hb bX.size) (fun e'=>g8 (by rw[e,e']))).trans (bX.block b hb)),BH,fun s hs=>?_,g7,g8,mH,K1.out.1.bp,K1.out.1.bm,by rw[DR];exact Nat.lt_of_lt_of_le g9 bX.size⟩,?_⟩
  ·rcases List.mem_append.1 hs with hs|hs
   ·exact K1.out.1.ok s hs
   ·simp at hs;subst hs;exact H.out.2.2.2.2.2.2.1
  ·have qJ:base<=W5.1.size:=by have:=K1.out.1.bp;omega
   exact(I7.trans (bX.mono qJ)).trans (uU.below K1.out.1.bm (Nat.le_trans qJ bX.size))
 simp only[jV]at fO;refine hK.out _ _ (fun _=>iD) ?_;clear hK K iD hS bX KD BH uU DR hm hk b2;refine cZ 8 rfl (fun K hK=>?_);go_simp;refine hK.out _ _ (fun h=>absurd (show false=true from h.symm.trans (by kernel_rfl)) (by decide)) ?_;clear hK K fO;refine dL (by kernel_rfl) ?_ _;obtain⟨q5,cap5,eK,P7⟩:=K7.out.1.XZ (by simp)
 have c7:=G9 Y base p q5 mb (n+1) cap5 (xs++[x]) xs.length P7 (by simp;omega) (by simp) (by
  rcases HS.out with h|h
  ·exact .inl (by rw[h];rfl)
  ·exact .inr h)
 go_wp2_with fail;refine c7.mono ?_;clear c7;rintro e w8 ⟨rfl,b8⟩;have KE:Hid (jS w8 base p mb (n+1) (Value.slice a5 (xs.length+1) k5) (xs++[x])/\Below base w w8):=⟨K7.out.1.later b8,K7.out.2.trans (b8.mono (by have:=K7.out.1.bp;have:=K7.out.1.lp;omega))⟩
 clear b8;go_wp2;refine bodyPost_end (v:=.tuple #[]) (by simp[results,Tryz.results145,go_sem]) rfl ⟨rfl,(Value.slice a5 (xs.length+1) k5),KE.out.1,KE.out.2⟩
theorem Nz(w:World)(base p mb n:Nat)(v:Value)(xs:List N5)(x:N5)(h:jS w base p mb n v xs)(hn:n<=1000)(hl:xs.length<=100)(je:bn x=true)(qK:jB xs x.b x.e=none)(MQ:base<=w.1.size)(hs:eG.Hp (gG xs) xs.length):
  Calls Tryz.prog 145 #[.pointer (some ⟨p,0,none⟩),.agg #[vI x.b,vI x.e,vI x.j,vI x.g,.bool x.i]] w fun e w'=>e=.returned (.tuple #[])/\∃q cap n' ys,n'<=n+1+2*xs.length/\kM w' base p q mb n' cap ys/\ys.Perm (xs++[x])/\eG.Hp (gG ys) ys.length/\Below base w w':=by
 obtain⟨W0,eB⟩:∃W,W=w.alloc (.cells #[vI x.b,vI x.e,vI x.j,vI x.g,.bool x.i] 112):=⟨_,rfl⟩
 have b0:Below w.1.size w W0:=by rw[eB];exact aJ.alloc aR _
 have z0:W0.1.size=w.1.size+1:=by rw[eB];simp
 have x0:aL W0 w.1.size 0 x:=by rw[eB];exact aL.box w x _
 have h0:=h.later b0;have hk:=fP je;have Am:p<w.1.size:=h.lp;have dr:mb<w.1.size:=h.mp.lt
 have lk:∀d os,(Instr.lookup 165 (.map (some mb)) (jV x.b x.e) true).run Tryz.prog (grow (redrawn W0 d) os)=.ok (.tuple #[vI 0,.bool false]) (grow (redrawn W0 d) os):=fun d os=>by
  have hu:=((h0.mp).later (below_regrown W0 d os)).look hk.1 hk.2;rw[qK]at hu;exact hu
 have lift:∀{b o:Nat}{u:Value},b<W0.1.size->W0.cell? ⟨b,o,none⟩=some u->∀d os,(grow (redrawn W0 d) os).cell? ⟨b,o,none⟩=some u:=fun {b o u} hb hh d os=>((below_regrown W0 d os).cell (p:=⟨b,o,none⟩) hb).trans hh
 have m1:=lift (by omega) h0.c1;have t0:=lift (by omega) x0.c0;have t1:=lift (by omega) x0.c1;have t2:=lift (by omega) x0.c2;have t3:=lift (by omega) x0.c3;have t4:=lift (by omega) x0.c4;have cC:∀d os,Calls Tryz.prog 209 #[.agg #[vI x.b,vI x.e,vI x.j,vI x.g,.bool x.i]] (grow (redrawn W0 d) os) fun e fq=>e=.returned (.agg #[vI x.b,vI x.e])/\∃p:Regrown,fq=grow (redrawn W0 p.d) p.os:=fun d os=>Calls.regrown_of (gI _ _)
 have hm:∀w:World,(method 454 112 (.agg #[vI x.b,vI x.e,vI x.j,vI x.g,.bool x.i]) "loop.example/g00153/impl.cell").run Tryz.prog w=.ok (209,.agg #[vI x.b,vI x.e,vI x.j,vI x.g,.bool x.i]) w:=fun _=>by kernel_rfl
 have H:Hid (jS W0 base p mb n v xs/\aL W0 w.1.size 0 x/\Below w.1.size w W0/\W0.1.size=w.1.size+1/\base<=w.1.size/\jB xs x.b x.e=none/\bn x=true/\v.ownBlock≠some w.1.size):=⟨h0,x0,b0,z0,MQ,qK,je,fun e=>by have:=(h.row.lt e).2;omega⟩
 have HS:=aB hs;clear h h0 x0 b0 z0 MQ qK je hs lift;simp only[jV,Nat.zero_add]at lk t0 t1 t2 t3 t4;go_enter Tryz.func145,Tryz.ntmps145;go_wp2_with fail;rw[<-eB];clear eB;refine wp_region_quiet_below (by kernel_rfl) (by kernel_rfl) ?_;repeat (go_big_quiet_step (exact cC _ _))
 refine wpQuiet_nil ?_;intro _ dD;obtain⟨⟨lH,bI⟩,aT⟩:=dD;subst aT;have bq:=below_regrown W0 lH bI
 have K1:Hid (jS (grow (redrawn W0 lH) bI) base p mb n v xs/\aL (grow (redrawn W0 lH) bI) w.1.size 0 x/\Below w.1.size w (grow (redrawn W0 lH) bI)/\w.1.size<(grow (redrawn W0 lH) bI).1.size):=by
  obtain⟨g1,g2,g3,g4,_⟩:=H.out;have:=bq.size;exact⟨g1.later bq,g2.below bq (by omega),g3.trans (bq.mono g3.size),by omega⟩
 clear bq m1 t0 t1 t2 t3 t4 cC lk;obtain⟨av,ac,MP,-⟩:=K1.out.1.row.form;have m0:=K1.out.1.c0;rw[MP]at m0;have HV:=aB MP;clear MP;go_upto_region 5 with fail
 clear m0;generalize grow (redrawn W0 lH) bI=W1 at *;have hS:(fun X:World=>X.cell? ⟨p,0,none⟩=some v/\aL X w.1.size 0 x) W1.drew:=⟨K1.out.1.c0,K1.out.2.1.below ((Below.refl W1.1.size W1).drew) K1.out.2.2.2⟩
 refine bu (fun z=>z==10) (fun X:World=>X.cell? ⟨p,0,none⟩=some v/\aL X w.1.size 0 x) (by kernel_rfl) ?_;have KD:Hid (Below W1.1.size W1 W1.drew):=aJ.drew;generalize W1.drew=Wd at *;refine cz 0 ?_ rfl ?_ hS ?_;rotate_left
 ·(intro w _;go_simp;first|done|with_reducible rfl|(rw[if_pos (by omega)])|(rw[if_pos (by omega)];go_simp))
 simp only[Act.put];refine cz 1 ?_ rfl ?_ hS ?_;rotate_left
 ·(intro w _;go_simp;first|done|with_reducible rfl|(rw[if_pos (by omega)])|(rw[if_pos (by omega)];go_simp))
 simp only[Act.put];refine cz 2 ?_ rfl ?_ hS ?_;rotate_left
 ·(intro w _;go_simp;first|done|with_reducible rfl|(rw[if_pos (by omega)])|(rw[if_pos (by omega)];go_simp))
 simp only[Act.put];refine cz 3 ?_ rfl ?_ hS ?_;rotate_left
 ·(intro w _;go_simp;first|done|with_reducible rfl|(rw[if_pos (by omega)])|(rw[if_pos (by omega)];go_simp))
 simp only[Act.put];refine jg 4 ?_ rfl ?_ hS ?_;rotate_left
 ·(intro w aG;obtain⟨s0,⟨a0,a1,a2,a3,a4⟩⟩:=aG;go_simp;first|done|with_reducible rfl)
 simp only[Act.put];refine jg 5 ?_ rfl ?_ hS ?_;rotate_left
 ·(intro w aG;obtain⟨s0,⟨a0,a1,a2,a3,a4⟩⟩:=aG;go_simp;first|done|with_reducible rfl)
 simp only[Act.put];obtain⟨V,hV⟩:∃V,V=Wd.alloc (.cells #[vI x.b,vI x.e,vI x.j,vI x.g,.bool x.i] 112):=⟨_,rfl⟩
 have bV:Below Wd.1.size Wd V:=by rw[hV];exact aJ.alloc aR _
 have D5:Below W1.1.size W1 V:=KD.out.trans (bV.mono KD.out.size);have nu:bR V Wd.1.size 0 [x]:=by rw[hV];exact(aL.box Wd _ _).one
 have iL:=(K1.out.1.later D5)
 obtain⟨v5,Y5,hr,pY,iT,jd⟩:=rZ iL.row [x] (by simp;omega) 47 Wd.1.size 0 1 nu (by have:=iL.bp;have:=iL.lp;omega)
 obtain⟨a5,k5,rfl⟩:∃a5 k5,v5=Value.slice a5 (xs.length+1) k5:=by
  obtain⟨a5,k5,e5,-⟩:=pY.form;exact⟨a5,k5,by simpa using e5⟩
 have tX:w.1.size<V.1.size:=Nat.lt_of_lt_of_le K1.out.2.2.2 D5.size;have MN:(fun X:World=>X.cell? ⟨p,0,none⟩=some v/\aL X w.1.size 0 x) V:=⟨iL.c0,K1.out.2.1.below D5 K1.out.2.2.2⟩
 have kb:∀b,b<V.1.size->v.ownBlock≠some b->Y5.1[b]?=V.1[b]?:=fun b hb fF=>iT.block b hb (fun e=>fF e.symm)
 have Ai:(fun X:World=>X.cell? ⟨p,0,none⟩=some v/\aL X w.1.size 0 x) Y5:=⟨(World.cell?_of_block (a:=⟨p,0,none⟩) (kb p iL.lp iL.vp)).trans iL.c0,aL.mM MN.2 (kb _ tX H.out.2.2.2.2.2.2.2)⟩
 have uq:∀b,b<V.1.size->v.ownBlock≠some b->(Value.slice a5 (xs.length+1) k5).ownBlock≠some b:=fun b hb fF e=>by
  rcases jd with h|h
  ·rw[h]at e;exact fF e
  ·rw[h]at e;cases e;omega
 have K5:Hid (eZ Y5 base (Value.slice a5 (xs.length+1) k5) (xs++[x])/\Y5.cell? ⟨p,0,none⟩=some v/\Y5.cell? ⟨p,1,none⟩=some (.map (some mb))/\(∀j,Y5.frozen? ⟨p,j,none⟩=false)/\j3 Y5 mb n (jB xs)/\(Value.slice a5 (xs.length+1) k5).ownBlock≠some p/\(Value.slice a5 (xs.length+1) k5).ownBlock≠some mb/\p<Y5.1.size/\Below base w Y5/\aL Y5 w.1.size 0 x/\w.1.size<Y5.1.size/\(Value.slice a5 (xs.length+1) k5).ownBlock≠some w.1.size/\mb<V.1.size):=by
  have yS:=kb p iL.lp iL.vp;have VT:=kb mb iL.mp.lt iL.vm;have Vu:Below base w V:=(K1.out.2.2.1.mono H.out.2.2.2.2.1).trans (D5.mono (by have:=K1.out.1.bp;have:=K1.out.1.lp;omega));refine⟨pY,Ai.1,(World.cell?_of_block (a:=⟨p,1,none⟩) yS).trans iL.c1,fun j=>(World.frozen?_of_block (a:=⟨p,j,none⟩) yS).trans (iL.fz j),iL.mp.aj VT,uq p iL.lp iL.vp,uq mb iL.mp.lt iL.vm,Nat.lt_of_lt_of_le iL.lp iT.size,?_,Ai.2,Nat.lt_of_lt_of_le tX iT.size,uq _ tX H.out.2.2.2.2.2.2.2,iL.mp.lt⟩;exact Vu.grown iT (by have:=iL.bp;have:=iL.lp;omega) (fun b e=>(iL.row.lt e).1)
 rw[hV]at hr;have f0:=K5.out.2.2.2.1 0;have e0:=K5.out.2.1;simp only[List.length_cons,List.length_nil,Nat.zero_add]at hr;refine cZ 6 rfl (fun K hK=>?_);go_simp;refine hK.out _ _ (fun _=>by rw[<-hV];exact MN) ?_;clear hK K;refine cZ 7 rfl (fun K hK=>?_);refine df _ rfl (.tmp 34) (.tmp 36) 47 rfl _ _ _ _ (by first|rfl|simp[Act.eval,Act.put]) (by first|rfl|simp[Act.eval,Act.put]) hr ?_;refine hK.out _ _ (fun _=>Ai) ?_;clear hK K hr;simp only[Act.put];refine cz 8 ?_ rfl ?_ Ai ?_;rotate_left
 ·(intro w _;go_simp;first|done|with_reducible rfl|(rw[if_pos (by omega)])|(rw[if_pos (by omega)];go_simp))
 simp only[Act.put];refine cz 9 ?_ rfl ?_ Ai ?_;rotate_left
 ·(intro w _;go_simp;first|done|with_reducible rfl|(rw[if_pos (by omega)])|(rw[if_pos (by omega)];go_simp))
 simp only[Act.put];refine cZ 10 rfl (fun K hK=>?_);go_simp;refine hK.out _ _ (fun h=>absurd (show false=true from h.symm.trans (by kernel_rfl)) (by decide)) ?_;clear hK K;refine dL (by kernel_rfl) ?_ _
 have KU:Hid (aL (Y5.setCell ⟨p,0,none⟩ (Value.slice a5 (xs.length+1) k5)) w.1.size 0 x/\eZ (Y5.setCell ⟨p,0,none⟩ (Value.slice a5 (xs.length+1) k5)) base (Value.slice a5 (xs.length+1) k5) (xs++[x])/\(Y5.setCell ⟨p,0,none⟩ (Value.slice a5 (xs.length+1) k5)).cell? ⟨p,0,none⟩=some (Value.slice a5 (xs.length+1) k5)/\(Y5.setCell ⟨p,0,none⟩ (Value.slice a5 (xs.length+1) k5)).cell? ⟨p,1,none⟩=some (.map (some mb))/\(∀j,(Y5.setCell ⟨p,0,none⟩ (Value.slice a5 (xs.length+1) k5)).frozen? ⟨p,j,none⟩=false)/\j3 (Y5.setCell ⟨p,0,none⟩ (Value.slice a5 (xs.length+1) k5)) mb n (jB xs)/\(Value.slice a5 (xs.length+1) k5).ownBlock≠some p/\(Value.slice a5 (xs.length+1) k5).ownBlock≠some mb/\p<(Y5.setCell ⟨p,0,none⟩ (Value.slice a5 (xs.length+1) k5)).1.size/\Below base w (Y5.setCell ⟨p,0,none⟩ (Value.slice a5 (xs.length+1) k5))/\w.1.size<(Y5.setCell ⟨p,0,none⟩ (Value.slice a5 (xs.length+1) k5)).1.size/\(Value.slice a5 (xs.length+1) k5).ownBlock≠some w.1.size):=by
  obtain⟨g1,g2,g3,g4,g5,g6,g7,g8,g9,I7,I8,MH,g13⟩:=K5.out;have bp:=K1.out.1.bp;have dZ:∀b,b≠p->(Y5.setCell ⟨p,0,none⟩ (Value.slice a5 (xs.length+1) k5)).1[b]?=Y5.1[b]?:=fun b hb=>Below.heap_setCell _ _ _ _ hb
  refine⟨aL.mM I7 (dZ _ (by omega)),g1.aQ (fun b _ _ e=>dZ b (fun e'=>g6 (by rw[e,e']))),az g2,(ae (by omega)).trans g3,fun j=>by rw[World.frozen?_setCell];exact g4 j,g5.aj (dZ mb (fun e=>K1.out.1.pm e.symm)),g6,g7,by simpa[World.setCell]using g8,g9.setCell (p:=⟨p,0,none⟩) bp _,by simpa[World.setCell]using I8,MH⟩
 clear K5 hS MN Ai kb uq iT jd pY iL nu D5 bV hV V tX f0 e0 KD;generalize Y5.setCell ⟨p,0,none⟩ (Value.slice a5 (xs.length+1) k5)=W5 at *;clear Y5;have hS:(fun X:World=>X.cell? ⟨p,1,none⟩=some (.map (some mb))/\aL X w.1.size 0 x) W5.drew:=⟨KU.out.2.2.2.1,KU.out.1.below ((Below.refl W5.1.size W5).drew) KU.out.2.2.2.2.2.2.2.2.2.2.1⟩
 go_upto_region 6 with fail
 refine bu (fun z=>z==8) (fun X:World=>X.cell? ⟨p,1,none⟩=some (.map (some mb))/\aL X w.1.size 0 x) (by kernel_rfl) ?_;have KD:Hid (Below W5.1.size W5 W5.drew):=aJ.drew;generalize W5.drew=We at *;refine cz 0 ?_ rfl ?_ hS ?_;rotate_left
 ·(intro w _;go_simp;first|done|with_reducible rfl|(rw[if_pos (by omega)])|(rw[if_pos (by omega)];go_simp))
 simp only[Act.put];refine cz 1 ?_ rfl ?_ hS ?_;rotate_left
 ·(intro w _;go_simp;first|done|with_reducible rfl|(rw[if_pos (by omega)])|(rw[if_pos (by omega)];go_simp))
 simp only[Act.put];refine cz 2 ?_ rfl ?_ hS ?_;rotate_left
 ·(intro w _;go_simp;first|done|with_reducible rfl|(rw[if_pos (by omega)])|(rw[if_pos (by omega)];go_simp))
 simp only[Act.put];refine jg 3 ?_ rfl ?_ hS ?_;rotate_left
 ·(intro w aG;obtain⟨s0,⟨a0,a1,a2,a3,a4⟩⟩:=aG;go_simp;first|done|with_reducible rfl)
 simp only[Act.put];refine jg 4 ?_ rfl ?_ hS ?_;rotate_left
 ·(intro w aG;obtain⟨s0,⟨a0,a1,a2,a3,a4⟩⟩:=aG;go_simp;first|done|with_reducible rfl)
 simp only[Act.put];refine cz 5 ?_ rfl ?_ hS ?_;rotate_left
 ·(intro w _;go_simp;first|done|with_reducible rfl|(rw[if_pos (by omega)])|(rw[if_pos (by omega)];go_simp))
 simp only[Act.put];refine cz 7 ?_ rfl ?_ hS ?_;rotate_left
 ·(intro w _;go_simp;first|done|with_reducible rfl|(rw[if_pos (by omega)])|(rw[if_pos (by omega)];go_simp))
 simp only[Act.put];refine cZ 6 rfl (fun K hK=>?_);go_simp;refine(gI We x).mono ?_;rintro e X2 ⟨rfl,b2⟩;have bX:Below W5.1.size W5 X2:=KD.out.trans (b2.mono KD.out.size);obtain⟨Y,fO,BH,uU,DR⟩:=(KU.out.2.2.2.2.2.1.later bX).store (by omega) hk.1 hk.2 xs.length (by omega);rw[<-E9 H.out.2.2.2.2.2.1]at BH
 have iD:(fun X:World=>X.cell? ⟨p,1,none⟩=some (.map (some mb))/\aL X w.1.size 0 x) X2:=by
  obtain⟨g1,g2,g3,g4,g5,g6,g7,g8,g9,I7,I8,MH⟩:=KU.out;exact⟨(bX.cell (p:=⟨p,1,none⟩) g9).trans g4,g1.below bX I8⟩
 have K7:Hid (jS Y base p mb (n+1) (Value.slice a5 (xs.length+1) k5) (xs++[x])/\Below base w Y):=by
  obtain⟨g1,g2,g3,g4,g5,g6,g7,g8,g9,I7,I8,MH⟩:=KU.out;have mH:=K1.out.1.pm;have yS:=(uU.block p (Nat.lt_of_lt_of_le g9 bX.size) mH).trans (bX.block p g9);refine⟨⟨(World.cell?_of_block (a:=⟨p,0,none⟩) yS).trans g3,(World.cell?_of_block (a:=⟨p,1,none⟩) yS).trans g4,fun j=>(World.frozen?_of_block (a:=⟨p,j,none⟩) yS).trans (g5 j),g2.aQ (fun b _ hb e=>(uU.block b (Nat.lt_of_lt_of_le hb bX.size) (fun e'=>g8 (by rw[e,e']))).trans (bX.block b hb)),BH,fun s hs=>?_,g7,g8,mH,K1.out.1.bp,K1.out.1.bm,by rw[DR];exact Nat.lt_of_lt_of_le g9 bX.size⟩,?_⟩
  ·rcases List.mem_append.1 hs with hs|hs
   ·exact K1.out.1.ok s hs
   ·simp at hs;subst hs;exact H.out.2.2.2.2.2.2.1
  ·have qJ:base<=W5.1.size:=by have:=K1.out.1.bp;omega
   exact(I7.trans (bX.mono qJ)).trans (uU.below K1.out.1.bm (Nat.le_trans qJ bX.size))
 simp only[jV]at fO;refine hK.out _ _ (fun _=>iD) ?_;clear hK K iD hS bX KD BH uU DR hm hk b2;refine cZ 8 rfl (fun K hK=>?_);go_simp;refine hK.out _ _ (fun h=>absurd (show false=true from h.symm.trans (by kernel_rfl)) (by decide)) ?_;clear hK K fO;refine dL (by kernel_rfl) ?_ _;obtain⟨q5,cap5,eK,P7⟩:=K7.out.1.XZ (by simp)
 have c7:=Ha Y base p q5 mb (n+1) cap5 (xs++[x]) xs.length P7 (by omega) (by simp;omega) (by simp) (by
  have:=eG.wZ.Qd (n:=xs.length) (k:=gG (xs++[x])) (fun i h0 hi=>by
   have e1:gG (xs++[x]) i=gG xs i:=by unfold gG au;rw[List.getElem?_append_left hi]
   have e2:gG (xs++[x]) ((i-1)/2)=gG xs ((i-1)/2):=by unfold gG au;rw[List.getElem?_append_left (by omega)]
   rw[e1,e2];exact HS.out i h0 hi)
  simpa using this)
 go_wp2_with fail;refine c7.mono ?_;clear c7;rintro e w8 ⟨rfl,n8,ys,lP,p8,Xa,eh,k8⟩;have KE:Hid (n8<=n+1+2*xs.length/\kM w8 base p q5 mb n8 cap5 ys/\ys.Perm (xs++[x])/\eG.Hp (gG ys) ys.length/\Below base w w8):=⟨by omega,p8,Xa,eh,K7.out.2.trans (k8.below (fun b hb=>by rcases hb with rfl|rfl|rfl;exact p8.bp;exact p8.bq;exact p8.bm) (by have:=K7.out.1.bp;have:=K7.out.1.lp;omega))⟩
 clear p8 Xa eh k8 lP;go_wp2;refine bodyPost_end (v:=.tuple #[]) (by simp[results,Tryz.results145,go_sem]) rfl ⟨rfl,q5,cap5,n8,ys,KE.out⟩
end tx
namespace tx
variable {k:Nat}{x:N5}{xs:List N5}
def qR(xs:List N5):Prop:=xs.Pairwise fun a b=>jH a<jH b
theorem zJ(h:qR xs){i j:Nat}{y:N5}(hi:xs[i]?=some x)(hj:xs[j]?=some y)(Eu:i<j):jH x<jH y:=by
 have li:=(List.getElem?_eq_some_iff.1 hi)
 have lj:=(List.getElem?_eq_some_iff.1 hj)
 have:=List.pairwise_iff_getElem.1 h i j li.1 lj.1 Eu;rwa[li.2,lj.2]at this
theorem WW(h:qR xs)(hk:xs[k]?=some x):jB (xs.take k) x.b x.e=none:=by
 rw[qj];intro y hy e;obtain⟨i,hi,rfl⟩:=List.getElem_of_mem hy;have Gv:i<k:=by rw[List.length_take]at hi;omega
 have e2:xs[i]?=some ((xs.take k)[i]):=by
  have:=List.getElem?_eq_getElem hi;rwa[List.getElem?_take,if_pos Gv]at this
 have:=zJ h e2 hk Gv;unfold jH at this;rw[e.1,e.2]at this;omega
theorem Tz(h:qR xs)(hk:xs[k]?=some x):xs.take k=[]\/gG (xs.take k++[x]) (((xs.take k).length-1)/2)<=gG (xs.take k++[x]) (xs.take k).length:=by
 by_cases h0:k=0
 ·exact .inl (by rw[h0];rfl)
 ·have lk:=(List.getElem?_eq_some_iff.1 hk).1;have hl:(xs.take k).length=k:=by rw[List.length_take];omega
  have e1:xs.take k++[x]=xs.take (k+1):=by rw[List.take_add_one,hk];rfl
  refine .inr ?_;rw[hl,e1];obtain⟨y,hy⟩:∃y,xs[(k-1)/2]?=some y:=⟨_,List.getElem?_eq_getElem (by omega)⟩
  rw[BR (x:=y) (by rw[List.getElem?_take,if_pos (by omega)];exact hy),BR (x:=x) (by rw[List.getElem?_take,if_pos (by omega)];exact hk)];exact Int.le_of_lt (zJ h hy hk (by omega))
theorem oC(w:World)(a:Option Addr)(c:Nat)(xs:List N5)(hl:xs.length<=100)(hs:jD w w.1.size a xs.length xs)(je:∀s∈xs,bn s=true)(M9:qR xs):
  Calls Tryz.prog 105 #[.slice a xs.length c] w fun e w'=>∃p mb n v,e=.returned (.pointer (some ⟨p,0,none⟩))/\jS w' w.1.size p mb n v xs/\n<=xs.length/\Below w.1.size w w':=by
 obtain⟨W0,eB⟩:∃W,W=w.alloc (.map #[] 0):=⟨_,rfl⟩
 have z0:W0.1.size=w.1.size+1:=by rw[eB];simp
 have b0:Below w.1.size w W0:=by rw[eB];exact aJ.alloc aR _
 obtain⟨W,hW⟩:∃W,W=W0.alloc (.cells #[.slice none 0 0,.map (some w.1.size)] 228):=⟨_,rfl⟩
 have b1:Below W0.1.size W0 W:=by rw[hW];exact aJ.alloc aR _
 have pb:jS W w.1.size (w.1.size+1) w.1.size 0 (.slice none 0 0) []:=by
  refine⟨(by rw[hW,<-z0];go_simp),(by rw[hW,<-z0];go_simp),(fun j=>by rw[hW,<-z0];go_simp),eZ.nil _ _,?_,(fun s hs=>by cases hs),(fun e=>by cases e),(fun e=>by cases e),(by omega),(by omega),Nat.le_refl _,(by rw[hW];simp[z0])⟩;have hm:=(j3.made w).later (W':=W) (by rw[<-eB];exact b1);exact hm
 have H:Hid (jD w w.1.size a xs.length xs/\(∀s∈xs,bn s=true)/\qR xs/\jS W w.1.size (w.1.size+1) w.1.size 0 (.slice none 0 0) []/\Below w.1.size w W):=⟨hs,je,M9,pb,b0.trans (b1.mono b0.size)⟩
 clear hs je M9 pb b0 b1 z0;rw[eB]at hW;clear eB;have yQ:=@run_makeMap Tryz.prog;go_enter Tryz.func105,Tryz.ntmps105;go_wp2;rw[<-hW];clear hW;go_loopw[11] (fun v11 wr=>∃(k n:Nat) (v:Value),k<=xs.length/\v11=vI (k:Int)/\jS wr w.1.size (w.1.size+1) w.1.size n v (xs.take k)/\n<=k/\Below w.1.size w wr) (fun v11 _=>xs.length-(intOf v11).toNat)
 case atStart=>exact⟨0,0,.slice none 0 0,Nat.zero_le _,rfl,by simpa using H.out.2.2.2.1,Nat.le_refl _,H.out.2.2.2.2⟩
 case round=>
  obtain⟨k,n,v,hk,rfl,hp,Zj,aF⟩:=hrel;by_cases aN:k<xs.length
  ·obtain⟨_,gu⟩:=H.out.1.later aF;rcases gu with gu|⟨b,off,rfl,hb,hx⟩
   ·omega
   have BJ:=fE aN;obtain⟨c0,c1,c2,c3,c4⟩:=hx k _ BJ;obtain⟨V,hV⟩:∃V,V=wr.alloc (.cells #[vI (au xs k).b,vI (au xs k).e,vI (au xs k).j,vI (au xs k).g,.bool (au xs k).i] 112):=⟨_,rfl⟩
   have bV:Below wr.1.size wr V:=by rw[hV];exact aJ.alloc aR _
   have cp:=Kn V w.1.size (w.1.size+1) w.1.size n v (xs.take k) (au xs k) (hp.later bV) (by omega) (by rw[List.length_take];omega) (H.out.2.1 _ (List.mem_of_getElem? BJ)) (WW H.out.2.2.1 BJ) (Nat.le_trans aF.size bV.size) (Tz H.out.2.2.1 BJ);have KB:Hid (Below w.1.size w V/\xs.take k++[au xs k]=xs.take (k+1)):=⟨aF.trans (bV.mono aF.size),by rw[List.take_add_one,BJ];rfl⟩
   clear hp aF hx BJ bV;go_wp2_with fail;rw[<-hV];clear hV c0 c1 c2 c3 c4;refine cp.mono ?_;clear cp;rintro e w1 ⟨rfl,v',p1,b1⟩;rw[KB.out.2]at p1;have KE:Hid (jS w1 w.1.size (w.1.size+1) w.1.size (n+1) v' (xs.take (k+1))/\Below w.1.size w w1):=⟨p1,KB.out.1.trans b1⟩
   clear p1 b1;go_wp2;exact⟨⟨k+1,n+1,v',by omega,by simp,KE.out.1,by omega,KE.out.2⟩,by simp[intOf];omega⟩
  ·obtain rfl:k=xs.length:=by omega
   have hd:decide ((xs.length:Int)<(xs.length:Int))=false:=by simp
   rw[List.take_length]at hp;have KE:Hid (jS wr w.1.size (w.1.size+1) w.1.size n v xs/\Below w.1.size w wr):=⟨hp,aF⟩
   clear hp aF;go_wp2;go_ret;exact⟨w.1.size+1,w.1.size,n,v,rfl,KE.out.1,Zj,KE.out.2⟩
theorem Km(w:World)(base p mb n:Nat)(v:Value)(xs:List N5)(r s:Int)(h:jS w base p mb n v xs)(h1:aY 0 5 r=true)(h2:aY 0 5 s=true):
  Calls Tryz.prog 208 #[.pointer (some ⟨p,0,none⟩),.agg #[vI r,vI s]] w fun e w'=>e=.returned (.bool (jB xs r s).isSome)/\Below w.1.size w w':=by
 obtain⟨W0,eB⟩:∃W,W=w.alloc (.cells #[vI r,vI s] 62):=⟨_,rfl⟩
 have b0:Below w.1.size w W0:=by rw[eB];exact aJ.alloc aR _
 have z0:W0.1.size=w.1.size+1:=by rw[eB];simp
 have h0:=h.later b0;have lk:∀d os,(Instr.lookup 165 (.map (some mb)) (jV r s) true).run Tryz.prog (grow (redrawn W0 d) os)=.ok (.tuple #[vI (((jB xs r s).getD 0:Nat):Int),.bool (jB xs r s).isSome]) (grow (redrawn W0 d) os):=fun d os=>((h0.mp).later (below_regrown W0 d os)).look h1 h2
 have m1:∀d os,(grow (redrawn W0 d) os).cell? ⟨p,1,none⟩=some (.map (some mb)):=fun d os=>((below_regrown W0 d os).cell (p:=⟨p,1,none⟩) h0.lp).trans h0.c1
 have t0:∀d os,(grow (redrawn W0 d) os).cell? ⟨w.1.size,0,none⟩=some (vI r):=fun d os=>((below_regrown W0 d os).cell (p:=⟨w.1.size,0,none⟩) (by rw[z0];simp)).trans (by rw[eB];go_simp)
 have t1:∀d os,(grow (redrawn W0 d) os).cell? ⟨w.1.size,1,none⟩=some (vI s):=fun d os=>((below_regrown W0 d os).cell (p:=⟨w.1.size,1,none⟩) (by rw[z0];simp)).trans (by rw[eB];go_simp)
 have H:Hid (Below w.1.size w W0):=b0;clear h h0 b0 z0 h1 h2;simp only[jV]at lk;generalize (jB xs r s).isSome=B at *;generalize ((jB xs r s).getD 0)=I at *;go_enter Tryz.func208,Tryz.ntmps208;go_wp2_with fail;rw[<-eB];clear eB;refine wp_region_quiet_below (by kernel_rfl) (by kernel_rfl) ?_;repeat (go_big_quiet_step (fail))
 refine wpQuiet_nil ?_;intro _ dD;obtain⟨⟨lH,bI⟩,aT⟩:=dD;subst aT;have bq:=below_regrown W0 lH bI;have KE:Hid (Below w.1.size w (grow (redrawn W0 lH) bI)):=H.out.trans (bq.mono H.out.size);clear bq lk m1 t0 t1;go_wp2;go_ret;exact⟨rfl,KE.out⟩
end tx
namespace tx
structure Yt(W:World)(base p q mb n cap:Nat)(xs:List S5):Prop where
 c0:W.cell? ⟨p,0,none⟩=some (.slice (some ⟨q,0,none⟩) xs.length cap)
 c1:W.cell? ⟨p,1,none⟩=some (.map (some mb))
 fz:∀j,W.frozen? ⟨p,j,none⟩=false
 at_:aX W q 0 xs
 rm:Room W q (xs.length*5)
 cp:xs.length<=cap
 mp:qX W mb n
 ok:∀s∈xs,dw s=true
 pq:p≠q
 pm:p≠mb
 qm:q≠mb
 bp:base<=p
 bq:base<=q
 bm:base<=mb
 lp:p<W.1.size
 lq:q<W.1.size
def NU(xs:List S5)(i:Nat):Int:=rk (ax xs i).b (ax xs i).e
theorem Ia{xs:List S5}{i:Nat}{x:S5}(h:xs[i]?=some x):NU xs i=rk x.b x.e:=by
 unfold NU ax;rw[h];rfl
theorem Ib(w:World)(base p q mb n cap:Nat)(xs:List S5)(i j:Nat)(x y:S5)(h:Yt w base p q mb n cap xs)(hi:xs[i]?=some x)(hj:xs[j]?=some y):
  Calls Tryz.prog 170 #[.pointer (some ⟨p,0,none⟩),vI (i:Int),vI (j:Int)] w fun e w'=>e=.returned (.bool (decide (rk x.b x.e<rk y.b y.e)))/\Below w.1.size w w':=by
 have li:=(List.getElem?_eq_some_iff.1 hi).1;have lj:=(List.getElem?_eq_some_iff.1 hj).1;have ix:(i:Int)<(xs.length:Int):=by omega
 have jx:(j:Int)<(xs.length:Int):=by omega
 obtain⟨t0,t1,t2,t3,t4⟩:=(show dI w q (i*5) x by simpa using h.at_ i x hi)
 obtain⟨u0,u1,u2,u3,u4⟩:=(show dI w q (j*5) y by simpa using h.at_ j y hj)
 have lift:∀{o:Nat}{u:Value},w.cell? ⟨q,o,none⟩=some u->∀d os,(grow (redrawn w d) os).cell? ⟨q,o,none⟩=some u:=fun {o u} hh d os=>((below_regrown w d os).cell (p:=⟨q,o,none⟩) h.lq).trans hh
 have x0:=lift t0;have y0:=lift u0;have x1:=lift t1;have y1:=lift u1;have x2:=lift t2;have y2:=lift u2;have x3:=lift t3;have y3:=lift u3;have x4:=lift t4;have y4:=lift u4;have z0:∀d os,(grow (redrawn w d) os).cell? ⟨p,0,none⟩=some (.slice (some ⟨q,0,none⟩) xs.length cap):=fun d os=>((below_regrown w d os).cell (p:=⟨p,0,none⟩) h.lp).trans h.c0
 have k1:=kX (h.ok x (List.mem_of_getElem? hi));have k2:=kX (h.ok y (List.mem_of_getElem? hj));have cA:∀d os,Calls Tryz.prog 195 #[.agg #[vI x.b,vI x.e,vI x.g,.bool x.i,vI x.j]] (grow (redrawn w d) os) fun e fq=>e=.returned (vI (rk x.b x.e))/\∃p:Regrown,fq=grow (redrawn w p.d) p.os:=fun d os=>Calls.regrown_of (oI _ _ k1.1 k1.2)
 have cB:∀d os,Calls Tryz.prog 195 #[.agg #[vI y.b,vI y.e,vI y.g,.bool y.i,vI y.j]] (grow (redrawn w d) os) fun e fq=>e=.returned (vI (rk y.b y.e))/\∃p:Regrown,fq=grow (redrawn w p.d) p.os:=fun d os=>Calls.regrown_of (oI _ _ k2.1 k2.2)
 clear lift t0 t1 t2 t3 t4 u0 u1 u2 u3 u4 k1 k2 h hi hj;generalize rk x.b x.e=rx at *;generalize rk y.b y.e=ry at *;generalize x.b=a0 at *;generalize y.b=e0 at *;generalize x.e=a1 at *;generalize y.e=e1 at *;generalize x.g=a2 at *;generalize y.g=e2 at *;generalize x.i=a3 at *;generalize y.i=e3 at *;generalize x.j=a4 at *;generalize y.j=e4 at *;go_enter Tryz.func170,Tryz.ntmps170;go_wp2_with fail;refine wp_region_quiet_below (by kernel_rfl) (by kernel_rfl) ?_;repeat (go_big_quiet_step (first|(go_at_call_of 195 (Value.agg #[vI a0,vI a1,vI a2,.bool a3,vI a4]);exact cA _ _)|(go_at_call_of 195 (Value.agg #[vI e0,vI e1,vI e2,.bool e3,vI e4]);exact cB _ _)))
 refine wpQuiet_nil ?_;intro _ dD;obtain⟨⟨lH,bI⟩,aT⟩:=dD;subst aT;have bq:=below_regrown w lH bI;go_wp2;go_ret;exact⟨rfl,bq⟩
theorem dI.mM{W V:World}{b o:Nat}{s:S5}(h:dI W b o s)(e:V.1[b]?=W.1[b]?):dI V b o s:=
 ⟨(World.cell?_of_block (a:=⟨b,o,none⟩) e).trans h.c0,(World.cell?_of_block (a:=⟨b,o+1,none⟩) e).trans h.c1,(World.cell?_of_block (a:=⟨b,o+2,none⟩) e).trans h.c2,(World.cell?_of_block (a:=⟨b,o+3,none⟩) e).trans h.c3,(World.cell?_of_block (a:=⟨b,o+4,none⟩) e).trans h.c4⟩
def Uc(s:S5):Int:=rk s.b s.e
theorem Rt{xs:List S5}{i:Nat}{x:S5}(h:xs[i]?=some x):NU xs i=Uc x:=Ia h
variable {xs:List S5}
def o9(xs:List S5)(r s:Int):Option Nat:=xs.findIdx? fun x=>decide (x.b=r)&&decide (x.e=s)
theorem NV{x:S5}(h:o9 xs x.b x.e=none):o9 (xs++[x])=Dg (o9 xs) x.b x.e xs.length:=by
 funext r s;unfold o9 Dg;rw[List.findIdx?_append];by_cases e:r=x.b/\s=x.e
 ·obtain⟨rfl,rfl⟩:=e;unfold o9 at h;rw[h];simp[List.findIdx?_cons]
 ·rw[if_neg e]
  have:[x].findIdx? (fun x=>decide (x.b=r)&&decide (x.e=s))=none:=by
   simp[List.findIdx?_cons];intro h1 h2;exact e ⟨h1.symm,h2.symm⟩
  rw[this];simp
theorem FL{r s:Int}:o9 xs r s=none↔∀x∈xs,¬(x.b=r/\x.e=s):=by
 unfold o9;rw[List.findIdx?_eq_none_iff];constructor
 ·intro h x hx e;have:=h x hx;simp[e.1,e.2]at this
 ·intro h x hx;have:=h x hx;simp only[Bool.and_eq_false_iff,decide_eq_false_iff_not];by_cases e:x.b=r
  ·exact .inr (fun e'=>this ⟨e,e'⟩)
  ·exact .inl e
structure nQ(W:World)(base p mb n:Nat)(v:Value)(xs:List S5):Prop where
 c0:W.cell? ⟨p,0,none⟩=some v
 c1:W.cell? ⟨p,1,none⟩=some (.map (some mb))
 fz:∀j,W.frozen? ⟨p,j,none⟩=false
 row:jT W base v xs
 mp:j3 W mb n (o9 xs)
 ok:∀s∈xs,dw s=true
 vp:v.ownBlock≠some p
 vm:v.ownBlock≠some mb
 pm:p≠mb
 bp:base<=p
 bm:base<=mb
 lp:p<W.1.size
theorem nQ.later{W V:World}{base p mb n:Nat}{v:Value}{xs:List S5}(h:nQ W base p mb n v xs)(hb:Below W.1.size W V):nQ V base p mb n v xs:=
 ⟨(hb.cell (p:=⟨p,0,none⟩) h.lp).trans h.c0,(hb.cell (p:=⟨p,1,none⟩) h.lp).trans h.c1,fun j=>(hb.frozen (p:=⟨p,j,none⟩) h.lp).trans (h.fz j),h.row.later hb,h.mp.later hb,h.ok,h.vp,h.vm,h.pm,h.bp,h.bm,Nat.lt_of_lt_of_le h.lp hb.size⟩
theorem nQ.XZ{W:World}{base p mb n:Nat}{v:Value}(h:nQ W base p mb n v xs)(hx:xs≠[]):∃q cap,v=.slice (some ⟨q,0,none⟩) xs.length cap/\Yt W base p q mb n cap xs:=by
 obtain⟨a,c,e,ho⟩:=h.row.form;rcases ho with ho|⟨q,rfl,hq,hl,ha,hr⟩
 ·exact absurd ho hx
 ·refine⟨q,c,e,⟨by rw[<-e];exact h.c0,h.c1,h.fz,ha,hr,?_,h.mp.any,h.ok,fun e'=>h.vp (by rw[hq,e']),h.pm,fun e'=>h.vm (by rw[hq,e']),h.bp,(h.row.lt hq).1,h.bm,h.lp,hl⟩⟩;rcases h.row.2 with ⟨h0,_⟩|⟨q',aZ,cur,h0,_,_,hc,_⟩
  ·rw[h0]at e;cases e
  ·rw[h0]at e;cases e;exact hc
theorem Ic(w:World)(base p q mb n cap:Nat)(xs:List S5)(c:Nat)(h:Yt w base p q mb n cap xs)(hl:xs.length<=1000)(hc:c<xs.length)(hs:c=0\/NU xs ((c-1)/2)<=NU xs c):
  Calls Tryz.prog 144 #[.pointer (some ⟨p,0,none⟩),vI (c:Int)] w fun e w'=>e=.returned (.tuple #[])/\Below w.1.size w w':=by
 have H:=aB h;clear h;go_enter Tryz.func144,Tryz.ntmps144;go_wp2;go_loopw[1] (fun v wr=>v=vI (c:Int)/\wr=w) (fun _ _=>0)
 case atStart=>exact⟨rfl,rfl⟩
 case round=>
  obtain⟨rfl,rfl⟩:=hrel;rcases c with _|e
  ·have d0:decide ((0:Int)<((0:Nat):Int))=false:=by simp
   go_wp2;refine bodyPost_end (v:=.tuple #[]) (by simp[results,Tryz.results144,go_sem]) rfl ⟨rfl,aJ⟩
  ·have d0:decide ((0:Int)<((e+1:Nat):Int))=true:=by simp
   obtain⟨x,hx⟩:∃x,xs[e+1]?=some x:=⟨_,List.getElem?_eq_getElem (by omega)⟩
   obtain⟨y,hy⟩:∃y,xs[e/2]?=some y:=⟨_,List.getElem?_eq_getElem (by omega)⟩
   have c1:=Ib wr base p q mb n cap xs (e+1) (e/2) x y H.out hx hy;rw[(Ia hx).symm,(Ia hy).symm]at c1
   have dl:decide (NU xs (e+1)<NU xs (e/2))=false:=by
    have:=hs.resolve_left (by omega);rw[show(e+1-1)/2=e/2 by omega]at this;simpa using this
   rw[dl]at c1;have ea:((e+1:Nat):Int)=(e:Int)+1:=by omega
   have eb:((e/2:Nat):Int)=(e:Int)/2:=by omega
   rw[ea,eb]at c1;clear dl ea eb hx hy hs;go_wp2_with fail;refine c1.mono ?_;clear c1;rintro e' w1 ⟨rfl,b1⟩;have KB:=aB b1;clear b1;go_wp2;refine bodyPost_ret (v:=.tuple #[]) (by simp[results,Tryz.results144,go_sem]) rfl ⟨rfl,KB.out⟩
theorem KJ(w:World)(base p mb n:Nat)(v:Value)(xs:List S5)(x:S5)(h:nQ w base p mb n v xs)(hn:n<=1000)(hl:xs.length<=100)(je:dw x=true)(qK:o9 xs x.b x.e=none)(MQ:base<=w.1.size)(hs:xs=[]\/NU (xs++[x]) ((xs.length-1)/2)<=NU (xs++[x]) xs.length):
  Calls Tryz.prog 104 #[.pointer (some ⟨p,0,none⟩),.agg #[vI x.b,vI x.e,vI x.g,.bool x.i,vI x.j]] w fun e w'=>e=.returned (.tuple #[])/\∃v',nQ w' base p mb (n+1) v' (xs++[x])/\Below base w w':=by
 obtain⟨W0,eB⟩:∃W,W=w.alloc (.cells #[vI x.b,vI x.e,vI x.g,.bool x.i,vI x.j] 100):=⟨_,rfl⟩
 have b0:Below w.1.size w W0:=by rw[eB];exact aJ.alloc aR _
 have z0:W0.1.size=w.1.size+1:=by rw[eB];simp
 have x0:dI W0 w.1.size 0 x:=by rw[eB];exact dI.box w x _
 have h0:=h.later b0;have hk:=kX je;have Am:p<w.1.size:=h.lp;have dr:mb<w.1.size:=h.mp.lt
 have lk:∀d os,(Instr.lookup 165 (.map (some mb)) (jV x.b x.e) true).run Tryz.prog (grow (redrawn W0 d) os)=.ok (.tuple #[vI 0,.bool false]) (grow (redrawn W0 d) os):=fun d os=>by
  have hu:=((h0.mp).later (below_regrown W0 d os)).look hk.1 hk.2;rw[qK]at hu;exact hu
 have lift:∀{b o:Nat}{u:Value},b<W0.1.size->W0.cell? ⟨b,o,none⟩=some u->∀d os,(grow (redrawn W0 d) os).cell? ⟨b,o,none⟩=some u:=fun {b o u} hb hh d os=>((below_regrown W0 d os).cell (p:=⟨b,o,none⟩) hb).trans hh
 have m1:=lift (by omega) h0.c1;have t0:=lift (by omega) x0.c0;have t1:=lift (by omega) x0.c1;have t2:=lift (by omega) x0.c2;have t3:=lift (by omega) x0.c3;have t4:=lift (by omega) x0.c4;have cC:∀d os,Calls Tryz.prog 283 #[.agg #[vI x.b,vI x.e,vI x.g,.bool x.i,vI x.j]] (grow (redrawn W0 d) os) fun e fq=>e=.returned (.agg #[vI x.b,vI x.e])/\∃p:Regrown,fq=grow (redrawn W0 p.d) p.os:=fun d os=>Calls.regrown_of (oH _ _)
 have hm:∀w:World,(method 454 100 (.agg #[vI x.b,vI x.e,vI x.g,.bool x.i,vI x.j]) "loop.example/g00153/impl.cell").run Tryz.prog w=.ok (283,.agg #[vI x.b,vI x.e,vI x.g,.bool x.i,vI x.j]) w:=fun _=>by kernel_rfl
 have H:Hid (nQ W0 base p mb n v xs/\dI W0 w.1.size 0 x/\Below w.1.size w W0/\W0.1.size=w.1.size+1/\base<=w.1.size/\o9 xs x.b x.e=none/\dw x=true/\v.ownBlock≠some w.1.size):=⟨h0,x0,b0,z0,MQ,qK,je,fun e=>by have:=(h.row.lt e).2;omega⟩
 have HS:=aB hs;clear h h0 x0 b0 z0 MQ qK je hs lift;simp only[jV,Nat.zero_add]at lk t0 t1 t2 t3 t4;go_enter Tryz.func104,Tryz.ntmps104;go_wp2_with fail;rw[<-eB];clear eB;refine wp_region_quiet_below (by kernel_rfl) (by kernel_rfl) ?_;repeat (go_big_quiet_step (exact cC _ _))
 refine wpQuiet_nil ?_;intro _ dD;obtain⟨⟨lH,bI⟩,aT⟩:=dD;subst aT;have bq:=below_regrown W0 lH bI
 have K1:Hid (nQ (grow (redrawn W0 lH) bI) base p mb n v xs/\dI (grow (redrawn W0 lH) bI) w.1.size 0 x/\Below w.1.size w (grow (redrawn W0 lH) bI)/\w.1.size<(grow (redrawn W0 lH) bI).1.size):=by
  obtain⟨g1,g2,g3,g4,_⟩:=H.out;have:=bq.size;exact⟨g1.later bq,g2.below bq (by omega),g3.trans (bq.mono g3.size),by omega⟩
 clear bq m1 t0 t1 t2 t3 t4 cC lk;obtain⟨av,ac,MP,-⟩:=K1.out.1.row.form;have m0:=K1.out.1.c0;rw[MP]at m0;have HV:=aB MP;clear MP;go_upto_region 5 with fail
 clear m0;generalize grow (redrawn W0 lH) bI=W1 at *;have hS:(fun X:World=>X.cell? ⟨p,0,none⟩=some v/\dI X w.1.size 0 x) W1.drew:=⟨K1.out.1.c0,K1.out.2.1.below ((Below.refl W1.1.size W1).drew) K1.out.2.2.2⟩
 refine bu (fun z=>z==10) (fun X:World=>X.cell? ⟨p,0,none⟩=some v/\dI X w.1.size 0 x) (by kernel_rfl) ?_;have KD:Hid (Below W1.1.size W1 W1.drew):=aJ.drew;generalize W1.drew=Wd at *;refine cz 0 ?_ rfl ?_ hS ?_;rotate_left
 ·(intro w _;go_simp;first|done|with_reducible rfl|(rw[if_pos (by omega)])|(rw[if_pos (by omega)];go_simp))
 simp only[Act.put];refine cz 1 ?_ rfl ?_ hS ?_;rotate_left
 ·(intro w _;go_simp;first|done|with_reducible rfl|(rw[if_pos (by omega)])|(rw[if_pos (by omega)];go_simp))
 simp only[Act.put];refine cz 2 ?_ rfl ?_ hS ?_;rotate_left
 ·(intro w _;go_simp;first|done|with_reducible rfl|(rw[if_pos (by omega)])|(rw[if_pos (by omega)];go_simp))
 simp only[Act.put];refine cz 3 ?_ rfl ?_ hS ?_;rotate_left
 ·(intro w _;go_simp;first|done|with_reducible rfl|(rw[if_pos (by omega)])|(rw[if_pos (by omega)];go_simp))
 simp only[Act.put];refine jg 4 ?_ rfl ?_ hS ?_;rotate_left
 ·(intro w aG;obtain⟨s0,⟨a0,a1,a2,a3,a4⟩⟩:=aG;go_simp;first|done|with_reducible rfl)
 simp only[Act.put];refine jg 5 ?_ rfl ?_ hS ?_;rotate_left
 ·(intro w aG;obtain⟨s0,⟨a0,a1,a2,a3,a4⟩⟩:=aG;go_simp;first|done|with_reducible rfl)
 simp only[Act.put];obtain⟨V,hV⟩:∃V,V=Wd.alloc (.cells #[vI x.b,vI x.e,vI x.g,.bool x.i,vI x.j] 100):=⟨_,rfl⟩
 have bV:Below Wd.1.size Wd V:=by rw[hV];exact aJ.alloc aR _
 have D5:Below W1.1.size W1 V:=KD.out.trans (bV.mono KD.out.size);have nu:aX V Wd.1.size 0 [x]:=by rw[hV];exact(dI.box Wd _ _).one
 have iL:=(K1.out.1.later D5)
 obtain⟨v5,Y5,hr,pY,iT,jd⟩:=NM iL.row [x] (by simp;omega) 48 Wd.1.size 0 1 nu (by have:=iL.bp;have:=iL.lp;omega)
 obtain⟨a5,k5,rfl⟩:∃a5 k5,v5=Value.slice a5 (xs.length+1) k5:=by
  obtain⟨a5,k5,e5,-⟩:=pY.form;exact⟨a5,k5,by simpa using e5⟩
 have tX:w.1.size<V.1.size:=Nat.lt_of_lt_of_le K1.out.2.2.2 D5.size;have MN:(fun X:World=>X.cell? ⟨p,0,none⟩=some v/\dI X w.1.size 0 x) V:=⟨iL.c0,K1.out.2.1.below D5 K1.out.2.2.2⟩
 have kb:∀b,b<V.1.size->v.ownBlock≠some b->Y5.1[b]?=V.1[b]?:=fun b hb fF=>iT.block b hb (fun e=>fF e.symm)
 have Ai:(fun X:World=>X.cell? ⟨p,0,none⟩=some v/\dI X w.1.size 0 x) Y5:=⟨(World.cell?_of_block (a:=⟨p,0,none⟩) (kb p iL.lp iL.vp)).trans iL.c0,dI.mM MN.2 (kb _ tX H.out.2.2.2.2.2.2.2)⟩
 have uq:∀b,b<V.1.size->v.ownBlock≠some b->(Value.slice a5 (xs.length+1) k5).ownBlock≠some b:=fun b hb fF e=>by
  rcases jd with h|h
  ·rw[h]at e;exact fF e
  ·rw[h]at e;cases e;omega
 have K5:Hid (jT Y5 base (Value.slice a5 (xs.length+1) k5) (xs++[x])/\Y5.cell? ⟨p,0,none⟩=some v/\Y5.cell? ⟨p,1,none⟩=some (.map (some mb))/\(∀j,Y5.frozen? ⟨p,j,none⟩=false)/\j3 Y5 mb n (o9 xs)/\(Value.slice a5 (xs.length+1) k5).ownBlock≠some p/\(Value.slice a5 (xs.length+1) k5).ownBlock≠some mb/\p<Y5.1.size/\Below base w Y5/\dI Y5 w.1.size 0 x/\w.1.size<Y5.1.size/\(Value.slice a5 (xs.length+1) k5).ownBlock≠some w.1.size/\mb<V.1.size):=by
  have yS:=kb p iL.lp iL.vp;have VT:=kb mb iL.mp.lt iL.vm;have Vu:Below base w V:=(K1.out.2.2.1.mono H.out.2.2.2.2.1).trans (D5.mono (by have:=K1.out.1.bp;have:=K1.out.1.lp;omega));refine⟨pY,Ai.1,(World.cell?_of_block (a:=⟨p,1,none⟩) yS).trans iL.c1,fun j=>(World.frozen?_of_block (a:=⟨p,j,none⟩) yS).trans (iL.fz j),iL.mp.aj VT,uq p iL.lp iL.vp,uq mb iL.mp.lt iL.vm,Nat.lt_of_lt_of_le iL.lp iT.size,?_,Ai.2,Nat.lt_of_lt_of_le tX iT.size,uq _ tX H.out.2.2.2.2.2.2.2,iL.mp.lt⟩;exact Vu.grown iT (by have:=iL.bp;have:=iL.lp;omega) (fun b e=>(iL.row.lt e).1)
 rw[hV]at hr;have f0:=K5.out.2.2.2.1 0;have e0:=K5.out.2.1;simp only[List.length_cons,List.length_nil,Nat.zero_add]at hr;refine cZ 6 rfl (fun K hK=>?_);go_simp;refine hK.out _ _ (fun _=>by rw[<-hV];exact MN) ?_;clear hK K;refine cZ 7 rfl (fun K hK=>?_);refine df _ rfl (.tmp 34) (.tmp 36) 48 rfl _ _ _ _ (by first|rfl|simp[Act.eval,Act.put]) (by first|rfl|simp[Act.eval,Act.put]) hr ?_;refine hK.out _ _ (fun _=>Ai) ?_;clear hK K hr;simp only[Act.put];refine cz 8 ?_ rfl ?_ Ai ?_;rotate_left
 ·(intro w _;go_simp;first|done|with_reducible rfl|(rw[if_pos (by omega)])|(rw[if_pos (by omega)];go_simp))
 simp only[Act.put];refine cz 9 ?_ rfl ?_ Ai ?_;rotate_left
 ·(intro w _;go_simp;first|done|with_reducible rfl|(rw[if_pos (by omega)])|(rw[if_pos (by omega)];go_simp))
 simp only[Act.put];refine cZ 10 rfl (fun K hK=>?_);go_simp;refine hK.out _ _ (fun h=>absurd (show false=true from h.symm.trans (by kernel_rfl)) (by decide)) ?_;clear hK K;refine dL (by kernel_rfl) ?_ _
 have KU:Hid (dI (Y5.setCell ⟨p,0,none⟩ (Value.slice a5 (xs.length+1) k5)) w.1.size 0 x/\jT (Y5.setCell ⟨p,0,none⟩ (Value.slice a5 (xs.length+1) k5)) base (Value.slice a5 (xs.length+1) k5) (xs++[x])/\(Y5.setCell ⟨p,0,none⟩ (Value.slice a5 (xs.length+1) k5)).cell? ⟨p,0,none⟩=some (Value.slice a5 (xs.length+1) k5)/\(Y5.setCell ⟨p,0,none⟩ (Value.slice a5 (xs.length+1) k5)).cell? ⟨p,1,none⟩=some (.map (some mb))/\(∀j,(Y5.setCell ⟨p,0,none⟩ (Value.slice a5 (xs.length+1) k5)).frozen? ⟨p,j,none⟩=false)/\j3 (Y5.setCell ⟨p,0,none⟩ (Value.slice a5 (xs.length+1) k5)) mb n (o9 xs)/\(Value.slice a5 (xs.length+1) k5).ownBlock≠some p/\(Value.slice a5 (xs.length+1) k5).ownBlock≠some mb/\p<(Y5.setCell ⟨p,0,none⟩ (Value.slice a5 (xs.length+1) k5)).1.size/\Below base w (Y5.setCell ⟨p,0,none⟩ (Value.slice a5 (xs.length+1) k5))/\w.1.size<(Y5.setCell ⟨p,0,none⟩ (Value.slice a5 (xs.length+1) k5)).1.size/\(Value.slice a5 (xs.length+1) k5).ownBlock≠some w.1.size):=by
  obtain⟨g1,g2,g3,g4,g5,g6,g7,g8,g9,I7,I8,MH,g13⟩:=K5.out;have bp:=K1.out.1.bp;have dZ:∀b,b≠p->(Y5.setCell ⟨p,0,none⟩ (Value.slice a5 (xs.length+1) k5)).1[b]?=Y5.1[b]?:=fun b hb=>Below.heap_setCell _ _ _ _ hb
  refine⟨dI.mM I7 (dZ _ (by omega)),g1.aQ (fun b _ _ e=>dZ b (fun e'=>g6 (by rw[e,e']))),az g2,(ae (by omega)).trans g3,fun j=>by rw[World.frozen?_setCell];exact g4 j,g5.aj (dZ mb (fun e=>K1.out.1.pm e.symm)),g6,g7,by simpa[World.setCell]using g8,g9.setCell (p:=⟨p,0,none⟩) bp _,by simpa[World.setCell]using I8,MH⟩
 clear K5 hS MN Ai kb uq iT jd pY iL nu D5 bV hV V tX f0 e0 KD;generalize Y5.setCell ⟨p,0,none⟩ (Value.slice a5 (xs.length+1) k5)=W5 at *;clear Y5;have hS:(fun X:World=>X.cell? ⟨p,1,none⟩=some (.map (some mb))/\dI X w.1.size 0 x) W5.drew:=⟨KU.out.2.2.2.1,KU.out.1.below ((Below.refl W5.1.size W5).drew) KU.out.2.2.2.2.2.2.2.2.2.2.1⟩
 go_upto_region 6 with fail
 refine bu (fun z=>z==8) (fun X:World=>X.cell? ⟨p,1,none⟩=some (.map (some mb))/\dI X w.1.size 0 x) (by kernel_rfl) ?_;have KD:Hid (Below W5.1.size W5 W5.drew):=aJ.drew;generalize W5.drew=We at *;refine cz 0 ?_ rfl ?_ hS ?_;rotate_left
 ·(intro w _;go_simp;first|done|with_reducible rfl|(rw[if_pos (by omega)])|(rw[if_pos (by omega)];go_simp))
 simp only[Act.put];refine cz 1 ?_ rfl ?_ hS ?_;rotate_left
 ·(intro w _;go_simp;first|done|with_reducible rfl|(rw[if_pos (by omega)])|(rw[if_pos (by omega)];go_simp))
 simp only[Act.put];refine cz 2 ?_ rfl ?_ hS ?_;rotate_left
 ·(intro w _;go_simp;first|done|with_reducible rfl|(rw[if_pos (by omega)])|(rw[if_pos (by omega)];go_simp))
 simp only[Act.put];refine jg 3 ?_ rfl ?_ hS ?_;rotate_left
 ·(intro w aG;obtain⟨s0,⟨a0,a1,a2,a3,a4⟩⟩:=aG;go_simp;first|done|with_reducible rfl)
 simp only[Act.put];refine jg 4 ?_ rfl ?_ hS ?_;rotate_left
 ·(intro w aG;obtain⟨s0,⟨a0,a1,a2,a3,a4⟩⟩:=aG;go_simp;first|done|with_reducible rfl)
 simp only[Act.put];refine cz 5 ?_ rfl ?_ hS ?_;rotate_left
 ·(intro w _;go_simp;first|done|with_reducible rfl|(rw[if_pos (by omega)])|(rw[if_pos (by omega)];go_simp))
 simp only[Act.put];refine cz 7 ?_ rfl ?_ hS ?_;rotate_left
 ·(intro w _;go_simp;first|done|with_reducible rfl|(rw[if_pos (by omega)])|(rw[if_pos (by omega)];go_simp))
 simp only[Act.put];refine cZ 6 rfl (fun K hK=>?_);go_simp;refine(oH We x).mono ?_;rintro e X2 ⟨rfl,b2⟩;have bX:Below W5.1.size W5 X2:=KD.out.trans (b2.mono KD.out.size);obtain⟨Y,fO,BH,uU,DR⟩:=(KU.out.2.2.2.2.2.1.later bX).store (by omega) hk.1 hk.2 xs.length (by omega);rw[<-NV H.out.2.2.2.2.2.1]at BH
 have iD:(fun X:World=>X.cell? ⟨p,1,none⟩=some (.map (some mb))/\dI X w.1.size 0 x) X2:=by
  obtain⟨g1,g2,g3,g4,g5,g6,g7,g8,g9,I7,I8,MH⟩:=KU.out;exact⟨(bX.cell (p:=⟨p,1,none⟩) g9).trans g4,g1.below bX I8⟩
 have K7:Hid (nQ Y base p mb (n+1) (Value.slice a5 (xs.length+1) k5) (xs++[x])/\Below base w Y):=by
  obtain⟨g1,g2,g3,g4,g5,g6,g7,g8,g9,I7,I8,MH⟩:=KU.out;have mH:=K1.out.1.pm;have yS:=(uU.block p (Nat.lt_of_lt_of_le g9 bX.size) mH).trans (bX.block p g9);refine⟨⟨(World.cell?_of_block (a:=⟨p,0,none⟩) yS).trans g3,(World.cell?_of_block (a:=⟨p,1,none⟩) yS).trans g4,fun j=>(World.frozen?_of_block (a:=⟨p,j,none⟩) yS).trans (g5 j),g2.aQ (fun b _ hb e=>(uU.block b (Nat.lt_of_lt_of_le hb bX.size) (fun e'=>g8 (by rw[e,e']))).trans (bX.block b hb)),BH,fun s hs=>?_,g7,g8,mH,K1.out.1.bp,K1.out.1.bm,by rw[DR];exact Nat.lt_of_lt_of_le g9 bX.size⟩,?_⟩
  ·rcases List.mem_append.1 hs with hs|hs
   ·exact K1.out.1.ok s hs
   ·simp at hs;subst hs;exact H.out.2.2.2.2.2.2.1
  ·have qJ:base<=W5.1.size:=by have:=K1.out.1.bp;omega
   exact(I7.trans (bX.mono qJ)).trans (uU.below K1.out.1.bm (Nat.le_trans qJ bX.size))
 simp only[jV]at fO;refine hK.out _ _ (fun _=>iD) ?_;clear hK K iD hS bX KD BH uU DR hm hk b2;refine cZ 8 rfl (fun K hK=>?_);go_simp;refine hK.out _ _ (fun h=>absurd (show false=true from h.symm.trans (by kernel_rfl)) (by decide)) ?_;clear hK K fO;refine dL (by kernel_rfl) ?_ _;obtain⟨q5,cap5,eK,P7⟩:=K7.out.1.XZ (by simp)
 have c7:=Ic Y base p q5 mb (n+1) cap5 (xs++[x]) xs.length P7 (by simp;omega) (by simp) (by
  rcases HS.out with h|h
  ·exact .inl (by rw[h];rfl)
  ·exact .inr h)
 go_wp2_with fail;refine c7.mono ?_;clear c7;rintro e w8 ⟨rfl,b8⟩;have KE:Hid (nQ w8 base p mb (n+1) (Value.slice a5 (xs.length+1) k5) (xs++[x])/\Below base w w8):=⟨K7.out.1.later b8,K7.out.2.trans (b8.mono (by have:=K7.out.1.bp;have:=K7.out.1.lp;omega))⟩
 clear b8;go_wp2;refine bodyPost_end (v:=.tuple #[]) (by simp[results,Tryz.results104,go_sem]) rfl ⟨rfl,(Value.slice a5 (xs.length+1) k5),KE.out.1,KE.out.2⟩
end tx
namespace tx
variable {k:Nat}{x:S5}{xs:List S5}
def zV(xs:List S5):Prop:=xs.Pairwise fun a b=>Uc a<Uc b
theorem FK(h:zV xs){i j:Nat}{y:S5}(hi:xs[i]?=some x)(hj:xs[j]?=some y)(Eu:i<j):Uc x<Uc y:=by
 have li:=(List.getElem?_eq_some_iff.1 hi)
 have lj:=(List.getElem?_eq_some_iff.1 hj)
 have:=List.pairwise_iff_getElem.1 h i j li.1 lj.1 Eu;rwa[li.2,lj.2]at this
theorem Xh(h:zV xs)(hk:xs[k]?=some x):o9 (xs.take k) x.b x.e=none:=by
 rw[FL];intro y hy e;obtain⟨i,hi,rfl⟩:=List.getElem_of_mem hy;have Gv:i<k:=by rw[List.length_take]at hi;omega
 have e2:xs[i]?=some ((xs.take k)[i]):=by
  have:=List.getElem?_eq_getElem hi;rwa[List.getElem?_take,if_pos Gv]at this
 have:=FK h e2 hk Gv;unfold Uc at this;rw[e.1,e.2]at this;omega
theorem Ue(h:zV xs)(hk:xs[k]?=some x):xs.take k=[]\/NU (xs.take k++[x]) (((xs.take k).length-1)/2)<=NU (xs.take k++[x]) (xs.take k).length:=by
 by_cases h0:k=0
 ·exact .inl (by rw[h0];rfl)
 ·have lk:=(List.getElem?_eq_some_iff.1 hk).1;have hl:(xs.take k).length=k:=by rw[List.length_take];omega
  have e1:xs.take k++[x]=xs.take (k+1):=by rw[List.take_add_one,hk];rfl
  refine .inr ?_;rw[hl,e1];obtain⟨y,hy⟩:∃y,xs[(k-1)/2]?=some y:=⟨_,List.getElem?_eq_getElem (by omega)⟩
  rw[Rt (x:=y) (by rw[List.getElem?_take,if_pos (by omega)];exact hy),Rt (x:=x) (by rw[List.getElem?_take,if_pos (by omega)];exact hk)];exact Int.le_of_lt (FK h hy hk (by omega))
theorem uB(w:World)(a:Option Addr)(c:Nat)(xs:List S5)(hl:xs.length<=100)(hs:Sl w w.1.size a xs.length xs)(je:∀s∈xs,dw s=true)(M9:zV xs):
  Calls Tryz.prog 60 #[.slice a xs.length c] w fun e w'=>∃p mb n v,e=.returned (.pointer (some ⟨p,0,none⟩))/\nQ w' w.1.size p mb n v xs/\n<=xs.length/\Below w.1.size w w':=by
 obtain⟨W0,eB⟩:∃W,W=w.alloc (.map #[] 0):=⟨_,rfl⟩
 have z0:W0.1.size=w.1.size+1:=by rw[eB];simp
 have b0:Below w.1.size w W0:=by rw[eB];exact aJ.alloc aR _
 obtain⟨W,hW⟩:∃W,W=W0.alloc (.cells #[.slice none 0 0,.map (some w.1.size)] 167):=⟨_,rfl⟩
 have b1:Below W0.1.size W0 W:=by rw[hW];exact aJ.alloc aR _
 have pb:nQ W w.1.size (w.1.size+1) w.1.size 0 (.slice none 0 0) []:=by
  refine⟨(by rw[hW,<-z0];go_simp),(by rw[hW,<-z0];go_simp),(fun j=>by rw[hW,<-z0];go_simp),jT.nil _ _,?_,(fun s hs=>by cases hs),(fun e=>by cases e),(fun e=>by cases e),(by omega),(by omega),Nat.le_refl _,(by rw[hW];simp[z0])⟩;have hm:=(j3.made w).later (W':=W) (by rw[<-eB];exact b1);exact hm
 have H:Hid (Sl w w.1.size a xs.length xs/\(∀s∈xs,dw s=true)/\zV xs/\nQ W w.1.size (w.1.size+1) w.1.size 0 (.slice none 0 0) []/\Below w.1.size w W):=⟨hs,je,M9,pb,b0.trans (b1.mono b0.size)⟩
 clear hs je M9 pb b0 b1 z0;rw[eB]at hW;clear eB;have yQ:=@run_makeMap Tryz.prog;go_enter Tryz.func60,Tryz.ntmps60;go_wp2;rw[<-hW];clear hW;go_loopw[11] (fun v11 wr=>∃(k n:Nat) (v:Value),k<=xs.length/\v11=vI (k:Int)/\nQ wr w.1.size (w.1.size+1) w.1.size n v (xs.take k)/\n<=k/\Below w.1.size w wr) (fun v11 _=>xs.length-(intOf v11).toNat)
 case atStart=>exact⟨0,0,.slice none 0 0,Nat.zero_le _,rfl,by simpa using H.out.2.2.2.1,Nat.le_refl _,H.out.2.2.2.2⟩
 case round=>
  obtain⟨k,n,v,hk,rfl,hp,Zj,aF⟩:=hrel;by_cases aN:k<xs.length
  ·obtain⟨_,gu⟩:=H.out.1.later aF;rcases gu with gu|⟨b,off,rfl,hb,hx⟩
   ·omega
   have BJ:=gM aN;obtain⟨c0,c1,c2,c3,c4⟩:=hx k _ BJ;obtain⟨V,hV⟩:∃V,V=wr.alloc (.cells #[vI (ax xs k).b,vI (ax xs k).e,vI (ax xs k).g,.bool (ax xs k).i,vI (ax xs k).j] 100):=⟨_,rfl⟩
   have bV:Below wr.1.size wr V:=by rw[hV];exact aJ.alloc aR _
   have cp:=KJ V w.1.size (w.1.size+1) w.1.size n v (xs.take k) (ax xs k) (hp.later bV) (by omega) (by rw[List.length_take];omega) (H.out.2.1 _ (List.mem_of_getElem? BJ)) (Xh H.out.2.2.1 BJ) (Nat.le_trans aF.size bV.size) (Ue H.out.2.2.1 BJ);have KB:Hid (Below w.1.size w V/\xs.take k++[ax xs k]=xs.take (k+1)):=⟨aF.trans (bV.mono aF.size),by rw[List.take_add_one,BJ];rfl⟩
   clear hp aF hx BJ bV;go_wp2_with fail;rw[<-hV];clear hV c0 c1 c2 c3 c4;refine cp.mono ?_;clear cp;rintro e w1 ⟨rfl,v',p1,b1⟩;rw[KB.out.2]at p1;have KE:Hid (nQ w1 w.1.size (w.1.size+1) w.1.size (n+1) v' (xs.take (k+1))/\Below w.1.size w w1):=⟨p1,KB.out.1.trans b1⟩
   clear p1 b1;go_wp2;exact⟨⟨k+1,n+1,v',by omega,by simp,KE.out.1,by omega,KE.out.2⟩,by simp[intOf];omega⟩
  ·obtain rfl:k=xs.length:=by omega
   have hd:decide ((xs.length:Int)<(xs.length:Int))=false:=by simp
   rw[List.take_length]at hp;have KE:Hid (nQ wr w.1.size (w.1.size+1) w.1.size n v xs/\Below w.1.size w wr):=⟨hp,aF⟩
   clear hp aF;go_wp2;go_ret;exact⟨w.1.size+1,w.1.size,n,v,rfl,KE.out.1,Zj,KE.out.2⟩
end tx
namespace tx
variable {k:Nat}{r s:Int}{t:T7}{x:S5}{xs:List S5}
theorem Fx{f:Nat->Int}{n:Nat}(h:∀i,i+1<n->f i<f (i+1)){i j:Nat}(Eu:i<j)(hj:j<n):f i<f j:=by
 induction j with
 | zero=>omega
 | succ j ih=>
  by_cases e:i=j
  ·subst e;exact h i hj
  ·exact Int.lt_trans (ih (by omega) (by omega)) (h j hj)
theorem Io(h:jI t=true):(∀s∈t.a,bn s=true)/\qR t.a:=by
 simp only[jI,Bool.and_eq_true]at h;have g:=h.1.2;rw[EZ,Bool.and_eq_true,List.all_eq_true,List.all_eq_true]at g;refine⟨fun s hs=>?_,?_⟩
 ·obtain⟨i,hi,rfl⟩:=List.getElem_of_mem hs;have:=g.1 i (List.mem_range.2 hi);rwa[show au t.a i=t.a[i]from by have:=fE hi;rw[List.getElem?_eq_getElem hi]at this;exact(Option.some.inj this).symm]at this
 ·refine List.pairwise_iff_getElem.2 fun i j hi hj Eu=>?_
  have:=Fx (f:=fun i=>jH (au t.a i)) (n:=t.a.length) (fun i hi=>by
   have:=g.2 (i+1) (List.mem_range.2 hi);simp only[vU,Nat.add_sub_cancel,Bool.or_eq_true,decide_eq_true_eq]at this;rcases this with h|h
   ·omega
   ·exact h) Eu hj
  have e:∀i (hi:i<t.a.length),au t.a i=t.a[i]:=fun i hi=>by have:=fE hi;rw[List.getElem?_eq_getElem hi]at this;exact(Option.some.inj this).symm
  rwa[e i hi,e j hj]at this
theorem Um(h:jI t=true):(∀s∈t.ag,dw s=true)/\zV t.ag:=by
 simp only[jI,Bool.and_eq_true]at h;have g:=h.2;rw[FH,Bool.and_eq_true,List.all_eq_true,List.all_eq_true]at g;refine⟨fun s hs=>?_,?_⟩
 ·obtain⟨i,hi,rfl⟩:=List.getElem_of_mem hs;have:=g.1 i (List.mem_range.2 hi);rwa[show ax t.ag i=t.ag[i]from by have:=gM hi;rw[List.getElem?_eq_getElem hi]at this;exact(Option.some.inj this).symm]at this
 ·refine List.pairwise_iff_getElem.2 fun i j hi hj Eu=>?_
  have:=Fx (f:=fun i=>Uc (ax t.ag i)) (n:=t.ag.length) (fun i hi=>by
   have:=g.2 (i+1) (List.mem_range.2 hi);simp only[wu,Nat.add_sub_cancel,Bool.or_eq_true,decide_eq_true_eq]at this;rcases this with h|h
   ·omega
   ·exact h) Eu hj
  have e:∀i (hi:i<t.ag.length),ax t.ag i=t.ag[i]:=fun i hi=>by have:=gM hi;rw[List.getElem?_eq_getElem hi]at this;exact(Option.some.inj this).symm
  rwa[e i hi,e j hj]at this
def Ap(w:World)(xs:List N5)(e:Ending)(w':World):Prop:=
 ∃(a:Option Addr) (c:Nat) (PS:Nat->Prop),e=.returned (.slice a xs.length c)/\mW w' PS a xs/\(∀q,PS q->w.1.size<=q/\q<w'.1.size)/\Below w.1.size w w'
def setAt(xs:List S5)(r s:Int):Int:=match o9 xs r s with|some i=>(i:Int)|none=>-1
theorem K6(h:o9 (xs.take k) r s=none)(hx:xs[k]?=some x)(h1:x.b=r)(h2:x.e=s):o9 xs r s=some k:=by
 have lk:=List.getElem?_eq_some_iff.1 hx;have l1:=lk.1;unfold o9 at *;rw[List.findIdx?_eq_some_iff_getElem];refine⟨lk.1,by rw[lk.2];simp[h1,h2],fun j hj=>?_⟩;rw[List.findIdx?_eq_none_iff]at h;have:=h xs[j] (List.mem_take_iff_getElem.2 ⟨j,by omega,rfl⟩);simp at this ⊢;exact this
theorem FM(h:o9 (xs.take k) r s=none)(hx:xs[k]?=some x)(hn:¬(x.b=r/\x.e=s)):o9 (xs.take (k+1)) r s=none:=by
 rw[FL]at *;intro y hy;rw[List.take_add_one,hx]at hy;rcases List.mem_append.1 hy with hy|hy
 ·exact h y hy
 ·simp at hy;subst hy;exact hn
theorem Ke(w:World)(v:TV)(t:T7)(r s:Int)(hl:t.ag.length<=1000)(hs:lW w v t):
  Calls Tryz.prog 46 #[v.val t,vI r,vI s] w fun e w'=>e=.returned (vI (setAt t.ag r s))/\Below w.1.size w w':=by
 obtain⟨ar,cr,ah,ch⟩:=v;simp only[TV.val];obtain⟨W,hW⟩:∃W,W=w.alloc (.cells #[vI t.id,vI t.o,vI t.q,vI t.v,.slice ar t.a.length cr,.slice ah t.ag.length ch,vI t.aA] 50):=⟨_,rfl⟩
 have b0:Below w.1.size w W:=by rw[hW];exact aJ.alloc aR _
 have x0:BT W w.1.size ⟨ar,cr,ah,ch⟩ t:=by rw[hW];exact BT.box w ⟨ar,cr,ah,ch⟩ t _
 have p5:=x0.c5;dsimp only at p5;have H:Hid (Sl W W.1.size ah t.ag.length t.ag/\Below w.1.size w W):=⟨(hs.later b0).s,b0⟩
 clear hs b0 x0;go_enter Tryz.func46,Tryz.ntmps46;go_wp2;rw[<-hW];clear hW;go_loopw[7] (fun v7 wr=>∃k:Nat,k<=t.ag.length/\v7=vI k/\wr=W/\o9 (t.ag.take k) r s=none) (fun v7 _=>t.ag.length-(intOf v7).toNat)
 case atStart=>exact⟨0,Nat.zero_le _,rfl,rfl,by simp[o9]⟩
 case round=>
  obtain⟨k,hk,rfl,rfl,PH⟩:=hrel;have KN:=aB PH;clear PH;by_cases aN:k<t.ag.length
  ·obtain⟨_,gu⟩:=H.out.1;rcases gu with gu|⟨b,off,rfl,hb,hx⟩
   ·omega
   obtain⟨c0,c1,c2,c3,c4⟩:=hx k _ (gM aN);clear hx;by_cases hg:(ax t.ag k).b=r
   ·have dg:((ax t.ag k).b==r)=true:=by simpa using hg
    by_cases AB:(ax t.ag k).e=s
    ·have YG:((ax t.ag k).e==s)=true:=by simpa using AB
     have HF:Hid (setAt t.ag r s=(k:Int)):=by unfold Hid setAt;rw[K6 KN.out (gM aN) hg AB]
     clear hg AB;go_wp2;go_ret;exact⟨by rw[HF.out];rfl,H.out.2⟩
    ·have YG:((ax t.ag k).e==s)=false:=by simpa using AB
     have KE:Hid (o9 (t.ag.take (k+1)) r s=none):=FM KN.out (gM aN) (fun h=>AB h.2);clear hg AB;go_wp2;exact⟨⟨k+1,by omega,by simp,trivial,KE.out⟩,by simp[intOf];omega⟩
   ·have dg:((ax t.ag k).b==r)=false:=by simpa using hg
    have KE:Hid (o9 (t.ag.take (k+1)) r s=none):=FM KN.out (gM aN) (fun h=>hg h.1);clear hg;go_wp2;exact⟨⟨k+1,by omega,by simp,trivial,KE.out⟩,by simp[intOf];omega⟩
  ·obtain rfl:k=t.ag.length:=by omega
   have hd:decide ((t.ag.length:Int)<(t.ag.length:Int))=false:=by simp
   have HF:Hid (setAt t.ag r s=-1):=by unfold Hid setAt;have:=KN.out;rw[List.take_length]at this;rw[this]
   go_wp2;go_ret;exact⟨by rw[HF.out];rfl,H.out.2⟩
end tx
namespace tx
variable {w:World}
def Ar(w:World)(N:T7)(ok:Bool)(e:Ending)(w':World):Prop:=
 ∃(a:Option Addr) (c:Nat) (h:Option Addr) (d:Nat) (PR PS:Nat->Prop),e=.returned (.tuple #[.agg #[vI N.id,vI N.o,vI N.q,vI N.v,.slice a N.a.length c,.slice h N.ag.length d,vI N.aA],.bool ok])/\OT w' w.1.size ⟨a,c,h,d⟩ N PR PS/\Below w.1.size w w'
def rU:T7:=⟨0,0,0,0,[],[],0⟩
theorem OT.none{B:Nat}{N:T7}(h1:N.a=[])(h2:N.ag=[]):OT w B ⟨none,0,none,0⟩ N (fun _=>False) (fun _=>False):=⟨.inl h1,.inl h2,fun _ h=>h.elim,fun _ h=>h.elim,fun _ h=>h.elim⟩
theorem Ar.zero{w':World}(hb:Below w.1.size w w'):Ar w rU false (.returned (.tuple #[.agg #[vI 0,vI 0,vI 0,vI 0,.slice none 0 0,.slice none 0 0,vI 0],.bool false])) w':=
 ⟨none,0,none,0,fun _=>False,fun _=>False,rfl,OT.none rfl rfl,hb⟩
end tx
namespace tx
def Vo(w:World)(t:T7)(e:Ending)(w':World):Prop:=∃(a4:Option Addr) (c4:Nat) (h4:Option Addr) (d4:Nat) (PR PS:Nat->Prop),e=.returned ((TV.mk a4 c4 h4 d4).val t)/\OT w' w.1.size ⟨a4,c4,h4,d4⟩ t PR PS/\Below w.1.size w w'/\t.a.length<=c4
theorem eZ.cap{W:World}{base:Nat}{a:Option Addr}{n c:Nat}{xs:List N5}(h:eZ W base (.slice a n c) xs):xs.length<=c:=by
 rcases h.2 with ⟨e,h0⟩|⟨_,_,_,e,_,_,hl,_⟩
 ·rw[h0];exact Nat.zero_le _
 ·cases e;exact hl
theorem wU(w:World)(v:TV)(t:T7)(hr:t.a.length<=1048576)(Q3:t.ag.length<=1048576)(h:lW w v t):
  Calls Tryz.prog 43 #[v.val t] w (Vo w t):=by
 obtain⟨ar,cr,ah,ch⟩:=v;simp only[TV.val];obtain⟨W1,ja⟩:∃W1,W1=w.alloc (.cells #[vI t.id,vI t.o,vI t.q,vI t.v,.slice ar t.a.length cr,.slice ah t.ag.length ch,vI t.aA] 50):=⟨_,rfl⟩
 have z1:W1.1.size=w.1.size+1:=by rw[ja];simp
 have x1:BT W1 w.1.size ⟨ar,cr,ah,ch⟩ t:=by rw[ja];exact BT.box w ⟨ar,cr,ah,ch⟩ t _
 have b1:Below w.1.size w W1:=by rw[ja];exact aJ.alloc aR _
 obtain⟨W,hW⟩:∃W2,W2=W1.alloc (.cells #[vI 0,vI 0,vI 0,vI 0,.slice none 0 0,.slice none 0 0,vI 0] 50):=⟨_,rfl⟩
 have b2:Below W1.1.size W1 W:=by rw[hW];exact aJ.alloc aR _
 have yR:BT W (w.1.size+1) ⟨none,0,none,0⟩ ⟨0,0,0,0,[],[],0⟩:=by rw[hW,<-z1];exact BT.zero W1 _
 have sW:W.1.size=w.1.size+2:=by rw[hW];simp[z1]
 have yA:BT W w.1.size ⟨ar,cr,ah,ch⟩ t:=x1.later b2;have bW:Below w.1.size w W:=b1.trans (b2.mono b1.size);have Au:Below W.1.size W (W.alloc (.cells #[] 112)):=aJ.alloc aR _;obtain⟨a1,c1,Y1,r9,nK,MI⟩:=Mv (eZ.made W) t.a hr 47 ar cr ((h.later (bW.trans (Au.mono bW.size))).r) Au.size;have xg:Below W.1.size W Y1:=Au.grown MI Au.size (fun q e=>by cases e;exact Nat.le_refl _);have Lp:BT Y1 w.1.size ⟨ar,cr,ah,ch⟩ t:=yA.later xg;have Rv:=yR.later xg;have OV:BT (Y1.setCell ⟨w.1.size,4,none⟩ (.slice a1 t.a.length c1)) w.1.size ⟨a1,c1,ah,ch⟩ t:=Lp.Ig a1 c1 t.a;have Rw:=Rv.dZ (p:=⟨w.1.size,4,none⟩) (by dsimp only;omega) (.slice a1 t.a.length c1);have IY:Below w.1.size w (Y1.setCell ⟨w.1.size,4,none⟩ (.slice a1 t.a.length c1)):=(bW.trans (xg.mono bW.size)).setCell (p:=⟨w.1.size,4,none⟩) aR _;have zS:eZ (Y1.setCell ⟨w.1.size,4,none⟩ (.slice a1 t.a.length c1)) W.1.size (.slice a1 t.a.length c1) t.a:=nK.aQ (fun q hq _ _=>Below.heap_setCell _ _ _ _ (by show q≠w.1.size;omega));have U8:(Y1.setCell ⟨w.1.size,4,none⟩ (.slice a1 t.a.length c1)).1.size=Y1.1.size:=by simp[World.setCell]
 have JE:Below (Y1.setCell ⟨w.1.size,4,none⟩ (.slice a1 t.a.length c1)).1.size (Y1.setCell ⟨w.1.size,4,none⟩ (.slice a1 t.a.length c1)) ((Y1.setCell ⟨w.1.size,4,none⟩ (.slice a1 t.a.length c1)).alloc (.cells #[] 100)):=aJ.alloc aR _;obtain⟨a2,c2,Y2,wo,zT,MJ⟩:=Mw (jT.made (Y1.setCell ⟨w.1.size,4,none⟩ (.slice a1 t.a.length c1))) t.ag Q3 48 ah ch ((h.later (IY.trans (JE.mono IY.size))).s) JE.size;have yz:Below (Y1.setCell ⟨w.1.size,4,none⟩ (.slice a1 t.a.length c1)).1.size (Y1.setCell ⟨w.1.size,4,none⟩ (.slice a1 t.a.length c1)) Y2:=JE.grown MJ JE.size (fun q e=>by cases e;exact Nat.le_refl _);have LB:BT Y2 w.1.size ⟨a1,c1,ah,ch⟩ t:=OV.later yz;have Rx:=Rw.later yz;have ZR:BT (Y2.setCell ⟨w.1.size,5,none⟩ (.slice a2 t.ag.length c2)) w.1.size ⟨a1,c1,a2,c2⟩ t:=LB.Qm a2 c2 t.ag;have Ry:=Rx.dZ (p:=⟨w.1.size,5,none⟩) (by dsimp only;omega) (.slice a2 t.ag.length c2);have l6:Below w.1.size w (Y2.setCell ⟨w.1.size,5,none⟩ (.slice a2 t.ag.length c2)):=(IY.trans (yz.mono IY.size)).setCell (p:=⟨w.1.size,5,none⟩) aR _;have kT:eZ (Y2.setCell ⟨w.1.size,5,none⟩ (.slice a2 t.ag.length c2)) W.1.size (.slice a1 t.a.length c1) t.a:=(zS.later yz).aQ (fun q hq _ _=>Below.heap_setCell _ _ _ _ (by show q≠w.1.size;omega));have Ao:W.1.size<=(Y1.setCell ⟨w.1.size,4,none⟩ (.slice a1 t.a.length c1)).1.size:=by rw[U8];exact xg.size
 have nL:jT (Y2.setCell ⟨w.1.size,5,none⟩ (.slice a2 t.ag.length c2)) (Y1.setCell ⟨w.1.size,4,none⟩ (.slice a1 t.a.length c1)).1.size (.slice a2 t.ag.length c2) t.ag:=zT.aQ (fun q hq _ _=>Below.heap_setCell _ _ _ _ (by show q≠w.1.size;omega));have nN:=Ry.put ⟨a1,c1,a2,c2⟩ t;have p4:=yA.c4;have k4:=Lp.c4;have Lx:=Lp.fz 4;have p5:=(OV.later JE).c5;have k5:=LB.c5;have Re:=LB.fz 5;dsimp only at p4 k4 p5 k5;obtain⟨o0,o1,o2,o3,o4,o5,o6,-,-⟩:=ZR;have KR:=Ry;have M0:∀q,(Value.slice a1 t.a.length c1).ownBlock=some q->W.1.size<=q/\q<(Y1.setCell ⟨w.1.size,4,none⟩ (.slice a1 t.a.length c1)).1.size:=fun q e=>zS.lt e
 have KO:OT (Y2.setCell ⟨w.1.size,5,none⟩ (.slice a2 t.ag.length c2)) w.1.size ⟨a1,c1,a2,c2⟩ t (fun q=>(Value.slice a1 t.a.length c1).ownBlock=some q) (fun q=>(Value.slice a2 t.ag.length c2).ownBlock=some q):=by
  obtain⟨_,_,e1,o1⟩:=kT.form;obtain⟨_,_,e2,o2⟩:=nL.form
  cases e1;cases e2;exact⟨o1,o2,fun q h1 h2=>by have:=(M0 q h1).2;have:=(nL.lt h2).1;omega,fun q h1=>⟨by have:=(kT.lt h1).1;omega,(kT.lt h1).2⟩,fun q h1=>⟨by have:=(nL.lt h1).1;omega,(nL.lt h1).2⟩⟩
 have gn:Hid (t.a.length<=c1):=kT.cap
 have KH:Hid (OT (Y2.setCell ⟨w.1.size,5,none⟩ (.slice a2 t.ag.length c2)) w.1.size ⟨a1,c1,a2,c2⟩ t (fun q=>(Value.slice a1 t.a.length c1).ownBlock=some q) (fun q=>(Value.slice a2 t.ag.length c2).ownBlock=some q)/\Below w.1.size w (Y2.setCell ⟨w.1.size,5,none⟩ (.slice a2 t.ag.length c2))/\(∀q,oW (fun q=>(Value.slice a1 t.a.length c1).ownBlock=some q) (fun q=>(Value.slice a2 t.ag.length c2).ownBlock=some q) q->w.1.size+2<=q)):=⟨KO,l6,fun q hq=>by
  rcases hq with hq|hq
  ·have:=(kT.lt hq).1;omega
  ·have:=(nL.lt hq).1;omega⟩
 simp only[kJ]at nN;obtain⟨u0,u1,u2,u3,u4,u5,u6,-,-⟩:=nN;have KX:Hid (((Y2.setCell ⟨w.1.size,5,none⟩ (.slice a2 t.ag.length c2)).cell? ⟨w.1.size,0,none⟩=some (vI t.id)/\(Y2.setCell ⟨w.1.size,5,none⟩ (.slice a2 t.ag.length c2)).cell? ⟨w.1.size,1,none⟩=some (vI t.o)/\(Y2.setCell ⟨w.1.size,5,none⟩ (.slice a2 t.ag.length c2)).cell? ⟨w.1.size,2,none⟩=some (vI t.q)/\(Y2.setCell ⟨w.1.size,5,none⟩ (.slice a2 t.ag.length c2)).cell? ⟨w.1.size,3,none⟩=some (vI t.v)/\(Y2.setCell ⟨w.1.size,5,none⟩ (.slice a2 t.ag.length c2)).cell? ⟨w.1.size,4,none⟩=some (.slice a1 t.a.length c1)/\(Y2.setCell ⟨w.1.size,5,none⟩ (.slice a2 t.ag.length c2)).cell? ⟨w.1.size,5,none⟩=some (.slice a2 t.ag.length c2)/\(Y2.setCell ⟨w.1.size,5,none⟩ (.slice a2 t.ag.length c2)).cell? ⟨w.1.size,6,none⟩=some (vI t.aA))/\BT (Y2.setCell ⟨w.1.size,5,none⟩ (.slice a2 t.ag.length c2)) (w.1.size+1) ⟨none,0,none,0⟩ ⟨0,0,0,0,[],[],0⟩):=⟨⟨o0,o1,o2,o3,o4,o5,o6⟩,KR⟩
 have KU:=aB (And.intro u0 (And.intro u1 (And.intro u2 (And.intro u3 (And.intro u4 (And.intro u5 u6))))));have K1:=aB (And.intro k4 (And.intro Lx p5));have K2:=aB (And.intro k5 Re);have R1:=aB r9;have R2:=aB wo;rw[ja]at hW;have X5:W.1.size=w.1.size+1+1:=by omega
 clear sW;clear ja x1 b1 b2 z1 yA yR bW Au xg nK MI Lp Rv OV Rw IY zS JE zT MJ yz LB Rx l6 kT nL Ao M0 h KO KR o0 o1 o2 o3 o4 o5 o6 u0 u1 u2 u3 u4 u5 u6 k4 Lx p5 k5 Re r9 wo;go_enter Tryz.func43,Tryz.ntmps43;have r1:=R1.out;have r2:=R2.out;rw[X5]at r1;rw[U8]at r2;rw[hW]at r1;obtain⟨k4,Lx,p5⟩:=K1.out;obtain⟨k5,Re⟩:=K2.out;obtain⟨⟨o0,o1,o2,o3,o4,o5,o6⟩,⟨r0,r1',r2',r3,r4,r5,r6,fr,-⟩⟩:=KX.out;have f0:=fr 0;have f1:=fr 1;have f2:=fr 2;have f3:=fr 3;have f4:=fr 4;have f5:=fr 5;have f6:=fr 6;clear fr K1 K2 KX R1 R2 hW p4 U8 X5;go_wp2_with (first|(at_builtin;refine eO _ rfl (.tmp 3) (.tmp 5) 47 rfl _ _ _ _ rfl rfl r1 ?_)|(at_builtin;refine eO _ rfl (.tmp 8) (.tmp 10) 48 rfl _ _ _ _ rfl rfl r2 ?_));obtain⟨u0,u1,u2,u3,u4,u5,u6⟩:=KU.out;refine bodyPost_ret (v:=.agg #[vI t.id,vI t.o,vI t.q,vI t.v,.slice a1 t.a.length c1,.slice a2 t.ag.length c2,vI t.aA]) (by simp[results,Tryz.results43,go_sem,u0,u1,u2,u3,u4,u5,u6]) rfl ?_;obtain⟨ot,bX,q2⟩:=KH.out;refine⟨a1,c1,a2,c2,fun q=>(Value.slice a1 t.a.length c1).ownBlock=some q,fun q=>(Value.slice a2 t.ag.length c2).ownBlock=some q,rfl,?_,?_⟩
 ·exact ot.aQ (by simp[World.setCell]) (fun q _ hq=>iY (s:=w.1.size+1) (v:=⟨a1,c1,a2,c2⟩) (t:=t) (by have:=q2 q hq;omega))
 ·exact⟨eP (s:=w.1.size+1) (v:=⟨a1,c1,a2,c2⟩) (t:=t) bX (by omega),gn.out⟩
theorem GI(w:World)(v:TV)(t:T7)(hr:t.a.length<=1048576)(Q3:t.ag.length<=1048576)(h:lW w v t):
  Calls Tryz.prog 43 #[v.val t] w (Vn w t):=by
 refine(wU w v t hr Q3 h).mono ?_;rintro e w' ⟨a,b,c,d,PR,PS,h1,h2,h3,_⟩;exact⟨a,b,c,d,PR,PS,h1,h2,h3⟩
variable {k:Nat}{n x:N5}{r s:Int}{xs:List N5}
def jR(xs:List N5)(r s:Int):Int:=match jB xs r s with|some i=>(i:Int)|none=>-1
theorem KI(xs:List N5)(r s:Int):decide (0<=jR xs r s)=(jB xs r s).isSome:=by
 unfold jR
 cases jB xs r s<;>simp
theorem Ko(h:jB (xs.take k) r s=none)(hx:xs[k]?=some x)(h1:x.b=r)(h2:x.e=s):jB xs r s=some k:=by
 have lk:=List.getElem?_eq_some_iff.1 hx;have l1:=lk.1;unfold jB at *;rw[List.findIdx?_eq_some_iff_getElem];refine⟨lk.1,by rw[lk.2];simp[h1,h2],fun j hj=>?_⟩;rw[List.findIdx?_eq_none_iff]at h;have:=h xs[j] (List.mem_take_iff_getElem.2 ⟨j,by omega,rfl⟩);simp at this ⊢;exact this
theorem Fa(h:jB (xs.take k) r s=none)(hx:xs[k]?=some x)(hn:¬(x.b=r/\x.e=s)):jB (xs.take (k+1)) r s=none:=by
 rw[qj]at *;intro y hy;rw[List.take_add_one,hx]at hy;rcases List.mem_append.1 hy with hy|hy
 ·exact h y hy
 ·simp at hy;subst hy;exact hn
theorem rO(w:World)(v:TV)(t:T7)(r s:Int)(hl:t.a.length<=1000)(hs:lW w v t):
  Calls Tryz.prog 47 #[v.val t,vI r,vI s] w fun e w'=>e=.returned (vI (jR t.a r s))/\Below w.1.size w w':=by
 obtain⟨ar,cr,ah,ch⟩:=v;simp only[TV.val];obtain⟨W,hW⟩:∃W,W=w.alloc (.cells #[vI t.id,vI t.o,vI t.q,vI t.v,.slice ar t.a.length cr,.slice ah t.ag.length ch,vI t.aA] 50):=⟨_,rfl⟩
 have b0:Below w.1.size w W:=by rw[hW];exact aJ.alloc aR _
 have x0:BT W w.1.size ⟨ar,cr,ah,ch⟩ t:=by rw[hW];exact BT.box w ⟨ar,cr,ah,ch⟩ t _
 have p4:=x0.c4;dsimp only at p4;have H:Hid (jD W W.1.size ar t.a.length t.a/\Below w.1.size w W):=⟨(hs.later b0).r,b0⟩
 clear hs b0 x0;go_enter Tryz.func47,Tryz.ntmps47;go_wp2;rw[<-hW];clear hW;go_loopw[7] (fun v7 wr=>∃k:Nat,k<=t.a.length/\v7=vI k/\wr=W/\jB (t.a.take k) r s=none) (fun v7 _=>t.a.length-(intOf v7).toNat)
 case atStart=>exact⟨0,Nat.zero_le _,rfl,rfl,by simp[jB]⟩
 case round=>
  obtain⟨k,hk,rfl,rfl,PH⟩:=hrel;have KN:=aB PH;clear PH;by_cases aN:k<t.a.length
  ·obtain⟨_,gu⟩:=H.out.1;rcases gu with gu|⟨b,off,rfl,hb,hx⟩
   ·omega
   obtain⟨c0,c1,c2,c3,c4⟩:=hx k _ (fE aN);clear hx;by_cases hg:(au t.a k).b=r
   ·have dg:((au t.a k).b==r)=true:=by simpa using hg
    by_cases AB:(au t.a k).e=s
    ·have YG:((au t.a k).e==s)=true:=by simpa using AB
     have HF:Hid (jR t.a r s=(k:Int)):=by unfold Hid jR;rw[Ko KN.out (fE aN) hg AB]
     clear hg AB;go_wp2;go_ret;exact⟨by rw[HF.out];rfl,H.out.2⟩
    ·have YG:((au t.a k).e==s)=false:=by simpa using AB
     have KE:Hid (jB (t.a.take (k+1)) r s=none):=Fa KN.out (fE aN) (fun h=>AB h.2);clear hg AB;go_wp2;exact⟨⟨k+1,by omega,by simp,trivial,KE.out⟩,by simp[intOf];omega⟩
   ·have dg:((au t.a k).b==r)=false:=by simpa using hg
    have KE:Hid (jB (t.a.take (k+1)) r s=none):=Fa KN.out (fE aN) (fun h=>hg h.1);clear hg;go_wp2;exact⟨⟨k+1,by omega,by simp,trivial,KE.out⟩,by simp[intOf];omega⟩
  ·obtain rfl:k=t.a.length:=by omega
   have hd:decide ((t.a.length:Int)<(t.a.length:Int))=false:=by simp
   have HF:Hid (jR t.a r s=-1):=by unfold Hid jR;have:=KN.out;rw[List.take_length]at this;rw[this]
   go_wp2;go_ret;exact⟨by rw[HF.out];rfl,H.out.2⟩
def lG(xs:List N5)(n:N5):Nat:=xs.findIdx fun x=>!jP x.b x.e n.b n.e
def nD(xs:List N5)(n:N5):List N5:=xs.take (lG xs n)++[n]++xs.drop (lG xs n)
def lN(xs:List N5)(n:N5)(j:Nat):Bool:=jP (au xs j).b (au xs j).e n.b n.e
theorem yw{i:Nat}(h:i<xs.length):au xs i=xs[i]:=by have:=fE h;rw[List.getElem?_eq_getElem h]at this;exact(Option.some.inj this).symm
theorem Pf(hk:k<xs.length)(h:lN xs n k=false)(aP:∀j,j<k->lN xs n j=true):lG xs n=k:=by
 unfold lG;rw[List.findIdx_eq hk];refine⟨by rw[<-yw hk];simpa[lN]using h,fun j hj=>?_⟩;rw[<-yw (by omega)];simpa[lN]using aP j hj
theorem Mx(aP:∀j,j<xs.length->lN xs n j=true):lG xs n=xs.length:=by
 unfold lG;rw[List.findIdx_eq_length];intro x hx;obtain⟨i,hi,rfl⟩:=List.getElem_of_mem hx;have:=aP i hi;rw[lN,yw hi]at this;simp[this]
def dO(t:T7)(n:N5):T7:=if jI t=true/\bn n=true then(if (jB t.a n.b n.e).isSome=true then t else if t.a.length=12 then rU else⟨t.id,t.o,t.q,t.v,nD t.a n,t.ag,t.aA⟩)else rU
def eT(t:T7)(n:N5):Bool:=jI t&&bn n&&((jB t.a n.b n.e).isSome||!decide (t.a.length=12))
theorem G8(w:World)(base p mb m:Nat)(v:Value)(xs:List N5)(h:jS w base p mb m v xs):
  Calls Tryz.prog 210 #[.pointer (some ⟨p,0,none⟩)] w fun e w'=>e=.returned (.bool (decide (12<=xs.length)))/\w'=w:=by
 obtain⟨a,c,rfl,-⟩:=h.row.form;have c0:=h.c0;clear h;by_cases hl:12<=xs.length
 ·have d1:decide ((12:Int)<=(xs.length:Int))=true:=by simp;omega
  have d2:decide (12<=xs.length)=true:=by simpa using hl
  rw[d2];clear hl d2;go_enter Tryz.func210,Tryz.ntmps210;go_wp2;go_ret;exact⟨rfl,rfl⟩
 ·have d1:decide ((12:Int)<=(xs.length:Int))=false:=by simp;omega
  have d2:decide (12<=xs.length)=false:=by simpa using hl
  rw[d2];clear hl d2;go_enter Tryz.func210,Tryz.ntmps210;go_wp2;go_ret;exact⟨rfl,rfl⟩
end tx
namespace tx
theorem OT.low{w:World}{B B':Nat}{v:TV}{t:T7}{PR PS:Nat->Prop}(h:OT w B v t PR PS)(hb:∀q,oW PR PS q->B'<=q):OT w B' v t PR PS:=⟨h.r,h.s,h.rs,fun q hq=>⟨hb q (.inl hq),(h.rB q hq).2⟩,fun q hq=>⟨hb q (.inr hq),(h.sB q hq).2⟩⟩
theorem jC(w:World)(v:TV)(t:T7)(n:N5)(hl:TL t)(hs:lW w v t)(hc:t.a.length<=v.cr):
  Calls Tryz.prog 50 #[v.val t,.agg #[vI n.b,vI n.e,vI n.j,vI n.g,.bool n.i]] w (Ar w (dO t n) (eT t n)):=by
 obtain⟨ar,cr,ah,ch⟩:=v;simp only[TV.val];dsimp only at hc;obtain⟨W0,eB⟩:∃W,W=w.alloc (.cells #[vI t.id,vI t.o,vI t.q,vI t.v,.slice ar t.a.length cr,.slice ah t.ag.length ch,vI t.aA] 50):=⟨_,rfl⟩
 have z0:W0.1.size=w.1.size+1:=by rw[eB];simp
 have x0:BT W0 w.1.size ⟨ar,cr,ah,ch⟩ t:=by rw[eB];exact BT.box w ⟨ar,cr,ah,ch⟩ t _
 have b0:Below w.1.size w W0:=by rw[eB];exact aJ.alloc aR _
 obtain⟨W1,ja⟩:∃W,W=W0.alloc (.cells #[vI n.b,vI n.e,vI n.j,vI n.g,.bool n.i] 112):=⟨_,rfl⟩
 have z1:W1.1.size=w.1.size+2:=by rw[ja];simp[z0]
 have x1:aL W1 (w.1.size+1) 0 n:=by rw[ja,<-z0];exact aL.box W0 _ _
 have b1:Below W0.1.size W0 W1:=by rw[ja];exact aJ.alloc aR _
 obtain⟨W,hW⟩:∃W,W=W1.alloc (.cells #[vI 0,vI 0,vI 0,vI 0,.slice none 0 0,.slice none 0 0,vI 0] 50):=⟨_,rfl⟩
 have zW:W.1.size=w.1.size+3:=by rw[hW];simp[z1]
 have x2:BT W (w.1.size+2) ⟨none,0,none,0⟩ ⟨0,0,0,0,[],[],0⟩:=by rw[hW,<-z1];exact BT.zero W1 _
 have b2:Below W1.1.size W1 W:=by rw[hW];exact aJ.alloc aR _
 have bW:Below w.1.size w W:=(b0.trans (b1.mono b0.size)).trans (b2.mono (by omega));have c1:=uH W ⟨ar,cr,ah,ch⟩ t hl (hs.later bW);simp only[TV.val]at c1;have H:Hid (BT W w.1.size ⟨ar,cr,ah,ch⟩ t/\aL W (w.1.size+1) 0 n/\BT W (w.1.size+2) ⟨none,0,none,0⟩ ⟨0,0,0,0,[],[],0⟩/\Below w.1.size w W/\lW W ⟨ar,cr,ah,ch⟩ t/\W.1.size=w.1.size+3):=⟨(x0.later b1).later b2,x1.below b2 (by omega),x2,bW,hs.later bW,zW⟩
 rw[ja,eB]at hW;clear eB ja z0 x0 b0 z1 x1 b1 zW x2 b2 bW hs hl
 cases hB:jI t with
 | false=>
  rw[hB]at c1;have HN:Hid (dO t n=rU/\eT t n=false):=⟨by simp[dO,hB],by simp[eT,hB]⟩
  go_enter Tryz.func50,Tryz.ntmps50;go_wp2_with fail;rw[<-hW];clear hW;refine c1.mono ?_;clear c1;rintro e w1 ⟨rfl,b1⟩;have KZ:Hid (BT w1 (w.1.size+2) ⟨none,0,none,0⟩ ⟨0,0,0,0,[],[],0⟩/\Below w.1.size w w1):=⟨H.out.2.2.1.later b1,H.out.2.2.2.1.trans (b1.mono H.out.2.2.2.1.size)⟩
  clear b1 H;obtain⟨r0,r1,r2,r3,r4,r5,r6,fr,-⟩:=KZ.out.1;have nN:=KZ.out.1.put ⟨none,0,none,0⟩ rU;simp only[kJ,rU,List.length_nil]at nN;obtain⟨u0,u1,u2,u3,u4,u5,u6,-,-⟩:=nN;have KU:=aB (And.intro u0 (And.intro u1 (And.intro u2 (And.intro u3 (And.intro u4 (And.intro u5 u6))))));clear u0 u1 u2 u3 u4 u5 u6;have f0:=fr 0;have f1:=fr 1;have f2:=fr 2;have f3:=fr 3;have f4:=fr 4;have f5:=fr 5;have f6:=fr 6;clear fr;simp only[List.length_nil]at r4 r5;go_wp2;obtain⟨u0,u1,u2,u3,u4,u5,u6⟩:=KU.out;refine bodyPost_ret (v:=.tuple #[.agg #[vI 0,vI 0,vI 0,vI 0,.slice none 0 0,.slice none 0 0,vI 0],.bool false]) (by simp[results,Tryz.results50,go_sem,u0,u1,u2,u3,u4,u5,u6]) rfl ?_;rw[HN.out.1,HN.out.2];exact Ar.zero (eP (s:=w.1.size+2) (v:=⟨none,0,none,0⟩) (t:=rU) KZ.out.2 (by omega))
 | true=>
  rw[hB]at c1;go_enter Tryz.func50,Tryz.ntmps50;go_wp2_with fail;rw[<-hW];clear hW;refine c1.mono ?_;clear c1;rintro e w1 ⟨rfl,b1⟩;obtain⟨n0,n1,n2,n3,n4⟩:=H.out.2.1.below b1 (by have:=H.out.2.2.2.2.2;omega);simp only[Nat.zero_add]at n1 n2 n3 n4;have c2:=uE w1 n;have H1:Hid (BT w1 w.1.size ⟨ar,cr,ah,ch⟩ t/\aL w1 (w.1.size+1) 0 n/\BT w1 (w.1.size+2) ⟨none,0,none,0⟩ ⟨0,0,0,0,[],[],0⟩/\Below w.1.size w w1/\lW w1 ⟨ar,cr,ah,ch⟩ t/\w.1.size+3<=w1.1.size):=⟨H.out.1.later b1,H.out.2.1.below b1 (by have:=H.out.2.2.2.2.2;omega),H.out.2.2.1.later b1,H.out.2.2.2.1.trans (b1.mono H.out.2.2.2.1.size),H.out.2.2.2.2.1.later b1,by have:=H.out.2.2.2.2.2;have:=b1.size;omega⟩
  clear b1 H;go_wp2_with fail;refine c2.mono ?_;clear c2 n0 n1 n2 n3 n4;rintro e w2 ⟨rfl,b2⟩;have H2:Hid (BT w2 w.1.size ⟨ar,cr,ah,ch⟩ t/\aL w2 (w.1.size+1) 0 n/\BT w2 (w.1.size+2) ⟨none,0,none,0⟩ ⟨0,0,0,0,[],[],0⟩/\Below w.1.size w w2/\lW w2 ⟨ar,cr,ah,ch⟩ t/\w.1.size+3<=w2.1.size):=⟨H1.out.1.later b2,H1.out.2.1.below b2 (by have:=H1.out.2.2.2.2.2;omega),H1.out.2.2.1.later b2,H1.out.2.2.2.1.trans (b2.mono H1.out.2.2.2.1.size),H1.out.2.2.2.2.1.later b2,by have:=H1.out.2.2.2.2.2;have:=b2.size;omega⟩
  clear b2 H1
  cases hO:bn n with
  | false=>
   have HN:Hid (dO t n=rU/\eT t n=false):=⟨by simp[dO,hO],by simp[eT,hO]⟩
   have KZ:Hid (BT w2 (w.1.size+2) ⟨none,0,none,0⟩ ⟨0,0,0,0,[],[],0⟩/\Below w.1.size w w2):=⟨H2.out.2.2.1,H2.out.2.2.2.1⟩
   clear H2;obtain⟨r0,r1,r2,r3,r4,r5,r6,fr,-⟩:=KZ.out.1;have nN:=KZ.out.1.put ⟨none,0,none,0⟩ rU;simp only[kJ,rU,List.length_nil]at nN;obtain⟨u0,u1,u2,u3,u4,u5,u6,-,-⟩:=nN;have KU:=aB (And.intro u0 (And.intro u1 (And.intro u2 (And.intro u3 (And.intro u4 (And.intro u5 u6))))));clear u0 u1 u2 u3 u4 u5 u6;have f0:=fr 0;have f1:=fr 1;have f2:=fr 2;have f3:=fr 3;have f4:=fr 4;have f5:=fr 5;have f6:=fr 6;clear fr;simp only[List.length_nil]at r4 r5;go_wp2;obtain⟨u0,u1,u2,u3,u4,u5,u6⟩:=KU.out;refine bodyPost_ret (v:=.tuple #[.agg #[vI 0,vI 0,vI 0,vI 0,.slice none 0 0,.slice none 0 0,vI 0],.bool false]) (by simp[results,Tryz.results50,go_sem,u0,u1,u2,u3,u4,u5,u6]) rfl ?_;rw[HN.out.1,HN.out.2];exact Ar.zero (eP (s:=w.1.size+2) (v:=⟨none,0,none,0⟩) (t:=rU) KZ.out.2 (by omega))
  | true=>
   have mw:=(kL hB).1;have ZH:=(kL hB).2;have c3:=GI w2 ⟨ar,cr,ah,ch⟩ t (by omega) (by omega) H2.out.2.2.2.2.1;simp only[TV.val]at c3;obtain⟨p0,p1,p2,p3,p4,p5,p6,-,-⟩:=H2.out.1;dsimp only at p4 p5;go_wp2_with fail;refine c3.mono ?_;clear c3 p0 p1 p2 p3 p4 p5 p6;rintro e w3 ⟨a4,c4,h4,d4,PR,PS,rfl,o3,b3⟩;simp only[TV.val];obtain⟨X3,lX⟩:∃X,X=w3.alloc (.cells #[vI t.id,vI t.o,vI t.q,vI t.v,.slice a4 t.a.length c4,.slice h4 t.ag.length d4,vI t.aA] 50):=⟨_,rfl⟩
   have b3':Below w3.1.size w3 X3:=by rw[lX];exact aJ.alloc aR _
   have Ma:Below w2.1.size w2 X3:=b3.trans (b3'.mono b3.size);have x3:BT X3 w3.1.size ⟨a4,c4,h4,d4⟩ t:=by rw[lX];exact BT.box w3 ⟨a4,c4,h4,d4⟩ t _
   have H3:Hid (BT X3 w.1.size ⟨ar,cr,ah,ch⟩ t/\aL X3 (w.1.size+1) 0 n/\BT X3 (w.1.size+2) ⟨none,0,none,0⟩ ⟨0,0,0,0,[],[],0⟩/\Below w.1.size w X3/\lW X3 ⟨ar,cr,ah,ch⟩ t/\w.1.size+3<=w3.1.size/\BT X3 w3.1.size ⟨a4,c4,h4,d4⟩ t/\OT X3 w2.1.size ⟨a4,c4,h4,d4⟩ t PR PS/\(∀q,oW PR PS q->w.1.size+3<=q/\q<w3.1.size)):=⟨H2.out.1.later Ma,H2.out.2.1.below Ma (by have:=H2.out.2.2.2.2.2;omega),H2.out.2.2.1.later Ma,H2.out.2.2.2.1.trans (Ma.mono H2.out.2.2.2.1.size),H2.out.2.2.2.2.1.later Ma,by have:=H2.out.2.2.2.2.2;have:=b3.size;omega,x3,o3.later b3',fun q hq=>⟨by have:=(o3.of hq).1;have:=H2.out.2.2.2.2.2;omega,(o3.of hq).2⟩⟩
   clear b3 b3' Ma x3 o3 H2;obtain⟨p0,p1,p2,p3,p4,p5,p6,-,-⟩:=H3.out.1;dsimp only at p4 p5;obtain⟨n0,n1,-,-,-⟩:=H3.out.2.1;simp only[Nat.zero_add]at n1;have Me:=rO X3 ⟨ar,cr,ah,ch⟩ t n.b n.e (by omega) H3.out.2.2.2.2.1;simp only[TV.val]at Me;have dA:=KI t.a n.b n.e;generalize jR t.a n.b n.e=A at *;rw[lX]at p0 p1 p2 p3 p4 p5 p6 n0 n1;go_wp2_with fail;rw[<-lX];clear lX p0 p1 p2 p3 p4 p5 p6 n0 n1;refine Me.mono ?_;clear Me;rintro e w4 ⟨rfl,b4⟩;have H4:Hid (BT w4 w.1.size ⟨ar,cr,ah,ch⟩ t/\aL w4 (w.1.size+1) 0 n/\BT w4 (w.1.size+2) ⟨none,0,none,0⟩ ⟨0,0,0,0,[],[],0⟩/\Below w.1.size w w4/\lW w4 ⟨ar,cr,ah,ch⟩ t/\w.1.size+3<=w3.1.size/\BT w4 w3.1.size ⟨a4,c4,h4,d4⟩ t/\OT w4 w2.1.size ⟨a4,c4,h4,d4⟩ t PR PS/\(∀q,oW PR PS q->w.1.size+3<=q/\q<w3.1.size)/\w3.1.size<w4.1.size):=⟨H3.out.1.later b4,H3.out.2.1.below b4 (by have:=H3.out.2.2.2.2.2.1;have:=H3.out.2.2.2.2.2.2.1.lt;omega),H3.out.2.2.1.later b4,H3.out.2.2.2.1.trans (b4.mono H3.out.2.2.2.1.size),H3.out.2.2.2.2.1.later b4,H3.out.2.2.2.2.2.1,H3.out.2.2.2.2.2.2.1.later b4,H3.out.2.2.2.2.2.2.2.1.later b4,H3.out.2.2.2.2.2.2.2.2,(H3.out.2.2.2.2.2.2.1.later b4).lt⟩
   clear b4 H3
   cases hF:(jB t.a n.b n.e).isSome with
   | true=>
    rw[hF]at dA;have HN:Hid (dO t n=t/\eT t n=true):=⟨by simp[dO,hB,hO,hF],by simp[eT,hB,hO,hF]⟩
    obtain⟨o0,o1,o2,o3,o4,o5,o6,-,-⟩:=H4.out.2.2.2.2.2.2.1;obtain⟨r0,r1,r2,r3,r4,r5,r6,fr,-⟩:=H4.out.2.2.1;have nN:=H4.out.2.2.1.put ⟨a4,c4,h4,d4⟩ t;simp only[kJ]at nN;obtain⟨u0,u1,u2,u3,u4,u5,u6,-,-⟩:=nN;have KU:=aB (And.intro u0 (And.intro u1 (And.intro u2 (And.intro u3 (And.intro u4 (And.intro u5 u6))))));clear u0 u1 u2 u3 u4 u5 u6;have f0:=fr 0;have f1:=fr 1;have f2:=fr 2;have f3:=fr 3;have f4:=fr 4;have f5:=fr 5;have f6:=fr 6;clear fr;dsimp only at o4 o5 r4 r5;go_wp2;obtain⟨u0,u1,u2,u3,u4,u5,u6⟩:=KU.out;refine bodyPost_ret (v:=.tuple #[.agg #[vI t.id,vI t.o,vI t.q,vI t.v,.slice a4 t.a.length c4,.slice h4 t.ag.length d4,vI t.aA],.bool true]) (by simp[results,Tryz.results50,go_sem,u0,u1,u2,u3,u4,u5,u6]) rfl ?_;rw[HN.out.1,HN.out.2];obtain⟨-,-,-,g4,-,g6,-,g8,g9,-⟩:=H4.out;refine⟨a4,c4,h4,d4,PR,PS,rfl,?_,eP (s:=w.1.size+2) (v:=⟨a4,c4,h4,d4⟩) (t:=t) g4 (by omega)⟩;exact(g8.aQ (w':=kJ w4 (w.1.size+2) ⟨a4,c4,h4,d4⟩ t) (by rw[nJ];exact Nat.le_refl _) (fun q _ hq=>iY (by have:=(g9 q hq).1;omega))).low (fun q hq=>by have:=(g9 q hq).1;omega)
   | false=>
    rw[hF]at dA;have p4:=H4.out.1.c4;dsimp only at p4;by_cases BG:t.a.length=12
    ·have d12:((t.a.length:Int)==12)=true:=by simp;omega
     have HN:Hid (dO t n=rU/\eT t n=false):=⟨by simp[dO,hB,hO,hF,BG],by simp[eT,hB,hO,hF,BG]⟩
     have KZ:Hid (BT w4 (w.1.size+2) ⟨none,0,none,0⟩ ⟨0,0,0,0,[],[],0⟩/\Below w.1.size w w4):=⟨H4.out.2.2.1,H4.out.2.2.2.1⟩
     clear H4;obtain⟨r0,r1,r2,r3,r4,r5,r6,fr,-⟩:=KZ.out.1;have nN:=KZ.out.1.put ⟨none,0,none,0⟩ rU;simp only[kJ,rU,List.length_nil]at nN;obtain⟨u0,u1,u2,u3,u4,u5,u6,-,-⟩:=nN;have KU:=aB (And.intro u0 (And.intro u1 (And.intro u2 (And.intro u3 (And.intro u4 (And.intro u5 u6))))));clear u0 u1 u2 u3 u4 u5 u6;have f0:=fr 0;have f1:=fr 1;have f2:=fr 2;have f3:=fr 3;have f4:=fr 4;have f5:=fr 5;have f6:=fr 6;clear fr;simp only[List.length_nil]at r4 r5;go_wp2;obtain⟨u0,u1,u2,u3,u4,u5,u6⟩:=KU.out;refine bodyPost_ret (v:=.tuple #[.agg #[vI 0,vI 0,vI 0,vI 0,.slice none 0 0,.slice none 0 0,vI 0],.bool false]) (by simp[results,Tryz.results50,go_sem,u0,u1,u2,u3,u4,u5,u6]) rfl ?_;rw[HN.out.1,HN.out.2];exact Ar.zero (eP (s:=w.1.size+2) (v:=⟨none,0,none,0⟩) (t:=rU) KZ.out.2 (by omega))
    ·have d12:((t.a.length:Int)==12)=false:=by simp;omega
     have HN:Hid (dO t n=⟨t.id,t.o,t.q,t.v,nD t.a n,t.ag,t.aA⟩/\eT t n=true):=⟨by simp[dO,hB,hO,hF,BG],by simp[eT,hB,hO,BG]⟩
     obtain⟨V,hV⟩:∃V,V=w4.alloc (.cells #[] 112):=⟨_,rfl⟩
     have bV:Below w4.1.size w4 V:=by rw[hV];exact aJ.alloc aR _
     have rV:eZ V w4.1.size (.slice (some ⟨w4.1.size,0,none⟩) 0 0) []:=by rw[hV];exact eZ.made w4
     have K4:Hid (eZ V w4.1.size (.slice (some ⟨w4.1.size,0,none⟩) 0 0) []/\Below w4.1.size w4 V):=⟨rV,bV⟩
     clear rV bV;go_wp2;rw[<-hV];clear hV p4 d12 dA;go_loopw[7,8] (fun v7 v8 wr=>∃k:Nat,k<=t.a.length/\v8=vI k/\eZ wr w4.1.size v7 (t.a.take k)/\Below w4.1.size w4 wr/\(∀j,j<k->lN t.a n j=true)) (fun _ v8 _=>t.a.length-(intOf v8).toNat)
     case atStart=>exact⟨0,Nat.zero_le _,rfl,by simpa using K4.out.1,K4.out.2,fun j h=>by omega⟩
     case round=>
      obtain⟨k,hk,rfl,kH,aF,aP⟩:=hrel;obtain⟨a7,c7,e7,-⟩:=kH.form;rw[show(t.a.take k).length=k by rw[List.length_take];omega]at e7;subst e7;have KA:Hid (eZ wr w4.1.size (.slice a7 k c7) (t.a.take k)/\Below w4.1.size w4 wr/\(∀j,j<k->lN t.a n j=true)):=⟨kH,aF,aP⟩
      have YW:=H4.out.1.later aF;have VS:=YW.lt;have p4:=YW.c4;dsimp only at p4;have gy:=(H4.out.2.2.2.2.1.later aF).r;have qK:=H4.out.2.1.below aF (by have:=H4.out.2.2.2.2.2.1;have:=H4.out.2.2.2.2.2.2.2.2.2;omega);have du:w.1.size+1<wr.1.size:=by have:=H4.out.2.2.2.2.2.1;have:=H4.out.2.2.2.2.2.2.2.2.2;have:=aF.size;omega
      clear kH aF aP YW;by_cases aN:k<t.a.length
      ·obtain⟨_,gu⟩:=gy;dsimp only at gu;rcases gu with gu|⟨b,off,rfl,hb,hx⟩
       ·omega
       obtain⟨c0,c1,c2,c3,Me⟩:=hx k _ (fE aN);obtain⟨n0,n1,-,-,-⟩:=qK;simp only[Nat.zero_add]at n1;have kx:(k:Int)<(t.a.length:Int):=by omega
       have k9:decide ((k:Int)<(t.a.length:Int))=true:=by simpa using kx
       have q4:∀d os,(grow (redrawn wr d) os).cell? ⟨w.1.size,4,none⟩=some (.slice (some ⟨b,off,none⟩) t.a.length cr):=fun d os=>((below_regrown wr d os).cell (p:=⟨w.1.size,4,none⟩) VS).trans p4
       have m0:∀d os,(grow (redrawn wr d) os).cell? ⟨b,off+k*5,none⟩=some (vI (au t.a k).b):=fun d os=>((below_regrown wr d os).cell (p:=⟨b,off+k*5,none⟩) hb).trans c0
       have m1:∀d os,(grow (redrawn wr d) os).cell? ⟨b,off+k*5+1,none⟩=some (vI (au t.a k).e):=fun d os=>((below_regrown wr d os).cell (p:=⟨b,off+k*5+1,none⟩) hb).trans c1
       have m2:∀d os,(grow (redrawn wr d) os).cell? ⟨b,off+k*5+2,none⟩=some (vI (au t.a k).j):=fun d os=>((below_regrown wr d os).cell (p:=⟨b,off+k*5+2,none⟩) hb).trans c2
       have m3:∀d os,(grow (redrawn wr d) os).cell? ⟨b,off+k*5+3,none⟩=some (vI (au t.a k).g):=fun d os=>((below_regrown wr d os).cell (p:=⟨b,off+k*5+3,none⟩) hb).trans c3
       have m4:∀d os,(grow (redrawn wr d) os).cell? ⟨b,off+k*5+4,none⟩=some (.bool (au t.a k).i):=fun d os=>((below_regrown wr d os).cell (p:=⟨b,off+k*5+4,none⟩) hb).trans Me
       have g0:∀d os,(grow (redrawn wr d) os).cell? ⟨w.1.size+1,0,none⟩=some (vI n.b):=fun d os=>((below_regrown wr d os).cell (p:=⟨w.1.size+1,0,none⟩) du).trans n0
       have g1:∀d os,(grow (redrawn wr d) os).cell? ⟨w.1.size+1,1,none⟩=some (vI n.e):=fun d os=>((below_regrown wr d os).cell (p:=⟨w.1.size+1,1,none⟩) du).trans n1
       have cL:∀d os,Calls Tryz.prog 93 #[vI (au t.a k).b,vI (au t.a k).e,vI n.b,vI n.e] (grow (redrawn wr d) os) fun e fq=>e=.returned (.bool (lN t.a n k))/\∃p:Regrown,fq=grow (redrawn wr p.d) p.os:=fun d os=>Calls.regrown_of (z8 _ _ _ _ _)
       clear c0 c1 c2 c3 Me hx n0 n1 p4
       cases gl:lN t.a n k with
       | true=>
        rw[gl]at cL;go_wp2_with fail;refine wp_region_quiet_below (by kernel_rfl) (by kernel_rfl) ?_;repeat (go_big_quiet_step (exact cL _ _))
        refine wpQuiet_nil ?_;intro _ dD;obtain⟨⟨dq,bI⟩,aT⟩:=dD;subst aT;have bq:=below_regrown wr dq bI;have e4:=q4 dq bI;have e0:=m0 dq bI;have e1:=m1 dq bI;have e2:=m2 dq bI;have e3:=m3 dq bI;have e5:=m4 dq bI;clear q4 m0 m1 m2 m3 m4 g0 g1 cL;generalize grow (redrawn wr dq) bI=U at *;obtain⟨V',hV⟩:∃V,V=U.alloc (.cells #[vI (au t.a k).b,vI (au t.a k).e,vI (au t.a k).j,vI (au t.a k).g,.bool (au t.a k).i] 112):=⟨_,rfl⟩
        have bU:Below U.1.size U V':=by rw[hV];exact aJ.alloc aR _
        have bV:Below wr.1.size wr V':=bq.trans (bU.mono bq.size);have nu:bR V' U.1.size 0 [au t.a k]:=by rw[hV];exact(aL.box U _ _).one
        obtain⟨v',Y,yg,BI,iT,-⟩:=rZ (KA.out.1.later bV) [au t.a k] (by rw[List.length_take];simp;omega) 47 U.1.size 0 1 nu (Nat.le_trans KA.out.2.1.size bV.size)
        have KE:Hid (eZ Y w4.1.size v' (t.a.take (k+1))/\Below w4.1.size w4 Y/\(∀j,j<k+1->lN t.a n j=true)):=by
         refine⟨by rw[List.take_add_one,fE aN];exact BI,?_,fun j hj=>?_⟩
         ·exact(KA.out.2.1.trans (bV.mono KA.out.2.1.size)).grown iT (Nat.le_trans KA.out.2.1.size bV.size) (fun q e=>(KA.out.1.lt e).1)
         ·by_cases ej:j=k
          ·rw[ej];exact gl
          ·exact KA.out.2.2 j (by omega)
        rw[hV]at yg;clear hV bV bU bq nu BI iT;simp only[List.length_cons,List.length_nil,Nat.zero_add]at yg;go_wp2_with (at_builtin;refine eO _ rfl (.tmp 60) (.tmp 66) 47 rfl _ _ _ _ rfl rfl yg ?_);exact⟨⟨k+1,by omega,by simp,KE.out.1,KE.out.2.1,KE.out.2.2⟩,by simp[intOf];omega⟩
       | false=>
        rw[gl]at cL;go_wp2_with fail;refine wp_region_quiet_below (by kernel_rfl) (by kernel_rfl) ?_;repeat (go_big_quiet_step (exact cL _ _))
        refine wpQuiet_nil ?_;intro _ dD;obtain⟨⟨dq,bI⟩,aT⟩:=dD;subst aT;have bq:=below_regrown wr dq bI;have KT:Hid (eZ (grow (redrawn wr dq) bI) w4.1.size (.slice a7 k c7) (t.a.take k)/\Below w4.1.size w4 (grow (redrawn wr dq) bI)):=⟨KA.out.1.later bq,KA.out.2.1.trans (bq.mono KA.out.2.1.size)⟩
        have HC:Hid (lG t.a n=k):=Pf aN gl KA.out.2.2;clear bq q4 m0 m1 m2 m3 m4 g0 g1 cL KA;generalize grow (redrawn wr dq) bI=U at *;have KD:Hid (Below U.1.size U U.drew):=aJ.drew;have bD:Below w4.1.size w4 U.drew:=KT.out.2.trans (KD.out.mono KT.out.2.size);have SF:Hid (∀X,Below w4.1.size w4 X->(fun X:World=>aL X (w.1.size+1) 0 n/\X.cell? ⟨w.1.size,4,none⟩=some (.slice (some ⟨b,off,none⟩) t.a.length cr)) X):=fun X hX=>⟨H4.out.2.1.below hX (by have:=H4.out.2.2.2.2.2.1;have:=H4.out.2.2.2.2.2.2.2.2.2;omega),(H4.out.1.later hX).c4⟩
        have hS:(fun X:World=>aL X (w.1.size+1) 0 n/\X.cell? ⟨w.1.size,4,none⟩=some (.slice (some ⟨b,off,none⟩) t.a.length cr)) U.drew:=SF.out _ bD;have rD:eZ U.drew w4.1.size (.slice a7 k c7) (t.a.take k):=KT.out.1.later KD.out;clear KD;go_wp2_with fail;refine bu (fun z=>z==11) (fun X:World=>aL X (w.1.size+1) 0 n/\X.cell? ⟨w.1.size,4,none⟩=some (.slice (some ⟨b,off,none⟩) t.a.length cr)) (by kernel_rfl) ?_;generalize U.drew=Ud at *;obtain⟨V1,ma⟩:∃V,V=Ud.alloc (.cells #[vI n.b,vI n.e,vI n.j,vI n.g,.bool n.i] 112):=⟨_,rfl⟩
        have Au:Below Ud.1.size Ud V1:=by rw[ma];exact aJ.alloc aR _
        have nu:bR V1 Ud.1.size 0 [n]:=by rw[ma];exact(aL.box Ud _ _).one
        have nW:(t.a.take k).length=k:=by rw[List.length_take];omega
        obtain⟨v1,Y1,r9,nK,MI,-⟩:=rZ (rD.later Au) [n] (by rw[nW];simp;omega) 47 Ud.1.size 0 1 nu (Nat.le_trans bD.size Au.size);have Cw:Below w4.1.size w4 V1:=bD.trans (Au.mono bD.size);have xg:Below w4.1.size w4 Y1:=Cw.grown MI Cw.size (fun q e=>(rD.lt e).1);obtain⟨a1,c1,rfl,-⟩:=nK.form;have F8:(t.a.take k++[n]).length=k+1:=by simp[nW]
        obtain⟨a8,Sn⟩:∃a8:Option Addr,a8=(if cr=k then(some (⟨b,off,none⟩:Addr))else Option.map (fun x=>x.add (k*5)) (some (⟨b,off,none⟩:Addr))):=⟨_,rfl⟩
        have src:jD Y1 Y1.1.size a8 (t.a.drop k).length (t.a.drop k):=by
         refine⟨rfl,?_⟩;by_cases hz:(t.a.drop k).length=0
         ·exact .inl hz
         ·rw[List.length_drop]at hz;obtain⟨-,hq⟩:=(H4.out.2.2.2.2.1.later xg).r;dsimp only at hq;rcases hq with hq|⟨b',bG,e',fC,F9⟩
          ·omega
          ·refine .inr ⟨b',bG+k*5,?_,fC,fun i s hi=>?_⟩
           ·rw[Sn,if_neg (by omega),e',Option.map_some];congr 1;unfold Addr.add;split<;>simp_all
           ·rw[List.getElem?_drop]at hi;have:=F9 (k+i) s hi;rwa[show bG+k*5+i*5=bG+(k+i)*5 by omega]
        have NR:=wh nK (t.a.drop k) (by rw[F8,List.length_drop];omega) 47 a8 (cr-k) src xg.size;obtain⟨a2,c2,Y2,wo,zT,MJ,-⟩:=NR;have yz:Below w4.1.size w4 Y2:=xg.grown MJ xg.size (fun q e=>(nK.lt e).1);rw[F8,List.length_drop]at wo;generalize qL:t.a.take k++[n]++t.a.drop k=zs at *;have HZ:=aB qL;clear qL;rw[F8]at r9;simp only[List.length_cons,List.length_nil,Nat.zero_add]at r9;have xB:BT Y2 w3.1.size ⟨a4,c4,h4,d4⟩ t:=H4.out.2.2.2.2.2.2.1.later yz;have k4:=xB.c4;have Lx:=xB.fz 4;dsimp only at k4;have yB:BT (Y2.setCell ⟨w3.1.size,4,none⟩ (.slice a2 zs.length c2)) w3.1.size ⟨a2,c2,h4,d4⟩ (⟨t.id,t.o,t.q,t.v,zs,t.ag,t.aA⟩:T7):=xB.Ig a2 c2 zs;have yR:BT (Y2.setCell ⟨w3.1.size,4,none⟩ (.slice a2 zs.length c2)) (w.1.size+2) ⟨none,0,none,0⟩ ⟨0,0,0,0,[],[],0⟩:=(H4.out.2.2.1.later yz).dZ (by dsimp only;have:=H4.out.2.2.2.2.2.1;omega) _;have KF:Hid (BT (Y2.setCell ⟨w3.1.size,4,none⟩ (.slice a2 zs.length c2)) w3.1.size ⟨a2,c2,h4,d4⟩ (⟨t.id,t.o,t.q,t.v,zs,t.ag,t.aA⟩:T7)/\BT (Y2.setCell ⟨w3.1.size,4,none⟩ (.slice a2 zs.length c2)) (w.1.size+2) ⟨none,0,none,0⟩ ⟨0,0,0,0,[],[],0⟩/\eZ Y2 w4.1.size (.slice a2 zs.length c2) zs/\Below w4.1.size w4 Y2):=⟨yB,yR,zT,yz⟩
        have S1:=aB (SF.out _ Cw);have S2:=aB (SF.out _ xg);have S3:=aB (SF.out _ yz);have ik:(k:Int)<=(t.a.length:Int):=by omega
        clear Au nu MI Cw xg nK src MJ yz zT rD bD xB yB yR SF F8 nW;refine cz 0 ?_ rfl ?_ hS ?_;rotate_left
        ·(intro X _;go_simp;first|done|with_reducible rfl|(rw[if_pos (by omega)])|(rw[if_pos (by omega)];go_simp))
        simp only[Act.put];refine jg 1 ?_ rfl ?_ hS ?_;rotate_left
        ·(intro X aG;obtain⟨⟨s0,s1,s2,s3,s4⟩,s5⟩:=aG;simp only[Nat.zero_add]at s1 s2 s3 s4;go_simp;first|done|with_reducible rfl)
        simp only[Act.put];refine cz 4 ?_ rfl ?_ hS ?_;rotate_left
        ·(intro X _;go_simp;first|done|with_reducible rfl|(rw[if_pos (by omega)])|(rw[if_pos (by omega)];go_simp))
        simp only[Act.put];refine jg 5 ?_ rfl ?_ hS ?_;rotate_left
        ·(intro X aG;obtain⟨⟨s0,s1,s2,s3,s4⟩,s5⟩:=aG;simp only[Nat.zero_add]at s1 s2 s3 s4;go_simp;first|done|with_reducible rfl)
        simp only[Act.put];refine cz 6 ?_ rfl ?_ hS ?_;rotate_left
        ·(intro X _;go_simp;first|done|with_reducible rfl|(rw[if_pos (by omega)])|(rw[if_pos (by omega)];go_simp))
        simp only[Act.put];refine cz 7 ?_ rfl ?_ hS ?_;rotate_left
        ·(intro X _;go_simp;first|done|with_reducible rfl|(rw[if_pos (by omega)])|(rw[if_pos (by omega)];go_simp))
        simp only[Act.put];refine cz 8 (.slice a8 (t.a.length-k) (cr-k)) rfl ?_ hS ?_
        ·(intro X _;rw[Sn];go_simp;first|done|with_reducible rfl|rfl)
        clear Sn;simp only[Act.put];refine cZ 2 rfl (fun K hK=>?_);go_simp;refine hK.out _ _ (fun _=>by rw[<-ma];exact S1.out) ?_;clear hK K;rw[<-ma];clear ma S1;refine cZ 3 rfl (fun K hK=>?_);refine df _ rfl (.tmp 68) (.tmp 70) 47 rfl _ _ _ _ (by first|rfl|simp[Act.eval,Act.put]) (by first|rfl|simp[Act.eval,Act.put]) r9 ?_;refine hK.out _ _ (fun _=>S2.out) ?_;clear hK K;clear S2 r9;simp only[Act.put];refine cZ 9 rfl (fun K hK=>?_);refine df _ rfl (.tmp 71) (.tmp 76) 47 rfl _ _ _ _ (by first|rfl|simp[Act.eval,Act.put]) (by first|rfl|simp[Act.eval,Act.put]) wo ?_;refine hK.out _ _ (fun _=>S3.out) ?_;clear hK K;clear wo;simp only[Act.put];have hS:=S3.out;refine cz 10 ?_ rfl ?_ hS ?_;rotate_left
        ·(intro X _;go_simp;first|done|with_reducible rfl|(rw[if_pos (by omega)])|(rw[if_pos (by omega)];go_simp))
        simp only[Act.put];refine cZ 11 rfl (fun K hK=>?_);go_simp;refine hK.out _ _ (fun h=>absurd (show false=true from h.symm.trans (by kernel_rfl)) (by decide)) ?_;clear hK K;refine dL (by kernel_rfl) ?_ _;clear S3 hS k4 Lx;have nN:=KF.out.2.1.put ⟨a2,c2,h4,d4⟩ (⟨t.id,t.o,t.q,t.v,zs,t.ag,t.aA⟩:T7);simp only[kJ]at nN;obtain⟨u0,u1,u2,u3,u4,u5,u6,-,-⟩:=nN;have KU:=aB (And.intro u0 (And.intro u1 (And.intro u2 (And.intro u3 (And.intro u4 (And.intro u5 u6))))));clear u0 u1 u2 u3 u4 u5 u6;obtain⟨o0,o1,o2,o3,o4,o5,o6,-,-⟩:=KF.out.1;obtain⟨r0,r1,r2,r3,r4,r5,r6,fr,-⟩:=KF.out.2.1;have f0:=fr 0;have f1:=fr 1;have f2:=fr 2;have f3:=fr 3;have f4:=fr 4;have f5:=fr 5;have f6:=fr 6;clear fr;dsimp only at o0 o1 o2 o3 o4 o5 o6 r4 r5;go_wp2;obtain⟨u0,u1,u2,u3,u4,u5,u6⟩:=KU.out;refine bodyPost_ret (v:=.tuple #[.agg #[vI t.id,vI t.o,vI t.q,vI t.v,.slice a2 zs.length c2,.slice h4 t.ag.length d4,vI t.aA],.bool true]) (by simp[results,Tryz.results50,go_sem,u0,u1,u2,u3,u4,u5,u6]) rfl ?_;rw[HN.out.1,HN.out.2,nD,HC.out,HZ.out];obtain⟨g1,g2,g3,g4⟩:=KF.out;obtain⟨-,-,-,j4,-,j6,-,j8,j9,j10⟩:=H4.out;have bX:Below w.1.size w (Y2.setCell ⟨w3.1.size,4,none⟩ (.slice a2 zs.length c2)):=(j4.trans (g4.mono j4.size)).setCell (p:=⟨w3.1.size,4,none⟩) (by dsimp only;omega) _;refine⟨a2,c2,h4,d4,fun q=>(Value.slice a2 zs.length c2).ownBlock=some q,PS,rfl,?_,eP (s:=w.1.size+2) (v:=⟨a2,c2,h4,d4⟩) (t:=(⟨t.id,t.o,t.q,t.v,zs,t.ag,t.aA⟩:T7)) bX (by omega)⟩;obtain⟨_,_,e2,WZ⟩:=g3.form
        cases e2;have ot:OT Y2 w.1.size ⟨a2,c2,h4,d4⟩ (⟨t.id,t.o,t.q,t.v,zs,t.ag,t.aA⟩:T7) (fun q=>(Value.slice a2 zs.length c2).ownBlock=some q) PS:=⟨WZ,(j8.later g4).s,fun q h1 h2=>by have:=(g3.lt h1).1;have:=(j9 q (.inr h2)).2;omega,fun q h1=>⟨by have:=(g3.lt h1).1;omega,(g3.lt h1).2⟩,fun q h1=>⟨by have:=(j9 q (.inr h1)).1;omega,((j8.later g4).sB q h1).2⟩⟩
        have fF:∀q,oW (fun q=>(Value.slice a2 zs.length c2).ownBlock=some q) PS q->q≠w3.1.size/\q≠w.1.size+2:=fun q hq=>by
         rcases hq with hq|hq
         ·have:=(g3.lt hq).1;omega
         ·have:=j9 q (.inr hq);omega
        have TQ:OT (Y2.setCell ⟨w3.1.size,4,none⟩ (.slice a2 zs.length c2)) w.1.size ⟨a2,c2,h4,d4⟩ (⟨t.id,t.o,t.q,t.v,zs,t.ag,t.aA⟩:T7) (fun q=>(Value.slice a2 zs.length c2).ownBlock=some q) PS:=ot.aQ (by simp[World.setCell]) (fun q _ hq=>Below.heap_setCell _ _ _ _ (fF q hq).1);exact TQ.aQ (w':=kJ (Y2.setCell ⟨w3.1.size,4,none⟩ (.slice a2 zs.length c2)) (w.1.size+2) ⟨a2,c2,h4,d4⟩ (⟨t.id,t.o,t.q,t.v,zs,t.ag,t.aA⟩:T7)) (by rw[nJ];exact Nat.le_refl _) (fun q _ hq=>iY (fF q hq).2)
      ·have k9:decide ((k:Int)<(t.a.length:Int))=false:=by simp;omega
       have q4:∀d os,(grow (redrawn wr d) os).cell? ⟨w.1.size,4,none⟩=some (.slice ar t.a.length cr):=fun d os=>((below_regrown wr d os).cell (p:=⟨w.1.size,4,none⟩) VS).trans p4
       clear p4 qK gy;go_wp2_with fail;refine wp_region_quiet_below (by kernel_rfl) (by kernel_rfl) ?_;repeat (go_big_quiet_step (fail))
       refine wpQuiet_nil ?_;intro _ dD;obtain⟨⟨dq,bI⟩,aT⟩:=dD;subst aT;have bq:=below_regrown wr dq bI;have KT:Hid (eZ (grow (redrawn wr dq) bI) w4.1.size (.slice a7 k c7) (t.a.take k)/\Below w4.1.size w4 (grow (redrawn wr dq) bI)):=⟨KA.out.1.later bq,KA.out.2.1.trans (bq.mono KA.out.2.1.size)⟩
       have HC:Hid (lG t.a n=k):=(Mx (fun j hj=>KA.out.2.2 j (by omega))).trans (by omega);clear bq q4 KA;generalize grow (redrawn wr dq) bI=U at *;have KD:Hid (Below U.1.size U U.drew):=aJ.drew;have bD:Below w4.1.size w4 U.drew:=KT.out.2.trans (KD.out.mono KT.out.2.size);have SF:Hid (∀X,Below w4.1.size w4 X->(fun X:World=>aL X (w.1.size+1) 0 n/\X.cell? ⟨w.1.size,4,none⟩=some (.slice ar t.a.length cr)) X):=fun X hX=>⟨H4.out.2.1.below hX (by have:=H4.out.2.2.2.2.2.1;have:=H4.out.2.2.2.2.2.2.2.2.2;omega),(H4.out.1.later hX).c4⟩
       have hS:(fun X:World=>aL X (w.1.size+1) 0 n/\X.cell? ⟨w.1.size,4,none⟩=some (.slice ar t.a.length cr)) U.drew:=SF.out _ bD;have rD:eZ U.drew w4.1.size (.slice a7 k c7) (t.a.take k):=KT.out.1.later KD.out;clear KD;go_wp2_with fail;refine bu (fun z=>z==11) (fun X:World=>aL X (w.1.size+1) 0 n/\X.cell? ⟨w.1.size,4,none⟩=some (.slice ar t.a.length cr)) (by kernel_rfl) ?_;generalize U.drew=Ud at *;obtain⟨V1,ma⟩:∃V,V=Ud.alloc (.cells #[vI n.b,vI n.e,vI n.j,vI n.g,.bool n.i] 112):=⟨_,rfl⟩
       have Au:Below Ud.1.size Ud V1:=by rw[ma];exact aJ.alloc aR _
       have nu:bR V1 Ud.1.size 0 [n]:=by rw[ma];exact(aL.box Ud _ _).one
       have nW:(t.a.take k).length=k:=by rw[List.length_take];omega
       obtain⟨v1,Y1,r9,nK,MI,-⟩:=rZ (rD.later Au) [n] (by rw[nW];simp;omega) 47 Ud.1.size 0 1 nu (Nat.le_trans bD.size Au.size);have Cw:Below w4.1.size w4 V1:=bD.trans (Au.mono bD.size);have xg:Below w4.1.size w4 Y1:=Cw.grown MI Cw.size (fun q e=>(rD.lt e).1);obtain⟨a1,c1,rfl,-⟩:=nK.form;have F8:(t.a.take k++[n]).length=k+1:=by simp[nW]
       obtain⟨a8,Sn⟩:∃a8:Option Addr,a8=(if cr=k then ar else Option.map (fun x=>x.add (k*5)) ar):=⟨_,rfl⟩
       have src:jD Y1 Y1.1.size a8 (t.a.drop k).length (t.a.drop k):=by
        refine⟨rfl,?_⟩;by_cases hz:(t.a.drop k).length=0
        ·exact .inl hz
        ·rw[List.length_drop]at hz;obtain⟨-,hq⟩:=(H4.out.2.2.2.2.1.later xg).r;dsimp only at hq;rcases hq with hq|⟨b',bG,e',fC,F9⟩
         ·omega
         ·refine .inr ⟨b',bG+k*5,?_,fC,fun i s hi=>?_⟩
          ·rw[Sn,if_neg (by omega),e',Option.map_some];congr 1;unfold Addr.add;split<;>simp_all
          ·rw[List.getElem?_drop]at hi;have:=F9 (k+i) s hi;rwa[show bG+k*5+i*5=bG+(k+i)*5 by omega]
       have NR:=wh nK (t.a.drop k) (by rw[F8,List.length_drop];omega) 47 a8 (cr-k) src xg.size;obtain⟨a2,c2,Y2,wo,zT,MJ,-⟩:=NR;have yz:Below w4.1.size w4 Y2:=xg.grown MJ xg.size (fun q e=>(nK.lt e).1);rw[F8,List.length_drop]at wo;generalize qL:t.a.take k++[n]++t.a.drop k=zs at *;have HZ:=aB qL;clear qL;rw[F8]at r9;simp only[List.length_cons,List.length_nil,Nat.zero_add]at r9;have xB:BT Y2 w3.1.size ⟨a4,c4,h4,d4⟩ t:=H4.out.2.2.2.2.2.2.1.later yz;have k4:=xB.c4;have Lx:=xB.fz 4;dsimp only at k4;have yB:BT (Y2.setCell ⟨w3.1.size,4,none⟩ (.slice a2 zs.length c2)) w3.1.size ⟨a2,c2,h4,d4⟩ (⟨t.id,t.o,t.q,t.v,zs,t.ag,t.aA⟩:T7):=xB.Ig a2 c2 zs;have yR:BT (Y2.setCell ⟨w3.1.size,4,none⟩ (.slice a2 zs.length c2)) (w.1.size+2) ⟨none,0,none,0⟩ ⟨0,0,0,0,[],[],0⟩:=(H4.out.2.2.1.later yz).dZ (by dsimp only;have:=H4.out.2.2.2.2.2.1;omega) _;have KF:Hid (BT (Y2.setCell ⟨w3.1.size,4,none⟩ (.slice a2 zs.length c2)) w3.1.size ⟨a2,c2,h4,d4⟩ (⟨t.id,t.o,t.q,t.v,zs,t.ag,t.aA⟩:T7)/\BT (Y2.setCell ⟨w3.1.size,4,none⟩ (.slice a2 zs.length c2)) (w.1.size+2) ⟨none,0,none,0⟩ ⟨0,0,0,0,[],[],0⟩/\eZ Y2 w4.1.size (.slice a2 zs.length c2) zs/\Below w4.1.size w4 Y2):=⟨yB,yR,zT,yz⟩
       have S1:=aB (SF.out _ Cw);have S2:=aB (SF.out _ xg);have S3:=aB (SF.out _ yz);have ik:(k:Int)<=(t.a.length:Int):=by omega
       clear Au nu MI Cw xg nK src MJ yz zT rD bD xB yB yR SF F8 nW;refine cz 0 ?_ rfl ?_ hS ?_;rotate_left
       ·(intro X _;go_simp;first|done|with_reducible rfl|(rw[if_pos (by omega)])|(rw[if_pos (by omega)];go_simp))
       simp only[Act.put];refine jg 1 ?_ rfl ?_ hS ?_;rotate_left
       ·(intro X aG;obtain⟨⟨s0,s1,s2,s3,s4⟩,s5⟩:=aG;simp only[Nat.zero_add]at s1 s2 s3 s4;go_simp;first|done|with_reducible rfl)
       simp only[Act.put];refine cz 4 ?_ rfl ?_ hS ?_;rotate_left
       ·(intro X _;go_simp;first|done|with_reducible rfl|(rw[if_pos (by omega)])|(rw[if_pos (by omega)];go_simp))
       simp only[Act.put];refine jg 5 ?_ rfl ?_ hS ?_;rotate_left
       ·(intro X aG;obtain⟨⟨s0,s1,s2,s3,s4⟩,s5⟩:=aG;simp only[Nat.zero_add]at s1 s2 s3 s4;go_simp;first|done|with_reducible rfl)
       simp only[Act.put];refine cz 6 ?_ rfl ?_ hS ?_;rotate_left
       ·(intro X _;go_simp;first|done|with_reducible rfl|(rw[if_pos (by omega)])|(rw[if_pos (by omega)];go_simp))
       simp only[Act.put];refine cz 7 ?_ rfl ?_ hS ?_;rotate_left
       ·(intro X _;go_simp;first|done|with_reducible rfl|(rw[if_pos (by omega)])|(rw[if_pos (by omega)];go_simp))
       simp only[Act.put];refine cz 8 (.slice a8 (t.a.length-k) (cr-k)) rfl ?_ hS ?_
       ·(intro X _;rw[Sn];go_simp;first|done|with_reducible rfl|rfl)
       clear Sn;simp only[Act.put];refine cZ 2 rfl (fun K hK=>?_);go_simp;refine hK.out _ _ (fun _=>by rw[<-ma];exact S1.out) ?_;clear hK K;rw[<-ma];clear ma S1;refine cZ 3 rfl (fun K hK=>?_);refine df _ rfl (.tmp 68) (.tmp 70) 47 rfl _ _ _ _ (by first|rfl|simp[Act.eval,Act.put]) (by first|rfl|simp[Act.eval,Act.put]) r9 ?_;refine hK.out _ _ (fun _=>S2.out) ?_;clear hK K;clear S2 r9;simp only[Act.put];refine cZ 9 rfl (fun K hK=>?_);refine df _ rfl (.tmp 71) (.tmp 76) 47 rfl _ _ _ _ (by first|rfl|simp[Act.eval,Act.put]) (by first|rfl|simp[Act.eval,Act.put]) wo ?_;refine hK.out _ _ (fun _=>S3.out) ?_;clear hK K;clear wo;simp only[Act.put];have hS:=S3.out;refine cz 10 ?_ rfl ?_ hS ?_;rotate_left
       ·(intro X _;go_simp;first|done|with_reducible rfl|(rw[if_pos (by omega)])|(rw[if_pos (by omega)];go_simp))
       simp only[Act.put];refine cZ 11 rfl (fun K hK=>?_);go_simp;refine hK.out _ _ (fun h=>absurd (show false=true from h.symm.trans (by kernel_rfl)) (by decide)) ?_;clear hK K;refine dL (by kernel_rfl) ?_ _;clear S3 hS k4 Lx;have nN:=KF.out.2.1.put ⟨a2,c2,h4,d4⟩ (⟨t.id,t.o,t.q,t.v,zs,t.ag,t.aA⟩:T7);simp only[kJ]at nN;obtain⟨u0,u1,u2,u3,u4,u5,u6,-,-⟩:=nN;have KU:=aB (And.intro u0 (And.intro u1 (And.intro u2 (And.intro u3 (And.intro u4 (And.intro u5 u6))))));clear u0 u1 u2 u3 u4 u5 u6;obtain⟨o0,o1,o2,o3,o4,o5,o6,-,-⟩:=KF.out.1;obtain⟨r0,r1,r2,r3,r4,r5,r6,fr,-⟩:=KF.out.2.1;have f0:=fr 0;have f1:=fr 1;have f2:=fr 2;have f3:=fr 3;have f4:=fr 4;have f5:=fr 5;have f6:=fr 6;clear fr;dsimp only at o0 o1 o2 o3 o4 o5 o6 r4 r5;go_wp2;obtain⟨u0,u1,u2,u3,u4,u5,u6⟩:=KU.out;refine bodyPost_ret (v:=.tuple #[.agg #[vI t.id,vI t.o,vI t.q,vI t.v,.slice a2 zs.length c2,.slice h4 t.ag.length d4,vI t.aA],.bool true]) (by simp[results,Tryz.results50,go_sem,u0,u1,u2,u3,u4,u5,u6]) rfl ?_;rw[HN.out.1,HN.out.2,nD,HC.out,HZ.out];obtain⟨g1,g2,g3,g4⟩:=KF.out;obtain⟨-,-,-,j4,-,j6,-,j8,j9,j10⟩:=H4.out;have bX:Below w.1.size w (Y2.setCell ⟨w3.1.size,4,none⟩ (.slice a2 zs.length c2)):=(j4.trans (g4.mono j4.size)).setCell (p:=⟨w3.1.size,4,none⟩) (by dsimp only;omega) _;refine⟨a2,c2,h4,d4,fun q=>(Value.slice a2 zs.length c2).ownBlock=some q,PS,rfl,?_,eP (s:=w.1.size+2) (v:=⟨a2,c2,h4,d4⟩) (t:=(⟨t.id,t.o,t.q,t.v,zs,t.ag,t.aA⟩:T7)) bX (by omega)⟩;obtain⟨_,_,e2,WZ⟩:=g3.form
       cases e2;have ot:OT Y2 w.1.size ⟨a2,c2,h4,d4⟩ (⟨t.id,t.o,t.q,t.v,zs,t.ag,t.aA⟩:T7) (fun q=>(Value.slice a2 zs.length c2).ownBlock=some q) PS:=⟨WZ,(j8.later g4).s,fun q h1 h2=>by have:=(g3.lt h1).1;have:=(j9 q (.inr h2)).2;omega,fun q h1=>⟨by have:=(g3.lt h1).1;omega,(g3.lt h1).2⟩,fun q h1=>⟨by have:=(j9 q (.inr h1)).1;omega,((j8.later g4).sB q h1).2⟩⟩
       have fF:∀q,oW (fun q=>(Value.slice a2 zs.length c2).ownBlock=some q) PS q->q≠w3.1.size/\q≠w.1.size+2:=fun q hq=>by
        rcases hq with hq|hq
        ·have:=(g3.lt hq).1;omega
        ·have:=j9 q (.inr hq);omega
       have TQ:OT (Y2.setCell ⟨w3.1.size,4,none⟩ (.slice a2 zs.length c2)) w.1.size ⟨a2,c2,h4,d4⟩ (⟨t.id,t.o,t.q,t.v,zs,t.ag,t.aA⟩:T7) (fun q=>(Value.slice a2 zs.length c2).ownBlock=some q) PS:=ot.aQ (by simp[World.setCell]) (fun q _ hq=>Below.heap_setCell _ _ _ _ (fF q hq).1);exact TQ.aQ (w':=kJ (Y2.setCell ⟨w3.1.size,4,none⟩ (.slice a2 zs.length c2)) (w.1.size+2) ⟨a2,c2,h4,d4⟩ (⟨t.id,t.o,t.q,t.v,zs,t.ag,t.aA⟩:T7)) (by rw[nJ];exact Nat.le_refl _) (fun q _ hq=>iY (fF q hq).2)
variable {xs:List N5}
theorem TU{r s q t:Int}(h1:aY 0 5 s=true)(h2:aY 0 5 t=true)(h:rk r s=rk q t):r=q/\s=t:=by
 rw[dm]at h1 h2;unfold rk at h;omega
theorem NA(h:qR xs):eG.Hp (gG xs) xs.length:=fun i h0 hn=>by
 have e1:xs[(i-1)/2]?=some xs[(i-1)/2]:=List.getElem?_eq_getElem (by omega);have e2:xs[i]?=some xs[i]:=List.getElem?_eq_getElem hn;rw[BR e1,BR e2];exact Int.le_of_lt (zJ h e1 e2 (by omega))
theorem BN(xs:List N5)(n:N5):(nD xs n).Perm (xs++[n]):=by
 unfold nD;rw[List.append_assoc];refine((List.Perm.refl _).append (List.perm_append_comm (l₁:=[n]) (l₂:=xs.drop (lG xs n)))).trans ?_;rw[<-List.append_assoc,List.take_append_drop]
theorem PW{n:N5}(h:qR xs)(je:∀s∈xs,bn s=true)(hn:bn n=true)(qK:jB xs n.b n.e=none):(nD xs n).Pairwise (fun a b=>jH a<jH b):=by
 have Ey:=fP hn
 have Ew:∀x∈xs.take (lG xs n),jH x<jH n:=fun x hx=>by
  obtain⟨i,hi,rfl⟩:=List.getElem_of_mem hx;have Aj:i<lG xs n:=by rw[List.length_take]at hi;omega
  have MZ:i<xs.length:=by rw[List.length_take]at hi;omega
  have:=List.not_of_lt_findIdx (p:=fun x:N5=>!jP x.b x.e n.b n.e) (xs:=xs) Aj;rw[List.getElem_take];have hk:=(fP (je _ (List.getElem_mem MZ))).2;simp only[Bool.not_eq_false']at this;rw[qF hk Ey.2]at this;simpa[jH]using this
 have SH:∀x∈xs.drop (lG xs n),jH n<jH x:=fun x hx=>by
  obtain⟨i,hi,rfl⟩:=List.getElem_of_mem hx;rw[List.length_drop]at hi;have hc:lG xs n<xs.length:=by omega
  have h1:=List.findIdx_getElem (p:=fun x:N5=>!jP x.b x.e n.b n.e) (xs:=xs) (w:=hc);have hm:xs[lG xs n]∈xs:=List.getElem_mem hc;have hk:=(fP (je _ hm)).2;change (!jP xs[lG xs n].b xs[lG xs n].e n.b n.e)=true at h1;rw[qF hk Ey.2]at h1;simp only[Bool.not_eq_true',decide_eq_false_iff_not]at h1
  have h2:jH n≠jH xs[lG xs n]:=fun e=>by
   have:=TU hk Ey.2 e.symm;exact qj.1 qK _ hm this
  have h3:jH n<jH xs[lG xs n]:=by
   have:¬jH xs[lG xs n]<jH n:=h1;omega
  rw[List.getElem_drop];rcases i with _|i
  ·simpa using h3
  ·exact Int.lt_trans h3 (List.pairwise_iff_getElem.1 h _ _ hc (by omega) (by omega))
 unfold nD;rw[List.pairwise_append,List.pairwise_append];refine⟨⟨h.sublist (List.take_sublist _ _),by simp,fun a ha b hb=>by simp at hb;subst hb;exact Ew a ha⟩,h.sublist (List.drop_sublist _ _),fun a ha b hb=>?_⟩;rcases List.mem_append.1 ha with ha|ha
 ·exact Int.lt_trans (Ew a ha) (SH b hb)
 ·simp at ha;subst ha;exact SH b hb
end tx
namespace tx
theorem oO(w:World)(v:TV)(t:T7)(n:N5)(hl:TL t)(hs:lW w v t):
  Calls Tryz.prog 177 #[v.val t,.agg #[vI n.b,vI n.e,vI n.j,vI n.g,.bool n.i]] w (Ar w (dO t n) (eT t n)):=by
 obtain⟨ar,cr,ah,ch⟩:=v;simp only[TV.val];obtain⟨W0,eB⟩:∃W,W=w.alloc (.cells #[vI t.id,vI t.o,vI t.q,vI t.v,.slice ar t.a.length cr,.slice ah t.ag.length ch,vI t.aA] 50):=⟨_,rfl⟩
 have z0:W0.1.size=w.1.size+1:=by rw[eB];simp
 have x0:BT W0 w.1.size ⟨ar,cr,ah,ch⟩ t:=by rw[eB];exact BT.box w ⟨ar,cr,ah,ch⟩ t _
 have b0:Below w.1.size w W0:=by rw[eB];exact aJ.alloc aR _
 obtain⟨W1,ja⟩:∃W,W=W0.alloc (.cells #[vI n.b,vI n.e,vI n.j,vI n.g,.bool n.i] 112):=⟨_,rfl⟩
 have z1:W1.1.size=w.1.size+2:=by rw[ja];simp[z0]
 have x1:aL W1 (w.1.size+1) 0 n:=by rw[ja,<-z0];exact aL.box W0 _ _
 have b1:Below W0.1.size W0 W1:=by rw[ja];exact aJ.alloc aR _
 obtain⟨W,hW⟩:∃W,W=W1.alloc (.cells #[vI 0,vI 0,vI 0,vI 0,.slice none 0 0,.slice none 0 0,vI 0] 50):=⟨_,rfl⟩
 have zW:W.1.size=w.1.size+3:=by rw[hW];simp[z1]
 have x2:BT W (w.1.size+2) ⟨none,0,none,0⟩ ⟨0,0,0,0,[],[],0⟩:=by rw[hW,<-z1];exact BT.zero W1 _
 have b2:Below W1.1.size W1 W:=by rw[hW];exact aJ.alloc aR _
 have bW:Below w.1.size w W:=(b0.trans (b1.mono b0.size)).trans (b2.mono (by omega));have c1:=ug W ⟨ar,cr,ah,ch⟩ t hl (hs.later bW);simp only[TV.val]at c1;have H:Hid (BT W w.1.size ⟨ar,cr,ah,ch⟩ t/\aL W (w.1.size+1) 0 n/\BT W (w.1.size+2) ⟨none,0,none,0⟩ ⟨0,0,0,0,[],[],0⟩/\Below w.1.size w W/\lW W ⟨ar,cr,ah,ch⟩ t/\W.1.size=w.1.size+3):=⟨(x0.later b1).later b2,x1.below b2 (by omega),x2,bW,hs.later bW,zW⟩
 rw[ja,eB]at hW;clear eB ja z0 x0 b0 z1 x1 b1 zW x2 b2 bW hs hl
 cases hB:jI t with
 | false=>
  rw[hB]at c1;have HN:Hid (dO t n=rU/\eT t n=false):=⟨by simp[dO,hB],by simp[eT,hB]⟩
  go_enter Tryz.func177,Tryz.ntmps177;go_wp2_with fail;rw[<-hW];clear hW;refine c1.mono ?_;clear c1;rintro e w1 ⟨rfl,b1⟩;have KZ:Hid (BT w1 (w.1.size+2) ⟨none,0,none,0⟩ ⟨0,0,0,0,[],[],0⟩/\Below w.1.size w w1):=⟨H.out.2.2.1.later b1,H.out.2.2.2.1.trans (b1.mono H.out.2.2.2.1.size)⟩
  clear b1 H;obtain⟨r0,r1,r2,r3,r4,r5,r6,fr,-⟩:=KZ.out.1;have nN:=KZ.out.1.put ⟨none,0,none,0⟩ rU;simp only[kJ,rU,List.length_nil]at nN;obtain⟨u0,u1,u2,u3,u4,u5,u6,-,-⟩:=nN;have KU:=aB (And.intro u0 (And.intro u1 (And.intro u2 (And.intro u3 (And.intro u4 (And.intro u5 u6))))));clear u0 u1 u2 u3 u4 u5 u6;have f0:=fr 0;have f1:=fr 1;have f2:=fr 2;have f3:=fr 3;have f4:=fr 4;have f5:=fr 5;have f6:=fr 6;clear fr;simp only[List.length_nil]at r4 r5;go_wp2;obtain⟨u0,u1,u2,u3,u4,u5,u6⟩:=KU.out;refine bodyPost_ret (v:=.tuple #[.agg #[vI 0,vI 0,vI 0,vI 0,.slice none 0 0,.slice none 0 0,vI 0],.bool false]) (by simp[results,Tryz.results177,go_sem,u0,u1,u2,u3,u4,u5,u6]) rfl ?_;rw[HN.out.1,HN.out.2];exact Ar.zero (eP (s:=w.1.size+2) (v:=⟨none,0,none,0⟩) (t:=rU) KZ.out.2 (by omega))
 | true=>
  rw[hB]at c1;go_enter Tryz.func177,Tryz.ntmps177;go_wp2_with fail;rw[<-hW];clear hW;refine c1.mono ?_;clear c1;rintro e w1 ⟨rfl,b1⟩;obtain⟨n0,n1,n2,n3,n4⟩:=H.out.2.1.below b1 (by have:=H.out.2.2.2.2.2;omega);simp only[Nat.zero_add]at n1 n2 n3 n4;have c2:=yX w1 n;have H1:Hid (BT w1 w.1.size ⟨ar,cr,ah,ch⟩ t/\aL w1 (w.1.size+1) 0 n/\BT w1 (w.1.size+2) ⟨none,0,none,0⟩ ⟨0,0,0,0,[],[],0⟩/\Below w.1.size w w1/\lW w1 ⟨ar,cr,ah,ch⟩ t/\w.1.size+3<=w1.1.size):=⟨H.out.1.later b1,H.out.2.1.below b1 (by have:=H.out.2.2.2.2.2;omega),H.out.2.2.1.later b1,H.out.2.2.2.1.trans (b1.mono H.out.2.2.2.1.size),H.out.2.2.2.2.1.later b1,by have:=H.out.2.2.2.2.2;have:=b1.size;omega⟩
  clear b1 H;go_wp2_with fail;refine c2.mono ?_;clear c2 n0 n1 n2 n3 n4;rintro e w2 ⟨rfl,b2⟩;have H2:Hid (BT w2 w.1.size ⟨ar,cr,ah,ch⟩ t/\aL w2 (w.1.size+1) 0 n/\BT w2 (w.1.size+2) ⟨none,0,none,0⟩ ⟨0,0,0,0,[],[],0⟩/\Below w.1.size w w2/\lW w2 ⟨ar,cr,ah,ch⟩ t/\w.1.size+3<=w2.1.size):=⟨H1.out.1.later b2,H1.out.2.1.below b2 (by have:=H1.out.2.2.2.2.2;omega),H1.out.2.2.1.later b2,H1.out.2.2.2.1.trans (b2.mono H1.out.2.2.2.1.size),H1.out.2.2.2.2.1.later b2,by have:=H1.out.2.2.2.2.2;have:=b2.size;omega⟩
  clear b2 H1
  cases hO:bn n with
  | false=>
   have HN:Hid (dO t n=rU/\eT t n=false):=⟨by simp[dO,hO],by simp[eT,hO]⟩
   have KZ:Hid (BT w2 (w.1.size+2) ⟨none,0,none,0⟩ ⟨0,0,0,0,[],[],0⟩/\Below w.1.size w w2):=⟨H2.out.2.2.1,H2.out.2.2.2.1⟩
   clear H2;obtain⟨r0,r1,r2,r3,r4,r5,r6,fr,-⟩:=KZ.out.1;have nN:=KZ.out.1.put ⟨none,0,none,0⟩ rU;simp only[kJ,rU,List.length_nil]at nN;obtain⟨u0,u1,u2,u3,u4,u5,u6,-,-⟩:=nN;have KU:=aB (And.intro u0 (And.intro u1 (And.intro u2 (And.intro u3 (And.intro u4 (And.intro u5 u6))))));clear u0 u1 u2 u3 u4 u5 u6;have f0:=fr 0;have f1:=fr 1;have f2:=fr 2;have f3:=fr 3;have f4:=fr 4;have f5:=fr 5;have f6:=fr 6;clear fr;simp only[List.length_nil]at r4 r5;go_wp2;obtain⟨u0,u1,u2,u3,u4,u5,u6⟩:=KU.out;refine bodyPost_ret (v:=.tuple #[.agg #[vI 0,vI 0,vI 0,vI 0,.slice none 0 0,.slice none 0 0,vI 0],.bool false]) (by simp[results,Tryz.results177,go_sem,u0,u1,u2,u3,u4,u5,u6]) rfl ?_;rw[HN.out.1,HN.out.2];exact Ar.zero (eP (s:=w.1.size+2) (v:=⟨none,0,none,0⟩) (t:=rU) KZ.out.2 (by omega))
  | true=>
   have mw:=(kL hB).1;have ZH:=(kL hB).2;have HT:Hid ((∀s∈t.a,bn s=true)/\qR t.a/\bn n=true):=⟨(Io hB).1,(Io hB).2,hO⟩
   have c3:=vY w2 ⟨ar,cr,ah,ch⟩ t (by omega) (by omega) H2.out.2.2.2.2.1;simp only[TV.val]at c3;obtain⟨p0,p1,p2,p3,p4,p5,p6,-,-⟩:=H2.out.1;dsimp only at p4 p5;go_wp2_with fail;refine c3.mono ?_;clear c3 p0 p1 p2 p3 p4 p5 p6;rintro e w3 ⟨a4,c4,h4,d4,PR,PS,rfl,o3,b3⟩;simp only[TV.val];obtain⟨X3,lX⟩:∃X,X=w3.alloc (.cells #[vI t.id,vI t.o,vI t.q,vI t.v,.slice a4 t.a.length c4,.slice h4 t.ag.length d4,vI t.aA] 50):=⟨_,rfl⟩
   have b3':Below w3.1.size w3 X3:=by rw[lX];exact aJ.alloc aR _
   have Ma:Below w2.1.size w2 X3:=b3.trans (b3'.mono b3.size);have x3:BT X3 w3.1.size ⟨a4,c4,h4,d4⟩ t:=by rw[lX];exact BT.box w3 ⟨a4,c4,h4,d4⟩ t _
   have H3:Hid (aL X3 (w.1.size+1) 0 n/\BT X3 (w.1.size+2) ⟨none,0,none,0⟩ ⟨0,0,0,0,[],[],0⟩/\Below w.1.size w X3/\w.1.size+3<=w3.1.size/\BT X3 w3.1.size ⟨a4,c4,h4,d4⟩ t/\OT X3 w2.1.size ⟨a4,c4,h4,d4⟩ t PR PS/\(∀q,oW PR PS q->w.1.size+3<=q/\q<w3.1.size)/\w3.1.size<X3.1.size):=⟨H2.out.2.1.below Ma (by have:=H2.out.2.2.2.2.2;omega),H2.out.2.2.1.later Ma,H2.out.2.2.2.1.trans (Ma.mono H2.out.2.2.2.1.size),by have:=H2.out.2.2.2.2.2;have:=b3.size;omega,x3,o3.later b3',fun q hq=>⟨by have:=(o3.of hq).1;have:=H2.out.2.2.2.2.2;omega,(o3.of hq).2⟩,x3.lt⟩
   clear b3 b3' Ma x3 o3 H2;have Me:=oC X3 a4 c4 t.a (by omega) H3.out.2.2.2.2.2.1.sl.r HT.out.1 HT.out.2.1;have k4:=H3.out.2.2.2.2.1.c4;dsimp only at k4;rw[lX]at k4;go_wp2_with fail;rw[<-lX];clear lX k4;refine Me.mono ?_;clear Me;rintro e w4 ⟨p,mb,m,pv,rfl,hp,hm,b4⟩;obtain⟨n0,n1,n2,n3,n4⟩:=H3.out.1.below b4 (by have:=H3.out.2.2.2.1;have:=H3.out.2.2.2.2.2.2.2;omega);simp only[Nat.zero_add]at n1 n2 n3 n4;have cC:=gI w4 n;have H4:Hid (jS w4 X3.1.size p mb m pv t.a/\Below X3.1.size X3 w4):=⟨hp,b4⟩
   clear hp b4;go_wp2_with fail;refine cC.mono ?_;clear cC n0 n1 n2 n3 n4;rintro e w5 ⟨rfl,b5⟩;have cH:=Km w5 X3.1.size p mb m pv t.a n.b n.e (H4.out.1.later b5) (fP HT.out.2.2).1 (fP HT.out.2.2).2;have H5:Hid (jS w5 X3.1.size p mb m pv t.a/\Below X3.1.size X3 w5):=⟨H4.out.1.later b5,H4.out.2.trans (b5.mono H4.out.2.size)⟩
   clear b5 H4;go_wp2_with fail;refine cH.mono ?_;clear cH;rintro e w6 ⟨rfl,b6⟩;have H6:Hid (jS w6 X3.1.size p mb m pv t.a/\Below X3.1.size X3 w6):=⟨H5.out.1.later b6,H5.out.2.trans (b6.mono H5.out.2.size)⟩
   clear b6 H5
   cases hF:(jB t.a n.b n.e).isSome with
   | true=>
    have HN:Hid (dO t n=t/\eT t n=true):=⟨by simp[dO,hB,hO,hF],by simp[eT,hB,hO,hF]⟩
    obtain⟨o0,o1,o2,o3,o4,o5,o6,-,-⟩:=H3.out.2.2.2.2.1.later H6.out.2;have zR:=H3.out.2.1.later H6.out.2;obtain⟨r0,r1,r2,r3,r4,r5,r6,fr,-⟩:=zR;have nN:=(H3.out.2.1.later H6.out.2).put ⟨a4,c4,h4,d4⟩ t;simp only[kJ]at nN;obtain⟨u0,u1,u2,u3,u4,u5,u6,-,-⟩:=nN;have KU:=aB (And.intro u0 (And.intro u1 (And.intro u2 (And.intro u3 (And.intro u4 (And.intro u5 u6))))));clear u0 u1 u2 u3 u4 u5 u6;have f0:=fr 0;have f1:=fr 1;have f2:=fr 2;have f3:=fr 3;have f4:=fr 4;have f5:=fr 5;have f6:=fr 6;clear fr;dsimp only at o4 o5 r4 r5;go_wp2;obtain⟨u0,u1,u2,u3,u4,u5,u6⟩:=KU.out;refine bodyPost_ret (v:=.tuple #[.agg #[vI t.id,vI t.o,vI t.q,vI t.v,.slice a4 t.a.length c4,.slice h4 t.ag.length d4,vI t.aA],.bool true]) (by simp[results,Tryz.results177,go_sem,u0,u1,u2,u3,u4,u5,u6]) rfl ?_;rw[HN.out.1,HN.out.2];obtain⟨-,-,g4,g6,-,g8,g9,-⟩:=H3.out;have g4':=g4.trans (H6.out.2.mono g4.size);refine⟨a4,c4,h4,d4,PR,PS,rfl,?_,eP (s:=w.1.size+2) (v:=⟨a4,c4,h4,d4⟩) (t:=t) g4' (by omega)⟩;exact((g8.later H6.out.2).aQ (w':=kJ w6 (w.1.size+2) ⟨a4,c4,h4,d4⟩ t) (by rw[nJ];exact Nat.le_refl _) (fun q _ hq=>iY (by have:=(g9 q hq).1;omega))).low (fun q hq=>by have:=(g9 q hq).1;omega)
   | false=>
    have cF:=G8 w6 X3.1.size p mb m pv t.a H6.out.1;go_wp2_with fail;refine cF.mono ?_;clear cF;rintro e ZQ ⟨rfl,rfl⟩;by_cases BG:t.a.length=12
    ·have d12:decide (12<=t.a.length)=true:=by simp;omega
     rw[d12];have HN:Hid (dO t n=rU/\eT t n=false):=⟨by simp[dO,hB,hO,hF,BG],by simp[eT,hB,hO,hF,BG]⟩
     have KZ:Hid (BT ZQ (w.1.size+2) ⟨none,0,none,0⟩ ⟨0,0,0,0,[],[],0⟩/\Below w.1.size w ZQ):=⟨H3.out.2.1.later H6.out.2,H3.out.2.2.1.trans (H6.out.2.mono H3.out.2.2.1.size)⟩
     clear H3 H6 d12;obtain⟨r0,r1,r2,r3,r4,r5,r6,fr,-⟩:=KZ.out.1;have nN:=KZ.out.1.put ⟨none,0,none,0⟩ rU;simp only[kJ,rU,List.length_nil]at nN;obtain⟨u0,u1,u2,u3,u4,u5,u6,-,-⟩:=nN;have KU:=aB (And.intro u0 (And.intro u1 (And.intro u2 (And.intro u3 (And.intro u4 (And.intro u5 u6))))));clear u0 u1 u2 u3 u4 u5 u6;have f0:=fr 0;have f1:=fr 1;have f2:=fr 2;have f3:=fr 3;have f4:=fr 4;have f5:=fr 5;have f6:=fr 6;clear fr;simp only[List.length_nil]at r4 r5;go_wp2;obtain⟨u0,u1,u2,u3,u4,u5,u6⟩:=KU.out;refine bodyPost_ret (v:=.tuple #[.agg #[vI 0,vI 0,vI 0,vI 0,.slice none 0 0,.slice none 0 0,vI 0],.bool false]) (by simp[results,Tryz.results177,go_sem,u0,u1,u2,u3,u4,u5,u6]) rfl ?_;rw[HN.out.1,HN.out.2];exact Ar.zero (eP (s:=w.1.size+2) (v:=⟨none,0,none,0⟩) (t:=rU) KZ.out.2 (by omega))
    ·have d12:decide (12<=t.a.length)=false:=by simp;omega
     rw[d12];have HN:Hid (dO t n=⟨t.id,t.o,t.q,t.v,nD t.a n,t.ag,t.aA⟩/\eT t n=true):=⟨by simp[dO,hB,hO,hF,BG],by simp[eT,hB,hO,BG]⟩
     have qK:jB t.a n.b n.e=none:=by cases e:jB t.a n.b n.e<;>simp_all
     have M9:=PW HT.out.2.1 HT.out.1 HT.out.2.2 qK;obtain⟨n0,n1,n2,n3,n4⟩:=H3.out.1.below H6.out.2 (by have:=H3.out.2.2.2.1;have:=H3.out.2.2.2.2.2.2.2;omega);simp only[Nat.zero_add]at n1 n2 n3 n4;have cP:=Nz ZQ X3.1.size p mb m pv t.a n H6.out.1 (by omega) (by omega) HT.out.2.2 qK H6.out.2.size (NA HT.out.2.1);have Yr:=aB M9;clear M9 d12 qK;go_wp2_with fail;refine cP.mono ?_;clear cP n0 n1 n2 n3 n4;rintro e w7 ⟨rfl,q,cap,m',ys,ld,V9,mH,c9,b7⟩;have ba:Below X3.1.size X3 w7:=H6.out.2.trans b7;have WE:ys.length=t.a.length+1:=by have:=mH.length_eq;simpa using this
     have VM:ys.Pairwise (fun a b=>jH a≠jH b):=((mH.trans (BN t.a n).symm).symm.pairwise_iff (fun {a b} (h:jH a≠jH b)=>h.symm)).1 (Yr.out.imp (fun h=>Int.ne_of_lt h));have cI:=A8 w7 X3.1.size p q mb m' cap ys V9 (by omega) (by omega) c9 VM;have H7:Hid (Below X3.1.size X3 w7/\X3.1.size<=p/\X3.1.size<=q/\X3.1.size<=mb/\ys.Perm (t.a++[n])):=⟨ba,V9.bp,V9.bq,V9.bm,mH⟩
     clear ba b7 V9 mH c9 VM ld WE H6;go_wp2_with fail;refine cI.mono ?_;clear cI;rintro e w8 ⟨v8,zs,rfl,T9,Xa,fx,k8⟩;have XA:Below X3.1.size X3 w8:=H7.out.1.trans (k8.below (fun x hx=>by obtain⟨-,h1,h2,h3,-⟩:=H7.out;rcases hx with rfl|rfl|rfl<;>assumption) H7.out.1.size);have qL:zs=nD t.a n:=eG.Jy jH fx Yr.out (Xa.trans (H7.out.2.2.2.2.trans (BN t.a n).symm));have HZ:=aB qL;obtain⟨a2,c2,rfl,-⟩:=T9.form;have xB:BT w8 w3.1.size ⟨a4,c4,h4,d4⟩ t:=H3.out.2.2.2.2.1.later XA;have k4:=xB.c4;have Lx:=xB.fz 4;dsimp only at k4;have bo:X3.1.size<=w7.1.size:=H7.out.1.size;have KF:Hid (BT (w8.setCell ⟨w3.1.size,4,none⟩ (.slice a2 zs.length c2)) w3.1.size ⟨a2,c2,h4,d4⟩ (⟨t.id,t.o,t.q,t.v,zs,t.ag,t.aA⟩:T7)/\BT (w8.setCell ⟨w3.1.size,4,none⟩ (.slice a2 zs.length c2)) (w.1.size+2) ⟨none,0,none,0⟩ ⟨0,0,0,0,[],[],0⟩/\eZ w8 w7.1.size (.slice a2 zs.length c2) zs/\Below X3.1.size X3 w8/\X3.1.size<=w7.1.size):=⟨xB.Ig a2 c2 zs,(H3.out.2.1.later XA).dZ (by dsimp only;have:=H3.out.2.2.2.1;omega) _,T9,XA,bo⟩
     clear qL T9 Xa fx k8 XA xB bo H7 Yr;have nN:=KF.out.2.1.put ⟨a2,c2,h4,d4⟩ (⟨t.id,t.o,t.q,t.v,zs,t.ag,t.aA⟩:T7);simp only[kJ]at nN;obtain⟨u0,u1,u2,u3,u4,u5,u6,-,-⟩:=nN;have KU:=aB (And.intro u0 (And.intro u1 (And.intro u2 (And.intro u3 (And.intro u4 (And.intro u5 u6))))));clear u0 u1 u2 u3 u4 u5 u6;obtain⟨o0,o1,o2,o3,o4,o5,o6,-,-⟩:=KF.out.1;obtain⟨r0,r1,r2,r3,r4,r5,r6,fr,-⟩:=KF.out.2.1;have f0:=fr 0;have f1:=fr 1;have f2:=fr 2;have f3:=fr 3;have f4:=fr 4;have f5:=fr 5;have f6:=fr 6;clear fr;dsimp only at o0 o1 o2 o3 o4 o5 o6 r4 r5;go_wp2;obtain⟨u0,u1,u2,u3,u4,u5,u6⟩:=KU.out;refine bodyPost_ret (v:=.tuple #[.agg #[vI t.id,vI t.o,vI t.q,vI t.v,.slice a2 zs.length c2,.slice h4 t.ag.length d4,vI t.aA],.bool true]) (by simp[results,Tryz.results177,go_sem,u0,u1,u2,u3,u4,u5,u6]) rfl ?_;rw[HN.out.1,HN.out.2,<-HZ.out];obtain⟨g1,g2,g3,g4,g5⟩:=KF.out;obtain⟨-,-,j4,j6,-,j8,j9,j10⟩:=H3.out;have bX:Below w.1.size w (w8.setCell ⟨w3.1.size,4,none⟩ (.slice a2 zs.length c2)):=(j4.trans (g4.mono j4.size)).setCell (p:=⟨w3.1.size,4,none⟩) (by dsimp only;omega) _;refine⟨a2,c2,h4,d4,fun q=>(Value.slice a2 zs.length c2).ownBlock=some q,PS,rfl,?_,eP (s:=w.1.size+2) (v:=⟨a2,c2,h4,d4⟩) (t:=(⟨t.id,t.o,t.q,t.v,zs,t.ag,t.aA⟩:T7)) bX (by omega)⟩;obtain⟨_,_,e2,WZ⟩:=g3.form
     cases e2;have ot:OT w8 w.1.size ⟨a2,c2,h4,d4⟩ (⟨t.id,t.o,t.q,t.v,zs,t.ag,t.aA⟩:T7) (fun q=>(Value.slice a2 zs.length c2).ownBlock=some q) PS:=⟨WZ,(j8.later g4).s,fun q h1 h2=>by have:=(g3.lt h1).1;have:=(j9 q (.inr h2)).2;omega,fun q h1=>⟨by have:=(g3.lt h1).1;omega,(g3.lt h1).2⟩,fun q h1=>⟨by have:=(j9 q (.inr h1)).1;omega,((j8.later g4).sB q h1).2⟩⟩
     have fF:∀q,oW (fun q=>(Value.slice a2 zs.length c2).ownBlock=some q) PS q->q≠w3.1.size/\q≠w.1.size+2:=fun q hq=>by
      rcases hq with hq|hq
      ·have:=(g3.lt hq).1;omega
      ·have:=j9 q (.inr hq);omega
     have TQ:OT (w8.setCell ⟨w3.1.size,4,none⟩ (.slice a2 zs.length c2)) w.1.size ⟨a2,c2,h4,d4⟩ (⟨t.id,t.o,t.q,t.v,zs,t.ag,t.aA⟩:T7) (fun q=>(Value.slice a2 zs.length c2).ownBlock=some q) PS:=ot.aQ (by simp[World.setCell]) (fun q _ hq=>Below.heap_setCell _ _ _ _ (fF q hq).1);exact TQ.aQ (w':=kJ (w8.setCell ⟨w3.1.size,4,none⟩ (.slice a2 zs.length c2)) (w.1.size+2) ⟨a2,c2,h4,d4⟩ (⟨t.id,t.o,t.q,t.v,zs,t.ag,t.aA⟩:T7)) (by rw[nJ];exact Nat.le_refl _) (fun q _ hq=>iY (fF q hq).2)
end tx
end Go.Proofs.YtalnmfefmiapoaaGreatDoor
