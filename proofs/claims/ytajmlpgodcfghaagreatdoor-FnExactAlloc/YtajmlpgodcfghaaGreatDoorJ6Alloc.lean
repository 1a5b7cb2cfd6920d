import Derived.Test.YtajmlpgodcfghaaGreatDoorJ5Alloc
set_option maxHeartbeats 16000000
set_option maxRecDepth 100000
namespace Go.Proofs.YtajmlpgodcfghaaGreatDoor
open Go.RowKit
open Go.Sort (grow)
namespace tx
open Go.Proofs.Tryz
variable {xs:List N5}
def nV(xs:List N5)(r s:Int):Option Nat:=xs.findIdx? fun x=>decide (x.a=r)&&decide (x.e=s)
theorem GK{x:N5}(h:nV xs x.a x.e=none):nV (xs++[x])=EH (nV xs) x.a x.e xs.length:=by
 funext r s;unfold nV EH;rw[List.findIdx?_append];by_cases e:r=x.a/\s=x.e
 ·obtain⟨rfl,rfl⟩:=e;unfold nV at h;rw[h];simp[List.findIdx?_cons]
 ·rw[if_neg e]
  have:[x].findIdx? (fun x=>decide (x.a=r)&&decide (x.e=s))=none:=by
   simp[List.findIdx?_cons];intro h1 h2;exact e ⟨h1.symm,h2.symm⟩
  rw[this];simp
theorem AY{r s:Int}:nV xs r s=none↔∀x∈xs,¬(x.a=r/\x.e=s):=by
 unfold nV;rw[List.findIdx?_eq_none_iff];constructor
 ·intro h x hx e;have:=h x hx;simp[e.1,e.2]at this
 ·intro h x hx;have:=h x hx;simp only[Bool.and_eq_false_iff,decide_eq_false_iff_not];by_cases e:x.a=r
  ·exact .inr (fun e'=>this ⟨e,e'⟩)
  ·exact .inl e
structure lF(W:World)(base p mb n:Nat)(v:Value)(xs:List N5):Prop where
 c0:W.cell? ⟨p,0,none⟩=some v
 c1:W.cell? ⟨p,1,none⟩=some (.map (some mb))
 fz:∀j,W.frozen? ⟨p,j,none⟩=false
 row:fA W base v xs
 mp:kE W mb n (nV xs)
 ok:∀s∈xs,bI s=true
 vp:v.ownBlock≠some p
 vm:v.ownBlock≠some mb
 pm:p≠mb
 bp:base<=p
 bm:base<=mb
 lp:p<W.1.size
theorem lF.later{W V:World}{base p mb n:Nat}{v:Value}{xs:List N5}(h:lF W base p mb n v xs)(hb:Below W.1.size W V):lF V base p mb n v xs:=
 ⟨(hb.cell (p:=⟨p,0,none⟩) h.lp).trans h.c0,(hb.cell (p:=⟨p,1,none⟩) h.lp).trans h.c1,fun j=>(hb.frozen (p:=⟨p,j,none⟩) h.lp).trans (h.fz j),h.row.later hb,h.mp.later hb,h.ok,h.vp,h.vm,h.pm,h.bp,h.bm,Nat.lt_of_lt_of_le h.lp hb.size⟩
theorem lF.WW{W:World}{base p mb n:Nat}{v:Value}(h:lF W base p mb n v xs)(hx:xs≠[]):∃q cap,v=.slice (some ⟨q,0,none⟩) xs.length cap/\lM W base p q mb n cap xs:=by
 obtain⟨a,c,e,ho⟩:=h.row.form;rcases ho with ho|⟨q,rfl,hq,hl,ha,hr⟩
 ·exact absurd ho hx
 ·refine⟨q,c,e,⟨by rw[<-e];exact h.c0,h.c1,h.fz,ha,hr,?_,h.mp.any,h.ok,fun e'=>h.vp (by rw[hq,e']),h.pm,fun e'=>h.vm (by rw[hq,e']),h.bp,(h.row.lt hq).1,h.bm,h.lp,hl⟩⟩;rcases h.row.2 with ⟨h0,_⟩|⟨q',aW,cur,h0,_,_,hc,_⟩
  ·rw[h0]at e;cases e
  ·rw[h0]at e;cases e;exact hc
theorem Jv(w:World)(base p q mb n cap:Nat)(xs:List N5)(c:Nat)(h:lM w base p q mb n cap xs)(hl:xs.length<=1000)(hc:c<xs.length)(hs:c=0\/gV xs ((c-1)/2)<=gV xs c):
  Calls prog 229 #[.pointer (some ⟨p,0,none⟩),vI (c:Int)] w fun e w'=>e=.returned (.tuple #[])/\Below w.1.size w w':=by
 have H:=ay h;clear h;go_enter func229,ntmps229;go_wp2;go_loopw[1] (fun v wr=>v=vI (c:Int)/\wr=w) (fun _ _=>0)
 case atStart=>exact⟨rfl,rfl⟩
 case round=>
  obtain⟨rfl,rfl⟩:=hrel;rcases c with _|e
  ·have d0:decide ((0:Int)<((0:Nat):Int))=false:=by simp
   go_wp2;refine bodyPost_end (v:=.tuple #[]) (by simp[results,results229,go_sem]) rfl ⟨rfl,aN⟩
  ·have d0:decide ((0:Int)<((e+1:Nat):Int))=true:=by simp
   obtain⟨x,hx⟩:∃x,xs[e+1]?=some x:=⟨_,List.getElem?_eq_getElem (by omega)⟩
   obtain⟨y,hy⟩:∃y,xs[e/2]?=some y:=⟨_,List.getElem?_eq_getElem (by omega)⟩
   have c1:=uz wr base p q mb n cap xs (e+1) (e/2) x y H.out hx hy;rw[(lg hx).symm,(lg hy).symm]at c1
   have dl:decide (gV xs (e+1)<gV xs (e/2))=false:=by
    have:=hs.resolve_left (by omega);rw[show(e+1-1)/2=e/2 by omega]at this;simpa using this
   rw[dl]at c1;have ea:((e+1:Nat):Int)=(e:Int)+1:=by omega
   have eb:((e/2:Nat):Int)=(e:Int)/2:=by omega
   rw[ea,eb]at c1;clear dl ea eb hx hy hs;go_wp2_with fail;refine c1.mono ?_;clear c1;rintro e' w1 ⟨rfl,b1⟩;have KB:=ay b1;clear b1;go_wp2;refine bodyPost_ret (v:=.tuple #[]) (by simp[results,results229,go_sem]) rfl ⟨rfl,KB.out⟩
theorem MN(w:World)(base p mb n:Nat)(v:Value)(xs:List N5)(x:N5)(h:lF w base p mb n v xs)(hn:n<=1000)(hl:xs.length<=100)(jG:bI x=true)(oG:nV xs x.a x.e=none)(Ej:base<=w.1.size)(hs:xs=[]\/gV (xs++[x]) ((xs.length-1)/2)<=gV (xs++[x]) xs.length):
  Calls prog 205 #[.pointer (some ⟨p,0,none⟩),.agg #[vI x.a,vI x.e,vI x.i,vI x.h,.bool x.j]] w fun e w'=>e=.returned (.tuple #[])/\∃v',lF w' base p mb (n+1) v' (xs++[x])/\Below base w w':=by
 obtain⟨W0,dS⟩:∃W,W=w.alloc (.cells #[vI x.a,vI x.e,vI x.i,vI x.h,.bool x.j] 70):=⟨_,rfl⟩
 have b0:Below w.1.size w W0:=by rw[dS];exact aN.alloc aU _
 have z0:W0.1.size=w.1.size+1:=by rw[dS];simp
 have x0:aJ W0 w.1.size 0 x:=by rw[dS];exact aJ.box w x _
 have h0:=h.later b0;have hk:=gL jG;have wI:p<w.1.size:=h.lp;have Zz:mb<w.1.size:=h.mp.lt
 have lk:∀d os,(Instr.lookup 278 (.map (some mb)) (jE x.a x.e) true).run prog (grow (redrawn W0 d) os)=.ok (.tuple #[vI 0,.bool false]) (grow (redrawn W0 d) os):=fun d os=>by
  have hu:=((h0.mp).later (below_regrown W0 d os)).look hk.1 hk.2;rw[oG]at hu;exact hu
 have lift:∀{b o:Nat}{u:Value},b<W0.1.size->W0.cell? ⟨b,o,none⟩=some u->∀d os,(grow (redrawn W0 d) os).cell? ⟨b,o,none⟩=some u:=fun {b o u} hb hh d os=>((below_regrown W0 d os).cell (p:=⟨b,o,none⟩) hb).trans hh
 have m1:=lift (by omega) h0.c1;have t0:=lift (by omega) x0.c0;have t1:=lift (by omega) x0.c1;have t2:=lift (by omega) x0.c2;have t3:=lift (by omega) x0.c3;have t4:=lift (by omega) x0.c4;have cC:∀d os,Calls prog 203 #[.agg #[vI x.a,vI x.e,vI x.i,vI x.h,.bool x.j]] (grow (redrawn W0 d) os) fun e eU=>e=.returned (.agg #[vI x.a,vI x.e])/\∃p:Regrown,eU=grow (redrawn W0 p.d) p.os:=fun d os=>Calls.regrown_of (gI _ _)
 have hm:∀w:World,(method 452 70 (.agg #[vI x.a,vI x.e,vI x.i,vI x.h,.bool x.j]) "loop.example/g00153/impl.cell").run prog w=.ok (203,.agg #[vI x.a,vI x.e,vI x.i,vI x.h,.bool x.j]) w:=fun _=>by kernel_rfl
 have H:Hid (lF W0 base p mb n v xs/\aJ W0 w.1.size 0 x/\Below w.1.size w W0/\W0.1.size=w.1.size+1/\base<=w.1.size/\nV xs x.a x.e=none/\bI x=true/\v.ownBlock≠some w.1.size):=⟨h0,x0,b0,z0,Ej,oG,jG,fun e=>by have:=(h.row.lt e).2;omega⟩
 have HS:=ay hs;clear h h0 x0 b0 z0 Ej oG jG hs lift;simp only[jE,Nat.zero_add]at lk t0 t1 t2 t3 t4;go_enter func205,ntmps205;go_wp2_with fail;rw[<-dS];clear dS;refine gP ?_;repeat (go_big_quiet_step (exact cC _ _))
 refine wpQuiet_nil ?_;intro _ wP;obtain⟨⟨jZ,aZ⟩,kW⟩:=wP;subst kW;have bq:=below_regrown W0 jZ aZ
 have K1:Hid (lF (grow (redrawn W0 jZ) aZ) base p mb n v xs/\aJ (grow (redrawn W0 jZ) aZ) w.1.size 0 x/\Below w.1.size w (grow (redrawn W0 jZ) aZ)/\w.1.size<(grow (redrawn W0 jZ) aZ).1.size):=by
  obtain⟨g1,g2,g3,g4,_⟩:=H.out;have:=bq.size;exact⟨g1.later bq,g2.below bq (by omega),g3.trans (bq.mono g3.size),by omega⟩
 clear bq m1 t0 t1 t2 t3 t4 cC lk;obtain⟨av,ac,IX,-⟩:=K1.out.1.row.form;have m0:=K1.out.1.c0;rw[IX]at m0;have HV:=ay IX;clear IX;go_upto_region 5 with fail
 clear m0;generalize grow (redrawn W0 jZ) aZ=W1 at *;have hS:(fun X:World=>X.cell? ⟨p,0,none⟩=some v/\aJ X w.1.size 0 x) W1.drew:=⟨K1.out.1.c0,K1.out.2.1.below ((Below.refl W1.1.size W1).drew) K1.out.2.2.2⟩
 refine aY (fun z=>z==10) (fun X:World=>X.cell? ⟨p,0,none⟩=some v/\aJ X w.1.size 0 x) (by kernel_rfl) ?_;have KD:Hid (Below W1.1.size W1 W1.drew):=aN.drew;generalize W1.drew=Wd at *;refine cu 0 rfl hS ?_;simp only[Act.put];refine cu 1 rfl hS ?_;simp only[Act.put];refine cu 2 rfl hS ?_;simp only[Act.put];refine cu 3 rfl hS ?_;simp only[Act.put];refine iZ 4 ?_ rfl ?_ hS ?_;rotate_left
 ·(intro w aH;obtain⟨s0,⟨a0,a1,a2,a3,a4⟩⟩:=aH;go_simp;first|done|with_reducible rfl)
 simp only[Act.put];refine iZ 5 ?_ rfl ?_ hS ?_;rotate_left
 ·(intro w aH;obtain⟨s0,⟨a0,a1,a2,a3,a4⟩⟩:=aH;go_simp;first|done|with_reducible rfl)
 simp only[Act.put];obtain⟨V,hV⟩:∃V,V=Wd.alloc (.cells #[vI x.a,vI x.e,vI x.i,vI x.h,.bool x.j] 70):=⟨_,rfl⟩
 have bV:Below Wd.1.size Wd V:=by rw[hV];exact aN.alloc aU _
 have zG:Below W1.1.size W1 V:=KD.out.trans (bV.mono KD.out.size);have gG:dm V Wd.1.size 0 [x]:=by rw[hV];exact(aJ.box Wd _ _).one
 have fQ:=(K1.out.1.later zG)
 obtain⟨v5,Y5,hr,mV,fI,fK⟩:=uC fQ.row [x] (by simp;omega) 50 Wd.1.size 0 1 gG (by have:=fQ.bp;have:=fQ.lp;omega)
 obtain⟨a5,k5,rfl⟩:∃a5 k5,v5=Value.slice a5 (xs.length+1) k5:=by
  obtain⟨a5,k5,e5,-⟩:=mV.form;exact⟨a5,k5,by simpa using e5⟩
 have qd:w.1.size<V.1.size:=Nat.lt_of_lt_of_le K1.out.2.2.2 zG.size;have IV:(fun X:World=>X.cell? ⟨p,0,none⟩=some v/\aJ X w.1.size 0 x) V:=⟨fQ.c0,K1.out.2.1.below zG K1.out.2.2.2⟩
 have kb:∀b,b<V.1.size->v.ownBlock≠some b->Y5.1[b]?=V.1[b]?:=fun b hb eO=>fI.block b hb (fun e=>eO e.symm)
 have uZ:(fun X:World=>X.cell? ⟨p,0,none⟩=some v/\aJ X w.1.size 0 x) Y5:=⟨(World.cell?_of_block (a:=⟨p,0,none⟩) (kb p fQ.lp fQ.vp)).trans fQ.c0,aJ.jY IV.2 (kb _ qd H.out.2.2.2.2.2.2.2)⟩
 have qA:∀b,b<V.1.size->v.ownBlock≠some b->(Value.slice a5 (xs.length+1) k5).ownBlock≠some b:=fun b hb eO e=>by
  rcases fK with h|h
  ·rw[h]at e;exact eO e
  ·rw[h]at e;cases e;omega
 have K5:Hid (fA Y5 base (Value.slice a5 (xs.length+1) k5) (xs++[x])/\Y5.cell? ⟨p,0,none⟩=some v/\Y5.cell? ⟨p,1,none⟩=some (.map (some mb))/\(∀j,Y5.frozen? ⟨p,j,none⟩=false)/\kE Y5 mb n (nV xs)/\(Value.slice a5 (xs.length+1) k5).ownBlock≠some p/\(Value.slice a5 (xs.length+1) k5).ownBlock≠some mb/\p<Y5.1.size/\Below base w Y5/\aJ Y5 w.1.size 0 x/\w.1.size<Y5.1.size/\(Value.slice a5 (xs.length+1) k5).ownBlock≠some w.1.size/\mb<V.1.size):=by
  have tu:=kb p fQ.lp fQ.vp;have UU:=kb mb fQ.mp.lt fQ.vm;have Ul:Below base w V:=(K1.out.2.2.1.mono H.out.2.2.2.2.1).trans (zG.mono (by have:=K1.out.1.bp;have:=K1.out.1.lp;omega));refine⟨mV,uZ.1,(World.cell?_of_block (a:=⟨p,1,none⟩) tu).trans fQ.c1,fun j=>(World.frozen?_of_block (a:=⟨p,j,none⟩) tu).trans (fQ.fz j),fQ.mp.aj UU,qA p fQ.lp fQ.vp,qA mb fQ.mp.lt fQ.vm,Nat.lt_of_lt_of_le fQ.lp fI.size,?_,uZ.2,Nat.lt_of_lt_of_le qd fI.size,qA _ qd H.out.2.2.2.2.2.2.2,fQ.mp.lt⟩;exact Ul.grown fI (by have:=fQ.bp;have:=fQ.lp;omega) (fun b e=>(fQ.row.lt e).1)
 rw[hV]at hr;have f0:=K5.out.2.2.2.1 0;have e0:=K5.out.2.1;simp only[List.length_cons,List.length_nil,Nat.zero_add]at hr;refine dJ 6 rfl (fun K hK=>?_);go_simp;refine hK.out _ _ (fun _=>by rw[<-hV];exact IV) ?_;clear hK K;refine dJ 7 rfl (fun K hK=>?_);refine bJ _ rfl (.tmp 34) (.tmp 36) 50 rfl _ _ _ _ (by first|rfl|simp[Act.eval,Act.put]) (by first|rfl|simp[Act.eval,Act.put]) hr ?_;refine hK.out _ _ (fun _=>uZ) ?_;clear hK K hr;simp only[Act.put];refine cu 8 rfl uZ ?_;simp only[Act.put];refine cu 9 rfl uZ ?_;simp only[Act.put];refine dJ 10 rfl (fun K hK=>?_);go_simp;refine hK.out _ _ (fun h=>absurd (show false=true from h.symm.trans (by kernel_rfl)) (by decide)) ?_;clear hK K;refine df (by kernel_rfl) ?_ _
 have KU:Hid (aJ (Y5.setCell ⟨p,0,none⟩ (Value.slice a5 (xs.length+1) k5)) w.1.size 0 x/\fA (Y5.setCell ⟨p,0,none⟩ (Value.slice a5 (xs.length+1) k5)) base (Value.slice a5 (xs.length+1) k5) (xs++[x])/\(Y5.setCell ⟨p,0,none⟩ (Value.slice a5 (xs.length+1) k5)).cell? ⟨p,0,none⟩=some (Value.slice a5 (xs.length+1) k5)/\(Y5.setCell ⟨p,0,none⟩ (Value.slice a5 (xs.length+1) k5)).cell? ⟨p,1,none⟩=some (.map (some mb))/\(∀j,(Y5.setCell ⟨p,0,none⟩ (Value.slice a5 (xs.length+1) k5)).frozen? ⟨p,j,none⟩=false)/\kE (Y5.setCell ⟨p,0,none⟩ (Value.slice a5 (xs.length+1) k5)) mb n (nV xs)/\(Value.slice a5 (xs.length+1) k5).ownBlock≠some p/\(Value.slice a5 (xs.length+1) k5).ownBlock≠some mb/\p<(Y5.setCell ⟨p,0,none⟩ (Value.slice a5 (xs.length+1) k5)).1.size/\Below base w (Y5.setCell ⟨p,0,none⟩ (Value.slice a5 (xs.length+1) k5))/\w.1.size<(Y5.setCell ⟨p,0,none⟩ (Value.slice a5 (xs.length+1) k5)).1.size/\(Value.slice a5 (xs.length+1) k5).ownBlock≠some w.1.size):=by
  obtain⟨g1,g2,g3,g4,g5,g6,g7,g8,g9,Eg,Eh,IQ,g13⟩:=K5.out;have bp:=K1.out.1.bp;have dX:∀b,b≠p->(Y5.setCell ⟨p,0,none⟩ (Value.slice a5 (xs.length+1) k5)).1[b]?=Y5.1[b]?:=fun b hb=>Below.heap_setCell _ _ _ _ hb
  refine⟨aJ.jY Eg (dX _ (by omega)),g1.aL (fun b _ _ e=>dX b (fun e'=>g6 (by rw[e,e']))),ax g2,(ae (by omega)).trans g3,fun j=>by rw[World.frozen?_setCell];exact g4 j,g5.aj (dX mb (fun e=>K1.out.1.pm e.symm)),g6,g7,by simpa[World.setCell]using g8,g9.setCell (p:=⟨p,0,none⟩) bp _,by simpa[World.setCell]using Eh,IQ⟩
 clear K5 hS IV uZ kb qA fI fK mV fQ gG zG bV hV V qd f0 e0 KD;generalize Y5.setCell ⟨p,0,none⟩ (Value.slice a5 (xs.length+1) k5)=W5 at *;clear Y5;have hS:(fun X:World=>X.cell? ⟨p,1,none⟩=some (.map (some mb))/\aJ X w.1.size 0 x) W5.drew:=⟨KU.out.2.2.2.1,KU.out.1.below ((Below.refl W5.1.size W5).drew) KU.out.2.2.2.2.2.2.2.2.2.2.1⟩
 go_upto_region 6 with fail
 refine aY (fun z=>z==8) (fun X:World=>X.cell? ⟨p,1,none⟩=some (.map (some mb))/\aJ X w.1.size 0 x) (by kernel_rfl) ?_;have KD:Hid (Below W5.1.size W5 W5.drew):=aN.drew;generalize W5.drew=We at *;refine cu 0 rfl hS ?_;simp only[Act.put];refine cu 1 rfl hS ?_;simp only[Act.put];refine cu 2 rfl hS ?_;simp only[Act.put];refine iZ 3 ?_ rfl ?_ hS ?_;rotate_left
 ·(intro w aH;obtain⟨s0,⟨a0,a1,a2,a3,a4⟩⟩:=aH;go_simp;first|done|with_reducible rfl)
 simp only[Act.put];refine iZ 4 ?_ rfl ?_ hS ?_;rotate_left
 ·(intro w aH;obtain⟨s0,⟨a0,a1,a2,a3,a4⟩⟩:=aH;go_simp;first|done|with_reducible rfl)
 simp only[Act.put];refine cu 5 rfl hS ?_;simp only[Act.put];refine cu 7 rfl hS ?_;simp only[Act.put];refine dJ 6 rfl (fun K hK=>?_);go_simp;refine(gI We x).mono ?_;rintro e X2 ⟨rfl,b2⟩;have bX:Below W5.1.size W5 X2:=KD.out.trans (b2.mono KD.out.size);obtain⟨Y,eZ,sZ,mW,uo⟩:=(KU.out.2.2.2.2.2.1.later bX).store (by omega) hk.1 hk.2 xs.length (by omega);rw[<-GK H.out.2.2.2.2.2.1]at sZ
 have gF:(fun X:World=>X.cell? ⟨p,1,none⟩=some (.map (some mb))/\aJ X w.1.size 0 x) X2:=by
  obtain⟨g1,g2,g3,g4,g5,g6,g7,g8,g9,Eg,Eh,IQ⟩:=KU.out;exact⟨(bX.cell (p:=⟨p,1,none⟩) g9).trans g4,g1.below bX Eh⟩
 have K7:Hid (lF Y base p mb (n+1) (Value.slice a5 (xs.length+1) k5) (xs++[x])/\Below base w Y):=by
  obtain⟨g1,g2,g3,g4,g5,g6,g7,g8,g9,Eg,Eh,IQ⟩:=KU.out;have jN:=K1.out.1.pm;have tu:=(mW.block p (Nat.lt_of_lt_of_le g9 bX.size) jN).trans (bX.block p g9);refine⟨⟨(World.cell?_of_block (a:=⟨p,0,none⟩) tu).trans g3,(World.cell?_of_block (a:=⟨p,1,none⟩) tu).trans g4,fun j=>(World.frozen?_of_block (a:=⟨p,j,none⟩) tu).trans (g5 j),g2.aL (fun b _ hb e=>(mW.block b (Nat.lt_of_lt_of_le hb bX.size) (fun e'=>g8 (by rw[e,e']))).trans (bX.block b hb)),sZ,fun s hs=>?_,g7,g8,jN,K1.out.1.bp,K1.out.1.bm,by rw[uo];exact Nat.lt_of_lt_of_le g9 bX.size⟩,?_⟩
  ·rcases List.mem_append.1 hs with hs|hs
   ·exact K1.out.1.ok s hs
   ·simp at hs;subst hs;exact H.out.2.2.2.2.2.2.1
  ·have Cf:base<=W5.1.size:=by have:=K1.out.1.bp;omega
   exact(Eg.trans (bX.mono Cf)).trans (mW.below K1.out.1.bm (Nat.le_trans Cf bX.size))
 simp only[jE]at eZ;refine hK.out _ _ (fun _=>gF) ?_;clear hK K gF hS bX KD sZ mW uo hm hk b2;refine dJ 8 rfl (fun K hK=>?_);go_simp;refine hK.out _ _ (fun h=>absurd (show false=true from h.symm.trans (by kernel_rfl)) (by decide)) ?_;clear hK K eZ;refine df (by kernel_rfl) ?_ _;obtain⟨q5,cap5,fp,P7⟩:=K7.out.1.WW (by simp)
 have c7:=Jv Y base p q5 mb (n+1) cap5 (xs++[x]) xs.length P7 (by simp;omega) (by simp) (by
  rcases HS.out with h|h
  ·exact .inl (by rw[h];rfl)
  ·exact .inr h)
 go_wp2_with fail;refine c7.mono ?_;clear c7;rintro e w8 ⟨rfl,b8⟩;have KE:Hid (lF w8 base p mb (n+1) (Value.slice a5 (xs.length+1) k5) (xs++[x])/\Below base w w8):=⟨K7.out.1.later b8,K7.out.2.trans (b8.mono (by have:=K7.out.1.bp;have:=K7.out.1.lp;omega))⟩
 clear b8;go_wp2;refine bodyPost_end (v:=.tuple #[]) (by simp[results,results205,go_sem]) rfl ⟨rfl,(Value.slice a5 (xs.length+1) k5),KE.out.1,KE.out.2⟩
theorem PN(w:World)(base p mb n:Nat)(v:Value)(xs:List N5)(x:N5)(h:lF w base p mb n v xs)(hn:n<=1000)(hl:xs.length<=100)(jG:bI x=true)(oG:nV xs x.a x.e=none)(Ej:base<=w.1.size)(hs:bC.Hp (gV xs) xs.length):
  Calls prog 205 #[.pointer (some ⟨p,0,none⟩),.agg #[vI x.a,vI x.e,vI x.i,vI x.h,.bool x.j]] w fun e w'=>e=.returned (.tuple #[])/\∃q cap n' ys,n'<=n+1+2*xs.length/\lM w' base p q mb n' cap ys/\ys.Perm (xs++[x])/\bC.Hp (gV ys) ys.length/\Below base w w':=by
 obtain⟨W0,dS⟩:∃W,W=w.alloc (.cells #[vI x.a,vI x.e,vI x.i,vI x.h,.bool x.j] 70):=⟨_,rfl⟩
 have b0:Below w.1.size w W0:=by rw[dS];exact aN.alloc aU _
 have z0:W0.1.size=w.1.size+1:=by rw[dS];simp
 have x0:aJ W0 w.1.size 0 x:=by rw[dS];exact aJ.box w x _
 have h0:=h.later b0;have hk:=gL jG;have wI:p<w.1.size:=h.lp;have Zz:mb<w.1.size:=h.mp.lt
 have lk:∀d os,(Instr.lookup 278 (.map (some mb)) (jE x.a x.e) true).run prog (grow (redrawn W0 d) os)=.ok (.tuple #[vI 0,.bool false]) (grow (redrawn W0 d) os):=fun d os=>by
  have hu:=((h0.mp).later (below_regrown W0 d os)).look hk.1 hk.2;rw[oG]at hu;exact hu
 have lift:∀{b o:Nat}{u:Value},b<W0.1.size->W0.cell? ⟨b,o,none⟩=some u->∀d os,(grow (redrawn W0 d) os).cell? ⟨b,o,none⟩=some u:=fun {b o u} hb hh d os=>((below_regrown W0 d os).cell (p:=⟨b,o,none⟩) hb).trans hh
 have m1:=lift (by omega) h0.c1;have t0:=lift (by omega) x0.c0;have t1:=lift (by omega) x0.c1;have t2:=lift (by omega) x0.c2;have t3:=lift (by omega) x0.c3;have t4:=lift (by omega) x0.c4;have cC:∀d os,Calls prog 203 #[.agg #[vI x.a,vI x.e,vI x.i,vI x.h,.bool x.j]] (grow (redrawn W0 d) os) fun e eU=>e=.returned (.agg #[vI x.a,vI x.e])/\∃p:Regrown,eU=grow (redrawn W0 p.d) p.os:=fun d os=>Calls.regrown_of (gI _ _)
 have hm:∀w:World,(method 452 70 (.agg #[vI x.a,vI x.e,vI x.i,vI x.h,.bool x.j]) "loop.example/g00153/impl.cell").run prog w=.ok (203,.agg #[vI x.a,vI x.e,vI x.i,vI x.h,.bool x.j]) w:=fun _=>by kernel_rfl
 have H:Hid (lF W0 base p mb n v xs/\aJ W0 w.1.size 0 x/\Below w.1.size w W0/\W0.1.size=w.1.size+1/\base<=w.1.size/\nV xs x.a x.e=none/\bI x=true/\v.ownBlock≠some w.1.size):=⟨h0,x0,b0,z0,Ej,oG,jG,fun e=>by have:=(h.row.lt e).2;omega⟩
 have HS:=ay hs;clear h h0 x0 b0 z0 Ej oG jG hs lift;simp only[jE,Nat.zero_add]at lk t0 t1 t2 t3 t4;go_enter func205,ntmps205;go_wp2_with fail;rw[<-dS];clear dS;refine gP ?_;repeat (go_big_quiet_step (exact cC _ _))
 refine wpQuiet_nil ?_;intro _ wP;obtain⟨⟨jZ,aZ⟩,kW⟩:=wP;subst kW;have bq:=below_regrown W0 jZ aZ
 have K1:Hid (lF (grow (redrawn W0 jZ) aZ) base p mb n v xs/\aJ (grow (redrawn W0 jZ) aZ) w.1.size 0 x/\Below w.1.size w (grow (redrawn W0 jZ) aZ)/\w.1.size<(grow (redrawn W0 jZ) aZ).1.size):=by
  obtain⟨g1,g2,g3,g4,_⟩:=H.out;have:=bq.size;exact⟨g1.later bq,g2.below bq (by omega),g3.trans (bq.mono g3.size),by omega⟩
 clear bq m1 t0 t1 t2 t3 t4 cC lk;obtain⟨av,ac,IX,-⟩:=K1.out.1.row.form;have m0:=K1.out.1.c0;rw[IX]at m0;have HV:=ay IX;clear IX;go_upto_region 5 with fail
 clear m0;generalize grow (redrawn W0 jZ) aZ=W1 at *;have hS:(fun X:World=>X.cell? ⟨p,0,none⟩=some v/\aJ X w.1.size 0 x) W1.drew:=⟨K1.out.1.c0,K1.out.2.1.below ((Below.refl W1.1.size W1).drew) K1.out.2.2.2⟩
 refine aY (fun z=>z==10) (fun X:World=>X.cell? ⟨p,0,none⟩=some v/\aJ X w.1.size 0 x) (by kernel_rfl) ?_;have KD:Hid (Below W1.1.size W1 W1.drew):=aN.drew;generalize W1.drew=Wd at *;refine cu 0 rfl hS ?_;simp only[Act.put];refine cu 1 rfl hS ?_;simp only[Act.put];refine cu 2 rfl hS ?_;simp only[Act.put];refine cu 3 rfl hS ?_;simp only[Act.put];refine iZ 4 ?_ rfl ?_ hS ?_;rotate_left
 ·(intro w aH;obtain⟨s0,⟨a0,a1,a2,a3,a4⟩⟩:=aH;go_simp;first|done|with_reducible rfl)
 simp only[Act.put];refine iZ 5 ?_ rfl ?_ hS ?_;rotate_left
 ·(intro w aH;obtain⟨s0,⟨a0,a1,a2,a3,a4⟩⟩:=aH;go_simp;first|done|with_reducible rfl)
 simp only[Act.put];obtain⟨V,hV⟩:∃V,V=Wd.alloc (.cells #[vI x.a,vI x.e,vI x.i,vI x.h,.bool x.j] 70):=⟨_,rfl⟩
 have bV:Below Wd.1.size Wd V:=by rw[hV];exact aN.alloc aU _
 have zG:Below W1.1.size W1 V:=KD.out.trans (bV.mono KD.out.size);have gG:dm V Wd.1.size 0 [x]:=by rw[hV];exact(aJ.box Wd _ _).one
 have fQ:=(K1.out.1.later zG)
 obtain⟨v5,Y5,hr,mV,fI,fK⟩:=uC fQ.row [x] (by simp;omega) 50 Wd.1.size 0 1 gG (by have:=fQ.bp;have:=fQ.lp;omega)
 obtain⟨a5,k5,rfl⟩:∃a5 k5,v5=Value.slice a5 (xs.length+1) k5:=by
  obtain⟨a5,k5,e5,-⟩:=mV.form;exact⟨a5,k5,by simpa using e5⟩
 have qd:w.1.size<V.1.size:=Nat.lt_of_lt_of_le K1.out.2.2.2 zG.size;have IV:(fun X:World=>X.cell? ⟨p,0,none⟩=some v/\aJ X w.1.size 0 x) V:=⟨fQ.c0,K1.out.2.1.below zG K1.out.2.2.2⟩
 have kb:∀b,b<V.1.size->v.ownBlock≠some b->Y5.1[b]?=V.1[b]?:=fun b hb eO=>fI.block b hb (fun e=>eO e.symm)
 have uZ:(fun X:World=>X.cell? ⟨p,0,none⟩=some v/\aJ X w.1.size 0 x) Y5:=⟨(World.cell?_of_block (a:=⟨p,0,none⟩) (kb p fQ.lp fQ.vp)).trans fQ.c0,aJ.jY IV.2 (kb _ qd H.out.2.2.2.2.2.2.2)⟩
 have qA:∀b,b<V.1.size->v.ownBlock≠some b->(Value.slice a5 (xs.length+1) k5).ownBlock≠some b:=fun b hb eO e=>by
  rcases fK with h|h
  ·rw[h]at e;exact eO e
  ·rw[h]at e;cases e;omega
 have K5:Hid (fA Y5 base (Value.slice a5 (xs.length+1) k5) (xs++[x])/\Y5.cell? ⟨p,0,none⟩=some v/\Y5.cell? ⟨p,1,none⟩=some (.map (some mb))/\(∀j,Y5.frozen? ⟨p,j,none⟩=false)/\kE Y5 mb n (nV xs)/\(Value.slice a5 (xs.length+1) k5).ownBlock≠some p/\(Value.slice a5 (xs.length+1) k5).ownBlock≠some mb/\p<Y5.1.size/\Below base w Y5/\aJ Y5 w.1.size 0 x/\w.1.size<Y5.1.size/\(Value.slice a5 (xs.length+1) k5).ownBlock≠some w.1.size/\mb<V.1.size):=by
  have tu:=kb p fQ.lp fQ.vp;have UU:=kb mb fQ.mp.lt fQ.vm;have Ul:Below base w V:=(K1.out.2.2.1.mono H.out.2.2.2.2.1).trans (zG.mono (by have:=K1.out.1.bp;have:=K1.out.1.lp;omega));refine⟨mV,uZ.1,(World.cell?_of_block (a:=⟨p,1,none⟩) tu).trans fQ.c1,fun j=>(World.frozen?_of_block (a:=⟨p,j,none⟩) tu).trans (fQ.fz j),fQ.mp.aj UU,qA p fQ.lp fQ.vp,qA mb fQ.mp.lt fQ.vm,Nat.lt_of_lt_of_le fQ.lp fI.size,?_,uZ.2,Nat.lt_of_lt_of_le qd fI.size,qA _ qd H.out.2.2.2.2.2.2.2,fQ.mp.lt⟩;exact Ul.grown fI (by have:=fQ.bp;have:=fQ.lp;omega) (fun b e=>(fQ.row.lt e).1)
 rw[hV]at hr;have f0:=K5.out.2.2.2.1 0;have e0:=K5.out.2.1;simp only[List.length_cons,List.length_nil,Nat.zero_add]at hr;refine dJ 6 rfl (fun K hK=>?_);go_simp;refine hK.out _ _ (fun _=>by rw[<-hV];exact IV) ?_;clear hK K;refine dJ 7 rfl (fun K hK=>?_);refine bJ _ rfl (.tmp 34) (.tmp 36) 50 rfl _ _ _ _ (by first|rfl|simp[Act.eval,Act.put]) (by first|rfl|simp[Act.eval,Act.put]) hr ?_;refine hK.out _ _ (fun _=>uZ) ?_;clear hK K hr;simp only[Act.put];refine cu 8 rfl uZ ?_;simp only[Act.put];refine cu 9 rfl uZ ?_;simp only[Act.put];refine dJ 10 rfl (fun K hK=>?_);go_simp;refine hK.out _ _ (fun h=>absurd (show false=true from h.symm.trans (by kernel_rfl)) (by decide)) ?_;clear hK K;refine df (by kernel_rfl) ?_ _
 have KU:Hid (aJ (Y5.setCell ⟨p,0,none⟩ (Value.slice a5 (xs.length+1) k5)) w.1.size 0 x/\fA (Y5.setCell ⟨p,0,none⟩ (Value.slice a5 (xs.length+1) k5)) base (Value.slice a5 (xs.length+1) k5) (xs++[x])/\(Y5.setCell ⟨p,0,none⟩ (Value.slice a5 (xs.length+1) k5)).cell? ⟨p,0,none⟩=some (Value.slice a5 (xs.length+1) k5)/\(Y5.setCell ⟨p,0,none⟩ (Value.slice a5 (xs.length+1) k5)).cell? ⟨p,1,none⟩=some (.map (some mb))/\(∀j,(Y5.setCell ⟨p,0,none⟩ (Value.slice a5 (xs.length+1) k5)).frozen? ⟨p,j,none⟩=false)/\kE (Y5.setCell ⟨p,0,none⟩ (Value.slice a5 (xs.length+1) k5)) mb n (nV xs)/\(Value.slice a5 (xs.length+1) k5).ownBlock≠some p/\(Value.slice a5 (xs.length+1) k5).ownBlock≠some mb/\p<(Y5.setCell ⟨p,0,none⟩ (Value.slice a5 (xs.length+1) k5)).1.size/\Below base w (Y5.setCell ⟨p,0,none⟩ (Value.slice a5 (xs.length+1) k5))/\w.1.size<(Y5.setCell ⟨p,0,none⟩ (Value.slice a5 (xs.length+1) k5)).1.size/\(Value.slice a5 (xs.length+1) k5).ownBlock≠some w.1.size):=by
  obtain⟨g1,g2,g3,g4,g5,g6,g7,g8,g9,Eg,Eh,IQ,g13⟩:=K5.out;have bp:=K1.out.1.bp;have dX:∀b,b≠p->(Y5.setCell ⟨p,0,none⟩ (Value.slice a5 (xs.length+1) k5)).1[b]?=Y5.1[b]?:=fun b hb=>Below.heap_setCell _ _ _ _ hb
  refine⟨aJ.jY Eg (dX _ (by omega)),g1.aL (fun b _ _ e=>dX b (fun e'=>g6 (by rw[e,e']))),ax g2,(ae (by omega)).trans g3,fun j=>by rw[World.frozen?_setCell];exact g4 j,g5.aj (dX mb (fun e=>K1.out.1.pm e.symm)),g6,g7,by simpa[World.setCell]using g8,g9.setCell (p:=⟨p,0,none⟩) bp _,by simpa[World.setCell]using Eh,IQ⟩
 clear K5 hS IV uZ kb qA fI fK mV fQ gG zG bV hV V qd f0 e0 KD;generalize Y5.setCell ⟨p,0,none⟩ (Value.slice a5 (xs.length+1) k5)=W5 at *;clear Y5;have hS:(fun X:World=>X.cell? ⟨p,1,none⟩=some (.map (some mb))/\aJ X w.1.size 0 x) W5.drew:=⟨KU.out.2.2.2.1,KU.out.1.below ((Below.refl W5.1.size W5).drew) KU.out.2.2.2.2.2.2.2.2.2.2.1⟩
 go_upto_region 6 with fail
 refine aY (fun z=>z==8) (fun X:World=>X.cell? ⟨p,1,none⟩=some (.map (some mb))/\aJ X w.1.size 0 x) (by kernel_rfl) ?_;have KD:Hid (Below W5.1.size W5 W5.drew):=aN.drew;generalize W5.drew=We at *;refine cu 0 rfl hS ?_;simp only[Act.put];refine cu 1 rfl hS ?_;simp only[Act.put];refine cu 2 rfl hS ?_;simp only[Act.put];refine iZ 3 ?_ rfl ?_ hS ?_;rotate_left
 ·(intro w aH;obtain⟨s0,⟨a0,a1,a2,a3,a4⟩⟩:=aH;go_simp;first|done|with_reducible rfl)
 simp only[Act.put];refine iZ 4 ?_ rfl ?_ hS ?_;rotate_left
 ·(intro w aH;obtain⟨s0,⟨a0,a1,a2,a3,a4⟩⟩:=aH;go_simp;first|done|with_reducible rfl)
 simp only[Act.put];refine cu 5 rfl hS ?_;simp only[Act.put];refine cu 7 rfl hS ?_;simp only[Act.put];refine dJ 6 rfl (fun K hK=>?_);go_simp;refine(gI We x).mono ?_;rintro e X2 ⟨rfl,b2⟩;have bX:Below W5.1.size W5 X2:=KD.out.trans (b2.mono KD.out.size);obtain⟨Y,eZ,sZ,mW,uo⟩:=(KU.out.2.2.2.2.2.1.later bX).store (by omega) hk.1 hk.2 xs.length (by omega);rw[<-GK H.out.2.2.2.2.2.1]at sZ
 have gF:(fun X:World=>X.cell? ⟨p,1,none⟩=some (.map (some mb))/\aJ X w.1.size 0 x) X2:=by
  obtain⟨g1,g2,g3,g4,g5,g6,g7,g8,g9,Eg,Eh,IQ⟩:=KU.out;exact⟨(bX.cell (p:=⟨p,1,none⟩) g9).trans g4,g1.below bX Eh⟩
 have K7:Hid (lF Y base p mb (n+1) (Value.slice a5 (xs.length+1) k5) (xs++[x])/\Below base w Y):=by
  obtain⟨g1,g2,g3,g4,g5,g6,g7,g8,g9,Eg,Eh,IQ⟩:=KU.out;have jN:=K1.out.1.pm;have tu:=(mW.block p (Nat.lt_of_lt_of_le g9 bX.size) jN).trans (bX.block p g9);refine⟨⟨(World.cell?_of_block (a:=⟨p,0,none⟩) tu).trans g3,(World.cell?_of_block (a:=⟨p,1,none⟩) tu).trans g4,fun j=>(World.frozen?_of_block (a:=⟨p,j,none⟩) tu).trans (g5 j),g2.aL (fun b _ hb e=>(mW.block b (Nat.lt_of_lt_of_le hb bX.size) (fun e'=>g8 (by rw[e,e']))).trans (bX.block b hb)),sZ,fun s hs=>?_,g7,g8,jN,K1.out.1.bp,K1.out.1.bm,by rw[uo];exact Nat.lt_of_lt_of_le g9 bX.size⟩,?_⟩
  ·rcases List.mem_append.1 hs with hs|hs
   ·exact K1.out.1.ok s hs
   ·simp at hs;subst hs;exact H.out.2.2.2.2.2.2.1
  ·have Cf:base<=W5.1.size:=by have:=K1.out.1.bp;omega
   exact(Eg.trans (bX.mono Cf)).trans (mW.below K1.out.1.bm (Nat.le_trans Cf bX.size))
 simp only[jE]at eZ;refine hK.out _ _ (fun _=>gF) ?_;clear hK K gF hS bX KD sZ mW uo hm hk b2;refine dJ 8 rfl (fun K hK=>?_);go_simp;refine hK.out _ _ (fun h=>absurd (show false=true from h.symm.trans (by kernel_rfl)) (by decide)) ?_;clear hK K eZ;refine df (by kernel_rfl) ?_ _;obtain⟨q5,cap5,fp,P7⟩:=K7.out.1.WW (by simp)
 have c7:=Jw Y base p q5 mb (n+1) cap5 (xs++[x]) xs.length P7 (by omega) (by simp;omega) (by simp) (by
  have:=bC.qX.Lx (n:=xs.length) (k:=gV (xs++[x])) (fun i h0 hi=>by
   have e1:gV (xs++[x]) i=gV xs i:=by unfold gV aG;rw[List.getElem?_append_left hi]
   have e2:gV (xs++[x]) ((i-1)/2)=gV xs ((i-1)/2):=by unfold gV aG;rw[List.getElem?_append_left (by omega)]
   rw[e1,e2];exact HS.out i h0 hi)
  simpa using this)
 go_wp2_with fail;refine c7.mono ?_;clear c7;rintro e w8 ⟨rfl,n8,ys,eR,p8,LC,Yb,k8⟩;have KE:Hid (n8<=n+1+2*xs.length/\lM w8 base p q5 mb n8 cap5 ys/\ys.Perm (xs++[x])/\bC.Hp (gV ys) ys.length/\Below base w w8):=⟨by omega,p8,LC,Yb,K7.out.2.trans (k8.below (fun b hb=>by rcases hb with rfl|rfl|rfl;exact p8.bp;exact p8.bq;exact p8.bm) (by have:=K7.out.1.bp;have:=K7.out.1.lp;omega))⟩
 clear p8 LC Yb k8 eR;go_wp2;refine bodyPost_end (v:=.tuple #[]) (by simp[results,results205,go_sem]) rfl ⟨rfl,q5,cap5,n8,ys,KE.out⟩
end tx
namespace tx
open Go.Proofs.Tryz
variable {k:Nat}{x:N5}{xs:List N5}
def vG(xs:List N5):Prop:=xs.Pairwise fun a b=>kv a<kv b
theorem AX(h:vG xs){i j:Nat}{y:N5}(hi:xs[i]?=some x)(hj:xs[j]?=some y)(Ga:i<j):kv x<kv y:=by
 have li:=(List.getElem?_eq_some_iff.1 hi)
 have lj:=(List.getElem?_eq_some_iff.1 hj)
 have:=List.pairwise_iff_getElem.1 h i j li.1 lj.1 Ga;rwa[li.2,lj.2]at this
theorem YQ(h:vG xs)(hk:xs[k]?=some x):nV (xs.take k) x.a x.e=none:=by
 rw[AY];intro y hy e;obtain⟨i,hi,rfl⟩:=List.getElem_of_mem hy;have I6:i<k:=by rw[List.length_take]at hi;omega
 have e2:xs[i]?=some ((xs.take k)[i]):=by
  have:=List.getElem?_eq_getElem hi;rwa[List.getElem?_take,if_pos I6]at this
 have:=AX h e2 hk I6;unfold kv at this;rw[e.1,e.2]at this;omega
theorem Vy(h:vG xs)(hk:xs[k]?=some x):xs.take k=[]\/gV (xs.take k++[x]) (((xs.take k).length-1)/2)<=gV (xs.take k++[x]) (xs.take k).length:=by
 by_cases h0:k=0
 ·exact .inl (by rw[h0];rfl)
 ·have lk:=(List.getElem?_eq_some_iff.1 hk).1;have hl:(xs.take k).length=k:=by rw[List.length_take];omega
  have e1:xs.take k++[x]=xs.take (k+1):=by rw[List.take_add_one,hk];rfl
  refine .inr ?_;rw[hl,e1];obtain⟨y,hy⟩:∃y,xs[(k-1)/2]?=some y:=⟨_,List.getElem?_eq_getElem (by omega)⟩
  rw[Dr (x:=y) (by rw[List.getElem?_take,if_pos (by omega)];exact hy),Dr (x:=x) (by rw[List.getElem?_take,if_pos (by omega)];exact hk)];exact Int.le_of_lt (AX h hy hk (by omega))
theorem ED(w:World)(a:OA)(c:Nat)(xs:List N5)(hl:xs.length<=100)(hs:jP w w.1.size a xs.length xs)(jG:∀s∈xs,bI s=true)(Es:vG xs):
  Calls prog 201 #[.slice a xs.length c] w fun e w'=>∃p mb n v,e=.returned (.pointer (some ⟨p,0,none⟩))/\lF w' w.1.size p mb n v xs/\n<=xs.length/\Below w.1.size w w':=by
 obtain⟨W0,dS⟩:∃W,W=w.alloc (.map #[] 0):=⟨_,rfl⟩
 have z0:W0.1.size=w.1.size+1:=by rw[dS];simp
 have b0:Below w.1.size w W0:=by rw[dS];exact aN.alloc aU _
 obtain⟨W,hW⟩:∃W,W=W0.alloc (.cells #[.slice none 0 0,.map (some w.1.size)] 294):=⟨_,rfl⟩
 have b1:Below W0.1.size W0 W:=by rw[hW];exact aN.alloc aU _
 have pb:lF W w.1.size (w.1.size+1) w.1.size 0 (.slice none 0 0) []:=by
  refine⟨(by rw[hW,<-z0];go_simp),(by rw[hW,<-z0];go_simp),(fun j=>by rw[hW,<-z0];go_simp),fA.nil _ _,?_,(fun s hs=>by cases hs),(fun e=>by cases e),(fun e=>by cases e),(by omega),(by omega),Nat.le_refl _,(by rw[hW];simp[z0])⟩;have hm:=(kE.made w).later (W':=W) (by rw[<-dS];exact b1);exact hm
 have H:Hid (jP w w.1.size a xs.length xs/\(∀s∈xs,bI s=true)/\vG xs/\lF W w.1.size (w.1.size+1) w.1.size 0 (.slice none 0 0) []/\Below w.1.size w W):=⟨hs,jG,Es,pb,b0.trans (b1.mono b0.size)⟩
 clear hs jG Es pb b0 b1 z0;rw[dS]at hW;clear dS;have zY:=@run_makeMap prog;go_enter func201,ntmps201;go_wp2;rw[<-hW];clear hW;go_loopw[11] (fun v11 wr=>∃(k n:Nat) (v:Value),k<=xs.length/\v11=vI (k:Int)/\lF wr w.1.size (w.1.size+1) w.1.size n v (xs.take k)/\n<=k/\Below w.1.size w wr) (fun v11 _=>xs.length-(intOf v11).toNat)
 case atStart=>exact⟨0,0,.slice none 0 0,Nat.zero_le _,rfl,by simpa using H.out.2.2.2.1,Nat.le_refl _,H.out.2.2.2.2⟩
 case round=>
  obtain⟨k,n,v,hk,rfl,hp,QL,aD⟩:=hrel;by_cases aK:k<xs.length
  ·obtain⟨_,gu⟩:=H.out.1.later aD;rcases gu with gu|⟨b,off,rfl,hb,hx⟩
   ·omega
   have Di:=fP aK;obtain⟨c0,c1,c2,c3,c4⟩:=hx k _ Di;obtain⟨V,hV⟩:∃V,V=wr.alloc (.cells #[vI (aG xs k).a,vI (aG xs k).e,vI (aG xs k).i,vI (aG xs k).h,.bool (aG xs k).j] 70):=⟨_,rfl⟩
   have bV:Below wr.1.size wr V:=by rw[hV];exact aN.alloc aU _
   have cp:=MN V w.1.size (w.1.size+1) w.1.size n v (xs.take k) (aG xs k) (hp.later bV) (by omega) (by rw[List.length_take];omega) (H.out.2.1 _ (List.mem_of_getElem? Di)) (YQ H.out.2.2.1 Di) (Nat.le_trans aD.size bV.size) (Vy H.out.2.2.1 Di);have KB:Hid (Below w.1.size w V/\xs.take k++[aG xs k]=xs.take (k+1)):=⟨aD.trans (bV.mono aD.size),by rw[List.take_add_one,Di];rfl⟩
   clear hp aD hx Di bV;go_wp2_with fail;rw[<-hV];clear hV c0 c1 c2 c3 c4;refine cp.mono ?_;clear cp;rintro e w1 ⟨rfl,v',p1,b1⟩;rw[KB.out.2]at p1;have KE:Hid (lF w1 w.1.size (w.1.size+1) w.1.size (n+1) v' (xs.take (k+1))/\Below w.1.size w w1):=⟨p1,KB.out.1.trans b1⟩
   clear p1 b1;go_wp2;exact⟨⟨k+1,n+1,v',by omega,by simp,KE.out.1,by omega,KE.out.2⟩,by simp[intOf];omega⟩
  ·obtain rfl:k=xs.length:=by omega
   have hd:decide ((xs.length:Int)<(xs.length:Int))=false:=by simp
   rw[List.take_length]at hp;have KE:Hid (lF wr w.1.size (w.1.size+1) w.1.size n v xs/\Below w.1.size w wr):=⟨hp,aD⟩
   clear hp aD;go_wp2;go_ret;exact⟨w.1.size+1,w.1.size,n,v,rfl,KE.out.1,QL,KE.out.2⟩
theorem MM(w:World)(base p mb n:Nat)(v:Value)(xs:List N5)(r s:Int)(h:lF w base p mb n v xs)(h1:bH 0 5 r=true)(h2:bH 0 5 s=true):
  Calls prog 202 #[.pointer (some ⟨p,0,none⟩),.agg #[vI r,vI s]] w fun e w'=>e=.returned (.bool (nV xs r s).isSome)/\Below w.1.size w w':=by
 obtain⟨W0,dS⟩:∃W,W=w.alloc (.cells #[vI r,vI s] 126):=⟨_,rfl⟩
 have b0:Below w.1.size w W0:=by rw[dS];exact aN.alloc aU _
 have z0:W0.1.size=w.1.size+1:=by rw[dS];simp
 have h0:=h.later b0;have lk:∀d os,(Instr.lookup 278 (.map (some mb)) (jE r s) true).run prog (grow (redrawn W0 d) os)=.ok (.tuple #[vI (((nV xs r s).getD 0:Nat):Int),.bool (nV xs r s).isSome]) (grow (redrawn W0 d) os):=fun d os=>((h0.mp).later (below_regrown W0 d os)).look h1 h2
 have m1:=@cell_regrown W0 ⟨p,1,none⟩ (.map (some mb)) h0.c1;have t0:=@cell_regrown W0 ⟨w.1.size,0,none⟩ (vI r) (by rw[dS];go_simp);have t1:=@cell_regrown W0 ⟨w.1.size,1,none⟩ (vI s) (by rw[dS];go_simp);have H:Hid (Below w.1.size w W0):=b0;clear h h0 b0 z0 h1 h2;simp only[jE]at lk;generalize (nV xs r s).isSome=B at *;generalize ((nV xs r s).getD 0)=I at *;go_enter func202,ntmps202;go_wp2_with fail;rw[<-dS];clear dS;refine gP ?_;repeat (go_big_quiet_step (fail))
 refine wpQuiet_nil ?_;intro _ wP;obtain⟨⟨jZ,aZ⟩,kW⟩:=wP;subst kW;have bq:=below_regrown W0 jZ aZ;have KE:Hid (Below w.1.size w (grow (redrawn W0 jZ) aZ)):=H.out.trans (bq.mono H.out.size);clear bq lk m1 t0 t1;go_wp2;go_ret;exact⟨rfl,KE.out⟩
end tx
namespace tx
open Go.Proofs.Tryz
variable {V W:World}{mb n p q:Nat}{xs:List S5}
structure lG(W:World)(base p q mb n cap:Nat)(xs:List S5):Prop where
 c0:W.cell? ⟨p,0,none⟩=some (.slice (some ⟨q,0,none⟩) xs.length cap)
 c1:W.cell? ⟨p,1,none⟩=some (.map (some mb))
 fz:∀j,W.frozen? ⟨p,j,none⟩=false
 at_:aV W q 0 xs
 rm:Room W q (xs.length*5)
 cp:xs.length<=cap
 mp:sO W mb n
 ok:∀s∈xs,bf s=true
 pq:p≠q
 pm:p≠mb
 qm:q≠mb
 bp:base<=p
 bq:base<=q
 bm:base<=mb
 lp:p<W.1.size
 lq:q<W.1.size
theorem lG.aL{base cap:Nat}(h:lG W base p q mb n cap xs)(hs:W.1.size<=V.1.size)(hk:∀x,kz p q mb x->V.1[x]?=W.1[x]?):lG V base p q mb n cap xs:=
 ⟨(World.cell?_of_block (a:=⟨p,0,none⟩) (hk p (.inl rfl))).trans h.c0,(World.cell?_of_block (a:=⟨p,1,none⟩) (hk p (.inl rfl))).trans h.c1,fun j=>(World.frozen?_of_block (a:=⟨p,j,none⟩) (hk p (.inl rfl))).trans (h.fz j),h.at_.aj (hk q (.inr (.inl rfl))),h.rm.aj (hk q (.inr (.inl rfl))),h.cp,h.mp.aj (hk mb (.inr (.inr rfl))),h.ok,h.pq,h.pm,h.qm,h.bp,h.bq,h.bm,Nat.lt_of_lt_of_le h.lp hs,Nat.lt_of_lt_of_le h.lq hs⟩
theorem lG.later{base cap:Nat}(h:lG W base p q mb n cap xs)(hb:Below W.1.size W V):lG V base p q mb n cap xs:=h.aL hb.size (fun x hx=>hb.block x (by rcases hx with rfl|rfl|rfl;exact h.lp;exact h.lq;exact h.mp.lt))
theorem lG.ug{base cap:Nat}(h:lG W base p q mb n cap xs)(e:W.drew=V):lG V base p q mb n cap xs:=by rw[<-e];exact h.later (aN.drew)
theorem lG.Bv{base n' cap:Nat}(h:lG W base p q mb n cap xs)(ht:di mb W V)(hm:sO V mb n')(hs:V.1.size=W.1.size):lG V base p q mb n' cap xs:=by
 have hp:=ht.block p h.lp h.pm;have hq:=ht.block q h.lq h.qm;exact⟨(World.cell?_of_block (a:=⟨p,0,none⟩) hp).trans h.c0,(World.cell?_of_block (a:=⟨p,1,none⟩) hp).trans h.c1,fun j=>(World.frozen?_of_block (a:=⟨p,j,none⟩) hp).trans (h.fz j),h.at_.aj hq,h.rm.aj hq,h.cp,hm,h.ok,h.pq,h.pm,h.qm,h.bp,h.bq,h.bm,by rw[hs];exact h.lp,by rw[hs];exact h.lq⟩
theorem lG.GV{base cap i:Nat}{x:S5}(h:lG W base p q mb n cap xs)(hi:xs[i]?=some x)(y:S5)(hy:bf y=true):lG (((((W.setCell ⟨q,i*5,none⟩ (vI y.a)).setCell ⟨q,i*5+1,none⟩ (vI y.e)).setCell ⟨q,i*5+2,none⟩ (vI y.h)).setCell ⟨q,i*5+3,none⟩ (.bool y.j)).setCell ⟨q,i*5+4,none⟩ (vI y.i)) base p q mb n cap (xs.set i y):=by
 have li:=(List.getElem?_eq_some_iff.1 hi).1;have ho:aQ q W (((((W.setCell ⟨q,i*5,none⟩ (vI y.a)).setCell ⟨q,i*5+1,none⟩ (vI y.e)).setCell ⟨q,i*5+2,none⟩ (vI y.h)).setCell ⟨q,i*5+3,none⟩ (.bool y.j)).setCell ⟨q,i*5+4,none⟩ (vI y.i)):=(((((aQ.refl q _).setCell _ _).setCell _ _).setCell _ _).setCell _ _).setCell _ _;have hp:=ho.block p h.pq;have hm:=ho.block mb (Ne.symm h.qm);obtain⟨v0,d0,_⟩:=h.rm (i*5) (by omega);obtain⟨v1,d1,_⟩:=h.rm (i*5+1) (by omega);obtain⟨v2,d2,_⟩:=h.rm (i*5+2) (by omega);obtain⟨v3,d3,_⟩:=h.rm (i*5+3) (by omega);obtain⟨v4,d4,_⟩:=h.rm (i*5+4) (by omega);refine⟨(World.cell?_of_block (a:=⟨p,0,none⟩) hp).trans (by rw[List.length_set];exact h.c0),(World.cell?_of_block (a:=⟨p,1,none⟩) hp).trans h.c1,fun j=>(World.frozen?_of_block (a:=⟨p,j,none⟩) hp).trans (h.fz j),fun k s hk=>?_,by rw[List.length_set];exact((((h.rm.set _).set _).set _).set _).set _,by rw[List.length_set];exact h.cp,h.mp.aj hm,fun s hs=>?_,h.pq,h.pm,h.qm,h.bp,h.bq,h.bm,by rw[ho.size];exact h.lp,by rw[ho.size];exact h.lq⟩
 ·rw[Nat.zero_add];by_cases e:i=k
  ·subst e;rw[List.getElem?_set_self li]at hk;obtain rfl:=Option.some.inj hk;exact aR.put y d0 d1 d2 d3 d4
  ·rw[List.getElem?_set_ne e]at hk;have:=h.at_ k s hk;rw[Nat.zero_add]at this;exact((((this.set (by omega) _).set (by omega) _).set (by omega) _).set (by omega) _).set (by omega) _
 ·rcases List.mem_or_eq_of_mem_set hs with hs|rfl
  ·exact h.ok s hs
  ·exact hy
theorem uH(w:World)(base p q mb n cap:Nat)(xs:List S5)(i j:Nat)(x y:S5)(h:lG w base p q mb n cap xs)(hn:n<=100000)(hl:xs.length<=1000)(hi:xs[i]?=some x)(hj:xs[j]?=some y):
  Calls prog 240 #[.pointer (some ⟨p,0,none⟩),vI (i:Int),vI (j:Int)] w fun e w'=>e=.returned (.tuple #[])/\lG w' base p q mb (n+1+1) cap ((xs.set i y).set j x)/\aA (kz p q mb) w w':=by
 have li:=(List.getElem?_eq_some_iff.1 hi).1;have lj:=(List.getElem?_eq_some_iff.1 hj).1;have ix:(i:Int)<(xs.length:Int):=by omega
 have jx:(j:Int)<(xs.length:Int):=by omega
 have hS:(fun X:World=>X.cell? ⟨p,0,none⟩=some (.slice (some ⟨q,0,none⟩) xs.length cap)/\aR X q (i*5) x/\aR X q (j*5) y) w.drew:=⟨h.c0,(show aR w q (i*5) x by simpa using h.at_ i x hi).below ((Below.refl w.1.size w).drew) h.lq,(show aR w q (j*5) y by simpa using h.at_ j y hj).below ((Below.refl w.1.size w).drew) h.lq⟩
 have rd:Room w.drew q (xs.length*5):=h.rm;have KH:=ay h;clear h;go_enter func240,ntmps240;go_upto_region 0 with fail
 refine aY (fun z=>z==25||z==27) (fun X:World=>X.cell? ⟨p,0,none⟩=some (.slice (some ⟨q,0,none⟩) xs.length cap)/\aR X q (i*5) x/\aR X q (j*5) y) (by kernel_rfl) ?_;obtain⟨v0,c0,f0⟩:=rd (i*5) (by omega);obtain⟨v1,c1,f1⟩:=rd (i*5+1) (by omega);obtain⟨v2,c2,f2⟩:=rd (i*5+2) (by omega);obtain⟨v3,c3,f3⟩:=rd (i*5+3) (by omega);obtain⟨v4,c4,f4⟩:=rd (i*5+4) (by omega);generalize Ux:w.drew=Wd at *;refine cu 0 rfl hS ?_;simp only[Act.put];refine cu 1 rfl hS ?_;simp only[Act.put];refine cu 2 rfl hS ?_;simp only[Act.put];refine iZ 3 ?_ rfl ?_ hS ?_;rotate_left
 ·(intro w aH;obtain⟨s0,⟨a0,a1,a2,a3,a4⟩,⟨b0,b1,b2,b3,b4⟩⟩:=aH;go_simp;first|done|with_reducible rfl)
 simp only[Act.put];refine cu 4 rfl hS ?_;simp only[Act.put];refine cu 5 rfl hS ?_;simp only[Act.put];refine cu 6 rfl hS ?_;simp only[Act.put];refine cu 7 rfl hS ?_;simp only[Act.put];refine iZ 8 ?_ rfl ?_ hS ?_;rotate_left
 ·(intro w aH;obtain⟨s0,⟨a0,a1,a2,a3,a4⟩,⟨b0,b1,b2,b3,b4⟩⟩:=aH;go_simp;first|done|with_reducible rfl)
 simp only[Act.put];refine cu 9 rfl hS ?_;simp only[Act.put];refine cu 10 rfl hS ?_;simp only[Act.put];refine cu 11 rfl hS ?_;simp only[Act.put];refine cu 12 rfl hS ?_;simp only[Act.put];refine iZ 13 ?_ rfl ?_ hS ?_;rotate_left
 ·(intro w aH;obtain⟨s0,⟨a0,a1,a2,a3,a4⟩,⟨b0,b1,b2,b3,b4⟩⟩:=aH;go_simp;first|done|with_reducible rfl)
 simp only[Act.put];refine cu 14 rfl hS ?_;simp only[Act.put];refine cu 15 rfl hS ?_;simp only[Act.put];refine iZ 16 ?_ rfl ?_ hS ?_;rotate_left
 ·(intro w aH;obtain⟨s0,⟨a0,a1,a2,a3,a4⟩,⟨b0,b1,b2,b3,b4⟩⟩:=aH;go_simp;first|done|with_reducible rfl)
 simp only[Act.put];refine cu 17 rfl hS ?_;simp only[Act.put];refine cu 18 rfl hS ?_;simp only[Act.put];refine cu 19 rfl hS ?_;simp only[Act.put];refine iZ 20 ?_ rfl ?_ hS ?_;rotate_left
 ·(intro w aH;obtain⟨s0,⟨a0,a1,a2,a3,a4⟩,⟨b0,b1,b2,b3,b4⟩⟩:=aH;go_simp;first|done|with_reducible rfl)
 simp only[Act.put];refine cu 21 rfl hS ?_;simp only[Act.put];refine cu 22 rfl hS ?_;simp only[Act.put];refine iZ 23 ?_ rfl ?_ hS ?_;rotate_left
 ·(intro w aH;obtain⟨s0,⟨a0,a1,a2,a3,a4⟩,⟨b0,b1,b2,b3,b4⟩⟩:=aH;go_simp;first|done|with_reducible rfl)
 simp only[Act.put];refine cu 24 rfl hS ?_;simp only[Act.put];refine dJ 25 rfl (fun K hK=>?_);go_simp;refine hK.out _ _ (fun h=>absurd (show false=true from h.symm.trans (by kernel_rfl)) (by decide)) ?_;clear hK K;refine dJ 26 rfl (fun K hK=>?_);go_simp;refine hK.out _ _ (fun h=>absurd (show false=true from h.symm.trans (by kernel_rfl)) (by decide)) ?_;clear hK K;have r1:Room (((((Wd.setCell ⟨q,i*5,none⟩ (vI y.a)).setCell ⟨q,i*5+1,none⟩ (vI y.e)).setCell ⟨q,i*5+2,none⟩ (vI y.h)).setCell ⟨q,i*5+3,none⟩ (.bool y.j)).setCell ⟨q,i*5+4,none⟩ (vI y.i)) q (xs.length*5):=((((rd.set _).set _).set _).set _).set _;generalize gZ:(((((Wd.setCell ⟨q,i*5,none⟩ (vI y.a)).setCell ⟨q,i*5+1,none⟩ (vI y.e)).setCell ⟨q,i*5+2,none⟩ (vI y.h)).setCell ⟨q,i*5+3,none⟩ (.bool y.j)).setCell ⟨q,i*5+4,none⟩ (vI y.i))=W1 at *;obtain⟨u0,e0,g0⟩:=r1 (j*5) (by omega);obtain⟨u1,e1,g1⟩:=r1 (j*5+1) (by omega);obtain⟨u2,e2,g2⟩:=r1 (j*5+2) (by omega);obtain⟨u3,e3,g3⟩:=r1 (j*5+3) (by omega);obtain⟨u4,e4,g4⟩:=r1 (j*5+4) (by omega);refine dJ 27 rfl (fun K hK=>?_);go_simp;refine hK.out _ _ (fun h=>absurd (show false=true from h.symm.trans (by kernel_rfl)) (by decide)) ?_;clear hK K;refine df (by kernel_rfl) ?_ _
 have Rp:(xs.set i y)[j]?=some y:=by
  by_cases e:i=j
  ·subst e;rw[List.getElem?_set_self li]
  ·rw[List.getElem?_set_ne e];exact hj
 have PF:lG (((((W1.setCell ⟨q,j*5,none⟩ (vI x.a)).setCell ⟨q,j*5+1,none⟩ (vI x.e)).setCell ⟨q,j*5+2,none⟩ (vI x.h)).setCell ⟨q,j*5+3,none⟩ (.bool x.j)).setCell ⟨q,j*5+4,none⟩ (vI x.i)) base p q mb n cap ((xs.set i y).set j x):=by
  rw[<-gZ];exact((KH.out.ug Ux).GV hi y (KH.out.ok y (List.mem_of_getElem? hj))).GV Rp x (KH.out.ok x (List.mem_of_getElem? hi))
 have KF:aA (kz p q mb) w (((((W1.setCell ⟨q,j*5,none⟩ (vI x.a)).setCell ⟨q,j*5+1,none⟩ (vI x.e)).setCell ⟨q,j*5+2,none⟩ (vI x.h)).setCell ⟨q,j*5+3,none⟩ (.bool x.j)).setCell ⟨q,j*5+4,none⟩ (vI x.i)):=by
  rw[<-gZ,<-Ux];exact(aA.bN ((Below.refl w.1.size w).drew)).trans (aA.jW (c:=q) (((((((((((aQ.refl q _).setCell _ _).setCell _ _).setCell _ _).setCell _ _).setCell _ _).setCell _ _).setCell _ _).setCell _ _).setCell _ _).setCell _ _) (.inr (.inl rfl)))
 obtain⟨zi,Pf⟩:∃z,((xs.set i y).set j x)[i]?=some z:=⟨_,List.getElem?_eq_getElem (by simpa using li)⟩
 have YA:((xs.set i y).set j x)[j]?=some x:=by rw[List.getElem?_set_self (by simpa using lj)]
 have hle:((xs.set i y).set j x).length=xs.length:=by simp
 have Xl:Hid (aA (kz p q mb) w (((((W1.setCell ⟨q,j*5,none⟩ (vI x.a)).setCell ⟨q,j*5+1,none⟩ (vI x.e)).setCell ⟨q,j*5+2,none⟩ (vI x.h)).setCell ⟨q,j*5+3,none⟩ (.bool x.j)).setCell ⟨q,j*5+4,none⟩ (vI x.i))/\lG (((((W1.setCell ⟨q,j*5,none⟩ (vI x.a)).setCell ⟨q,j*5+1,none⟩ (vI x.e)).setCell ⟨q,j*5+2,none⟩ (vI x.h)).setCell ⟨q,j*5+3,none⟩ (.bool x.j)).setCell ⟨q,j*5+4,none⟩ (vI x.i)) base p q mb n cap ((xs.set i y).set j x)):=⟨KF,PF⟩
 clear KH PF KF Rp rd r1 c0 c1 c2 c3 c4 f0 f1 f2 f3 f4 e0 e1 e2 e3 e4 g0 g1 g2 g3 g4 hS Ux gZ ix jx;generalize (((((W1.setCell ⟨q,j*5,none⟩ (vI x.a)).setCell ⟨q,j*5+1,none⟩ (vI x.e)).setCell ⟨q,j*5+2,none⟩ (vI x.h)).setCell ⟨q,j*5+3,none⟩ (.bool x.j)).setCell ⟨q,j*5+4,none⟩ (vI x.i))=V at *;have KH:=Xl;clear Xl;generalize XK:(xs.set i y).set j x=zs at *;have mh:zs.length=xs.length:=hle;have ix:(i:Int)<(zs.length:Int):=by omega
 have jx:(j:Int)<(zs.length:Int):=by omega
 rw[<-mh]at li lj hl;have HZ:=ay XK;clear hle hi hj XK mh Wd W1;have I1:=Pf;have I4:=YA;clear Pf YA;obtain⟨Yy,Vb⟩:∃hz:bf zi=true,V.1.size=V.1.size:=⟨KH.out.2.ok zi (List.mem_of_getElem? I1),rfl⟩
 have UO:=fU Yy;have hS:(fun X:World=>X.cell? ⟨p,0,none⟩=some (.slice (some ⟨q,0,none⟩) (zs).length cap)/\X.cell? ⟨p,1,none⟩=some (.map (some mb))/\aR X q (i*5) zi) V.drew:=⟨KH.out.2.c0,KH.out.2.c1,(show aR V q (i*5) zi by simpa using KH.out.2.at_ i zi I1).below ((Below.refl V.1.size V).drew) KH.out.2.lq⟩
 have hm:∀w:World,(method 452 73 (.agg #[vI zi.a,vI zi.e,vI zi.h,.bool zi.j,vI zi.i]) "loop.example/g00153/impl.cell").run prog w=.ok (168,.agg #[vI zi.a,vI zi.e,vI zi.h,.bool zi.j,vI zi.i]) w:=fun _=>by kernel_rfl
 go_upto_region 1 with fail
 refine aY (fun z=>z==14) (fun X:World=>X.cell? ⟨p,0,none⟩=some (.slice (some ⟨q,0,none⟩) (zs).length cap)/\X.cell? ⟨p,1,none⟩=some (.map (some mb))/\aR X q (i*5) zi) (by kernel_rfl) ?_;have KD:Hid (Below V.1.size V V.drew):=aN.drew;generalize V.drew=Wd at *;refine cu 0 rfl hS ?_;simp only[Act.put];refine cu 1 rfl hS ?_;simp only[Act.put];refine cu 2 rfl hS ?_;simp only[Act.put];refine iZ 3 ?_ rfl ?_ hS ?_;rotate_left
 ·(intro w aH;obtain⟨s0,s1,⟨a0,a1,a2,a3,a4⟩⟩:=aH;go_simp;first|done|with_reducible rfl)
 simp only[Act.put];refine cu 4 rfl hS ?_;simp only[Act.put];refine cu 5 rfl hS ?_;simp only[Act.put];refine cu 6 rfl hS ?_;simp only[Act.put];refine iZ 7 ?_ rfl ?_ hS ?_;rotate_left
 ·(intro w aH;obtain⟨s0,s1,⟨a0,a1,a2,a3,a4⟩⟩:=aH;go_simp;first|done|with_reducible rfl)
 simp only[Act.put];refine cu 8 rfl hS ?_;simp only[Act.put];refine cu 9 rfl hS ?_;simp only[Act.put];refine iZ 10 ?_ rfl ?_ hS ?_;rotate_left
 ·(intro w aH;obtain⟨s0,s1,⟨a0,a1,a2,a3,a4⟩⟩:=aH;go_simp;first|done|with_reducible rfl)
 simp only[Act.put];refine cu 11 rfl hS ?_;simp only[Act.put];refine cu 13 rfl hS ?_;simp only[Act.put];refine dJ 12 rfl (fun K hK=>?_);go_simp;refine(fH Wd zi).mono ?_;rintro e X2 ⟨rfl,b2⟩;have bX:Below V.1.size V X2:=KD.out.trans (b2.mono KD.out.size);have P2:=KH.out.2.later bX;obtain⟨Y,eZ,sZ,mW,uo⟩:=P2.mp.store (by omega) UO.1 UO.2 i (by omega);have P3:=P2.Bv mW sZ uo;have KX:Hid (aA (kz p q mb) w Y/\lG Y base p q mb (n+1) cap (zs)):=⟨(KH.out.1.trans (aA.bN bX)).trans (aA.mJ mW (.inr (.inr rfl))),P3⟩
 simp only[jE]at eZ;have gF:(fun X:World=>X.cell? ⟨p,0,none⟩=some (.slice (some ⟨q,0,none⟩) (zs).length cap)/\X.cell? ⟨p,1,none⟩=some (.map (some mb))/\aR X q (i*5) zi) X2:=⟨P2.c0,P2.c1,by simpa using P2.at_ i zi I1⟩
 refine hK.out _ _ (fun _=>gF) ?_;clear hK K gF hS P2 P3 bX KD sZ mW uo hm Yy Vb UO KH b2;refine dJ 14 rfl (fun K hK=>?_);go_simp;refine hK.out _ _ (fun h=>absurd (show false=true from h.symm.trans (by kernel_rfl)) (by decide)) ?_;clear hK K eZ;refine df (by kernel_rfl) ?_ _;have KH:=KX;clear KX;generalize Y=V2 at *;obtain⟨Yz,Vd⟩:∃hz:bf x=true,V2.1.size=V2.1.size:=⟨KH.out.2.ok x (List.mem_of_getElem? I4),rfl⟩
 have UQ:=fU Yz;have hS:(fun X:World=>X.cell? ⟨p,0,none⟩=some (.slice (some ⟨q,0,none⟩) (zs).length cap)/\X.cell? ⟨p,1,none⟩=some (.map (some mb))/\aR X q (j*5) x) V2.drew:=⟨KH.out.2.c0,KH.out.2.c1,(show aR V2 q (j*5) x by simpa using KH.out.2.at_ j x I4).below ((Below.refl V2.1.size V2).drew) KH.out.2.lq⟩
 have hm:∀w:World,(method 452 73 (.agg #[vI x.a,vI x.e,vI x.h,.bool x.j,vI x.i]) "loop.example/g00153/impl.cell").run prog w=.ok (168,.agg #[vI x.a,vI x.e,vI x.h,.bool x.j,vI x.i]) w:=fun _=>by kernel_rfl
 go_upto_region 2 with fail
 refine aY (fun z=>z==14) (fun X:World=>X.cell? ⟨p,0,none⟩=some (.slice (some ⟨q,0,none⟩) (zs).length cap)/\X.cell? ⟨p,1,none⟩=some (.map (some mb))/\aR X q (j*5) x) (by kernel_rfl) ?_;have KD:Hid (Below V2.1.size V2 V2.drew):=aN.drew;generalize V2.drew=Wd at *;refine cu 0 rfl hS ?_;simp only[Act.put];refine cu 1 rfl hS ?_;simp only[Act.put];refine cu 2 rfl hS ?_;simp only[Act.put];refine iZ 3 ?_ rfl ?_ hS ?_;rotate_left
 ·(intro w aH;obtain⟨s0,s1,⟨a0,a1,a2,a3,a4⟩⟩:=aH;go_simp;first|done|with_reducible rfl)
 simp only[Act.put];refine cu 4 rfl hS ?_;simp only[Act.put];refine cu 5 rfl hS ?_;simp only[Act.put];refine cu 6 rfl hS ?_;simp only[Act.put];refine iZ 7 ?_ rfl ?_ hS ?_;rotate_left
 ·(intro w aH;obtain⟨s0,s1,⟨a0,a1,a2,a3,a4⟩⟩:=aH;go_simp;first|done|with_reducible rfl)
 simp only[Act.put];refine cu 8 rfl hS ?_;simp only[Act.put];refine cu 9 rfl hS ?_;simp only[Act.put];refine iZ 10 ?_ rfl ?_ hS ?_;rotate_left
 ·(intro w aH;obtain⟨s0,s1,⟨a0,a1,a2,a3,a4⟩⟩:=aH;go_simp;first|done|with_reducible rfl)
 simp only[Act.put];refine cu 11 rfl hS ?_;simp only[Act.put];refine cu 13 rfl hS ?_;simp only[Act.put];refine dJ 12 rfl (fun K hK=>?_);go_simp;refine(fH Wd x).mono ?_;rintro e X2 ⟨rfl,b2⟩;have bX:Below V2.1.size V2 X2:=KD.out.trans (b2.mono KD.out.size);have P2:=KH.out.2.later bX;obtain⟨Y,eZ,sZ,mW,uo⟩:=P2.mp.store (by omega) UQ.1 UQ.2 j (by omega);have P3:=P2.Bv mW sZ uo;have KX:Hid (aA (kz p q mb) w Y/\lG Y base p q mb (n+1+1) cap (zs)):=⟨(KH.out.1.trans (aA.bN bX)).trans (aA.mJ mW (.inr (.inr rfl))),P3⟩
 simp only[jE]at eZ;have gF:(fun X:World=>X.cell? ⟨p,0,none⟩=some (.slice (some ⟨q,0,none⟩) (zs).length cap)/\X.cell? ⟨p,1,none⟩=some (.map (some mb))/\aR X q (j*5) x) X2:=⟨P2.c0,P2.c1,by simpa using P2.at_ j x I4⟩
 refine hK.out _ _ (fun _=>gF) ?_;clear hK K gF hS P2 P3 bX KD sZ mW uo hm Yz Vd UQ KH b2;refine dJ 14 rfl (fun K hK=>?_);go_simp;refine hK.out _ _ (fun h=>absurd (show false=true from h.symm.trans (by kernel_rfl)) (by decide)) ?_;clear hK K eZ;refine df (by kernel_rfl) ?_ _;have KH:=KX;clear KX;go_wp2;refine bodyPost_end (v:=.tuple #[]) (by simp[results,results240,go_sem]) rfl ⟨rfl,by rw[HZ.out];exact KH.out.2,KH.out.1⟩
end tx
namespace tx
open Go.Proofs.Tryz
variable {i:Nat}{x:S5}{xs:List S5}
def gX(xs:List S5)(i:Nat):Int:=rk (aB xs i).a (aB xs i).e
theorem lh(h:xs[i]?=some x):gX xs i=rk x.a x.e:=by
 unfold gX aB;rw[h];rfl
theorem uG(w:World)(base p q mb n cap:Nat)(xs:List S5)(i j:Nat)(x y:S5)(h:lG w base p q mb n cap xs)(hi:xs[i]?=some x)(hj:xs[j]?=some y):
  Calls prog 239 #[.pointer (some ⟨p,0,none⟩),vI (i:Int),vI (j:Int)] w fun e w'=>e=.returned (.bool (decide (rk x.a x.e<rk y.a y.e)))/\Below w.1.size w w':=by
 have li:=(List.getElem?_eq_some_iff.1 hi).1;have lj:=(List.getElem?_eq_some_iff.1 hj).1;have ix:(i:Int)<(xs.length:Int):=by omega
 have jx:(j:Int)<(xs.length:Int):=by omega
 obtain⟨t0,t1,t2,t3,t4⟩:=(show aR w q (i*5) x by simpa using h.at_ i x hi)
 obtain⟨u0,u1,u2,u3,u4⟩:=(show aR w q (j*5) y by simpa using h.at_ j y hj)
 have lift:∀{o:Nat}{u:Value},w.cell? ⟨q,o,none⟩=some u->∀d os,(grow (redrawn w d) os).cell? ⟨q,o,none⟩=some u:=fun {o u} hh d os=>((below_regrown w d os).cell (p:=⟨q,o,none⟩) h.lq).trans hh
 have x0:=lift t0;have y0:=lift u0;have x1:=lift t1;have y1:=lift u1;have x2:=lift t2;have y2:=lift u2;have x3:=lift t3;have y3:=lift u3;have x4:=lift t4;have y4:=lift u4;have z0:=@cell_regrown w ⟨p,0,none⟩ (.slice (some ⟨q,0,none⟩) xs.length cap) h.c0;have k1:=fU (h.ok x (List.mem_of_getElem? hi));have k2:=fU (h.ok y (List.mem_of_getElem? hj));have cA:∀d os,Calls prog 238 #[.agg #[vI x.a,vI x.e,vI x.h,.bool x.j,vI x.i]] (grow (redrawn w d) os) fun e eU=>e=.returned (vI (rk x.a x.e))/\∃p:Regrown,eU=grow (redrawn w p.d) p.os:=fun d os=>Calls.regrown_of (qC _ _ k1.1 k1.2)
 have cB:∀d os,Calls prog 238 #[.agg #[vI y.a,vI y.e,vI y.h,.bool y.j,vI y.i]] (grow (redrawn w d) os) fun e eU=>e=.returned (vI (rk y.a y.e))/\∃p:Regrown,eU=grow (redrawn w p.d) p.os:=fun d os=>Calls.regrown_of (qC _ _ k2.1 k2.2)
 clear lift t0 t1 t2 t3 t4 u0 u1 u2 u3 u4 k1 k2 h hi hj;generalize rk x.a x.e=rx at *;generalize rk y.a y.e=ry at *;generalize x.a=a0 at *;generalize y.a=e0 at *;generalize x.e=a1 at *;generalize y.e=e1 at *;generalize x.h=a2 at *;generalize y.h=e2 at *;generalize x.j=a3 at *;generalize y.j=e3 at *;generalize x.i=a4 at *;generalize y.i=e4 at *;go_enter func239,ntmps239;go_wp2_with fail;refine gP ?_;repeat (go_big_quiet_step (first|(go_at_call_of 238 (Value.agg #[vI a0,vI a1,vI a2,.bool a3,vI a4]);exact cA _ _)|(go_at_call_of 238 (Value.agg #[vI e0,vI e1,vI e2,.bool e3,vI e4]);exact cB _ _)))
 refine wpQuiet_nil ?_;intro _ wP;obtain⟨⟨jZ,aZ⟩,kW⟩:=wP;subst kW;have bq:=below_regrown w jZ aZ;go_wp2;go_ret;exact⟨rfl,bq⟩
theorem Bh{j:Nat}{y:S5}(hi:xs[i]?=some x)(hj:xs[j]?=some y)(k:Nat):gX ((xs.set i y).set j x) k=bC.Fv (gX xs) i j k:=by
 have li:=(List.getElem?_eq_some_iff.1 hi).1;have lj:=(List.getElem?_eq_some_iff.1 hj).1;unfold bC.Fv;by_cases e1:k=i
 ·subst e1;rw[if_pos rfl];by_cases e2:j=k
  ·subst e2;rw[lh (x:=x) (by rw[List.getElem?_set_self (by simpa using lj)]),lh hi]
  ·rw[lh (x:=y) (by rw[List.getElem?_set_ne e2,List.getElem?_set_self li]),lh hj]
 ·rw[if_neg e1];by_cases e2:k=j
  ·subst e2;rw[if_pos rfl,lh (x:=x) (by rw[List.getElem?_set_self (by simpa using lj)]),lh hi]
  ·rw[if_neg e2];unfold gX aB;rw[List.getElem?_set_ne (Ne.symm e2),List.getElem?_set_ne (Ne.symm e1)]
theorem JO(w:World)(base p q mb n cap:Nat)(xs:List S5)(c:Nat)(h:lG w base p q mb n cap xs)(hn:n<=10000)(hl:xs.length<=1000)(hc:c<xs.length)(hu:bC.qX (gX xs) xs.length c):
  Calls prog 214 #[.pointer (some ⟨p,0,none⟩),vI (c:Int)] w fun e w'=>e=.returned (.tuple #[])/\∃n' ys,n'<=n+2*c/\lG w' base p q mb n' cap ys/\ys.Perm xs/\bC.Hp (gX ys) ys.length/\aA (kz p q mb) w w':=by
 have H:Hid (lG w base p q mb n cap xs/\bC.qX (gX xs) xs.length c):=⟨h,hu⟩
 clear h hu;go_enter func214,ntmps214;go_wp2;go_loopw[1] (fun v wr=>∃(d n':Nat) (ys:List S5),v=vI (d:Int)/\d<xs.length/\n'+2*d<=n+2*c/\ys.length=xs.length/\lG wr base p q mb n' cap ys/\ys.Perm xs/\bC.qX (gX ys) ys.length d/\aA (kz p q mb) w wr) (fun v _=>(intOf v).toNat)
 case atStart=>exact⟨c,n,xs,rfl,hc,by omega,rfl,H.out.1,List.Perm.refl _,H.out.2,aA.refl _ _⟩
 case round=>
  obtain⟨d,n',ys,rfl,hd,Mo,hle,hp,jN,hu,hk⟩:=hrel;rcases d with _|e
  ·have KE:Hid (lG wr base p q mb n' cap ys/\ys.Perm xs/\bC.Hp (gX ys) ys.length/\aA (kz p q mb) w wr):=⟨hp,jN,hu.done (.inl rfl),hk⟩
   clear hp jN hu hk;have d0:decide ((0:Int)<((0:Nat):Int))=false:=by simp
   go_wp2;refine bodyPost_end (v:=.tuple #[]) (by simp[results,results214,go_sem]) rfl ⟨rfl,n',ys,by omega,KE.out.1,KE.out.2.1,KE.out.2.2.1,KE.out.2.2.2⟩
  ·have d0:decide ((0:Int)<((e+1:Nat):Int))=true:=by simp
   obtain⟨x,hx⟩:∃x,ys[e+1]?=some x:=⟨_,List.getElem?_eq_getElem (by omega)⟩
   obtain⟨y,hy⟩:∃y,ys[e/2]?=some y:=⟨_,List.getElem?_eq_getElem (by omega)⟩
   have c1:=uG wr base p q mb n' cap ys (e+1) (e/2) x y hp hx hy;have KA:Hid (lG wr base p q mb n' cap ys/\ys.Perm xs/\bC.qX (gX ys) ys.length (e+1)/\aA (kz p q mb) w wr/\ys[e+1]?=some x/\ys[e/2]?=some y/\ys.length=xs.length):=⟨hp,jN,hu,hk,hx,hy,hle⟩
   have Yh:rk x.a x.e=gX ys (e+1):=(lh hx).symm;have O9:rk y.a y.e=gX ys (e/2):=(lh hy).symm;rw[Yh,O9]at c1;clear hp jN hu hk hx hy hle Yh O9;by_cases aK:gX ys (e+1)<gX ys (e/2)
   ·have dl:decide (gX ys (e+1)<gX ys (e/2))=true:=by simpa using aK
    rw[dl]at c1;have Iw:=ay aK;have ea:((e+1:Nat):Int)=(e:Int)+1:=by omega
    have eb:((e/2:Nat):Int)=(e:Int)/2:=by omega
    rw[ea,eb]at c1;clear aK dl ea eb;go_wp2_with fail;refine c1.mono ?_;clear c1;rintro e' w1 ⟨rfl,b1⟩;have c2:=uH w1 base p q mb n' cap ys (e+1) (e/2) x y (KA.out.1.later b1) (by omega) (by have:=KA.out.2.2.2.2.2.2;omega) KA.out.2.2.2.2.1 KA.out.2.2.2.2.2.1;have ea:((e+1:Nat):Int)=(e:Int)+1:=by omega
    have eb:((e/2:Nat):Int)=(e:Int)/2:=by omega
    rw[ea,eb]at c2;have KB:Hid (Below wr.1.size wr w1):=b1;clear ea eb b1;go_wp2_with fail;refine c2.mono ?_;clear c2;rintro e' w2 ⟨rfl,p2,k2⟩;have KE:Hid (lG w2 base p q mb (n'+1+1) cap ((ys.set (e+1) y).set (e/2) x)/\aA (kz p q mb) w w2):=⟨p2,(KA.out.2.2.2.1.trans (aA.bN KB.out)).trans k2⟩
    clear p2 k2;go_wp2;obtain⟨f1,f2,f3,f4,f5,f6,f7⟩:=KA.out;refine⟨⟨e/2,n'+1+1,(ys.set (e+1) y).set (e/2) x,by simp,by omega,by omega,by simpa using f7,KE.out.1,(bC.set_set_perm ys (e+1) (e/2) x y f5 f6).trans f2,?_,KE.out.2⟩,by simp[intOf];omega⟩;have eZ:=f3.step (by omega) (by omega) (by simpa using Iw.out);rw[show(e+1-1)/2=e/2 by omega]at eZ;have zT:gX ((ys.set (e+1) y).set (e/2) x)=bC.Fv (gX ys) (e+1) (e/2):=funext fun k=>Bh f5 f6 k
    rw[zT];simpa using eZ
   ·have dl:decide (gX ys (e+1)<gX ys (e/2))=false:=by simpa using aK
    rw[dl]at c1;have KE:Hid (bC.Hp (gX ys) ys.length):=KA.out.2.2.1.done (.inr (by simp at aK ⊢;omega));have ea:((e+1:Nat):Int)=(e:Int)+1:=by omega
    have eb:((e/2:Nat):Int)=(e:Int)/2:=by omega
    rw[ea,eb]at c1;clear aK dl ea eb;go_wp2_with fail;refine c1.mono ?_;clear c1;rintro e' w1 ⟨rfl,b1⟩;have KB:Hid (Below wr.1.size wr w1):=b1;clear b1;go_wp2;refine bodyPost_ret (v:=.tuple #[]) (by simp[results,results214,go_sem]) rfl ⟨rfl,n',ys,by omega,KA.out.1.later KB.out,KA.out.2.1,KE.out,KA.out.2.2.2.1.trans (aA.bN KB.out)⟩
end tx
namespace tx
open Go.Proofs.Tryz
theorem JP(w:World)(base p q mb n cap:Nat)(xs:List S5)(h:lG w base p q mb n cap xs)(hn:n<=10000)(hl:xs.length<=1000)(hu:bC.mf (gX xs) xs.length 0):
  Calls prog 241 #[.pointer (some ⟨p,0,none⟩),vI 0] w fun e w'=>e=.returned (.tuple #[])/\∃n' ys,n'<=n+2*xs.length/\lG w' base p q mb n' cap ys/\ys.Perm xs/\bC.Hp (gX ys) ys.length/\aA (kz p q mb) w w':=by
 have H:Hid (lG w base p q mb n cap xs/\bC.mf (gX xs) xs.length 0):=⟨h,hu⟩
 clear h hu;go_enter func241,ntmps241;go_wp2;go_loopw[1] (fun v wr=>∃(d n':Nat) (ys:List S5),v=vI (d:Int)/\(d<xs.length\/d=0)/\n'<=n+2*d/\ys.length=xs.length/\lG wr base p q mb n' cap ys/\ys.Perm xs/\bC.mf (gX ys) ys.length d/\aA (kz p q mb) w wr) (fun v _=>2000-(intOf v).toNat)
 case atStart=>exact⟨0,n,xs,rfl,.inr rfl,by omega,rfl,H.out.1,List.Perm.refl _,H.out.2,aA.refl _ _⟩
 case round=>
  obtain⟨d,n',ys,rfl,hd,Mo,hle,hp,jN,hu,hk⟩:=hrel;have KA:Hid (lG wr base p q mb n' cap ys/\ys.Perm xs/\bC.mf (gX ys) ys.length d/\aA (kz p q mb) w wr/\ys.length=xs.length):=⟨hp,jN,hu,hk,hle⟩
  clear hp jN hu hk hle;have dj:d<=1000:=by omega
  go_wp2;generalize wr=W0 at *;go_loopw[4,5] (fun v4 v5 wr=>∃l b:Nat,v4=vI (l:Int)/\v5=vI (b:Int)/\2*d+1<=b/\b<=2*d+3/\Below W0.1.size W0 wr/\(l=d\/(2*d+1<=l/\l<b/\l<ys.length/\gX ys l<gX ys d))/\(∀j,2*d+1<=j->j<b->j<ys.length->gX ys l<=gX ys j)) (fun _ v5 _=>2*d+3-(intOf v5).toNat)
  case atStart=>exact⟨d,2*d+1,rfl,by simp,by omega,by omega,aN,.inl rfl,fun j h1 h2=>by omega⟩
  case round=>
   obtain⟨l,b,rfl,rfl,IY,lu,aD,sS,I8⟩:=hrel;have hlen:=KA.out.2.2.2.2;by_cases UC:b<=2*d+2
   ·have db:decide ((b:Int)<=2*(d:Int)+2)=true:=by simp;omega
    have p0:=(KA.out.1.later aD).c0;rw[hlen]at p0;by_cases yx:b<xs.length
    ·have dn:decide ((b:Int)<(xs.length:Int))=true:=by simp;omega
     have mh:l<ys.length:=by omega
     obtain⟨x,hx⟩:∃x,ys[b]?=some x:=⟨_,List.getElem?_eq_getElem (by omega)⟩
     obtain⟨y,hy⟩:∃y,ys[l]?=some y:=⟨_,List.getElem?_eq_getElem mh⟩
     have c1:=uG wr base p q mb n' cap ys b l x y (KA.out.1.later aD) hx hy;rw[(lh hx).symm,(lh hy).symm]at c1;have KB:Hid (Below W0.1.size W0 wr/\(l=d\/(2*d+1<=l/\l<b/\l<ys.length/\gX ys l<gX ys d))/\(∀j,2*d+1<=j->j<b->j<ys.length->gX ys l<=gX ys j)/\ys.length=xs.length):=⟨aD,sS,I8,hlen⟩
     clear hx hy aD sS I8 hlen mh;by_cases aK:gX ys b<gX ys l
     ·have dl:decide (gX ys b<gX ys l)=true:=by simpa using aK
      rw[dl]at c1;have Iw:=ay aK;clear aK dl;go_wp2_with fail;refine c1.mono ?_;clear c1;rintro e' w1 ⟨rfl,b1⟩;have KC:Hid (Below W0.1.size W0 w1):=KB.out.1.trans (b1.mono KB.out.1.size);clear b1 p0;go_wp2;obtain⟨_,g1,g2,g3⟩:=KB.out;have g4:=Iw.out;refine⟨⟨b,b+1,rfl,by simp,by omega,by omega,KC.out,.inr ⟨by omega,by omega,by omega,?_⟩,fun j h1 h2 h3=>?_⟩,by simp[intOf];omega⟩
      ·rcases g1 with rfl|g1
       ·exact g4
       ·have:=g1.2.2.2;omega
      ·by_cases e:j=b
       ·subst e;exact Int.le_refl _
       ·have:=g2 j h1 (by omega) h3;omega
     ·have dl:decide (gX ys b<gX ys l)=false:=by simpa using aK
      rw[dl]at c1;have Iw:=ay aK;clear aK dl;go_wp2_with fail;refine c1.mono ?_;clear c1;rintro e' w1 ⟨rfl,b1⟩;have KC:Hid (Below W0.1.size W0 w1):=KB.out.1.trans (b1.mono KB.out.1.size);clear b1 p0;go_wp2;obtain⟨_,g1,g2,g3⟩:=KB.out;have g4:=Iw.out;refine⟨⟨l,b+1,rfl,by simp,by omega,by omega,KC.out,?_,fun j h1 h2 h3=>?_⟩,by simp[intOf];omega⟩
      ·rcases g1 with g1|g1
       ·exact .inl g1
       ·exact .inr ⟨g1.1,by omega,g1.2.2.1,g1.2.2.2⟩
      ·by_cases e:j=b
       ·subst e;omega
       ·exact g2 j h1 (by omega) h3
    ·have dn:decide ((b:Int)<(xs.length:Int))=false:=by simp;omega
     have KB:Hid (Below W0.1.size W0 wr/\(l=d\/(2*d+1<=l/\l<b/\l<ys.length/\gX ys l<gX ys d))/\(∀j,2*d+1<=j->j<b->j<ys.length->gX ys l<=gX ys j)/\ys.length=xs.length):=⟨aD,sS,I8,hlen⟩
     clear aD sS I8 hlen;go_wp2;obtain⟨g0,g1,g2,g3⟩:=KB.out;refine⟨⟨l,b+1,rfl,by simp,by omega,by omega,g0,?_,fun j h1 h2 h3=>?_⟩,by simp[intOf];omega⟩
     ·rcases g1 with g1|g1
      ·exact .inl g1
      ·exact .inr ⟨g1.1,by omega,g1.2.2.1,g1.2.2.2⟩
     ·exact g2 j h1 (by omega) h3
   ·have db:decide ((b:Int)<=2*(d:Int)+2)=false:=by simp;omega
    have KB:Hid (Below W0.1.size W0 wr/\(l=d\/(2*d+1<=l/\l<=2*d+2/\l<ys.length/\gX ys l<gX ys d))/\(∀j,2*d+1<=j->j<=2*d+2->j<ys.length->gX ys l<=gX ys j)):=⟨aD,by
     rcases sS with g|g
     ·exact .inl g
     ·exact .inr ⟨g.1,by omega,g.2.2.1,g.2.2.2⟩,fun j h1 h2 h3=>I8 j h1 (by omega) h3⟩
    clear sS I8 aD IY lu UC;by_cases OX:l=d
    ·have ql:((l:Int)==(d:Int))=true:=by simp;omega
     have KE:Hid (bC.Hp (gX ys) ys.length):=KA.out.2.2.1.done (fun h1=>by have:=KB.out.2.2 (2*d+1) (by omega) (by omega) h1;rwa[OX]at this) (fun h1=>by have:=KB.out.2.2 (2*d+2) (by omega) (by omega) h1;rwa[OX]at this);have HD:Hid (d<xs.length\/d=0):=hd;clear OX hlen hd;go_wp2;obtain⟨f1,f2,f3,f4,f5⟩:=KA.out;have f6:=HD.out;refine bodyPost_ret (v:=.tuple #[]) (by simp[results,results241,go_sem]) rfl ⟨rfl,n',ys,by omega,f1.later KB.out.1,f2,KE.out,f4.trans (aA.bN KB.out.1)⟩
    ·have ql:((l:Int)==(d:Int))=false:=by simp;omega
     have UT:2*d+1<=l/\l<=2*d+2/\l<ys.length/\gX ys l<gX ys d:=KB.out.2.1.resolve_left OX;obtain⟨x,hx⟩:∃x,ys[d]?=some x:=⟨_,List.getElem?_eq_getElem (by omega)⟩
     obtain⟨y,hy⟩:∃y,ys[l]?=some y:=⟨_,List.getElem?_eq_getElem UT.2.2.1⟩
     have c2:=uH wr base p q mb n' cap ys d l x y (KA.out.1.later KB.out.1) (by omega) (by omega) hx hy;have KX:Hid (ys[d]?=some x/\ys[l]?=some y/\2*d+1<=l/\l<=2*d+2/\l<ys.length/\gX ys l<gX ys d):=⟨hx,hy,UT⟩
     clear hx hy UT OX hlen;go_wp2_with fail;refine c2.mono ?_;clear c2;rintro e' w2 ⟨rfl,p2,k2⟩;have KE:Hid (lG w2 base p q mb (n'+1+1) cap ((ys.set d y).set l x)/\aA (kz p q mb) w w2):=⟨p2,(KA.out.2.2.2.1.trans (aA.bN KB.out.1)).trans k2⟩
     clear p2 k2;go_wp2;obtain⟨f1,f2,f3,f4,f5⟩:=KA.out;obtain⟨g1,g2,g3,g4,g5,g6⟩:=KX.out;refine⟨⟨l,n'+1+1,(ys.set d y).set l x,rfl,.inl (by omega),by omega,by simpa using f5,KE.out.1,(bC.set_set_perm ys d l x y g1 g2).trans f2,?_,KE.out.2⟩,by simp[intOf];omega⟩;have eZ:=f3.step (l:=l) (by omega) g5 g6 (fun h1=>KB.out.2.2 _ (by omega) (by omega) h1) (fun h1=>KB.out.2.2 _ (by omega) (by omega) h1);have zT:gX ((ys.set d y).set l x)=bC.Fv (gX ys) d l:=funext fun k=>Bh g1 g2 k
     rw[zT];simpa using eZ
end tx
namespace tx
open Go.Proofs.Tryz
variable {W:World}{xs:List S5}
theorem aR.jY{V:World}{b o:Nat}{s:S5}(h:aR W b o s)(e:V.1[b]?=W.1[b]?):aR V b o s:=
 ⟨(World.cell?_of_block (a:=⟨b,o,none⟩) e).trans h.c0,(World.cell?_of_block (a:=⟨b,o+1,none⟩) e).trans h.c1,(World.cell?_of_block (a:=⟨b,o+2,none⟩) e).trans h.c2,(World.cell?_of_block (a:=⟨b,o+3,none⟩) e).trans h.c3,(World.cell?_of_block (a:=⟨b,o+4,none⟩) e).trans h.c4⟩
theorem lG.trunc{base p q mb n cap:Nat}(h:lG W base p q mb n cap xs)(m:Nat)(hm:m<=xs.length):lG (W.setCell ⟨p,0,none⟩ (.slice (some ⟨q,0,none⟩) m cap)) base p q mb n cap (xs.take m):=by
 have Ik:(xs.take m).length=m:=by rw[List.length_take];omega
 have hq:(W.setCell ⟨p,0,none⟩ (.slice (some ⟨q,0,none⟩) m cap)).1[q]?=W.1[q]?:=Below.heap_setCell _ _ _ _ (fun e=>h.pq e.symm);refine⟨by rw[Ik];exact ax h.c0,(ae (by omega)).trans h.c1,fun j=>by rw[World.frozen?_setCell];exact h.fz j,fun i s e=>?_,fun j hj=>?_,by have:=h.cp;omega,h.mp.aj (Below.heap_setCell _ _ _ _ (fun e=>h.pm e.symm)),fun s hs=>h.ok s (List.mem_of_mem_take hs),h.pq,h.pm,h.qm,h.bp,h.bq,h.bm,by simpa[World.setCell]using h.lp,by simpa[World.setCell]using h.lq⟩
 ·rw[List.getElem?_take]at e;split at e
  ·exact(h.at_.aj hq) i s e
  ·cases e
 ·exact(h.rm.aj hq) j (by rw[Ik]at hj;have:m*5<=xs.length*5:=Nat.mul_le_mul_right 5 hm;omega)
theorem VQ{m:Nat}{x y:S5}(hl:xs.length=m+1)(hx:xs[0]?=some x)(hy:xs[m]?=some y):((xs.set 0 y).set m x)[m]?=some x/\xs.Perm (x::((xs.set 0 y).set m x).take m):=by
 have h1:((xs.set 0 y).set m x)[m]?=some x:=by rw[List.getElem?_set_self (by simp;omega)]
 have h2:=bC.set_set_perm xs 0 m x y hx hy;have so:((xs.set 0 y).set m x).length=m+1:=by simpa using hl
 refine⟨h1,h2.symm.trans ?_⟩;generalize (xs.set 0 y).set m x=zs at *
 have h3:zs=zs.take m++[x]:=by
  have e:zs.take (m+1)=zs:=List.take_of_length_le (by omega);have:=List.take_add_one (l:=zs) (i:=m);rw[h1,e]at this;simpa using this
 exact(List.Perm.of_eq h3).trans List.perm_append_comm
theorem JQ(w:World)(base p q mb n cap m:Nat)(xs:List S5)(x:S5)(h:lG w base p q mb n cap xs)(hn:n<=9000)(hl:xs.length=m+1)(I8:m<=100)(hx:xs[0]?=some x)(hu:bC.Hp (gX xs) xs.length):
  Calls prog 215 #[.pointer (some ⟨p,0,none⟩)] w fun e w'=>e=.returned (.agg #[vI x.a,vI x.e,vI x.h,.bool x.j,vI x.i])/\∃n' ys,n'<=n+2+2*m/\lG w' base p q mb n' cap ys/\xs.Perm (x::ys)/\bC.Hp (gX ys) ys.length/\aA (kz p q mb) w w':=by
 obtain⟨y,hy⟩:∃y,xs[m]?=some y:=⟨_,List.getElem?_eq_getElem (by omega)⟩
 obtain⟨W0,dS⟩:∃W,W=w.alloc (.cells #[vI 0,vI 0,vI 0,.bool false,vI 0] 73):=⟨_,rfl⟩
 have b0:Below w.1.size w W0:=by rw[dS];exact aN.alloc aU _
 have h0:=h.later b0;have zr:W0.1[w.1.size]?=some (.cells #[vI 0,vI 0,vI 0,.bool false,vI 0] 73 (0,0)):=by rw[dS];exact heap_alloc_new w _
 have p0:=h0.c0;rw[hl,dS]at p0;have sb:IntKind.i64.wrap (((m+1:Nat):Int)-1)=(m:Int):=by simp[IntKind.wrap,IntKind.bits,IntKind.signed];omega
 have c1:=uH W0 base p q mb n cap xs 0 m x y h0 (by omega) (by omega) hx hy;obtain⟨lL,nL⟩:=VQ hl hx hy
 have El:bC.mf (gX (((xs.set 0 y).set m x).take m)) m 0:=by
  rw[hl]at hu;have hd:=bC.mf.PV hu;have zT:gX ((xs.set 0 y).set m x)=bC.Fv (gX xs) 0 m:=funext fun k=>Bh hx hy k
  rw[<-zT]at hd;refine hd.congr (fun i hi=>?_);unfold gX aB;rw[List.getElem?_take,if_pos hi]
 have H:Hid (Below w.1.size w W0/\w.1.size<W0.1.size/\W0.1[w.1.size]?=some (.cells #[vI 0,vI 0,vI 0,.bool false,vI 0] 73 (0,0))/\((xs.set 0 y).set m x)[m]?=some x/\xs.Perm (x::((xs.set 0 y).set m x).take m)/\bC.mf (gX (((xs.set 0 y).set m x).take m)) m 0/\bf x=true/\p≠w.1.size/\q≠w.1.size/\mb≠w.1.size):=⟨b0,by rw[dS];simp,zr,lL,nL,El,h.ok x (List.mem_of_getElem? hx),by have:=h.lp;omega,by have:=h.lq;omega,by have:=h.mp.lt;omega⟩
 have qV:((xs.set 0 y).set m x).length=m+1:=by simpa using hl
 clear h h0 b0 zr lL nL El hu hx hy;generalize (xs.set 0 y).set m x=zs at *;go_enter func215,ntmps215;go_wp2_with fail;rw[<-dS];clear dS;refine c1.mono ?_;clear c1 p0;rintro e w1 ⟨rfl,p1,k1⟩;have e0:=p1.c0;rw[qV]at e0;obtain⟨t0,t1,t2,t3,t4⟩:=(show aR w1 q (m*5) x by simpa using p1.at_ m x H.out.2.2.2.1)
 have mx:(m:Int)<((m+1:Nat):Int):=by omega
 obtain⟨W1,gZ⟩:∃W,W=w1.alloc (.cells #[vI x.a,vI x.e,vI x.h,.bool x.j,vI x.i] 73):=⟨_,rfl⟩
 have b1:Below w1.1.size w1 W1:=by rw[gZ];exact aN.alloc aU _
 have z1:W1.1.size=w1.1.size+1:=by rw[gZ];simp
 have e1:W1.cell? ⟨p,0,none⟩=some (.slice (some ⟨q,0,none⟩) (m+1) cap):=(b1.cell (p:=⟨p,0,none⟩) p1.lp).trans e0;have f1:=(p1.later b1).fz 0;have zQ:=p1.cp;rw[qV]at zQ;have bx1:aR W1 w1.1.size 0 x:=by rw[gZ];exact aR.box w1 x _
 have pt:=(p1.later b1).trunc m (by omega);obtain⟨W2,y9⟩:∃W,W=W1.setCell ⟨p,0,none⟩ (.slice (some ⟨q,0,none⟩) m cap):=⟨_,rfl⟩
 rw[<-y9]at pt;have wI:p≠w1.1.size:=by have:=p1.lp;omega
 have Xx:aR W2 w1.1.size 0 x:=by
  rw[y9];exact aR.jY bx1 (Below.heap_setCell _ _ _ _ (fun e=>wI e.symm))
 have K2:Hid (lG W2 base p q mb (n+1+1) cap (zs.take m)/\aR W2 w1.1.size 0 x/\aA (kz p q mb) w W2/\w1.1.size<W2.1.size/\W2.1[w.1.size]?=some (.cells #[vI 0,vI 0,vI 0,.bool false,vI 0] 73 (0,0))/\w.1.size<w1.1.size/\p≠w1.1.size/\q≠w1.1.size/\mb≠w1.1.size):=by
  have kk:aA (kz p q mb) w1 W2:=by
   rw[y9];exact(aA.bN b1).trans (aA.rW _ _ (.inl rfl))
  have e8:¬kz p q mb w.1.size:=by
   rintro (e|e|e)
   ·exact H.out.2.2.2.2.2.2.2.1 e.symm
   ·exact H.out.2.2.2.2.2.2.2.2.1 e.symm
   ·exact H.out.2.2.2.2.2.2.2.2.2 e.symm
  have YC:=k1.trans kk;exact⟨pt,Xx,(aA.bN H.out.1).trans YC,by rw[y9];simp[World.setCell,z1],(YC.block _ H.out.2.1 e8).trans H.out.2.2.1,Nat.lt_of_lt_of_le H.out.2.1 k1.size,wI,by have:=p1.lq;omega,by have:=p1.mp.lt;omega⟩
 clear p1 k1 b1 z1 bx1 Xx pt wI;rw[gZ]at y9 e1 f1;have eL:(m:Int)<=(cap:Int):=by omega
 go_upto_region 5 with fail
 rw[<-y9];clear y9 gZ e0 e1 f1 t0 t1 t2 t3 t4 W1;have hk:=fU H.out.2.2.2.2.2.2.1;obtain⟨lb,Gb⟩:∃lb,lb=w1.1.size:=⟨_,rfl⟩
 rw[<-Gb]at K2 ⊢;have pa:Hid (lb=w1.1.size):=Gb;clear Gb;have hS:(fun X:World=>X.cell? ⟨p,1,none⟩=some (.map (some mb))/\aR X lb 0 x) W2.drew:=⟨K2.out.1.c1,K2.out.2.1.below ((Below.refl W2.1.size W2).drew) K2.out.2.2.2.1⟩
 have hm:∀w:World,(method 452 73 (.agg #[vI x.a,vI x.e,vI x.h,.bool x.j,vI x.i]) "loop.example/g00153/impl.cell").run prog w=.ok (168,.agg #[vI x.a,vI x.e,vI x.h,.bool x.j,vI x.i]) w:=fun _=>by kernel_rfl
 refine aY (fun _=>false) (fun X:World=>X.cell? ⟨p,1,none⟩=some (.map (some mb))/\aR X lb 0 x) (by kernel_rfl) ?_;have KD:Hid (Below W2.1.size W2 W2.drew):=aN.drew;generalize W2.drew=Wd at *;refine cu 0 rfl hS ?_;simp only[Act.put];refine cu 1 rfl hS ?_;simp only[Act.put];refine cu 2 rfl hS ?_;simp only[Act.put];refine iZ 3 ?_ rfl ?_ hS ?_;rotate_left
 ·(intro w aH;obtain⟨s1,⟨a0,a1,a2,a3,a4⟩⟩:=aH;go_simp;first|done|with_reducible rfl)
 simp only[Act.put];refine iZ 4 ?_ rfl ?_ hS ?_;rotate_left
 ·(intro w aH;obtain⟨s1,⟨a0,a1,a2,a3,a4⟩⟩:=aH;go_simp;first|done|with_reducible rfl)
 simp only[Act.put];refine cu 5 rfl hS ?_;simp only[Act.put];refine dJ 6 rfl (fun K hK=>?_);go_simp;refine(fH Wd x).mono ?_;rintro e X2 ⟨rfl,b2⟩;have bX:Below W2.1.size W2 X2:=KD.out.trans (b2.mono KD.out.size);have P2:=K2.out.1.later bX;obtain⟨Y,eZ,sZ,mW,uo⟩:=P2.mp.drop hk.1 hk.2 0;have P3:=P2.Bv mW sZ uo;have gF:(fun X:World=>X.cell? ⟨p,1,none⟩=some (.map (some mb))/\aR X lb 0 x) X2:=⟨P2.c1,K2.out.2.1.below bX K2.out.2.2.2.1⟩
 have K3:Hid (lG Y base p q mb (n+1+1) cap (zs.take m)/\aR Y lb 0 x/\aA (kz p q mb) w Y/\lb<Y.1.size/\Y.1[w.1.size]?=some (.cells #[vI 0,vI 0,vI 0,.bool false,vI 0] 73 (0,0))/\w.1.size<lb/\p≠lb/\q≠lb/\mb≠lb):=by
  obtain⟨_,g1,g2,g3,g4,g5,g6,g7,g8⟩:=K2.out;have dK:=bX.size;refine⟨P3,aR.jY (gF.2) (mW.block lb (by omega) (Ne.symm g8)),(g2.trans (aA.bN bX)).trans (aA.mJ mW (.inr (.inr rfl))),by rw[uo];omega,?_,g5,g6,g7,g8⟩;exact(mW.block _ (by omega) (fun e=>H.out.2.2.2.2.2.2.2.2.2 e.symm)).trans ((bX.block _ (by omega)).trans g4)
 simp only[jE]at eZ;refine hK.out _ _ (fun _=>gF) ?_;have jX:(fun X:World=>X.cell? ⟨p,1,none⟩=some (.map (some mb))/\aR X lb 0 x) Y:=⟨K3.out.1.c1,K3.out.2.1⟩
 clear hK K gF hS P2 P3 bX KD sZ mW uo hm hk b2 K2;refine dJ 7 rfl (fun K hK=>?_);go_simp;refine hK.out _ _ (fun _=>jX) ?_;clear hK K eZ jX;refine df (by kernel_rfl) ?_ _;have aK:(zs.take m).length=m:=by rw[List.length_take];omega
 have c3:=JP Y base p q mb (n+1+1) cap (zs.take m) K3.out.1 (by omega) (by omega) (by rw[aK];exact H.out.2.2.2.2.2.1);rw[aK]at c3;have Iw:=ay aK;clear aK;go_wp2_with fail;refine c3.mono ?_;clear c3;rintro e w5 ⟨rfl,n5,ys,eN,p5,YU,tu,k5⟩;have Vw:∀b,b≠p->b≠q->b≠mb->¬kz p q mb b:=fun b h1 h2 h3 h=>by rcases h with h|h|h;exact h1 h;exact h2 h;exact h3 h
 obtain⟨_,g1,g2,g3,g4,g5,g6,g7,g8⟩:=K3.out;obtain⟨t0,t1,t2,t3,t4⟩:=aR.jY g1 (k5.block lb g3 (Vw lb (Ne.symm g6) (Ne.symm g7) (Ne.symm g8)));have BG:=(k5.block w.1.size (by omega) (Vw _ (Ne.symm H.out.2.2.2.2.2.2.2.1) (Ne.symm H.out.2.2.2.2.2.2.2.2.1) (Ne.symm H.out.2.2.2.2.2.2.2.2.2))).trans g4;have r0:w5.cell? ⟨w.1.size,0,none⟩=some (vI 0):=by rw[cell_of_row w5 _ 0 _ _ _ BG];rfl
 have r1:w5.cell? ⟨w.1.size,1,none⟩=some (vI 0):=by rw[cell_of_row w5 _ 1 _ _ _ BG];rfl
 have r2:w5.cell? ⟨w.1.size,2,none⟩=some (vI 0):=by rw[cell_of_row w5 _ 2 _ _ _ BG];rfl
 have r3:w5.cell? ⟨w.1.size,3,none⟩=some (.bool false):=by rw[cell_of_row w5 _ 3 _ _ _ BG];rfl
 have r4:w5.cell? ⟨w.1.size,4,none⟩=some (vI 0):=by rw[cell_of_row w5 _ 4 _ _ _ BG];rfl
 have q0:w5.frozen? ⟨w.1.size,0,none⟩=false:=frozen_of_row w5 _ 0 _ _ BG;have q1:w5.frozen? ⟨w.1.size,1,none⟩=false:=frozen_of_row w5 _ 1 _ _ BG;have q2:w5.frozen? ⟨w.1.size,2,none⟩=false:=frozen_of_row w5 _ 2 _ _ BG;have q3:w5.frozen? ⟨w.1.size,3,none⟩=false:=frozen_of_row w5 _ 3 _ _ BG;have q4:w5.frozen? ⟨w.1.size,4,none⟩=false:=frozen_of_row w5 _ 4 _ _ BG;have KE:Hid (n5<=n+2+2*m/\lG w5 base p q mb n5 cap ys/\xs.Perm (x::ys)/\bC.Hp (gX ys) ys.length/\aA (kz p q mb) w w5):=⟨by omega,p5,H.out.2.2.2.2.1.trans (List.Perm.cons x YU.symm),tu,g2.trans k5⟩
 have HP:Hid (p≠w.1.size/\q≠w.1.size/\mb≠w.1.size):=H.out.2.2.2.2.2.2.2;simp only[Nat.zero_add]at t0 t1 t2 t3 t4;clear g1 g2 g3 g4 g5 g6 g7 g8 BG Vw p5 YU tu k5 eN H K3 qV Iw zQ;go_wp2;refine bodyPost_ret (v:=.agg #[vI x.a,vI x.e,vI x.h,.bool x.j,vI x.i]) (by simp[results,results215,go_sem,r0,r1,r2,r3,r4]) rfl ⟨rfl,n5,ys,KE.out.1,?_,KE.out.2.2.1,KE.out.2.2.2.1,?_⟩
 ·refine KE.out.2.1.aL (by simp[World.setCell]) (fun b hb=>?_)
  have yx:b≠w.1.size:=by
   rcases hb with rfl|rfl|rfl
   ·exact HP.out.1
   ·exact HP.out.2.1
   ·exact HP.out.2.2
  exact(Below.heap_setCell _ _ _ _ yx).trans ((Below.heap_setCell _ _ _ _ yx).trans ((Below.heap_setCell _ _ _ _ yx).trans ((Below.heap_setCell _ _ _ _ yx).trans (Below.heap_setCell _ _ _ _ yx))))
 ·have kk:=KE.out.2.2.2.2;refine⟨kk.os,kk.tape,kk.output,by simpa[World.setCell]using kk.size,fun b hb zZ=>?_⟩;have yx:b≠w.1.size:=by omega
  exact((Below.heap_setCell _ _ _ _ yx).trans ((Below.heap_setCell _ _ _ _ yx).trans ((Below.heap_setCell _ _ _ _ yx).trans ((Below.heap_setCell _ _ _ _ yx).trans (Below.heap_setCell _ _ _ _ yx))))).trans (kk.block b hb zZ)
end tx
namespace tx
open Go.Proofs.Tryz
variable {x:S5}
def jD(s:S5):Int:=rk s.a s.e
def TD:Value->Nat
 | .slice _ n _=>n
 | _=>0
theorem DI{xs:List S5}{i:Nat}(h:xs[i]?=some x):gX xs i=jD x:=lh h
theorem YZ{ys:List S5}(h:bC.Hp (gX ys) ys.length)(hx:ys[0]?=some x):∀b∈ys,jD x<=jD b:=fun b hb=>by
 obtain⟨i,hi,rfl⟩:=List.getElem_of_mem hb;have:=h.top i hi;rwa[DI hx,DI (List.getElem?_eq_getElem hi)]at this
theorem tT(w:World)(base p q mb n cap:Nat)(xs:List S5)(h:lG w base p q mb n cap xs)(hn:n<=5000)(hl:xs.length<=13)(hu:bC.Hp (gX xs) xs.length)(hd:xs.Pairwise (fun a b=>jD a≠jD b)):
  Calls prog 171 #[.pointer (some ⟨p,0,none⟩)] w fun e w'=>∃v out,e=.returned v/\fC w' w.1.size v out/\out.Perm xs/\out.Pairwise (fun a b=>jD a<jD b)/\aA (kz p q mb) w w':=by
 have En:p<w.1.size/\q<w.1.size/\mb<w.1.size:=⟨h.lp,h.lq,h.mp.lt⟩
 have H:Hid (lG w base p q mb n cap xs/\bC.Hp (gX xs) xs.length/\xs.Pairwise (fun a b=>jD a≠jD b)/\p<w.1.size/\q<w.1.size/\mb<w.1.size):=⟨h,hu,hd,En⟩
 clear h hu hd En;go_enter func171,ntmps171;go_wp2;go_loopw[3] (fun v wr=>∃(n':Nat) (ys out:List S5),fC wr w.1.size v out/\lG wr base p q mb n' cap ys/\bC.Hp (gX ys) ys.length/\(out++ys).Perm xs/\out.Pairwise (fun a b=>jD a<jD b)/\(∀a∈out,∀b∈ys,jD a<jD b)/\n'+60*ys.length<=n+60*xs.length/\aA (kz p q mb) w wr) (fun v _=>100-TD v)
 case atStart=>exact⟨n,xs,[],fC.nil _ _,H.out.1,H.out.2.1,by simp,by simp,by simp,Nat.le_refl _,aA.refl _ _⟩
 case round=>
  obtain⟨n',ys,out,eX,hp,hu,jN,Rx,aK,Mo,hk⟩:=hrel;obtain⟨a3,k3,rfl,-⟩:=eX.form;have hlen:out.length+ys.length=xs.length:=by have:=jN.length_eq;simpa using this
  have p0:=hp.c0
  cases RA:ys with
  | nil=>
   subst RA;have KE:Hid (fC wr w.1.size (.slice a3 out.length k3) out/\out.Perm xs/\out.Pairwise (fun a b=>jD a<jD b)/\aA (kz p q mb) w wr):=⟨eX,by simpa using jN,Rx,hk⟩
   simp only[List.length_nil]at p0;clear eX hp hu jN Rx aK hk hlen Mo;go_wp2;go_ret;exact⟨_,out,rfl,KE.out.1,KE.out.2.1,KE.out.2.2.1,KE.out.2.2.2⟩
  | cons x r=>
   have hx:ys[0]?=some x:=by rw[RA];rfl
   have Pe:ys.length=r.length+1:=by rw[RA];rfl
   have c1:=JQ wr base p q mb n' cap r.length ys x hp (by omega) Pe (by omega) hx hu;rw[Pe]at p0;have d0:decide ((0:Int)<((r.length+1:Nat):Int))=true:=by simp
   have F6:(out++ys).Pairwise (fun a b=>jD a≠jD b):=(jN.symm.pairwise_iff (fun {a b} (h:jD a≠jD b)=>h.symm)).1 H.out.2.2.1;have KA:Hid (fC wr w.1.size (.slice a3 out.length k3) out/\(out++ys).Perm xs/\out.Pairwise (fun a b=>jD a<jD b)/\(∀a∈out,∀b∈ys,jD a<jD b)/\aA (kz p q mb) w wr/\(∀b∈ys,jD x<=jD b)/\x∈ys/\(out++ys).Pairwise (fun a b=>jD a≠jD b)/\ys.length=r.length+1):=⟨eX,jN,Rx,aK,hk,YZ hu hx,List.mem_of_getElem? hx,F6,Pe⟩
   clear eX hp hu jN Rx aK hk hx F6 RA;go_wp2_with fail;refine c1.mono ?_;clear c1 p0;rintro e w1 ⟨rfl,n1,zs,Rt,p1,M5,Mr,k1⟩;obtain⟨g1,g2,g3,g4,g5,g6,g7,g8,g9⟩:=KA.out
   have I9:∀b,w.1.size<=b->¬kz p q mb b:=fun b hb h=>by
    obtain⟨_,_,_,l1,l2,l3⟩:=H.out;rcases h with h|h|h<;>omega
   have jB:fC w1 w.1.size (.slice a3 out.length k3) out:=g1.aL (fun b hb aK _=>k1.block b aK (I9 b hb));obtain⟨V,hV⟩:∃V,V=w1.alloc (.cells #[vI x.a,vI x.e,vI x.h,.bool x.j,vI x.i] 73):=⟨_,rfl⟩
   have bV:Below w1.1.size w1 V:=by rw[hV];exact aN.alloc aU _
   have gG:aV V w1.1.size 0 [x]:=by rw[hV];exact(aR.box w1 _ _).one
   have Tk:w.1.size<=w1.1.size:=Nat.le_trans g5.size k1.size;obtain⟨v',Y,hr,iY,fI,fK⟩:=uD (jB.later bV) [x] (by simp;omega) 51 w1.1.size 0 1 gG (by have:=bV.size;omega);have qV:zs.length=r.length:=by have:=M5.length_eq;simp at this;omega
   have Yw:∀b∈zs,jD x<jD b:=fun b hb=>by
    have h1:=g6 b (M5.mem_iff.2 (by simp[hb]));have h2:(x::zs).Pairwise (fun a b=>jD a≠jD b):=(M5.pairwise_iff (fun {a b} (h:jD a≠jD b)=>h.symm)).1 ((List.pairwise_append.1 g8).2.1);have h3:=(List.pairwise_cons.1 h2).1 b hb;omega
   have kY:aA (kz p q mb) w Y:=by
    have k0:aA (kz p q mb) w V:=(g5.trans k1).trans (aA.bN bV);exact⟨fI.os.trans k0.os,fI.tape.trans k0.tape,fI.output.trans k0.output,Nat.le_trans k0.size fI.size,fun b hb zZ=>(fI.block b (Nat.lt_of_lt_of_le hb k0.size) (fun e=>by have:=(jB.lt e.symm).1;omega)).trans (k0.block b hb zZ)⟩
   have KE:Hid (fC Y w.1.size v' (out++[x])/\lG Y base p q mb n1 cap zs/\bC.Hp (gX zs) zs.length/\((out++[x])++zs).Perm xs/\(out++[x]).Pairwise (fun a b=>jD a<jD b)/\(∀a∈out++[x],∀b∈zs,jD a<jD b)/\n1+60*zs.length<=n+60*xs.length/\aA (kz p q mb) w Y):=by
    refine⟨iY,?_,Mr,?_,?_,?_,by omega,kY⟩
    ·refine(p1.later bV).aL fI.size (fun b hb=>fI.block b ?_ (fun e=>?_))
     ·have:=bV.size;rcases hb with rfl|rfl|rfl
      ·have:=p1.lp;omega
      ·have:=p1.lq;omega
      ·have:=p1.mp.lt;omega
     ·exact I9 b (jB.lt e.symm).1 hb
    ·rw[List.append_assoc];exact((List.Perm.refl out).append (M5.symm:(x::zs).Perm ys)).trans g2
    ·rw[List.pairwise_append];exact⟨g3,by simp,fun a ha b hb=>by simp at hb;subst hb;exact g4 a ha b g7⟩
    ·intro a ha b hb;rcases List.mem_append.1 ha with ha|ha
     ·exact g4 a ha b (M5.mem_iff.2 (by simp[hb]))
     ·simp at ha;subst ha;exact Yw b hb
   have HL:Hid (out.length<13/\∃a c,v'=.slice a (out++[x]).length c):=⟨by omega,by obtain⟨a,c,e,_⟩:=iY.form;exact⟨a,c,e⟩⟩
   rw[hV]at hr;clear hV bV gG iY fI fK jB I9 qV Yw kY g1 g2 g3 g4 g5 g6 g7 g8 g9 p1 M5 Mr k1 Tk;simp only[List.length_cons,List.length_nil,Nat.zero_add]at hr;go_wp2_with (at_builtin;refine dF _ rfl (.tmp 10) (.tmp 13) 51 rfl _ _ _ _ rfl rfl hr ?_);obtain⟨g1,a,c,rfl⟩:=HL.out;exact⟨⟨n1,zs,out++[x],KE.out⟩,by simp[TD];omega⟩
end tx
namespace tx
open Go.Proofs.Tryz
variable {xs:List S5}
def mi(xs:List S5)(r s:Int):Option Nat:=xs.findIdx? fun x=>decide (x.a=r)&&decide (x.e=s)
theorem Hm{x:S5}(h:mi xs x.a x.e=none):mi (xs++[x])=EH (mi xs) x.a x.e xs.length:=by
 funext r s;unfold mi EH;rw[List.findIdx?_append];by_cases e:r=x.a/\s=x.e
 ·obtain⟨rfl,rfl⟩:=e;unfold mi at h;rw[h];simp[List.findIdx?_cons]
 ·rw[if_neg e]
  have:[x].findIdx? (fun x=>decide (x.a=r)&&decide (x.e=s))=none:=by
   simp[List.findIdx?_cons];intro h1 h2;exact e ⟨h1.symm,h2.symm⟩
  rw[this];simp
theorem Bj{r s:Int}:mi xs r s=none↔∀x∈xs,¬(x.a=r/\x.e=s):=by
 unfold mi;rw[List.findIdx?_eq_none_iff];constructor
 ·intro h x hx e;have:=h x hx;simp[e.1,e.2]at this
 ·intro h x hx;have:=h x hx;simp only[Bool.and_eq_false_iff,decide_eq_false_iff_not];by_cases e:x.a=r
  ·exact .inr (fun e'=>this ⟨e,e'⟩)
  ·exact .inl e
structure jO(W:World)(base p mb n:Nat)(v:Value)(xs:List S5):Prop where
 c0:W.cell? ⟨p,0,none⟩=some v
 c1:W.cell? ⟨p,1,none⟩=some (.map (some mb))
 fz:∀j,W.frozen? ⟨p,j,none⟩=false
 row:fC W base v xs
 mp:kE W mb n (mi xs)
 ok:∀s∈xs,bf s=true
 vp:v.ownBlock≠some p
 vm:v.ownBlock≠some mb
 pm:p≠mb
 bp:base<=p
 bm:base<=mb
 lp:p<W.1.size
theorem jO.later{W V:World}{base p mb n:Nat}{v:Value}{xs:List S5}(h:jO W base p mb n v xs)(hb:Below W.1.size W V):jO V base p mb n v xs:=
 ⟨(hb.cell (p:=⟨p,0,none⟩) h.lp).trans h.c0,(hb.cell (p:=⟨p,1,none⟩) h.lp).trans h.c1,fun j=>(hb.frozen (p:=⟨p,j,none⟩) h.lp).trans (h.fz j),h.row.later hb,h.mp.later hb,h.ok,h.vp,h.vm,h.pm,h.bp,h.bm,Nat.lt_of_lt_of_le h.lp hb.size⟩
theorem jO.WW{W:World}{base p mb n:Nat}{v:Value}(h:jO W base p mb n v xs)(hx:xs≠[]):∃q cap,v=.slice (some ⟨q,0,none⟩) xs.length cap/\lG W base p q mb n cap xs:=by
 obtain⟨a,c,e,ho⟩:=h.row.form;rcases ho with ho|⟨q,rfl,hq,hl,ha,hr⟩
 ·exact absurd ho hx
 ·refine⟨q,c,e,⟨by rw[<-e];exact h.c0,h.c1,h.fz,ha,hr,?_,h.mp.any,h.ok,fun e'=>h.vp (by rw[hq,e']),h.pm,fun e'=>h.vm (by rw[hq,e']),h.bp,(h.row.lt hq).1,h.bm,h.lp,hl⟩⟩;rcases h.row.2 with ⟨h0,_⟩|⟨q',aW,cur,h0,_,_,hc,_⟩
  ·rw[h0]at e;cases e
  ·rw[h0]at e;cases e;exact hc
theorem JN(w:World)(base p q mb n cap:Nat)(xs:List S5)(c:Nat)(h:lG w base p q mb n cap xs)(hl:xs.length<=1000)(hc:c<xs.length)(hs:c=0\/gX xs ((c-1)/2)<=gX xs c):
  Calls prog 214 #[.pointer (some ⟨p,0,none⟩),vI (c:Int)] w fun e w'=>e=.returned (.tuple #[])/\Below w.1.size w w':=by
 have H:=ay h;clear h;go_enter func214,ntmps214;go_wp2;go_loopw[1] (fun v wr=>v=vI (c:Int)/\wr=w) (fun _ _=>0)
 case atStart=>exact⟨rfl,rfl⟩
 case round=>
  obtain⟨rfl,rfl⟩:=hrel;rcases c with _|e
  ·have d0:decide ((0:Int)<((0:Nat):Int))=false:=by simp
   go_wp2;refine bodyPost_end (v:=.tuple #[]) (by simp[results,results214,go_sem]) rfl ⟨rfl,aN⟩
  ·have d0:decide ((0:Int)<((e+1:Nat):Int))=true:=by simp
   obtain⟨x,hx⟩:∃x,xs[e+1]?=some x:=⟨_,List.getElem?_eq_getElem (by omega)⟩
   obtain⟨y,hy⟩:∃y,xs[e/2]?=some y:=⟨_,List.getElem?_eq_getElem (by omega)⟩
   have c1:=uG wr base p q mb n cap xs (e+1) (e/2) x y H.out hx hy;rw[(lh hx).symm,(lh hy).symm]at c1
   have dl:decide (gX xs (e+1)<gX xs (e/2))=false:=by
    have:=hs.resolve_left (by omega);rw[show(e+1-1)/2=e/2 by omega]at this;simpa using this
   rw[dl]at c1;have ea:((e+1:Nat):Int)=(e:Int)+1:=by omega
   have eb:((e/2:Nat):Int)=(e:Int)/2:=by omega
   rw[ea,eb]at c1;clear dl ea eb hx hy hs;go_wp2_with fail;refine c1.mono ?_;clear c1;rintro e' w1 ⟨rfl,b1⟩;have KB:=ay b1;clear b1;go_wp2;refine bodyPost_ret (v:=.tuple #[]) (by simp[results,results214,go_sem]) rfl ⟨rfl,KB.out⟩
theorem M9(w:World)(base p mb n:Nat)(v:Value)(xs:List S5)(x:S5)(h:jO w base p mb n v xs)(hn:n<=1000)(hl:xs.length<=100)(jG:bf x=true)(oG:mi xs x.a x.e=none)(Ej:base<=w.1.size)(hs:xs=[]\/gX (xs++[x]) ((xs.length-1)/2)<=gX (xs++[x]) xs.length):
  Calls prog 170 #[.pointer (some ⟨p,0,none⟩),.agg #[vI x.a,vI x.e,vI x.h,.bool x.j,vI x.i]] w fun e w'=>e=.returned (.tuple #[])/\∃v',jO w' base p mb (n+1) v' (xs++[x])/\Below base w w':=by
 obtain⟨W0,dS⟩:∃W,W=w.alloc (.cells #[vI x.a,vI x.e,vI x.h,.bool x.j,vI x.i] 73):=⟨_,rfl⟩
 have b0:Below w.1.size w W0:=by rw[dS];exact aN.alloc aU _
 have z0:W0.1.size=w.1.size+1:=by rw[dS];simp
 have x0:aR W0 w.1.size 0 x:=by rw[dS];exact aR.box w x _
 have h0:=h.later b0;have hk:=fU jG;have wI:p<w.1.size:=h.lp;have Zz:mb<w.1.size:=h.mp.lt
 have lk:∀d os,(Instr.lookup 278 (.map (some mb)) (jE x.a x.e) true).run prog (grow (redrawn W0 d) os)=.ok (.tuple #[vI 0,.bool false]) (grow (redrawn W0 d) os):=fun d os=>by
  have hu:=((h0.mp).later (below_regrown W0 d os)).look hk.1 hk.2;rw[oG]at hu;exact hu
 have lift:∀{b o:Nat}{u:Value},b<W0.1.size->W0.cell? ⟨b,o,none⟩=some u->∀d os,(grow (redrawn W0 d) os).cell? ⟨b,o,none⟩=some u:=fun {b o u} hb hh d os=>((below_regrown W0 d os).cell (p:=⟨b,o,none⟩) hb).trans hh
 have m1:=lift (by omega) h0.c1;have t0:=lift (by omega) x0.c0;have t1:=lift (by omega) x0.c1;have t2:=lift (by omega) x0.c2;have t3:=lift (by omega) x0.c3;have t4:=lift (by omega) x0.c4;have cC:∀d os,Calls prog 168 #[.agg #[vI x.a,vI x.e,vI x.h,.bool x.j,vI x.i]] (grow (redrawn W0 d) os) fun e eU=>e=.returned (.agg #[vI x.a,vI x.e])/\∃p:Regrown,eU=grow (redrawn W0 p.d) p.os:=fun d os=>Calls.regrown_of (fH _ _)
 have hm:∀w:World,(method 452 73 (.agg #[vI x.a,vI x.e,vI x.h,.bool x.j,vI x.i]) "loop.example/g00153/impl.cell").run prog w=.ok (168,.agg #[vI x.a,vI x.e,vI x.h,.bool x.j,vI x.i]) w:=fun _=>by kernel_rfl
 have H:Hid (jO W0 base p mb n v xs/\aR W0 w.1.size 0 x/\Below w.1.size w W0/\W0.1.size=w.1.size+1/\base<=w.1.size/\mi xs x.a x.e=none/\bf x=true/\v.ownBlock≠some w.1.size):=⟨h0,x0,b0,z0,Ej,oG,jG,fun e=>by have:=(h.row.lt e).2;omega⟩
 have HS:=ay hs;clear h h0 x0 b0 z0 Ej oG jG hs lift;simp only[jE,Nat.zero_add]at lk t0 t1 t2 t3 t4;go_enter func170,ntmps170;go_wp2_with fail;rw[<-dS];clear dS;refine gP ?_;repeat (go_big_quiet_step (exact cC _ _))
 refine wpQuiet_nil ?_;intro _ wP;obtain⟨⟨jZ,aZ⟩,kW⟩:=wP;subst kW;have bq:=below_regrown W0 jZ aZ
 have K1:Hid (jO (grow (redrawn W0 jZ) aZ) base p mb n v xs/\aR (grow (redrawn W0 jZ) aZ) w.1.size 0 x/\Below w.1.size w (grow (redrawn W0 jZ) aZ)/\w.1.size<(grow (redrawn W0 jZ) aZ).1.size):=by
  obtain⟨g1,g2,g3,g4,_⟩:=H.out;have:=bq.size;exact⟨g1.later bq,g2.below bq (by omega),g3.trans (bq.mono g3.size),by omega⟩
 clear bq m1 t0 t1 t2 t3 t4 cC lk;obtain⟨av,ac,IX,-⟩:=K1.out.1.row.form;have m0:=K1.out.1.c0;rw[IX]at m0;have HV:=ay IX;clear IX;go_upto_region 5 with fail
 clear m0;generalize grow (redrawn W0 jZ) aZ=W1 at *;have hS:(fun X:World=>X.cell? ⟨p,0,none⟩=some v/\aR X w.1.size 0 x) W1.drew:=⟨K1.out.1.c0,K1.out.2.1.below ((Below.refl W1.1.size W1).drew) K1.out.2.2.2⟩
 refine aY (fun z=>z==10) (fun X:World=>X.cell? ⟨p,0,none⟩=some v/\aR X w.1.size 0 x) (by kernel_rfl) ?_;have KD:Hid (Below W1.1.size W1 W1.drew):=aN.drew;generalize W1.drew=Wd at *;refine cu 0 rfl hS ?_;simp only[Act.put];refine cu 1 rfl hS ?_;simp only[Act.put];refine cu 2 rfl hS ?_;simp only[Act.put];refine cu 3 rfl hS ?_;simp only[Act.put];refine iZ 4 ?_ rfl ?_ hS ?_;rotate_left
 ·(intro w aH;obtain⟨s0,⟨a0,a1,a2,a3,a4⟩⟩:=aH;go_simp;first|done|with_reducible rfl)
 simp only[Act.put];refine iZ 5 ?_ rfl ?_ hS ?_;rotate_left
 ·(intro w aH;obtain⟨s0,⟨a0,a1,a2,a3,a4⟩⟩:=aH;go_simp;first|done|with_reducible rfl)
 simp only[Act.put];obtain⟨V,hV⟩:∃V,V=Wd.alloc (.cells #[vI x.a,vI x.e,vI x.h,.bool x.j,vI x.i] 73):=⟨_,rfl⟩
 have bV:Below Wd.1.size Wd V:=by rw[hV];exact aN.alloc aU _
 have zG:Below W1.1.size W1 V:=KD.out.trans (bV.mono KD.out.size);have gG:aV V Wd.1.size 0 [x]:=by rw[hV];exact(aR.box Wd _ _).one
 have fQ:=(K1.out.1.later zG)
 obtain⟨v5,Y5,hr,mV,fI,fK⟩:=uD fQ.row [x] (by simp;omega) 51 Wd.1.size 0 1 gG (by have:=fQ.bp;have:=fQ.lp;omega)
 obtain⟨a5,k5,rfl⟩:∃a5 k5,v5=Value.slice a5 (xs.length+1) k5:=by
  obtain⟨a5,k5,e5,-⟩:=mV.form;exact⟨a5,k5,by simpa using e5⟩
 have qd:w.1.size<V.1.size:=Nat.lt_of_lt_of_le K1.out.2.2.2 zG.size;have IV:(fun X:World=>X.cell? ⟨p,0,none⟩=some v/\aR X w.1.size 0 x) V:=⟨fQ.c0,K1.out.2.1.below zG K1.out.2.2.2⟩
 have kb:∀b,b<V.1.size->v.ownBlock≠some b->Y5.1[b]?=V.1[b]?:=fun b hb eO=>fI.block b hb (fun e=>eO e.symm)
 have uZ:(fun X:World=>X.cell? ⟨p,0,none⟩=some v/\aR X w.1.size 0 x) Y5:=⟨(World.cell?_of_block (a:=⟨p,0,none⟩) (kb p fQ.lp fQ.vp)).trans fQ.c0,aR.jY IV.2 (kb _ qd H.out.2.2.2.2.2.2.2)⟩
 have qA:∀b,b<V.1.size->v.ownBlock≠some b->(Value.slice a5 (xs.length+1) k5).ownBlock≠some b:=fun b hb eO e=>by
  rcases fK with h|h
  ·rw[h]at e;exact eO e
  ·rw[h]at e;cases e;omega
 have K5:Hid (fC Y5 base (Value.slice a5 (xs.length+1) k5) (xs++[x])/\Y5.cell? ⟨p,0,none⟩=some v/\Y5.cell? ⟨p,1,none⟩=some (.map (some mb))/\(∀j,Y5.frozen? ⟨p,j,none⟩=false)/\kE Y5 mb n (mi xs)/\(Value.slice a5 (xs.length+1) k5).ownBlock≠some p/\(Value.slice a5 (xs.length+1) k5).ownBlock≠some mb/\p<Y5.1.size/\Below base w Y5/\aR Y5 w.1.size 0 x/\w.1.size<Y5.1.size/\(Value.slice a5 (xs.length+1) k5).ownBlock≠some w.1.size/\mb<V.1.size):=by
  have tu:=kb p fQ.lp fQ.vp;have UU:=kb mb fQ.mp.lt fQ.vm;have Ul:Below base w V:=(K1.out.2.2.1.mono H.out.2.2.2.2.1).trans (zG.mono (by have:=K1.out.1.bp;have:=K1.out.1.lp;omega));refine⟨mV,uZ.1,(World.cell?_of_block (a:=⟨p,1,none⟩) tu).trans fQ.c1,fun j=>(World.frozen?_of_block (a:=⟨p,j,none⟩) tu).trans (fQ.fz j),fQ.mp.aj UU,qA p fQ.lp fQ.vp,qA mb fQ.mp.lt fQ.vm,Nat.lt_of_lt_of_le fQ.lp fI.size,?_,uZ.2,Nat.lt_of_lt_of_le qd fI.size,qA _ qd H.out.2.2.2.2.2.2.2,fQ.mp.lt⟩;exact Ul.grown fI (by have:=fQ.bp;have:=fQ.lp;omega) (fun b e=>(fQ.row.lt e).1)
 rw[hV]at hr;have f0:=K5.out.2.2.2.1 0;have e0:=K5.out.2.1;simp only[List.length_cons,List.length_nil,Nat.zero_add]at hr;refine dJ 6 rfl (fun K hK=>?_);go_simp;refine hK.out _ _ (fun _=>by rw[<-hV];exact IV) ?_;clear hK K;refine dJ 7 rfl (fun K hK=>?_);refine bJ _ rfl (.tmp 34) (.tmp 36) 51 rfl _ _ _ _ (by first|rfl|simp[Act.eval,Act.put]) (by first|rfl|simp[Act.eval,Act.put]) hr ?_;refine hK.out _ _ (fun _=>uZ) ?_;clear hK K hr;simp only[Act.put];refine cu 8 rfl uZ ?_;simp only[Act.put];refine cu 9 rfl uZ ?_;simp only[Act.put];refine dJ 10 rfl (fun K hK=>?_);go_simp;refine hK.out _ _ (fun h=>absurd (show false=true from h.symm.trans (by kernel_rfl)) (by decide)) ?_;clear hK K;refine df (by kernel_rfl) ?_ _
 have KU:Hid (aR (Y5.setCell ⟨p,0,none⟩ (Value.slice a5 (xs.length+1) k5)) w.1.size 0 x/\fC (Y5.setCell ⟨p,0,none⟩ (Value.slice a5 (xs.length+1) k5)) base (Value.slice a5 (xs.length+1) k5) (xs++[x])/\(Y5.setCell ⟨p,0,none⟩ (Value.slice a5 (xs.length+1) k5)).cell? ⟨p,0,none⟩=some (Value.slice a5 (xs.length+1) k5)/\(Y5.setCell ⟨p,0,none⟩ (Value.slice a5 (xs.length+1) k5)).cell? ⟨p,1,none⟩=some (.map (some mb))/\(∀j,(Y5.setCell ⟨p,0,none⟩ (Value.slice a5 (xs.length+1) k5)).frozen? ⟨p,j,none⟩=false)/\kE (Y5.setCell ⟨p,0,none⟩ (Value.slice a5 (xs.length+1) k5)) mb n (mi xs)/\(Value.slice a5 (xs.length+1) k5).ownBlock≠some p/\(Value.slice a5 (xs.length+1) k5).ownBlock≠some mb/\p<(Y5.setCell ⟨p,0,none⟩ (Value.slice a5 (xs.length+1) k5)).1.size/\Below base w (Y5.setCell ⟨p,0,none⟩ (Value.slice a5 (xs.length+1) k5))/\w.1.size<(Y5.setCell ⟨p,0,none⟩ (Value.slice a5 (xs.length+1) k5)).1.size/\(Value.slice a5 (xs.length+1) k5).ownBlock≠some w.1.size):=by
  obtain⟨g1,g2,g3,g4,g5,g6,g7,g8,g9,Eg,Eh,IQ,g13⟩:=K5.out;have bp:=K1.out.1.bp;have dX:∀b,b≠p->(Y5.setCell ⟨p,0,none⟩ (Value.slice a5 (xs.length+1) k5)).1[b]?=Y5.1[b]?:=fun b hb=>Below.heap_setCell _ _ _ _ hb
  refine⟨aR.jY Eg (dX _ (by omega)),g1.aL (fun b _ _ e=>dX b (fun e'=>g6 (by rw[e,e']))),ax g2,(ae (by omega)).trans g3,fun j=>by rw[World.frozen?_setCell];exact g4 j,g5.aj (dX mb (fun e=>K1.out.1.pm e.symm)),g6,g7,by simpa[World.setCell]using g8,g9.setCell (p:=⟨p,0,none⟩) bp _,by simpa[World.setCell]using Eh,IQ⟩
 clear K5 hS IV uZ kb qA fI fK mV fQ gG zG bV hV V qd f0 e0 KD;generalize Y5.setCell ⟨p,0,none⟩ (Value.slice a5 (xs.length+1) k5)=W5 at *;clear Y5;have hS:(fun X:World=>X.cell? ⟨p,1,none⟩=some (.map (some mb))/\aR X w.1.size 0 x) W5.drew:=⟨KU.out.2.2.2.1,KU.out.1.below ((Below.refl W5.1.size W5).drew) KU.out.2.2.2.2.2.2.2.2.2.2.1⟩
 go_upto_region 6 with fail
 refine aY (fun z=>z==8) (fun X:World=>X.cell? ⟨p,1,none⟩=some (.map (some mb))/\aR X w.1.size 0 x) (by kernel_rfl) ?_;have KD:Hid (Below W5.1.size W5 W5.drew):=aN.drew;generalize W5.drew=We at *;refine cu 0 rfl hS ?_;simp only[Act.put];refine cu 1 rfl hS ?_;simp only[Act.put];refine cu 2 rfl hS ?_;simp only[Act.put];refine iZ 3 ?_ rfl ?_ hS ?_;rotate_left
 ·(intro w aH;obtain⟨s0,⟨a0,a1,a2,a3,a4⟩⟩:=aH;go_simp;first|done|with_reducible rfl)
 simp only[Act.put];refine iZ 4 ?_ rfl ?_ hS ?_;rotate_left
 ·(intro w aH;obtain⟨s0,⟨a0,a1,a2,a3,a4⟩⟩:=aH;go_simp;first|done|with_reducible rfl)
 simp only[Act.put];refine cu 5 rfl hS ?_;simp only[Act.put];refine cu 7 rfl hS ?_;simp only[Act.put];refine dJ 6 rfl (fun K hK=>?_);go_simp;refine(fH We x).mono ?_;rintro e X2 ⟨rfl,b2⟩;have bX:Below W5.1.size W5 X2:=KD.out.trans (b2.mono KD.out.size);obtain⟨Y,eZ,sZ,mW,uo⟩:=(KU.out.2.2.2.2.2.1.later bX).store (by omega) hk.1 hk.2 xs.length (by omega);rw[<-Hm H.out.2.2.2.2.2.1]at sZ
 have gF:(fun X:World=>X.cell? ⟨p,1,none⟩=some (.map (some mb))/\aR X w.1.size 0 x) X2:=by
  obtain⟨g1,g2,g3,g4,g5,g6,g7,g8,g9,Eg,Eh,IQ⟩:=KU.out;exact⟨(bX.cell (p:=⟨p,1,none⟩) g9).trans g4,g1.below bX Eh⟩
 have K7:Hid (jO Y base p mb (n+1) (Value.slice a5 (xs.length+1) k5) (xs++[x])/\Below base w Y):=by
  obtain⟨g1,g2,g3,g4,g5,g6,g7,g8,g9,Eg,Eh,IQ⟩:=KU.out;have jN:=K1.out.1.pm;have tu:=(mW.block p (Nat.lt_of_lt_of_le g9 bX.size) jN).trans (bX.block p g9);refine⟨⟨(World.cell?_of_block (a:=⟨p,0,none⟩) tu).trans g3,(World.cell?_of_block (a:=⟨p,1,none⟩) tu).trans g4,fun j=>(World.frozen?_of_block (a:=⟨p,j,none⟩) tu).trans (g5 j),g2.aL (fun b _ hb e=>(mW.block b (Nat.lt_of_lt_of_le hb bX.size) (fun e'=>g8 (by rw[e,e']))).trans (bX.block b hb)),sZ,fun s hs=>?_,g7,g8,jN,K1.out.1.bp,K1.out.1.bm,by rw[uo];exact Nat.lt_of_lt_of_le g9 bX.size⟩,?_⟩
  ·rcases List.mem_append.1 hs with hs|hs
   ·exact K1.out.1.ok s hs
   ·simp at hs;subst hs;exact H.out.2.2.2.2.2.2.1
  ·have Cf:base<=W5.1.size:=by have:=K1.out.1.bp;omega
   exact(Eg.trans (bX.mono Cf)).trans (mW.below K1.out.1.bm (Nat.le_trans Cf bX.size))
 simp only[jE]at eZ;refine hK.out _ _ (fun _=>gF) ?_;clear hK K gF hS bX KD sZ mW uo hm hk b2;refine dJ 8 rfl (fun K hK=>?_);go_simp;refine hK.out _ _ (fun h=>absurd (show false=true from h.symm.trans (by kernel_rfl)) (by decide)) ?_;clear hK K eZ;refine df (by kernel_rfl) ?_ _;obtain⟨q5,cap5,fp,P7⟩:=K7.out.1.WW (by simp)
 have c7:=JN Y base p q5 mb (n+1) cap5 (xs++[x]) xs.length P7 (by simp;omega) (by simp) (by
  rcases HS.out with h|h
  ·exact .inl (by rw[h];rfl)
  ·exact .inr h)
 go_wp2_with fail;refine c7.mono ?_;clear c7;rintro e w8 ⟨rfl,b8⟩;have KE:Hid (jO w8 base p mb (n+1) (Value.slice a5 (xs.length+1) k5) (xs++[x])/\Below base w w8):=⟨K7.out.1.later b8,K7.out.2.trans (b8.mono (by have:=K7.out.1.bp;have:=K7.out.1.lp;omega))⟩
 clear b8;go_wp2;refine bodyPost_end (v:=.tuple #[]) (by simp[results,results170,go_sem]) rfl ⟨rfl,(Value.slice a5 (xs.length+1) k5),KE.out.1,KE.out.2⟩
theorem Qe(w:World)(base p mb n:Nat)(v:Value)(xs:List S5)(x:S5)(h:jO w base p mb n v xs)(hn:n<=1000)(hl:xs.length<=100)(jG:bf x=true)(oG:mi xs x.a x.e=none)(Ej:base<=w.1.size)(hs:bC.Hp (gX xs) xs.length):
  Calls prog 170 #[.pointer (some ⟨p,0,none⟩),.agg #[vI x.a,vI x.e,vI x.h,.bool x.j,vI x.i]] w fun e w'=>e=.returned (.tuple #[])/\∃q cap n' ys,n'<=n+1+2*xs.length/\lG w' base p q mb n' cap ys/\ys.Perm (xs++[x])/\bC.Hp (gX ys) ys.length/\Below base w w':=by
 obtain⟨W0,dS⟩:∃W,W=w.alloc (.cells #[vI x.a,vI x.e,vI x.h,.bool x.j,vI x.i] 73):=⟨_,rfl⟩
 have b0:Below w.1.size w W0:=by rw[dS];exact aN.alloc aU _
 have z0:W0.1.size=w.1.size+1:=by rw[dS];simp
 have x0:aR W0 w.1.size 0 x:=by rw[dS];exact aR.box w x _
 have h0:=h.later b0;have hk:=fU jG;have wI:p<w.1.size:=h.lp;have Zz:mb<w.1.size:=h.mp.lt
 have lk:∀d os,(Instr.lookup 278 (.map (some mb)) (jE x.a x.e) true).run prog (grow (redrawn W0 d) os)=.ok (.tuple #[vI 0,.bool false]) (grow (redrawn W0 d) os):=fun d os=>by
  have hu:=((h0.mp).later (below_regrown W0 d os)).look hk.1 hk.2;rw[oG]at hu;exact hu
 have lift:∀{b o:Nat}{u:Value},b<W0.1.size->W0.cell? ⟨b,o,none⟩=some u->∀d os,(grow (redrawn W0 d) os).cell? ⟨b,o,none⟩=some u:=fun {b o u} hb hh d os=>((below_regrown W0 d os).cell (p:=⟨b,o,none⟩) hb).trans hh
 have m1:=lift (by omega) h0.c1;have t0:=lift (by omega) x0.c0;have t1:=lift (by omega) x0.c1;have t2:=lift (by omega) x0.c2;have t3:=lift (by omega) x0.c3;have t4:=lift (by omega) x0.c4;have cC:∀d os,Calls prog 168 #[.agg #[vI x.a,vI x.e,vI x.h,.bool x.j,vI x.i]] (grow (redrawn W0 d) os) fun e eU=>e=.returned (.agg #[vI x.a,vI x.e])/\∃p:Regrown,eU=grow (redrawn W0 p.d) p.os:=fun d os=>Calls.regrown_of (fH _ _)
 have hm:∀w:World,(method 452 73 (.agg #[vI x.a,vI x.e,vI x.h,.bool x.j,vI x.i]) "loop.example/g00153/impl.cell").run prog w=.ok (168,.agg #[vI x.a,vI x.e,vI x.h,.bool x.j,vI x.i]) w:=fun _=>by kernel_rfl
 have H:Hid (jO W0 base p mb n v xs/\aR W0 w.1.size 0 x/\Below w.1.size w W0/\W0.1.size=w.1.size+1/\base<=w.1.size/\mi xs x.a x.e=none/\bf x=true/\v.ownBlock≠some w.1.size):=⟨h0,x0,b0,z0,Ej,oG,jG,fun e=>by have:=(h.row.lt e).2;omega⟩
 have HS:=ay hs;clear h h0 x0 b0 z0 Ej oG jG hs lift;simp only[jE,Nat.zero_add]at lk t0 t1 t2 t3 t4;go_enter func170,ntmps170;go_wp2_with fail;rw[<-dS];clear dS;refine gP ?_;repeat (go_big_quiet_step (exact cC _ _))
 refine wpQuiet_nil ?_;intro _ wP;obtain⟨⟨jZ,aZ⟩,kW⟩:=wP;subst kW;have bq:=below_regrown W0 jZ aZ
 have K1:Hid (jO (grow (redrawn W0 jZ) aZ) base p mb n v xs/\aR (grow (redrawn W0 jZ) aZ) w.1.size 0 x/\Below w.1.size w (grow (redrawn W0 jZ) aZ)/\w.1.size<(grow (redrawn W0 jZ) aZ).1.size):=by
  obtain⟨g1,g2,g3,g4,_⟩:=H.out;have:=bq.size;exact⟨g1.later bq,g2.below bq (by omega),g3.trans (bq.mono g3.size),by omega⟩
 clear bq m1 t0 t1 t2 t3 t4 cC lk;obtain⟨av,ac,IX,-⟩:=K1.out.1.row.form;have m0:=K1.out.1.c0;rw[IX]at m0;have HV:=ay IX;clear IX;go_upto_region 5 with fail
 clear m0;generalize grow (redrawn W0 jZ) aZ=W1 at *;have hS:(fun X:World=>X.cell? ⟨p,0,none⟩=some v/\aR X w.1.size 0 x) W1.drew:=⟨K1.out.1.c0,K1.out.2.1.below ((Below.refl W1.1.size W1).drew) K1.out.2.2.2⟩
 refine aY (fun z=>z==10) (fun X:World=>X.cell? ⟨p,0,none⟩=some v/\aR X w.1.size 0 x) (by kernel_rfl) ?_;have KD:Hid (Below W1.1.size W1 W1.drew):=aN.drew;generalize W1.drew=Wd at *;refine cu 0 rfl hS ?_;simp only[Act.put];refine cu 1 rfl hS ?_;simp only[Act.put];refine cu 2 rfl hS ?_;simp only[Act.put];refine cu 3 rfl hS ?_;simp only[Act.put];refine iZ 4 ?_ rfl ?_ hS ?_;rotate_left
 ·(intro w aH;obtain⟨s0,⟨a0,a1,a2,a3,a4⟩⟩:=aH;go_simp;first|done|with_reducible rfl)
 simp only[Act.put];refine iZ 5 ?_ rfl ?_ hS ?_;rotate_left
 ·(intro w aH;obtain⟨s0,⟨a0,a1,a2,a3,a4⟩⟩:=aH;go_simp;first|done|with_reducible rfl)
 simp only[Act.put];obtain⟨V,hV⟩:∃V,V=Wd.alloc (.cells #[vI x.a,vI x.e,vI x.h,.bool x.j,vI x.i] 73):=⟨_,rfl⟩
 have bV:Below Wd.1.size Wd V:=by rw[hV];exact aN.alloc aU _
 have zG:Below W1.1.size W1 V:=KD.out.trans (bV.mono KD.out.size);have gG:aV V Wd.1.size 0 [x]:=by rw[hV];exact(aR.box Wd _ _).one
 have fQ:=(K1.out.1.later zG)
 obtain⟨v5,Y5,hr,mV,fI,fK⟩:=uD fQ.row [x] (by simp;omega) 51 Wd.1.size 0 1 gG (by have:=fQ.bp;have:=fQ.lp;omega)
 obtain⟨a5,k5,rfl⟩:∃a5 k5,v5=Value.slice a5 (xs.length+1) k5:=by
  obtain⟨a5,k5,e5,-⟩:=mV.form;exact⟨a5,k5,by simpa using e5⟩
 have qd:w.1.size<V.1.size:=Nat.lt_of_lt_of_le K1.out.2.2.2 zG.size;have IV:(fun X:World=>X.cell? ⟨p,0,none⟩=some v/\aR X w.1.size 0 x) V:=⟨fQ.c0,K1.out.2.1.below zG K1.out.2.2.2⟩
 have kb:∀b,b<V.1.size->v.ownBlock≠some b->Y5.1[b]?=V.1[b]?:=fun b hb eO=>fI.block b hb (fun e=>eO e.symm)
 have uZ:(fun X:World=>X.cell? ⟨p,0,none⟩=some v/\aR X w.1.size 0 x) Y5:=⟨(World.cell?_of_block (a:=⟨p,0,none⟩) (kb p fQ.lp fQ.vp)).trans fQ.c0,aR.jY IV.2 (kb _ qd H.out.2.2.2.2.2.2.2)⟩
 have qA:∀b,b<V.1.size->v.ownBlock≠some b->(Value.slice a5 (xs.length+1) k5).ownBlock≠some b:=fun b hb eO e=>by
  rcases fK with h|h
  ·rw[h]at e;exact eO e
  ·rw[h]at e;cases e;omega
 have K5:Hid (fC Y5 base (Value.slice a5 (xs.length+1) k5) (xs++[x])/\Y5.cell? ⟨p,0,none⟩=some v/\Y5.cell? ⟨p,1,none⟩=some (.map (some mb))/\(∀j,Y5.frozen? ⟨p,j,none⟩=false)/\kE Y5 mb n (mi xs)/\(Value.slice a5 (xs.length+1) k5).ownBlock≠some p/\(Value.slice a5 (xs.length+1) k5).ownBlock≠some mb/\p<Y5.1.size/\Below base w Y5/\aR Y5 w.1.size 0 x/\w.1.size<Y5.1.size/\(Value.slice a5 (xs.length+1) k5).ownBlock≠some w.1.size/\mb<V.1.size):=by
  have tu:=kb p fQ.lp fQ.vp;have UU:=kb mb fQ.mp.lt fQ.vm;have Ul:Below base w V:=(K1.out.2.2.1.mono H.out.2.2.2.2.1).trans (zG.mono (by have:=K1.out.1.bp;have:=K1.out.1.lp;omega));refine⟨mV,uZ.1,(World.cell?_of_block (a:=⟨p,1,none⟩) tu).trans fQ.c1,fun j=>(World.frozen?_of_block (a:=⟨p,j,none⟩) tu).trans (fQ.fz j),fQ.mp.aj UU,qA p fQ.lp fQ.vp,qA mb fQ.mp.lt fQ.vm,Nat.lt_of_lt_of_le fQ.lp fI.size,?_,uZ.2,Nat.lt_of_lt_of_le qd fI.size,qA _ qd H.out.2.2.2.2.2.2.2,fQ.mp.lt⟩;exact Ul.grown fI (by have:=fQ.bp;have:=fQ.lp;omega) (fun b e=>(fQ.row.lt e).1)
 rw[hV]at hr;have f0:=K5.out.2.2.2.1 0;have e0:=K5.out.2.1;simp only[List.length_cons,List.length_nil,Nat.zero_add]at hr;refine dJ 6 rfl (fun K hK=>?_);go_simp;refine hK.out _ _ (fun _=>by rw[<-hV];exact IV) ?_;clear hK K;refine dJ 7 rfl (fun K hK=>?_);refine bJ _ rfl (.tmp 34) (.tmp 36) 51 rfl _ _ _ _ (by first|rfl|simp[Act.eval,Act.put]) (by first|rfl|simp[Act.eval,Act.put]) hr ?_;refine hK.out _ _ (fun _=>uZ) ?_;clear hK K hr;simp only[Act.put];refine cu 8 rfl uZ ?_;simp only[Act.put];refine cu 9 rfl uZ ?_;simp only[Act.put];refine dJ 10 rfl (fun K hK=>?_);go_simp;refine hK.out _ _ (fun h=>absurd (show false=true from h.symm.trans (by kernel_rfl)) (by decide)) ?_;clear hK K;refine df (by kernel_rfl) ?_ _
 have KU:Hid (aR (Y5.setCell ⟨p,0,none⟩ (Value.slice a5 (xs.length+1) k5)) w.1.size 0 x/\fC (Y5.setCell ⟨p,0,none⟩ (Value.slice a5 (xs.length+1) k5)) base (Value.slice a5 (xs.length+1) k5) (xs++[x])/\(Y5.setCell ⟨p,0,none⟩ (Value.slice a5 (xs.length+1) k5)).cell? ⟨p,0,none⟩=some (Value.slice a5 (xs.length+1) k5)/\(Y5.setCell ⟨p,0,none⟩ (Value.slice a5 (xs.length+1) k5)).cell? ⟨p,1,none⟩=some (.map (some mb))/\(∀j,(Y5.setCell ⟨p,0,none⟩ (Value.slice a5 (xs.length+1) k5)).frozen? ⟨p,j,none⟩=false)/\kE (Y5.setCell ⟨p,0,none⟩ (Value.slice a5 (xs.length+1) k5)) mb n (mi xs)/\(Value.slice a5 (xs.length+1) k5).ownBlock≠some p/\(Value.slice a5 (xs.length+1) k5).ownBlock≠some mb/\p<(Y5.setCell ⟨p,0,none⟩ (Value.slice a5 (xs.length+1) k5)).1.size/\Below base w (Y5.setCell ⟨p,0,none⟩ (Value.slice a5 (xs.length+1) k5))/\w.1.size<(Y5.setCell ⟨p,0,none⟩ (Value.slice a5 (xs.length+1) k5)).1.size/\(Value.slice a5 (xs.length+1) k5).ownBlock≠some w.1.size):=by
  obtain⟨g1,g2,g3,g4,g5,g6,g7,g8,g9,Eg,Eh,IQ,g13⟩:=K5.out;have bp:=K1.out.1.bp;have dX:∀b,b≠p->(Y5.setCell ⟨p,0,none⟩ (Value.slice a5 (xs.length+1) k5)).1[b]?=Y5.1[b]?:=fun b hb=>Below.heap_setCell _ _ _ _ hb
  refine⟨aR.jY Eg (dX _ (by omega)),g1.aL (fun b _ _ e=>dX b (fun e'=>g6 (by rw[e,e']))),ax g2,(ae (by omega)).trans g3,fun j=>by rw[World.frozen?_setCell];exact g4 j,g5.aj (dX mb (fun e=>K1.out.1.pm e.symm)),g6,g7,by simpa[World.setCell]using g8,g9.setCell (p:=⟨p,0,none⟩) bp _,by simpa[World.setCell]using Eh,IQ⟩
 clear K5 hS IV uZ kb qA fI fK mV fQ gG zG bV hV V qd f0 e0 KD;generalize Y5.setCell ⟨p,0,none⟩ (Value.slice a5 (xs.length+1) k5)=W5 at *;clear Y5;have hS:(fun X:World=>X.cell? ⟨p,1,none⟩=some (.map (some mb))/\aR X w.1.size 0 x) W5.drew:=⟨KU.out.2.2.2.1,KU.out.1.below ((Below.refl W5.1.size W5).drew) KU.out.2.2.2.2.2.2.2.2.2.2.1⟩
 go_upto_region 6 with fail
 refine aY (fun z=>z==8) (fun X:World=>X.cell? ⟨p,1,none⟩=some (.map (some mb))/\aR X w.1.size 0 x) (by kernel_rfl) ?_;have KD:Hid (Below W5.1.size W5 W5.drew):=aN.drew;generalize W5.drew=We at *;refine cu 0 rfl hS ?_;simp only[Act.put];refine cu 1 rfl hS ?_;simp only[Act.put];refine cu 2 rfl hS ?_;simp only[Act.put];refine iZ 3 ?_ rfl ?_ hS ?_;rotate_left
 ·(intro w aH;obtain⟨s0,⟨a0,a1,a2,a3,a4⟩⟩:=aH;go_simp;first|done|with_reducible rfl)
 simp only[Act.put];refine iZ 4 ?_ rfl ?_ hS ?_;rotate_left
 ·(intro w aH;obtain⟨s0,⟨a0,a1,a2,a3,a4⟩⟩:=aH;go_simp;first|done|with_reducible rfl)
 simp only[Act.put];refine cu 5 rfl hS ?_;simp only[Act.put];refine cu 7 rfl hS ?_;simp only[Act.put];refine dJ 6 rfl (fun K hK=>?_);go_simp;refine(fH We x).mono ?_;rintro e X2 ⟨rfl,b2⟩;have bX:Below W5.1.size W5 X2:=KD.out.trans (b2.mono KD.out.size);obtain⟨Y,eZ,sZ,mW,uo⟩:=(KU.out.2.2.2.2.2.1.later bX).store (by omega) hk.1 hk.2 xs.length (by omega);rw[<-Hm H.out.2.2.2.2.2.1]at sZ
 have gF:(fun X:World=>X.cell? ⟨p,1,none⟩=some (.map (some mb))/\aR X w.1.size 0 x) X2:=by
  obtain⟨g1,g2,g3,g4,g5,g6,g7,g8,g9,Eg,Eh,IQ⟩:=KU.out;exact⟨(bX.cell (p:=⟨p,1,none⟩) g9).trans g4,g1.below bX Eh⟩
 have K7:Hid (jO Y base p mb (n+1) (Value.slice a5 (xs.length+1) k5) (xs++[x])/\Below base w Y):=by
  obtain⟨g1,g2,g3,g4,g5,g6,g7,g8,g9,Eg,Eh,IQ⟩:=KU.out;have jN:=K1.out.1.pm;have tu:=(mW.block p (Nat.lt_of_lt_of_le g9 bX.size) jN).trans (bX.block p g9);refine⟨⟨(World.cell?_of_block (a:=⟨p,0,none⟩) tu).trans g3,(World.cell?_of_block (a:=⟨p,1,none⟩) tu).trans g4,fun j=>(World.frozen?_of_block (a:=⟨p,j,none⟩) tu).trans (g5 j),g2.aL (fun b _ hb e=>(mW.block b (Nat.lt_of_lt_of_le hb bX.size) (fun e'=>g8 (by rw[e,e']))).trans (bX.block b hb)),sZ,fun s hs=>?_,g7,g8,jN,K1.out.1.bp,K1.out.1.bm,by rw[uo];exact Nat.lt_of_lt_of_le g9 bX.size⟩,?_⟩
  ·rcases List.mem_append.1 hs with hs|hs
   ·exact K1.out.1.ok s hs
   ·simp at hs;subst hs;exact H.out.2.2.2.2.2.2.1
  ·have Cf:base<=W5.1.size:=by have:=K1.out.1.bp;omega
   exact(Eg.trans (bX.mono Cf)).trans (mW.below K1.out.1.bm (Nat.le_trans Cf bX.size))
 simp only[jE]at eZ;refine hK.out _ _ (fun _=>gF) ?_;clear hK K gF hS bX KD sZ mW uo hm hk b2;refine dJ 8 rfl (fun K hK=>?_);go_simp;refine hK.out _ _ (fun h=>absurd (show false=true from h.symm.trans (by kernel_rfl)) (by decide)) ?_;clear hK K eZ;refine df (by kernel_rfl) ?_ _;obtain⟨q5,cap5,fp,P7⟩:=K7.out.1.WW (by simp)
 have c7:=JO Y base p q5 mb (n+1) cap5 (xs++[x]) xs.length P7 (by omega) (by simp;omega) (by simp) (by
  have:=bC.qX.Lx (n:=xs.length) (k:=gX (xs++[x])) (fun i h0 hi=>by
   have e1:gX (xs++[x]) i=gX xs i:=by unfold gX aB;rw[List.getElem?_append_left hi]
   have e2:gX (xs++[x]) ((i-1)/2)=gX xs ((i-1)/2):=by unfold gX aB;rw[List.getElem?_append_left (by omega)]
   rw[e1,e2];exact HS.out i h0 hi)
  simpa using this)
 go_wp2_with fail;refine c7.mono ?_;clear c7;rintro e w8 ⟨rfl,n8,ys,eR,p8,LC,Yb,k8⟩;have KE:Hid (n8<=n+1+2*xs.length/\lG w8 base p q5 mb n8 cap5 ys/\ys.Perm (xs++[x])/\bC.Hp (gX ys) ys.length/\Below base w w8):=⟨by omega,p8,LC,Yb,K7.out.2.trans (k8.below (fun b hb=>by rcases hb with rfl|rfl|rfl;exact p8.bp;exact p8.bq;exact p8.bm) (by have:=K7.out.1.bp;have:=K7.out.1.lp;omega))⟩
 clear p8 LC Yb k8 eR;go_wp2;refine bodyPost_end (v:=.tuple #[]) (by simp[results,results170,go_sem]) rfl ⟨rfl,q5,cap5,n8,ys,KE.out⟩
end tx
namespace tx
open Go.Proofs.Tryz
variable {k:Nat}{x:S5}{xs:List S5}
def tV(xs:List S5):Prop:=xs.Pairwise fun a b=>jD a<jD b
theorem Bi(h:tV xs){i j:Nat}{y:S5}(hi:xs[i]?=some x)(hj:xs[j]?=some y)(Ga:i<j):jD x<jD y:=by
 have li:=(List.getElem?_eq_some_iff.1 hi)
 have lj:=(List.getElem?_eq_some_iff.1 hj)
 have:=List.pairwise_iff_getElem.1 h i j li.1 lj.1 Ga;rwa[li.2,lj.2]at this
theorem YY(h:tV xs)(hk:xs[k]?=some x):mi (xs.take k) x.a x.e=none:=by
 rw[Bj];intro y hy e;obtain⟨i,hi,rfl⟩:=List.getElem_of_mem hy;have I6:i<k:=by rw[List.length_take]at hi;omega
 have e2:xs[i]?=some ((xs.take k)[i]):=by
  have:=List.getElem?_eq_getElem hi;rwa[List.getElem?_take,if_pos I6]at this
 have:=Bi h e2 hk I6;unfold jD at this;rw[e.1,e.2]at this;omega
theorem VR(h:tV xs)(hk:xs[k]?=some x):xs.take k=[]\/gX (xs.take k++[x]) (((xs.take k).length-1)/2)<=gX (xs.take k++[x]) (xs.take k).length:=by
 by_cases h0:k=0
 ·exact .inl (by rw[h0];rfl)
 ·have lk:=(List.getElem?_eq_some_iff.1 hk).1;have hl:(xs.take k).length=k:=by rw[List.length_take];omega
  have e1:xs.take k++[x]=xs.take (k+1):=by rw[List.take_add_one,hk];rfl
  refine .inr ?_;rw[hl,e1];obtain⟨y,hy⟩:∃y,xs[(k-1)/2]?=some y:=⟨_,List.getElem?_eq_getElem (by omega)⟩
  rw[DI (x:=y) (by rw[List.getElem?_take,if_pos (by omega)];exact hy),DI (x:=x) (by rw[List.getElem?_take,if_pos (by omega)];exact hk)];exact Int.le_of_lt (Bi h hy hk (by omega))
theorem EI(w:World)(a:OA)(c:Nat)(xs:List S5)(hl:xs.length<=100)(hs:Sl w w.1.size a xs.length xs)(jG:∀s∈xs,bf s=true)(Es:tV xs):
  Calls prog 166 #[.slice a xs.length c] w fun e w'=>∃p mb n v,e=.returned (.pointer (some ⟨p,0,none⟩))/\jO w' w.1.size p mb n v xs/\n<=xs.length/\Below w.1.size w w':=by
 obtain⟨W0,dS⟩:∃W,W=w.alloc (.map #[] 0):=⟨_,rfl⟩
 have z0:W0.1.size=w.1.size+1:=by rw[dS];simp
 have b0:Below w.1.size w W0:=by rw[dS];exact aN.alloc aU _
 obtain⟨W,hW⟩:∃W,W=W0.alloc (.cells #[.slice none 0 0,.map (some w.1.size)] 280):=⟨_,rfl⟩
 have b1:Below W0.1.size W0 W:=by rw[hW];exact aN.alloc aU _
 have pb:jO W w.1.size (w.1.size+1) w.1.size 0 (.slice none 0 0) []:=by
  refine⟨(by rw[hW,<-z0];go_simp),(by rw[hW,<-z0];go_simp),(fun j=>by rw[hW,<-z0];go_simp),fC.nil _ _,?_,(fun s hs=>by cases hs),(fun e=>by cases e),(fun e=>by cases e),(by omega),(by omega),Nat.le_refl _,(by rw[hW];simp[z0])⟩;have hm:=(kE.made w).later (W':=W) (by rw[<-dS];exact b1);exact hm
 have H:Hid (Sl w w.1.size a xs.length xs/\(∀s∈xs,bf s=true)/\tV xs/\jO W w.1.size (w.1.size+1) w.1.size 0 (.slice none 0 0) []/\Below w.1.size w W):=⟨hs,jG,Es,pb,b0.trans (b1.mono b0.size)⟩
 clear hs jG Es pb b0 b1 z0;rw[dS]at hW;clear dS;have zY:=@run_makeMap prog;go_enter func166,ntmps166;go_wp2;rw[<-hW];clear hW;go_loopw[11] (fun v11 wr=>∃(k n:Nat) (v:Value),k<=xs.length/\v11=vI (k:Int)/\jO wr w.1.size (w.1.size+1) w.1.size n v (xs.take k)/\n<=k/\Below w.1.size w wr) (fun v11 _=>xs.length-(intOf v11).toNat)
 case atStart=>exact⟨0,0,.slice none 0 0,Nat.zero_le _,rfl,by simpa using H.out.2.2.2.1,Nat.le_refl _,H.out.2.2.2.2⟩
 case round=>
  obtain⟨k,n,v,hk,rfl,hp,QL,aD⟩:=hrel;by_cases aK:k<xs.length
  ·obtain⟨_,gu⟩:=H.out.1.later aD;rcases gu with gu|⟨b,off,rfl,hb,hx⟩
   ·omega
   have Di:=eT aK;obtain⟨c0,c1,c2,c3,c4⟩:=hx k _ Di;obtain⟨V,hV⟩:∃V,V=wr.alloc (.cells #[vI (aB xs k).a,vI (aB xs k).e,vI (aB xs k).h,.bool (aB xs k).j,vI (aB xs k).i] 73):=⟨_,rfl⟩
   have bV:Below wr.1.size wr V:=by rw[hV];exact aN.alloc aU _
   have cp:=M9 V w.1.size (w.1.size+1) w.1.size n v (xs.take k) (aB xs k) (hp.later bV) (by omega) (by rw[List.length_take];omega) (H.out.2.1 _ (List.mem_of_getElem? Di)) (YY H.out.2.2.1 Di) (Nat.le_trans aD.size bV.size) (VR H.out.2.2.1 Di);have KB:Hid (Below w.1.size w V/\xs.take k++[aB xs k]=xs.take (k+1)):=⟨aD.trans (bV.mono aD.size),by rw[List.take_add_one,Di];rfl⟩
   clear hp aD hx Di bV;go_wp2_with fail;rw[<-hV];clear hV c0 c1 c2 c3 c4;refine cp.mono ?_;clear cp;rintro e w1 ⟨rfl,v',p1,b1⟩;rw[KB.out.2]at p1;have KE:Hid (jO w1 w.1.size (w.1.size+1) w.1.size (n+1) v' (xs.take (k+1))/\Below w.1.size w w1):=⟨p1,KB.out.1.trans b1⟩
   clear p1 b1;go_wp2;exact⟨⟨k+1,n+1,v',by omega,by simp,KE.out.1,by omega,KE.out.2⟩,by simp[intOf];omega⟩
  ·obtain rfl:k=xs.length:=by omega
   have hd:decide ((xs.length:Int)<(xs.length:Int))=false:=by simp
   rw[List.take_length]at hp;have KE:Hid (jO wr w.1.size (w.1.size+1) w.1.size n v xs/\Below w.1.size w wr):=⟨hp,aD⟩
   clear hp aD;go_wp2;go_ret;exact⟨w.1.size+1,w.1.size,n,v,rfl,KE.out.1,QL,KE.out.2⟩
end tx
namespace tx
open Go.Proofs.Tryz
variable {k:Nat}{r s:Int}{t:T7}{x:S5}{xs:List S5}
theorem G6{f:Nat->Int}{n:Nat}(h:∀i,i+1<n->f i<f (i+1)){i j:Nat}(Ga:i<j)(hj:j<n):f i<f j:=by
 induction j with
 | zero=>omega
 | succ j ih=>
  by_cases e:i=j
  ·subst e;exact h i hj
  ·exact Int.lt_trans (ih (by omega) (by omega)) (h j hj)
theorem Qq(h:ky t=true):(∀s∈t.b,bI s=true)/\vG t.b:=by
 simp only[ky,Bool.and_eq_true]at h;have g:=h.1.2;rw[GH,Bool.and_eq_true,List.all_eq_true,List.all_eq_true]at g;refine⟨fun s hs=>?_,?_⟩
 ·obtain⟨i,hi,rfl⟩:=List.getElem_of_mem hs;have:=g.1 i (List.mem_range.2 hi);rwa[show aG t.b i=t.b[i]from by have:=fP hi;rw[List.getElem?_eq_getElem hi]at this;exact(Option.some.inj this).symm]at this
 ·refine List.pairwise_iff_getElem.2 fun i j hi hj Ga=>?_
  have:=G6 (f:=fun i=>kv (aG t.b i)) (n:=t.b.length) (fun i hi=>by
   have:=g.2 (i+1) (List.mem_range.2 hi);simp only[xh,Nat.add_sub_cancel,Bool.or_eq_true,decide_eq_true_eq]at this;rcases this with h|h
   ·omega
   ·exact h) Ga hj
  have e:∀i (hi:i<t.b.length),aG t.b i=t.b[i]:=fun i hi=>by have:=fP hi;rw[List.getElem?_eq_getElem hi]at this;exact(Option.some.inj this).symm
  rwa[e i hi,e j hj]at this
theorem Qr(h:ky t=true):(∀s∈t.ag,bf s=true)/\tV t.ag:=by
 simp only[ky,Bool.and_eq_true]at h;have g:=h.2;rw[Hd,Bool.and_eq_true,List.all_eq_true,List.all_eq_true]at g;refine⟨fun s hs=>?_,?_⟩
 ·obtain⟨i,hi,rfl⟩:=List.getElem_of_mem hs;have:=g.1 i (List.mem_range.2 hi);rwa[show aB t.ag i=t.ag[i]from by have:=eT hi;rw[List.getElem?_eq_getElem hi]at this;exact(Option.some.inj this).symm]at this
 ·refine List.pairwise_iff_getElem.2 fun i j hi hj Ga=>?_
  have:=G6 (f:=fun i=>jD (aB t.ag i)) (n:=t.ag.length) (fun i hi=>by
   have:=g.2 (i+1) (List.mem_range.2 hi);simp only[xE,Nat.add_sub_cancel,Bool.or_eq_true,decide_eq_true_eq]at this;rcases this with h|h
   ·omega
   ·exact h) Ga hj
  have e:∀i (hi:i<t.ag.length),aB t.ag i=t.ag[i]:=fun i hi=>by have:=eT hi;rw[List.getElem?_eq_getElem hi]at this;exact(Option.some.inj this).symm
  rwa[e i hi,e j hj]at this
def setAt(xs:List S5)(r s:Int):Int:=match mi xs r s with|some i=>(i:Int)|none=>-1
theorem Nb(h:mi (xs.take k) r s=none)(hx:xs[k]?=some x)(h1:x.a=r)(h2:x.e=s):mi xs r s=some k:=by
 have lk:=List.getElem?_eq_some_iff.1 hx;have l1:=lk.1;unfold mi at *;rw[List.findIdx?_eq_some_iff_getElem];refine⟨lk.1,by rw[lk.2];simp[h1,h2],fun j hj=>?_⟩;rw[List.findIdx?_eq_none_iff]at h;have:=h xs[j] (List.mem_take_iff_getElem.2 ⟨j,by omega,rfl⟩);simp at this ⊢;exact this
theorem Ho(h:mi (xs.take k) r s=none)(hx:xs[k]?=some x)(hn:¬(x.a=r/\x.e=s)):mi (xs.take (k+1)) r s=none:=by
 rw[Bj]at *;intro y hy;rw[List.take_add_one,hx]at hy;rcases List.mem_append.1 hy with hy|hy
 ·exact h y hy
 ·simp at hy;subst hy;exact hn
theorem Dp(w:World)(v:TV)(t:T7)(r s:Int)(hl:t.ag.length<=1000)(hs:kR w v t):
  Calls prog 20 #[v.val t,vI r,vI s] w fun e w'=>e=.returned (vI (setAt t.ag r s))/\Below w.1.size w w':=by
 obtain⟨ar,cr,ah,ch⟩:=v;simp only[TV.val];obtain⟨W,hW⟩:∃W,W=w.alloc (.cells #[vI t.id,vI t.l,vI t.o,vI t.u,.slice ar t.b.length cr,.slice ah t.ag.length ch,vI t.az] 53):=⟨_,rfl⟩
 have b0:Below w.1.size w W:=by rw[hW];exact aN.alloc aU _
 have x0:BT W w.1.size ⟨ar,cr,ah,ch⟩ t:=by rw[hW];exact BT.box w ⟨ar,cr,ah,ch⟩ t _
 have p5:=x0.c5;dsimp only at p5;have H:Hid (Sl W W.1.size ah t.ag.length t.ag/\Below w.1.size w W):=⟨(hs.later b0).s,b0⟩
 clear hs b0 x0;go_enter func20,ntmps20;go_wp2;rw[<-hW];clear hW;go_loopw[7] (fun v7 wr=>∃k:Nat,k<=t.ag.length/\v7=vI k/\wr=W/\mi (t.ag.take k) r s=none) (fun v7 _=>t.ag.length-(intOf v7).toNat)
 case atStart=>exact⟨0,Nat.zero_le _,rfl,rfl,by simp[mi]⟩
 case round=>
  obtain⟨k,hk,rfl,rfl,Mo⟩:=hrel;have KN:=ay Mo;clear Mo;by_cases aK:k<t.ag.length
  ·obtain⟨_,gu⟩:=H.out.1;rcases gu with gu|⟨b,off,rfl,hb,hx⟩
   ·omega
   obtain⟨c0,c1,c2,c3,c4⟩:=hx k _ (eT aK);clear hx;by_cases hg:(aB t.ag k).a=r
   ·have dg:((aB t.ag k).a==r)=true:=by simpa using hg
    by_cases Ch:(aB t.ag k).e=s
    ·have cq:((aB t.ag k).e==s)=true:=by simpa using Ch
     have HF:Hid (setAt t.ag r s=(k:Int)):=by unfold Hid setAt;rw[Nb KN.out (eT aK) hg Ch]
     clear hg Ch;go_wp2;go_ret;exact⟨by rw[HF.out];rfl,H.out.2⟩
    ·have cq:((aB t.ag k).e==s)=false:=by simpa using Ch
     have KE:Hid (mi (t.ag.take (k+1)) r s=none):=Ho KN.out (eT aK) (fun h=>Ch h.2);clear hg Ch;go_wp2;exact⟨⟨k+1,by omega,by simp,trivial,KE.out⟩,by simp[intOf];omega⟩
   ·have dg:((aB t.ag k).a==r)=false:=by simpa using hg
    have KE:Hid (mi (t.ag.take (k+1)) r s=none):=Ho KN.out (eT aK) (fun h=>hg h.1);clear hg;go_wp2;exact⟨⟨k+1,by omega,by simp,trivial,KE.out⟩,by simp[intOf];omega⟩
  ·obtain rfl:k=t.ag.length:=by omega
   have hd:decide ((t.ag.length:Int)<(t.ag.length:Int))=false:=by simp
   have HF:Hid (setAt t.ag r s=-1):=by unfold Hid setAt;have:=KN.out;rw[List.take_length]at this;rw[this]
   go_wp2;go_ret;exact⟨by rw[HF.out];rfl,H.out.2⟩
end tx
namespace tx
open Go.Proofs.Tryz
variable {w:World}
def uM(w:World)(N:T7)(ok:Bool)(e:Ending)(w':World):Prop:=
 ∃(a:OA) (c:Nat) (h:OA) (d:Nat) (PR PS:Nat->Prop),e=.returned (.tuple #[.agg #[vI N.id,vI N.l,vI N.o,vI N.u,.slice a N.b.length c,.slice h N.ag.length d,vI N.az],.bool ok])/\OT w' w.1.size ⟨a,c,h,d⟩ N PR PS/\Below w.1.size w w'
def kC:T7:=⟨0,0,0,0,[],[],0⟩
theorem OT.none{B:Nat}{N:T7}(h1:N.b=[])(h2:N.ag=[]):OT w B ⟨none,0,none,0⟩ N (fun _=>False) (fun _=>False):=⟨.inl h1,.inl h2,fun _ h=>h.elim,fun _ h=>h.elim,fun _ h=>h.elim⟩
theorem uM.zero{w':World}(hb:Below w.1.size w w'):uM w kC false (.returned (.tuple #[.agg #[vI 0,vI 0,vI 0,vI 0,.slice none 0 0,.slice none 0 0,vI 0],.bool false])) w':=
 ⟨none,0,none,0,fun _=>False,fun _=>False,rfl,OT.none rfl rfl,hb⟩
end tx
namespace tx
open Go.Proofs.Tryz
variable {W:World}{a:OA}{c n:Nat}
def Xo(w:World)(t:T7)(e:Ending)(w':World):Prop:=∃(a4:OA) (c4:Nat) (h4:OA) (d4:Nat) (PR PS:Nat->Prop),e=.returned ((TV.mk a4 c4 h4 d4).val t)/\OT w' w.1.size ⟨a4,c4,h4,d4⟩ t PR PS/\Below w.1.size w w'/\t.b.length<=c4/\t.ag.length<=d4
theorem fA.cap{base:Nat}{xs:List N5}(h:fA W base (.slice a n c) xs):xs.length<=c:=by
 rcases h.2 with ⟨e,h0⟩|⟨_,_,_,e,_,_,hl,_⟩
 ·rw[h0];exact Nat.zero_le _
 ·cases e;exact hl
theorem fC.cap{base:Nat}{xs:List S5}(h:fC W base (.slice a n c) xs):xs.length<=c:=by
 rcases h.2 with ⟨e,h0⟩|⟨_,_,_,e,_,_,hl,_⟩
 ·rw[h0];exact Nat.zero_le _
 ·cases e;exact hl
theorem rQ(w:World)(v:TV)(t:T7)(hr:t.b.length<=1048576)(Tf:t.ag.length<=1048576)(h:kR w v t):
  Calls prog 49 #[v.val t] w (Xo w t):=by
 obtain⟨ar,cr,ah,ch⟩:=v;simp only[TV.val];obtain⟨W1,gZ⟩:∃W1,W1=w.alloc (.cells #[vI t.id,vI t.l,vI t.o,vI t.u,.slice ar t.b.length cr,.slice ah t.ag.length ch,vI t.az] 53):=⟨_,rfl⟩
 have z1:W1.1.size=w.1.size+1:=by rw[gZ];simp
 have x1:BT W1 w.1.size ⟨ar,cr,ah,ch⟩ t:=by rw[gZ];exact BT.box w ⟨ar,cr,ah,ch⟩ t _
 have b1:Below w.1.size w W1:=by rw[gZ];exact aN.alloc aU _
 obtain⟨W,hW⟩:∃W2,W2=W1.alloc (.cells #[vI 0,vI 0,vI 0,vI 0,.slice none 0 0,.slice none 0 0,vI 0] 53):=⟨_,rfl⟩
 have b2:Below W1.1.size W1 W:=by rw[hW];exact aN.alloc aU _
 have yR:BT W (w.1.size+1) ⟨none,0,none,0⟩ ⟨0,0,0,0,[],[],0⟩:=by rw[hW,<-z1];exact BT.zero W1 _
 have sW:W.1.size=w.1.size+2:=by rw[hW];simp[z1]
 have yA:BT W w.1.size ⟨ar,cr,ah,ch⟩ t:=x1.later b2;have bW:Below w.1.size w W:=b1.trans (b2.mono b1.size);have tZ:Below W.1.size W (W.alloc (.cells #[] 70)):=aN.alloc aU _;obtain⟨a1,c1,Y1,kK,jB,F3⟩:=Ot (fA.made W) t.b hr 50 ar cr ((h.later (bW.trans (tZ.mono bW.size))).r) tZ.size;have pR:Below W.1.size W Y1:=tZ.grown F3 tZ.size (fun q e=>by cases e;exact Nat.le_refl _);have Nt:BT Y1 w.1.size ⟨ar,cr,ah,ch⟩ t:=yA.later pR;have TH:=yR.later pR;have QT:BT (Y1.setCell ⟨w.1.size,4,none⟩ (.slice a1 t.b.length c1)) w.1.size ⟨a1,c1,ah,ch⟩ t:=Nt.JS a1 c1 t.b;have TI:=TH.dX (p:=⟨w.1.size,4,none⟩) (by dsimp only;omega) (.slice a1 t.b.length c1);have Kz:Below w.1.size w (Y1.setCell ⟨w.1.size,4,none⟩ (.slice a1 t.b.length c1)):=(bW.trans (pR.mono bW.size)).setCell (p:=⟨w.1.size,4,none⟩) aU _;have Bd:fA (Y1.setCell ⟨w.1.size,4,none⟩ (.slice a1 t.b.length c1)) W.1.size (.slice a1 t.b.length c1) t.b:=jB.aL (fun q hq _ _=>Below.heap_setCell _ _ _ _ (by show q≠w.1.size;omega));have WZ:(Y1.setCell ⟨w.1.size,4,none⟩ (.slice a1 t.b.length c1)).1.size=Y1.1.size:=by simp[World.setCell]
 have Ij:Below (Y1.setCell ⟨w.1.size,4,none⟩ (.slice a1 t.b.length c1)).1.size (Y1.setCell ⟨w.1.size,4,none⟩ (.slice a1 t.b.length c1)) ((Y1.setCell ⟨w.1.size,4,none⟩ (.slice a1 t.b.length c1)).alloc (.cells #[] 73)):=aN.alloc aU _;obtain⟨a2,c2,Y2,oC,rX,F4⟩:=Ou (fC.made (Y1.setCell ⟨w.1.size,4,none⟩ (.slice a1 t.b.length c1))) t.ag Tf 51 ah ch ((h.later (Kz.trans (Ij.mono Kz.size))).s) Ij.size;have qM:Below (Y1.setCell ⟨w.1.size,4,none⟩ (.slice a1 t.b.length c1)).1.size (Y1.setCell ⟨w.1.size,4,none⟩ (.slice a1 t.b.length c1)) Y2:=Ij.grown F4 Ij.size (fun q e=>by cases e;exact Nat.le_refl _);have NB:BT Y2 w.1.size ⟨a1,c1,ah,ch⟩ t:=QT.later qM;have TJ:=TI.later qM;have gg:BT (Y2.setCell ⟨w.1.size,5,none⟩ (.slice a2 t.ag.length c2)) w.1.size ⟨a1,c1,a2,c2⟩ t:=NB.Bl a2 c2 t.ag;have TK:=TJ.dX (p:=⟨w.1.size,5,none⟩) (by dsimp only;omega) (.slice a2 t.ag.length c2);have nG:Below w.1.size w (Y2.setCell ⟨w.1.size,5,none⟩ (.slice a2 t.ag.length c2)):=(Kz.trans (qM.mono Kz.size)).setCell (p:=⟨w.1.size,5,none⟩) aU _;have l7:fA (Y2.setCell ⟨w.1.size,5,none⟩ (.slice a2 t.ag.length c2)) W.1.size (.slice a1 t.b.length c1) t.b:=(Bd.later qM).aL (fun q hq _ _=>Below.heap_setCell _ _ _ _ (by show q≠w.1.size;omega));have Im:W.1.size<=(Y1.setCell ⟨w.1.size,4,none⟩ (.slice a1 t.b.length c1)).1.size:=by rw[WZ];exact pR.size
 have nW:fC (Y2.setCell ⟨w.1.size,5,none⟩ (.slice a2 t.ag.length c2)) (Y1.setCell ⟨w.1.size,4,none⟩ (.slice a1 t.b.length c1)).1.size (.slice a2 t.ag.length c2) t.ag:=rX.aL (fun q hq _ _=>Below.heap_setCell _ _ _ _ (by show q≠w.1.size;omega));have jq:=TK.put ⟨a1,c1,a2,c2⟩ t;have p4:=yA.c4;have k4:=Nt.c4;have Fu:=Nt.fz 4;have p5:=(QT.later Ij).c5;have k5:=NB.c5;have Tq:=NB.fz 5;dsimp only at p4 k4 p5 k5;obtain⟨o0,o1,o2,o3,o4,o5,o6,-,-⟩:=gg;have KR:=TK;have OZ:∀q,(Value.slice a1 t.b.length c1).ownBlock=some q->W.1.size<=q/\q<(Y1.setCell ⟨w.1.size,4,none⟩ (.slice a1 t.b.length c1)).1.size:=fun q e=>Bd.lt e
 have KO:OT (Y2.setCell ⟨w.1.size,5,none⟩ (.slice a2 t.ag.length c2)) w.1.size ⟨a1,c1,a2,c2⟩ t (fun q=>(Value.slice a1 t.b.length c1).ownBlock=some q) (fun q=>(Value.slice a2 t.ag.length c2).ownBlock=some q):=by
  obtain⟨_,_,e1,o1⟩:=l7.form;obtain⟨_,_,e2,o2⟩:=nW.form
  cases e1;cases e2;exact⟨o1,o2,fun q h1 h2=>by have:=(OZ q h1).2;have:=(nW.lt h2).1;omega,fun q h1=>⟨by have:=(l7.lt h1).1;omega,(l7.lt h1).2⟩,fun q h1=>⟨by have:=(nW.lt h1).1;omega,(nW.lt h1).2⟩⟩
 have pj:Hid (t.b.length<=c1/\t.ag.length<=c2):=⟨l7.cap,nW.cap⟩
 have KH:Hid (OT (Y2.setCell ⟨w.1.size,5,none⟩ (.slice a2 t.ag.length c2)) w.1.size ⟨a1,c1,a2,c2⟩ t (fun q=>(Value.slice a1 t.b.length c1).ownBlock=some q) (fun q=>(Value.slice a2 t.ag.length c2).ownBlock=some q)/\Below w.1.size w (Y2.setCell ⟨w.1.size,5,none⟩ (.slice a2 t.ag.length c2))/\(∀q,nC (fun q=>(Value.slice a1 t.b.length c1).ownBlock=some q) (fun q=>(Value.slice a2 t.ag.length c2).ownBlock=some q) q->w.1.size+2<=q)):=⟨KO,nG,fun q hq=>by
  rcases hq with hq|hq
  ·have:=(l7.lt hq).1;omega
  ·have:=(nW.lt hq).1;omega⟩
 simp only[iw]at jq;obtain⟨u0,u1,u2,u3,u4,u5,u6,-,-⟩:=jq;have KX:Hid (((Y2.setCell ⟨w.1.size,5,none⟩ (.slice a2 t.ag.length c2)).cell? ⟨w.1.size,0,none⟩=some (vI t.id)/\(Y2.setCell ⟨w.1.size,5,none⟩ (.slice a2 t.ag.length c2)).cell? ⟨w.1.size,1,none⟩=some (vI t.l)/\(Y2.setCell ⟨w.1.size,5,none⟩ (.slice a2 t.ag.length c2)).cell? ⟨w.1.size,2,none⟩=some (vI t.o)/\(Y2.setCell ⟨w.1.size,5,none⟩ (.slice a2 t.ag.length c2)).cell? ⟨w.1.size,3,none⟩=some (vI t.u)/\(Y2.setCell ⟨w.1.size,5,none⟩ (.slice a2 t.ag.length c2)).cell? ⟨w.1.size,4,none⟩=some (.slice a1 t.b.length c1)/\(Y2.setCell ⟨w.1.size,5,none⟩ (.slice a2 t.ag.length c2)).cell? ⟨w.1.size,5,none⟩=some (.slice a2 t.ag.length c2)/\(Y2.setCell ⟨w.1.size,5,none⟩ (.slice a2 t.ag.length c2)).cell? ⟨w.1.size,6,none⟩=some (vI t.az))/\BT (Y2.setCell ⟨w.1.size,5,none⟩ (.slice a2 t.ag.length c2)) (w.1.size+1) ⟨none,0,none,0⟩ ⟨0,0,0,0,[],[],0⟩):=⟨⟨o0,o1,o2,o3,o4,o5,o6⟩,KR⟩
 have KU:=ay (And.intro u0 (And.intro u1 (And.intro u2 (And.intro u3 (And.intro u4 (And.intro u5 u6))))));have K1:=ay (And.intro k4 (And.intro Fu p5));have K2:=ay (And.intro k5 Tq);have R1:=ay kK;have R2:=ay oC;rw[gZ]at hW;have ZK:W.1.size=w.1.size+1+1:=by omega
 clear sW;clear gZ x1 b1 b2 z1 yA yR bW tZ pR jB F3 Nt TH QT TI Kz Bd Ij rX F4 qM NB TJ nG l7 nW Im OZ h KO KR o0 o1 o2 o3 o4 o5 o6 u0 u1 u2 u3 u4 u5 u6 k4 Fu p5 k5 Tq kK oC;go_enter func49,ntmps49;have r1:=R1.out;have r2:=R2.out;rw[ZK]at r1;rw[WZ]at r2;rw[hW]at r1;obtain⟨k4,Fu,p5⟩:=K1.out;obtain⟨k5,Tq⟩:=K2.out;obtain⟨⟨o0,o1,o2,o3,o4,o5,o6⟩,⟨r0,r1',r2',r3,r4,r5,r6,fr,-⟩⟩:=KX.out;have f0:=fr 0;have f1:=fr 1;have f2:=fr 2;have f3:=fr 3;have f4:=fr 4;have f5:=fr 5;have f6:=fr 6;clear fr K1 K2 KX R1 R2 hW p4 WZ ZK;go_wp2_with (first|(at_builtin;refine dF _ rfl (.tmp 3) (.tmp 5) 50 rfl _ _ _ _ rfl rfl r1 ?_)|(at_builtin;refine dF _ rfl (.tmp 8) (.tmp 10) 51 rfl _ _ _ _ rfl rfl r2 ?_));obtain⟨u0,u1,u2,u3,u4,u5,u6⟩:=KU.out;refine bodyPost_ret (v:=.agg #[vI t.id,vI t.l,vI t.o,vI t.u,.slice a1 t.b.length c1,.slice a2 t.ag.length c2,vI t.az]) (by simp[results,results49,go_sem,u0,u1,u2,u3,u4,u5,u6]) rfl ?_;obtain⟨ot,bX,q2⟩:=KH.out;refine⟨a1,c1,a2,c2,fun q=>(Value.slice a1 t.b.length c1).ownBlock=some q,fun q=>(Value.slice a2 t.ag.length c2).ownBlock=some q,rfl,?_,?_⟩
 ·exact ot.aL (by simp[World.setCell]) (fun q _ hq=>fq (s:=w.1.size+1) (v:=⟨a1,c1,a2,c2⟩) (t:=t) (by have:=q2 q hq;omega))
 ·exact⟨bS (s:=w.1.size+1) (v:=⟨a1,c1,a2,c2⟩) (t:=t) bX (by omega),pj.out⟩
theorem Jf(w:World)(v:TV)(t:T7)(hr:t.b.length<=1048576)(Tf:t.ag.length<=1048576)(h:kR w v t):
  Calls prog 49 #[v.val t] w (Xn w t):=by
 refine(rQ w v t hr Tf h).mono ?_;rintro e w' ⟨a,b,c,d,PR,PS,h1,h2,h3,_⟩;exact⟨a,b,c,d,PR,PS,h1,h2,h3⟩
end tx
namespace tx
open Go.Proofs.Tryz
variable {k:Nat}{n x:N5}{r s:Int}{xs:List N5}
def lX(xs:List N5)(r s:Int):Int:=match nV xs r s with|some i=>(i:Int)|none=>-1
theorem M7(xs:List N5)(r s:Int):decide (0<=lX xs r s)=(nV xs r s).isSome:=by
 unfold lX
 cases nV xs r s<;>simp
theorem MO(h:nV (xs.take k) r s=none)(hx:xs[k]?=some x)(h1:x.a=r)(h2:x.e=s):nV xs r s=some k:=by
 have lk:=List.getElem?_eq_some_iff.1 hx;have l1:=lk.1;unfold nV at *;rw[List.findIdx?_eq_some_iff_getElem];refine⟨lk.1,by rw[lk.2];simp[h1,h2],fun j hj=>?_⟩;rw[List.findIdx?_eq_none_iff]at h;have:=h xs[j] (List.mem_take_iff_getElem.2 ⟨j,by omega,rfl⟩);simp at this ⊢;exact this
theorem GL(h:nV (xs.take k) r s=none)(hx:xs[k]?=some x)(hn:¬(x.a=r/\x.e=s)):nV (xs.take (k+1)) r s=none:=by
 rw[AY]at *;intro y hy;rw[List.take_add_one,hx]at hy;rcases List.mem_append.1 hy with hy|hy
 ·exact h y hy
 ·simp at hy;subst hy;exact hn
theorem Aj(w:World)(v:TV)(t:T7)(r s:Int)(hl:t.b.length<=1000)(hs:kR w v t):
  Calls prog 19 #[v.val t,vI r,vI s] w fun e w'=>e=.returned (vI (lX t.b r s))/\Below w.1.size w w':=by
 obtain⟨ar,cr,ah,ch⟩:=v;simp only[TV.val];obtain⟨W,hW⟩:∃W,W=w.alloc (.cells #[vI t.id,vI t.l,vI t.o,vI t.u,.slice ar t.b.length cr,.slice ah t.ag.length ch,vI t.az] 53):=⟨_,rfl⟩
 have b0:Below w.1.size w W:=by rw[hW];exact aN.alloc aU _
 have x0:BT W w.1.size ⟨ar,cr,ah,ch⟩ t:=by rw[hW];exact BT.box w ⟨ar,cr,ah,ch⟩ t _
 have p4:=x0.c4;dsimp only at p4;have H:Hid (jP W W.1.size ar t.b.length t.b/\Below w.1.size w W):=⟨(hs.later b0).r,b0⟩
 clear hs b0 x0;go_enter func19,ntmps19;go_wp2;rw[<-hW];clear hW;go_loopw[7] (fun v7 wr=>∃k:Nat,k<=t.b.length/\v7=vI k/\wr=W/\nV (t.b.take k) r s=none) (fun v7 _=>t.b.length-(intOf v7).toNat)
 case atStart=>exact⟨0,Nat.zero_le _,rfl,rfl,by simp[nV]⟩
 case round=>
  obtain⟨k,hk,rfl,rfl,Mo⟩:=hrel;have KN:=ay Mo;clear Mo;by_cases aK:k<t.b.length
  ·obtain⟨_,gu⟩:=H.out.1;rcases gu with gu|⟨b,off,rfl,hb,hx⟩
   ·omega
   obtain⟨c0,c1,c2,c3,c4⟩:=hx k _ (fP aK);clear hx;by_cases hg:(aG t.b k).a=r
   ·have dg:((aG t.b k).a==r)=true:=by simpa using hg
    by_cases Ch:(aG t.b k).e=s
    ·have cq:((aG t.b k).e==s)=true:=by simpa using Ch
     have HF:Hid (lX t.b r s=(k:Int)):=by unfold Hid lX;rw[MO KN.out (fP aK) hg Ch]
     clear hg Ch;go_wp2;go_ret;exact⟨by rw[HF.out];rfl,H.out.2⟩
    ·have cq:((aG t.b k).e==s)=false:=by simpa using Ch
     have KE:Hid (nV (t.b.take (k+1)) r s=none):=GL KN.out (fP aK) (fun h=>Ch h.2);clear hg Ch;go_wp2;exact⟨⟨k+1,by omega,by simp,trivial,KE.out⟩,by simp[intOf];omega⟩
   ·have dg:((aG t.b k).a==r)=false:=by simpa using hg
    have KE:Hid (nV (t.b.take (k+1)) r s=none):=GL KN.out (fP aK) (fun h=>hg h.1);clear hg;go_wp2;exact⟨⟨k+1,by omega,by simp,trivial,KE.out⟩,by simp[intOf];omega⟩
  ·obtain rfl:k=t.b.length:=by omega
   have hd:decide ((t.b.length:Int)<(t.b.length:Int))=false:=by simp
   have HF:Hid (lX t.b r s=-1):=by unfold Hid lX;have:=KN.out;rw[List.take_length]at this;rw[this]
   go_wp2;go_ret;exact⟨by rw[HF.out];rfl,H.out.2⟩
def pW(xs:List N5)(n:N5):Nat:=xs.findIdx fun x=>!jk x.a x.e n.a n.e
def yK(xs:List N5)(n:N5):List N5:=xs.take (pW xs n)++[n]++xs.drop (pW xs n)
def ni(xs:List N5)(n:N5)(j:Nat):Bool:=jk (aG xs j).a (aG xs j).e n.a n.e
theorem zD{i:Nat}(h:i<xs.length):aG xs i=xs[i]:=by have:=fP h;rw[List.getElem?_eq_getElem h]at this;exact(Option.some.inj this).symm
theorem Rb(hk:k<xs.length)(h:ni xs n k=false)(aO:∀j,j<k->ni xs n j=true):pW xs n=k:=by
 unfold pW;rw[List.findIdx_eq hk];refine⟨by rw[<-zD hk];simpa[ni]using h,fun j hj=>?_⟩;rw[<-zD (by omega)];simpa[ni]using aO j hj
theorem Ov(aO:∀j,j<xs.length->ni xs n j=true):pW xs n=xs.length:=by
 unfold pW;rw[List.findIdx_eq_length];intro x hx;obtain⟨i,hi,rfl⟩:=List.getElem_of_mem hx;have:=aO i hi;rw[ni,zD hi]at this;simp[this]
def dL(t:T7)(n:N5):T7:=if ky t=true/\bI n=true then(if (nV t.b n.a n.e).isSome=true then t else if t.b.length=12 then kC else⟨t.id,t.l,t.o,t.u,yK t.b n,t.ag,t.az⟩)else kC
def fD(t:T7)(n:N5):Bool:=ky t&&bI n&&((nV t.b n.a n.e).isSome||!decide (t.b.length=12))
theorem Ju(w:World)(base p mb m:Nat)(v:Value)(xs:List N5)(h:lF w base p mb m v xs):
  Calls prog 204 #[.pointer (some ⟨p,0,none⟩)] w fun e w'=>e=.returned (.bool (decide (12<=xs.length)))/\w'=w:=by
 obtain⟨a,c,rfl,-⟩:=h.row.form;have c0:=h.c0;clear h;by_cases hl:12<=xs.length
 ·have d1:decide ((12:Int)<=(xs.length:Int))=true:=by simp;omega
  have d2:decide (12<=xs.length)=true:=by simpa using hl
  rw[d2];clear hl d2;go_enter func204,ntmps204;go_wp2;go_ret;exact⟨rfl,rfl⟩
 ·have d1:decide ((12:Int)<=(xs.length:Int))=false:=by simp;omega
  have d2:decide (12<=xs.length)=false:=by simpa using hl
  rw[d2];clear hl d2;go_enter func204,ntmps204;go_wp2;go_ret;exact⟨rfl,rfl⟩
end tx
end Go.Proofs.YtajmlpgodcfghaaGreatDoor
