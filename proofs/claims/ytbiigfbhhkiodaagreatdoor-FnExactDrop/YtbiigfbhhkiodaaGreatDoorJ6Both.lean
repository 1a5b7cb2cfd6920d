import Derived.Test.YtbiigfbhhkiodaaGreatDoorJ5Both
set_option maxHeartbeats 16000000
set_option maxRecDepth 100000
namespace Go.Proofs.YtbiigfbhhkiodaaGreatDoor
open Go.RowKit
open Go.Sort (grow)
namespace tx
open Go.Proofs.Tryz
variable {k:Nat}{x:N5}{xs:List N5}
def uZ(xs:List N5):Prop:=xs.Pairwise fun a b=>oK a<oK b
theorem De(h:uZ xs){i j:Nat}{y:N5}(hi:xs[i]?=some x)(hj:xs[j]?=some y)(IC:i<j):oK x<oK y:=by
 have li:=(List.getElem?_eq_some_iff.1 hi)
 have lj:=(List.getElem?_eq_some_iff.1 hj)
 have:=List.pairwise_iff_getElem.1 h i j li.1 lj.1 IC;rwa[li.2,lj.2]at this
theorem an(h:uZ xs)(hk:xs[k]?=some x):kS (xs.take k) x.b x.e=none:=by
 rw[ui];intro y hy e;obtain⟨i,hi,rfl⟩:=List.getElem_of_mem hy;have Ky:i<k:=by rw[List.length_take]at hi;omega
 have e2:xs[i]?=some ((xs.take k)[i]):=by
  have:=List.getElem?_eq_getElem hi;rwa[List.getElem?_take,if_pos Ky]at this
 have:=De h e2 hk Ky;unfold oK at this;rw[e.1,e.2]at this;omega
theorem XC(h:uZ xs)(hk:xs[k]?=some x):xs.take k=[]\/jR (xs.take k++[x]) (((xs.take k).length-1)/2)<=jR (xs.take k++[x]) (xs.take k).length:=by
 by_cases h0:k=0
 ·exact .inl (by rw[h0];rfl)
 ·have lk:=(List.getElem?_eq_some_iff.1 hk).1;have hl:(xs.take k).length=k:=by rw[List.length_take];omega
  have e1:xs.take k++[x]=xs.take (k+1):=by rw[List.take_add_one,hk];rfl
  refine .inr ?_;rw[hl,e1];obtain⟨y,hy⟩:∃y,xs[(k-1)/2]?=some y:=⟨_,List.getElem?_eq_getElem (by omega)⟩
  rw[Fp (x:=y) (by rw[List.getElem?_take,if_pos (by omega)];exact hy),Fp (x:=x) (by rw[List.getElem?_take,if_pos (by omega)];exact hk)];exact Int.le_of_lt (De h hy hk (by omega))
theorem kM(w:World)(a:OA)(c:Nat)(xs:List N5)(hl:xs.length<=100)(hs:ky w w.1.size a xs.length xs)(il:∀s∈xs,bS s=true)(Gh:uZ xs):
  Calls prog 58 #[.slice a xs.length c] w fun e w'=>∃p mb n v,e=.returned (.pointer (some ⟨p,0,none⟩))/\sw w' w.1.size p mb n v xs/\n<=xs.length/\Below w.1.size w w':=by
 obtain⟨W0,dO⟩:=bO (w.alloc (.map #[] 0));have z0:W0.1.size=w.1.size+1:=by rw[dO];simp
 have b0:Below w.1.size w W0:=by rw[dO];exact aK.alloc aU _
 obtain⟨W,hW⟩:=bO (W0.alloc (.cells #[.slice none 0 0,.map (some w.1.size)] 172));have b1:Below W0.1.size W0 W:=by rw[hW];exact aK.alloc aU _
 have pb:sw W w.1.size (w.1.size+1) w.1.size 0 (.slice none 0 0) []:=by
  refine⟨(by rw[hW,<-z0];go_simp),(by rw[hW,<-z0];go_simp),(fun j=>by rw[hW,<-z0];go_simp),gZ.nil _ _,?_,(fun s hs=>by cases hs),(fun e=>by cases e),(fun e=>by cases e),(by omega),(by omega),Nat.le_refl _,(by rw[hW];simp[z0])⟩;have hm:=(kE.made w).later (W':=W) (by rw[<-dO];exact b1);exact hm
 have H:=nE hs il Gh pb (b0.trans (b1.mono b0.size));clear hs il Gh pb b0 b1 z0;rw[dO]at hW;clear dO;have Cb:=@run_makeMap prog;go_enter func58,ntmps58;go_wp2;rw[<-hW];clear hW;go_loopw[11] (fun v11 wr=>∃(k n:Nat) (v:Value),k<=xs.length/\v11=vI (k:Int)/\sw wr w.1.size (w.1.size+1) w.1.size n v (xs.take k)/\n<=k/\Below w.1.size w wr) (fun v11 _=>xs.length-(intOf v11).toNat)
 case atStart=>exact⟨0,0,.slice none 0 0,Nat.zero_le _,rfl,by simpa using H.out.2.2.2.1,Nat.le_refl _,H.out.2.2.2.2⟩
 case round=>
  obtain⟨k,n,v,hk,rfl,hp,k9,aB⟩:=hrel;by_cases aN:k<xs.length
  ·obtain⟨_,fQ⟩:=H.out.1.later aB;rcases fQ with fQ|⟨b,off,rfl,hb,hx⟩
   ·omega
   have zg:=fD aN;obtain⟨c0,c1,c2,c3,c4⟩:=hx k _ zg;obtain⟨V,hV⟩:=bO (wr.alloc (.cells #[vI (aH xs k).b,vI (aH xs k).e,vI (aH xs k).i,vI (aH xs k).g,.bool (aH xs k).j] 99));have bV:Below wr.1.size wr V:=by rw[hV];exact aK.alloc aU _
   have cp:=OJ V w.1.size (w.1.size+1) w.1.size n v (xs.take k) (aH xs k) (hp.later bV) (by omega) (by rw[List.length_take];omega) (H.out.2.1 _ (List.mem_of_getElem? zg)) (an H.out.2.2.1 zg) (Nat.le_trans aB.size bV.size) (XC H.out.2.2.1 zg);have KB:=dw (aB.trans (bV.mono aB.size)) (show xs.take k++[aH xs k]=xs.take (k+1) by rw[List.take_add_one,zg];rfl);clear hp aB hx zg bV;go_wp2_with fail;rw[<-hV];clear hV c0 c1 c2 c3 c4;refine cp.mono ?_;clear cp;rintro e w1 ⟨rfl,v',p1,b1⟩;rw[KB.out.2]at p1;have KE:=dw p1 (KB.out.1.trans b1);clear p1 b1;go_wp2;exact⟨⟨k+1,n+1,v',by omega,by simp,KE.out.1,by omega,KE.out.2⟩,by simp[intOf];omega⟩
  ·obtain rfl:k=xs.length:=by omega
   have hd:decide ((xs.length:Int)<(xs.length:Int))=false:=by simp
   rw[List.take_length]at hp;have KE:=dw hp aB;clear hp aB;go_wp2;go_ret;exact⟨w.1.size+1,w.1.size,n,v,rfl,KE.out.1,k9,KE.out.2⟩
theorem OI(w:World)(base p mb n:Nat)(v:Value)(xs:List N5)(r s:Int)(h:sw w base p mb n v xs)(h1:aW 0 5 r=true)(h2:aW 0 5 s=true):
  Calls prog 248 #[.pointer (some ⟨p,0,none⟩),.agg #[vI r,vI s]] w fun e w'=>e=.returned (.bool (kS xs r s).isSome)/\Below w.1.size w w':=by
 obtain⟨W0,dO⟩:=bO (w.alloc (.cells #[vI r,vI s] 56));have b0:Below w.1.size w W0:=by rw[dO];exact aK.alloc aU _
 have z0:W0.1.size=w.1.size+1:=by rw[dO];simp
 have h0:=h.later b0;have lk:=fun d os=>((h0.mp).later (below_regrown W0 d os)).look h1 h2
 have m1:=fun d os=>((below_regrown W0 d os).cell (p:=⟨p,1,none⟩) h0.lp).trans h0.c1
 have t0:=@cell_regrown W0 ⟨w.1.size,0,none⟩ (vI r) (by rw[dO];go_simp);have t1:=@cell_regrown W0 ⟨w.1.size,1,none⟩ (vI s) (by rw[dO];go_simp);have H:=af (b0);clear h h0 b0 z0 h1 h2;simp only[jI]at lk;generalize (kS xs r s).isSome=B at *;generalize ((kS xs r s).getD 0)=I at *;go_enter func248,ntmps248;go_wp2_with fail;rw[<-dO];clear dO;refine gy ?_;repeat (go_big_quiet_step (fail))
 refine wpQuiet_nil ?_;intro _ tL;obtain⟨⟨jH,bu⟩,jF⟩:=tL;subst jF;have bq:=below_regrown W0 jH bu;have KE:=af (H.out.trans (bq.mono H.out.size));clear bq lk m1 t0 t1;go_wp2;go_ret;exact⟨rfl,KE.out⟩
end tx
namespace tx
open Go.Proofs.Tryz
variable {V W:World}{mb n p q:Nat}{xs:List S5}
structure o7(W:World)(base p q mb n cap:Nat)(xs:List S5):Prop where
 c0:W.cell? ⟨p,0,none⟩=some (.slice (some ⟨q,0,none⟩) xs.length cap)
 c1:W.cell? ⟨p,1,none⟩=some (.map (some mb))
 fz:∀j,W.frozen? ⟨p,j,none⟩=false
 at_:aY W q 0 xs
 rm:Room W q (xs.length*5)
 cp:xs.length<=cap
 mp:uM W mb n
 ok:∀s∈xs,bK s=true
 pq:p≠q
 pm:p≠mb
 qm:q≠mb
 bp:base<=p
 bq:base<=q
 bm:base<=mb
 lp:p<W.1.size
 lq:q<W.1.size
theorem o7.aM{base cap:Nat}(h:o7 W base p q mb n cap xs)(hs:W.1.size<=V.1.size)(hk:∀x,qE p q mb x->V.1[x]?=W.1[x]?):o7 V base p q mb n cap xs:=
 ⟨(World.cell?_of_block (a:=⟨p,0,none⟩) (hk p (.inl rfl))).trans h.c0,(World.cell?_of_block (a:=⟨p,1,none⟩) (hk p (.inl rfl))).trans h.c1,fun j=>(World.frozen?_of_block (a:=⟨p,j,none⟩) (hk p (.inl rfl))).trans (h.fz j),h.at_.aj (hk q (.inr (.inl rfl))),h.rm.aj (hk q (.inr (.inl rfl))),h.cp,h.mp.aj (hk mb (.inr (.inr rfl))),h.ok,h.pq,h.pm,h.qm,h.bp,h.bq,h.bm,Nat.lt_of_lt_of_le h.lp hs,Nat.lt_of_lt_of_le h.lq hs⟩
theorem o7.later{base cap:Nat}(h:o7 W base p q mb n cap xs)(hb:Below W.1.size W V):o7 V base p q mb n cap xs:=h.aM hb.size (fun x hx=>hb.block x (by rcases hx with rfl|rfl|rfl;exact h.lp;exact h.lq;exact h.mp.lt))
theorem o7.vJ{base cap:Nat}(h:o7 W base p q mb n cap xs)(e:W.drew=V):o7 V base p q mb n cap xs:=by rw[<-e];exact h.later (aK.drew)
theorem o7.DI{base n' cap:Nat}(h:o7 W base p q mb n cap xs)(ht:dV mb W V)(hm:uM V mb n')(hs:V.1.size=W.1.size):o7 V base p q mb n' cap xs:=by
 have hp:=ht.block p h.lp h.pm;have hq:=ht.block q h.lq h.qm;exact⟨(World.cell?_of_block (a:=⟨p,0,none⟩) hp).trans h.c0,(World.cell?_of_block (a:=⟨p,1,none⟩) hp).trans h.c1,fun j=>(World.frozen?_of_block (a:=⟨p,j,none⟩) hp).trans (h.fz j),h.at_.aj hq,h.rm.aj hq,h.cp,hm,h.ok,h.pq,h.pm,h.qm,h.bp,h.bq,h.bm,by rw[hs];exact h.lp,by rw[hs];exact h.lq⟩
theorem o7.Jo{base cap i:Nat}{x:S5}(h:o7 W base p q mb n cap xs)(hi:xs[i]?=some x)(y:S5)(hy:bK y=true):o7 (((((W.setCell ⟨q,i*5,none⟩ (vI y.b)).setCell ⟨q,i*5+1,none⟩ (vI y.e)).setCell ⟨q,i*5+2,none⟩ (vI y.g)).setCell ⟨q,i*5+3,none⟩ (.bool y.j)).setCell ⟨q,i*5+4,none⟩ (vI y.i)) base p q mb n cap (xs.set i y):=by
 have li:=(List.getElem?_eq_some_iff.1 hi).1;have ho:aX q W (((((W.setCell ⟨q,i*5,none⟩ (vI y.b)).setCell ⟨q,i*5+1,none⟩ (vI y.e)).setCell ⟨q,i*5+2,none⟩ (vI y.g)).setCell ⟨q,i*5+3,none⟩ (.bool y.j)).setCell ⟨q,i*5+4,none⟩ (vI y.i)):=(((((aX.refl q _).setCell _ _).setCell _ _).setCell _ _).setCell _ _).setCell _ _;have hp:=ho.block p h.pq;have hm:=ho.block mb (Ne.symm h.qm);obtain⟨v0,d0,_⟩:=h.rm (i*5) (by omega);obtain⟨v1,d1,_⟩:=h.rm (i*5+1) (by omega);obtain⟨v2,d2,_⟩:=h.rm (i*5+2) (by omega);obtain⟨v3,d3,_⟩:=h.rm (i*5+3) (by omega);obtain⟨v4,d4,_⟩:=h.rm (i*5+4) (by omega);refine⟨(World.cell?_of_block (a:=⟨p,0,none⟩) hp).trans (by rw[List.length_set];exact h.c0),(World.cell?_of_block (a:=⟨p,1,none⟩) hp).trans h.c1,fun j=>(World.frozen?_of_block (a:=⟨p,j,none⟩) hp).trans (h.fz j),fun k s hk=>?_,by rw[List.length_set];exact((((h.rm.set _).set _).set _).set _).set _,by rw[List.length_set];exact h.cp,h.mp.aj hm,fun s hs=>?_,h.pq,h.pm,h.qm,h.bp,h.bq,h.bm,by rw[ho.size];exact h.lp,by rw[ho.size];exact h.lq⟩
 ·rw[Nat.zero_add];by_cases e:i=k
  ·subst e;rw[List.getElem?_set_self li]at hk;obtain rfl:=Option.some.inj hk;exact aV.put y d0 d1 d2 d3 d4
  ·rw[List.getElem?_set_ne e]at hk;have:=h.at_ k s hk;rw[Nat.zero_add]at this;exact((((this.set (by omega) _).set (by omega) _).set (by omega) _).set (by omega) _).set (by omega) _
 ·rcases List.mem_or_eq_of_mem_set hs with hs|rfl
  ·exact h.ok s hs
  ·exact hy
theorem wy(w:World)(base p q mb n cap:Nat)(xs:List S5)(i j:Nat)(x y:S5)(h:o7 w base p q mb n cap xs)(hn:n<=100000)(hl:xs.length<=1000)(hi:xs[i]?=some x)(hj:xs[j]?=some y):
  Calls prog 212 #[.pointer (some ⟨p,0,none⟩),vI (i:Int),vI (j:Int)] w fun e w'=>e=.returned (.tuple #[])/\o7 w' base p q mb (n+1+1) cap ((xs.set i y).set j x)/\aG (qE p q mb) w w':=by
 have li:=(List.getElem?_eq_some_iff.1 hi).1;have lj:=(List.getElem?_eq_some_iff.1 hj).1;have ix:(i:Int)<(xs.length:Int):=by omega
 have jx:(j:Int)<(xs.length:Int):=by omega
 have hS:(fun X:World=>X.cell? ⟨p,0,none⟩=some (.slice (some ⟨q,0,none⟩) xs.length cap)/\aV X q (i*5) x/\aV X q (j*5) y) w.drew:=⟨h.c0,(show aV w q (i*5) x by simpa using h.at_ i x hi).below ((Below.refl w.1.size w).drew) h.lq,(show aV w q (j*5) y by simpa using h.at_ j y hj).below ((Below.refl w.1.size w).drew) h.lq⟩
 have rd:Room w.drew q (xs.length*5):=h.rm;have KH:=af h;clear h;go_enter func212,ntmps212;go_upto_region 0 with fail
 refine aT (fun z=>z==25||z==27) (fun X:World=>X.cell? ⟨p,0,none⟩=some (.slice (some ⟨q,0,none⟩) xs.length cap)/\aV X q (i*5) x/\aV X q (j*5) y) (by kernel_rfl) ?_;obtain⟨v0,c0,f0⟩:=rd (i*5) (by omega);obtain⟨v1,c1,f1⟩:=rd (i*5+1) (by omega);obtain⟨v2,c2,f2⟩:=rd (i*5+2) (by omega);obtain⟨v3,c3,f3⟩:=rd (i*5+3) (by omega);obtain⟨v4,c4,f4⟩:=rd (i*5+4) (by omega);generalize Ws:w.drew=Wd at *;refine bf 0 rfl hS ?_;simp only[Act.put];refine bf 1 rfl hS ?_;simp only[Act.put];refine bf 2 rfl hS ?_;simp only[Act.put];refine fU 3 ?_ rfl ?_ hS ?_;rotate_left
 ·(intro w aA;obtain⟨s0,⟨a0,a1,a2,a3,a4⟩,⟨b0,b1,b2,b3,b4⟩⟩:=aA;go_simp;first|done|with_reducible rfl)
 simp only[Act.put];refine bf 4 rfl hS ?_;simp only[Act.put];refine bf 5 rfl hS ?_;simp only[Act.put];refine bf 6 rfl hS ?_;simp only[Act.put];refine bf 7 rfl hS ?_;simp only[Act.put];refine fU 8 ?_ rfl ?_ hS ?_;rotate_left
 ·(intro w aA;obtain⟨s0,⟨a0,a1,a2,a3,a4⟩,⟨b0,b1,b2,b3,b4⟩⟩:=aA;go_simp;first|done|with_reducible rfl)
 simp only[Act.put];refine bf 9 rfl hS ?_;simp only[Act.put];refine bf 10 rfl hS ?_;simp only[Act.put];refine bf 11 rfl hS ?_;simp only[Act.put];refine bf 12 rfl hS ?_;simp only[Act.put];refine fU 13 ?_ rfl ?_ hS ?_;rotate_left
 ·(intro w aA;obtain⟨s0,⟨a0,a1,a2,a3,a4⟩,⟨b0,b1,b2,b3,b4⟩⟩:=aA;go_simp;first|done|with_reducible rfl)
 simp only[Act.put];refine bf 14 rfl hS ?_;simp only[Act.put];refine bf 15 rfl hS ?_;simp only[Act.put];refine fU 16 ?_ rfl ?_ hS ?_;rotate_left
 ·(intro w aA;obtain⟨s0,⟨a0,a1,a2,a3,a4⟩,⟨b0,b1,b2,b3,b4⟩⟩:=aA;go_simp;first|done|with_reducible rfl)
 simp only[Act.put];refine bf 17 rfl hS ?_;simp only[Act.put];refine bf 18 rfl hS ?_;simp only[Act.put];refine bf 19 rfl hS ?_;simp only[Act.put];refine fU 20 ?_ rfl ?_ hS ?_;rotate_left
 ·(intro w aA;obtain⟨s0,⟨a0,a1,a2,a3,a4⟩,⟨b0,b1,b2,b3,b4⟩⟩:=aA;go_simp;first|done|with_reducible rfl)
 simp only[Act.put];refine bf 21 rfl hS ?_;simp only[Act.put];refine bf 22 rfl hS ?_;simp only[Act.put];refine fU 23 ?_ rfl ?_ hS ?_;rotate_left
 ·(intro w aA;obtain⟨s0,⟨a0,a1,a2,a3,a4⟩,⟨b0,b1,b2,b3,b4⟩⟩:=aA;go_simp;first|done|with_reducible rfl)
 simp only[Act.put];refine bf 24 rfl hS ?_;simp only[Act.put];refine bG 25 rfl (fun K hK=>?_);go_simp;refine hK.out _ _ (fun h=>absurd (show false=true from h.symm.trans (by kernel_rfl)) (by decide)) ?_;clear hK K;refine bG 26 rfl (fun K hK=>?_);go_simp;refine hK.out _ _ (fun h=>absurd (show false=true from h.symm.trans (by kernel_rfl)) (by decide)) ?_;clear hK K;have r1:Room (((((Wd.setCell ⟨q,i*5,none⟩ (vI y.b)).setCell ⟨q,i*5+1,none⟩ (vI y.e)).setCell ⟨q,i*5+2,none⟩ (vI y.g)).setCell ⟨q,i*5+3,none⟩ (.bool y.j)).setCell ⟨q,i*5+4,none⟩ (vI y.i)) q (xs.length*5):=((((rd.set _).set _).set _).set _).set _;generalize fA:(((((Wd.setCell ⟨q,i*5,none⟩ (vI y.b)).setCell ⟨q,i*5+1,none⟩ (vI y.e)).setCell ⟨q,i*5+2,none⟩ (vI y.g)).setCell ⟨q,i*5+3,none⟩ (.bool y.j)).setCell ⟨q,i*5+4,none⟩ (vI y.i))=W1 at *;obtain⟨u0,e0,g0⟩:=r1 (j*5) (by omega);obtain⟨u1,e1,g1⟩:=r1 (j*5+1) (by omega);obtain⟨u2,e2,g2⟩:=r1 (j*5+2) (by omega);obtain⟨u3,e3,g3⟩:=r1 (j*5+3) (by omega);obtain⟨u4,e4,g4⟩:=r1 (j*5+4) (by omega);refine bG 27 rfl (fun K hK=>?_);go_simp;refine hK.out _ _ (fun h=>absurd (show false=true from h.symm.trans (by kernel_rfl)) (by decide)) ?_;clear hK K;refine bH (by kernel_rfl) ?_ _
 have Od:(xs.set i y)[j]?=some y:=by
  by_cases e:i=j
  ·subst e;rw[List.getElem?_set_self li]
  ·rw[List.getElem?_set_ne e];exact hj
 have PF:o7 (((((W1.setCell ⟨q,j*5,none⟩ (vI x.b)).setCell ⟨q,j*5+1,none⟩ (vI x.e)).setCell ⟨q,j*5+2,none⟩ (vI x.g)).setCell ⟨q,j*5+3,none⟩ (.bool x.j)).setCell ⟨q,j*5+4,none⟩ (vI x.i)) base p q mb n cap ((xs.set i y).set j x):=by
  rw[<-fA];exact((KH.out.vJ Ws).Jo hi y (KH.out.ok y (List.mem_of_getElem? hj))).Jo Od x (KH.out.ok x (List.mem_of_getElem? hi))
 have KF:aG (qE p q mb) w (((((W1.setCell ⟨q,j*5,none⟩ (vI x.b)).setCell ⟨q,j*5+1,none⟩ (vI x.e)).setCell ⟨q,j*5+2,none⟩ (vI x.g)).setCell ⟨q,j*5+3,none⟩ (.bool x.j)).setCell ⟨q,j*5+4,none⟩ (vI x.i)):=by
  rw[<-fA,<-Ws];exact(aG.bN ((Below.refl w.1.size w).drew)).trans (aG.jX (c:=q) (((((((((((aX.refl q _).setCell _ _).setCell _ _).setCell _ _).setCell _ _).setCell _ _).setCell _ _).setCell _ _).setCell _ _).setCell _ _).setCell _ _) (.inr (.inl rfl)))
 obtain⟨zi,Q0⟩:∃z,((xs.set i y).set j x)[i]?=some z:=⟨_,List.getElem?_eq_getElem (by simpa using li)⟩
 have ZV:((xs.set i y).set j x)[j]?=some x:=by rw[List.getElem?_set_self (by simpa using lj)]
 have hle:((xs.set i y).set j x).length=xs.length:=by simp
 have YC:Hid (aG (qE p q mb) w (((((W1.setCell ⟨q,j*5,none⟩ (vI x.b)).setCell ⟨q,j*5+1,none⟩ (vI x.e)).setCell ⟨q,j*5+2,none⟩ (vI x.g)).setCell ⟨q,j*5+3,none⟩ (.bool x.j)).setCell ⟨q,j*5+4,none⟩ (vI x.i))/\o7 (((((W1.setCell ⟨q,j*5,none⟩ (vI x.b)).setCell ⟨q,j*5+1,none⟩ (vI x.e)).setCell ⟨q,j*5+2,none⟩ (vI x.g)).setCell ⟨q,j*5+3,none⟩ (.bool x.j)).setCell ⟨q,j*5+4,none⟩ (vI x.i)) base p q mb n cap ((xs.set i y).set j x)):=⟨KF,PF⟩
 clear KH PF KF Od rd r1 c0 c1 c2 c3 c4 f0 f1 f2 f3 f4 e0 e1 e2 e3 e4 g0 g1 g2 g3 g4 hS Ws fA ix jx;generalize (((((W1.setCell ⟨q,j*5,none⟩ (vI x.b)).setCell ⟨q,j*5+1,none⟩ (vI x.e)).setCell ⟨q,j*5+2,none⟩ (vI x.g)).setCell ⟨q,j*5+3,none⟩ (.bool x.j)).setCell ⟨q,j*5+4,none⟩ (vI x.i))=V at *;have KH:=YC;clear YC;generalize Y9:(xs.set i y).set j x=zs at *;have tH:zs.length=xs.length:=hle;have ix:(i:Int)<(zs.length:Int):=by omega
 have jx:(j:Int)<(zs.length:Int):=by omega
 rw[<-tH]at li lj hl;have HZ:=af Y9;clear hle hi hj Y9 tH Wd W1;have Ku:=Q0;have Kv:=ZV;clear Q0 ZV;obtain⟨ZR,Xd⟩:∃hz:bK zi=true,V.1.size=V.1.size:=⟨KH.out.2.ok zi (List.mem_of_getElem? Ku),rfl⟩
 have WO:=fM ZR;have hS:(fun X:World=>X.cell? ⟨p,0,none⟩=some (.slice (some ⟨q,0,none⟩) (zs).length cap)/\X.cell? ⟨p,1,none⟩=some (.map (some mb))/\aV X q (i*5) zi) V.drew:=⟨KH.out.2.c0,KH.out.2.c1,(show aV V q (i*5) zi by simpa using KH.out.2.at_ i zi Ku).below ((Below.refl V.1.size V).drew) KH.out.2.lq⟩
 have hm:∀w:World,(method 458 96 (.agg #[vI zi.b,vI zi.e,vI zi.g,.bool zi.j,vI zi.i]) "loop.example/g00153/impl.cell").run prog w=.ok (157,.agg #[vI zi.b,vI zi.e,vI zi.g,.bool zi.j,vI zi.i]) w:=fun _=>by kernel_rfl
 go_upto_region 1 with fail
 refine aT (fun z=>z==14) (fun X:World=>X.cell? ⟨p,0,none⟩=some (.slice (some ⟨q,0,none⟩) (zs).length cap)/\X.cell? ⟨p,1,none⟩=some (.map (some mb))/\aV X q (i*5) zi) (by kernel_rfl) ?_;have KD:Hid (Below V.1.size V V.drew):=aK.drew;generalize V.drew=Wd at *;refine bf 0 rfl hS ?_;simp only[Act.put];refine bf 1 rfl hS ?_;simp only[Act.put];refine bf 2 rfl hS ?_;simp only[Act.put];refine fU 3 ?_ rfl ?_ hS ?_;rotate_left
 ·(intro w aA;obtain⟨s0,s1,⟨a0,a1,a2,a3,a4⟩⟩:=aA;go_simp;first|done|with_reducible rfl)
 simp only[Act.put];refine bf 4 rfl hS ?_;simp only[Act.put];refine bf 5 rfl hS ?_;simp only[Act.put];refine bf 6 rfl hS ?_;simp only[Act.put];refine fU 7 ?_ rfl ?_ hS ?_;rotate_left
 ·(intro w aA;obtain⟨s0,s1,⟨a0,a1,a2,a3,a4⟩⟩:=aA;go_simp;first|done|with_reducible rfl)
 simp only[Act.put];refine bf 8 rfl hS ?_;simp only[Act.put];refine bf 9 rfl hS ?_;simp only[Act.put];refine fU 10 ?_ rfl ?_ hS ?_;rotate_left
 ·(intro w aA;obtain⟨s0,s1,⟨a0,a1,a2,a3,a4⟩⟩:=aA;go_simp;first|done|with_reducible rfl)
 simp only[Act.put];refine bf 11 rfl hS ?_;simp only[Act.put];refine bf 13 rfl hS ?_;simp only[Act.put];refine bG 12 rfl (fun K hK=>?_);go_simp;refine(gF Wd zi).mono ?_;rintro e X2 ⟨rfl,b2⟩;have bX:Below V.1.size V X2:=KD.out.trans (b2.mono KD.out.size);have P2:=KH.out.2.later bX;obtain⟨Y,fq,uR,ng,vR⟩:=P2.mp.store (by omega) WO.1 WO.2 i (by omega);have P3:=P2.DI ng uR vR;have KX:Hid (aG (qE p q mb) w Y/\o7 Y base p q mb (n+1) cap (zs)):=⟨(KH.out.1.trans (aG.bN bX)).trans (aG.mJ ng (.inr (.inr rfl))),P3⟩
 simp only[jI]at fq;have gN:(fun X:World=>X.cell? ⟨p,0,none⟩=some (.slice (some ⟨q,0,none⟩) (zs).length cap)/\X.cell? ⟨p,1,none⟩=some (.map (some mb))/\aV X q (i*5) zi) X2:=⟨P2.c0,P2.c1,by simpa using P2.at_ i zi Ku⟩
 refine hK.out _ _ (fun _=>gN) ?_;clear hK K gN hS P2 P3 bX KD uR ng vR hm ZR Xd WO KH b2;refine bG 14 rfl (fun K hK=>?_);go_simp;refine hK.out _ _ (fun h=>absurd (show false=true from h.symm.trans (by kernel_rfl)) (by decide)) ?_;clear hK K fq;refine bH (by kernel_rfl) ?_ _;have KH:=KX;clear KX;generalize Y=V2 at *;obtain⟨ZT,Xe⟩:∃hz:bK x=true,V2.1.size=V2.1.size:=⟨KH.out.2.ok x (List.mem_of_getElem? Kv),rfl⟩
 have WQ:=fM ZT;have hS:(fun X:World=>X.cell? ⟨p,0,none⟩=some (.slice (some ⟨q,0,none⟩) (zs).length cap)/\X.cell? ⟨p,1,none⟩=some (.map (some mb))/\aV X q (j*5) x) V2.drew:=⟨KH.out.2.c0,KH.out.2.c1,(show aV V2 q (j*5) x by simpa using KH.out.2.at_ j x Kv).below ((Below.refl V2.1.size V2).drew) KH.out.2.lq⟩
 have hm:∀w:World,(method 458 96 (.agg #[vI x.b,vI x.e,vI x.g,.bool x.j,vI x.i]) "loop.example/g00153/impl.cell").run prog w=.ok (157,.agg #[vI x.b,vI x.e,vI x.g,.bool x.j,vI x.i]) w:=fun _=>by kernel_rfl
 go_upto_region 2 with fail
 refine aT (fun z=>z==14) (fun X:World=>X.cell? ⟨p,0,none⟩=some (.slice (some ⟨q,0,none⟩) (zs).length cap)/\X.cell? ⟨p,1,none⟩=some (.map (some mb))/\aV X q (j*5) x) (by kernel_rfl) ?_;have KD:Hid (Below V2.1.size V2 V2.drew):=aK.drew;generalize V2.drew=Wd at *;refine bf 0 rfl hS ?_;simp only[Act.put];refine bf 1 rfl hS ?_;simp only[Act.put];refine bf 2 rfl hS ?_;simp only[Act.put];refine fU 3 ?_ rfl ?_ hS ?_;rotate_left
 ·(intro w aA;obtain⟨s0,s1,⟨a0,a1,a2,a3,a4⟩⟩:=aA;go_simp;first|done|with_reducible rfl)
 simp only[Act.put];refine bf 4 rfl hS ?_;simp only[Act.put];refine bf 5 rfl hS ?_;simp only[Act.put];refine bf 6 rfl hS ?_;simp only[Act.put];refine fU 7 ?_ rfl ?_ hS ?_;rotate_left
 ·(intro w aA;obtain⟨s0,s1,⟨a0,a1,a2,a3,a4⟩⟩:=aA;go_simp;first|done|with_reducible rfl)
 simp only[Act.put];refine bf 8 rfl hS ?_;simp only[Act.put];refine bf 9 rfl hS ?_;simp only[Act.put];refine fU 10 ?_ rfl ?_ hS ?_;rotate_left
 ·(intro w aA;obtain⟨s0,s1,⟨a0,a1,a2,a3,a4⟩⟩:=aA;go_simp;first|done|with_reducible rfl)
 simp only[Act.put];refine bf 11 rfl hS ?_;simp only[Act.put];refine bf 13 rfl hS ?_;simp only[Act.put];refine bG 12 rfl (fun K hK=>?_);go_simp;refine(gF Wd x).mono ?_;rintro e X2 ⟨rfl,b2⟩;have bX:=KD.out.trans (b2.mono KD.out.size);have P2:=KH.out.2.later bX;obtain⟨Y,fq,uR,ng,vR⟩:=P2.mp.store (by omega) WQ.1 WQ.2 j (by omega);have P3:=P2.DI ng uR vR;have KX:=dw ((KH.out.1.trans (aG.bN bX)).trans (aG.mJ ng (.inr (.inr rfl)))) P3;simp only[jI]at fq;have gN:=nH P2.c0 P2.c1 (show aV X2 q (j*5) x by simpa using P2.at_ j x Kv);refine hK.out _ _ (fun _=>gN) ?_;clear hK K gN hS P2 P3 bX KD uR ng vR hm ZT Xe WQ KH b2;refine bG 14 rfl (fun K hK=>?_);go_simp;refine hK.out _ _ (fun h=>absurd (show false=true from h.symm.trans (by kernel_rfl)) (by decide)) ?_;clear hK K fq;refine bH (by kernel_rfl) ?_ _;have KH:=KX;clear KX;go_wp2;refine bodyPost_end (v:=.tuple #[]) (by simp[results,results212,go_sem]) rfl ⟨rfl,by rw[HZ.out];exact KH.out.2,KH.out.1⟩
end tx
namespace tx
open Go.Proofs.Tryz
variable {i:Nat}{x:S5}{xs:List S5}
def jS(xs:List S5)(i:Nat):Int:=rk (aF xs i).b (aF xs i).e
theorem ll(h:xs[i]?=some x):jS xs i=rk x.b x.e:=by
 unfold jS aF;rw[h];rfl
theorem wu(w:World)(base p q mb n cap:Nat)(xs:List S5)(i j:Nat)(x y:S5)(h:o7 w base p q mb n cap xs)(hi:xs[i]?=some x)(hj:xs[j]?=some y):
  Calls prog 211 #[.pointer (some ⟨p,0,none⟩),vI (i:Int),vI (j:Int)] w fun e w'=>e=.returned (.bool (decide (rk x.b x.e<rk y.b y.e)))/\Below w.1.size w w':=by
 have li:=(List.getElem?_eq_some_iff.1 hi).1;have lj:=(List.getElem?_eq_some_iff.1 hj).1;have ix:(i:Int)<(xs.length:Int):=by omega
 have jx:(j:Int)<(xs.length:Int):=by omega
 obtain⟨t0,t1,t2,t3,t4⟩:=(show aV w q (i*5) x by simpa using h.at_ i x hi)
 obtain⟨u0,u1,u2,u3,u4⟩:=(show aV w q (j*5) y by simpa using h.at_ j y hj)
 have lift:∀{o:Nat}{u:Value},w.cell? ⟨q,o,none⟩=some u->∀d os,(grow (redrawn w d) os).cell? ⟨q,o,none⟩=some u:=fun {o u} hh d os=>((below_regrown w d os).cell (p:=⟨q,o,none⟩) h.lq).trans hh
 have x0:=lift t0;have y0:=lift u0;have x1:=lift t1;have y1:=lift u1;have x2:=lift t2;have y2:=lift u2;have x3:=lift t3;have y3:=lift u3;have x4:=lift t4;have y4:=lift u4;have z0:=fun d os=>((below_regrown w d os).cell (p:=⟨p,0,none⟩) h.lp).trans h.c0
 have k1:=fM (h.ok x (List.mem_of_getElem? hi));have k2:=fM (h.ok y (List.mem_of_getElem? hj));have cA:∀d os,Calls prog 228 #[.agg #[vI x.b,vI x.e,vI x.g,.bool x.j,vI x.i]] (grow (redrawn w d) os) fun e gH=>e=.returned (vI (rk x.b x.e))/\∃p:Regrown,gH=grow (redrawn w p.d) p.os:=fun d os=>Calls.regrown_of (rC _ _ k1.1 k1.2)
 have cB:∀d os,Calls prog 228 #[.agg #[vI y.b,vI y.e,vI y.g,.bool y.j,vI y.i]] (grow (redrawn w d) os) fun e gH=>e=.returned (vI (rk y.b y.e))/\∃p:Regrown,gH=grow (redrawn w p.d) p.os:=fun d os=>Calls.regrown_of (rC _ _ k2.1 k2.2)
 clear lift t0 t1 t2 t3 t4 u0 u1 u2 u3 u4 k1 k2 h hi hj;generalize rk x.b x.e=rx at *;generalize rk y.b y.e=ry at *;generalize x.b=a0 at *;generalize y.b=e0 at *;generalize x.e=a1 at *;generalize y.e=e1 at *;generalize x.g=a2 at *;generalize y.g=e2 at *;generalize x.j=a3 at *;generalize y.j=e3 at *;generalize x.i=a4 at *;generalize y.i=e4 at *;go_enter func211,ntmps211;go_wp2_with fail;refine gy ?_;repeat (go_big_quiet_step (first|(go_at_call_of 228 (Value.agg #[vI a0,vI a1,vI a2,.bool a3,vI a4]);exact cA _ _)|(go_at_call_of 228 (Value.agg #[vI e0,vI e1,vI e2,.bool e3,vI e4]);exact cB _ _)))
 refine wpQuiet_nil ?_;intro _ tL;obtain⟨⟨jH,bu⟩,jF⟩:=tL;subst jF;have bq:=below_regrown w jH bu;go_wp2;go_ret;exact⟨rfl,bq⟩
theorem Dr{j:Nat}{y:S5}(hi:xs[i]?=some x)(hj:xs[j]?=some y)(k:Nat):jS ((xs.set i y).set j x) k=dF.G6 (jS xs) i j k:=by
 have li:=(List.getElem?_eq_some_iff.1 hi).1;have lj:=(List.getElem?_eq_some_iff.1 hj).1;unfold dF.G6;by_cases e1:k=i
 ·subst e1;rw[if_pos rfl];by_cases e2:j=k
  ·subst e2;rw[ll (x:=x) (by rw[List.getElem?_set_self (by simpa using lj)]),ll hi]
  ·rw[ll (x:=y) (by rw[List.getElem?_set_ne e2,List.getElem?_set_self li]),ll hj]
 ·rw[if_neg e1];by_cases e2:k=j
  ·subst e2;rw[if_pos rfl,ll (x:=x) (by rw[List.getElem?_set_self (by simpa using lj)]),ll hi]
  ·rw[if_neg e2];unfold jS aF;rw[List.getElem?_set_ne (Ne.symm e2),List.getElem?_set_ne (Ne.symm e1)]
theorem LX(w:World)(base p q mb n cap:Nat)(xs:List S5)(c:Nat)(h:o7 w base p q mb n cap xs)(hn:n<=10000)(hl:xs.length<=1000)(hc:c<xs.length)(hu:dF.yX (jS xs) xs.length c):
  Calls prog 181 #[.pointer (some ⟨p,0,none⟩),vI (c:Int)] w fun e w'=>e=.returned (.tuple #[])/\∃n' ys,n'<=n+2*c/\o7 w' base p q mb n' cap ys/\ys.Perm xs/\dF.Hp (jS ys) ys.length/\aG (qE p q mb) w w':=by
 have H:=dw h hu;clear h hu;go_enter func181,ntmps181;go_wp2;go_loopw[1] (fun v wr=>∃(d n':Nat) (ys:List S5),v=vI (d:Int)/\d<xs.length/\n'+2*d<=n+2*c/\ys.length=xs.length/\o7 wr base p q mb n' cap ys/\ys.Perm xs/\dF.yX (jS ys) ys.length d/\aG (qE p q mb) w wr) (fun v _=>(intOf v).toNat)
 case atStart=>exact⟨c,n,xs,rfl,hc,by omega,rfl,H.out.1,List.Perm.refl _,H.out.2,aG.refl _ _⟩
 case round=>
  obtain⟨d,n',ys,rfl,hd,IG,hle,hp,jQ,hu,hk⟩:=hrel;rcases d with _|e
  ·have KE:=pI hp jQ (hu.done (.inl rfl)) hk;clear hp jQ hu hk;have d0:decide ((0:Int)<((0:Nat):Int))=false:=by simp
   go_wp2;refine bodyPost_end (v:=.tuple #[]) (by simp[results,results181,go_sem]) rfl ⟨rfl,n',ys,by omega,KE.out.1,KE.out.2.1,KE.out.2.2.1,KE.out.2.2.2⟩
  ·have d0:decide ((0:Int)<((e+1:Nat):Int))=true:=by simp
   obtain⟨x,hx⟩:∃x,ys[e+1]?=some x:=⟨_,List.getElem?_eq_getElem (by omega)⟩
   obtain⟨y,hy⟩:∃y,ys[e/2]?=some y:=⟨_,List.getElem?_eq_getElem (by omega)⟩
   have c1:=wu wr base p q mb n' cap ys (e+1) (e/2) x y hp hx hy;have KA:=QG hp jQ hu hk hx hy hle;have ZF:=(ll hx).symm;have QS:=(ll hy).symm;rw[ZF,QS]at c1;clear hp jQ hu hk hx hy hle ZF QS;by_cases aN:jS ys (e+1)<jS ys (e/2)
   ·have dl:decide (jS ys (e+1)<jS ys (e/2))=true:=by simpa using aN
    rw[dl]at c1;have J3:=af aN;have ea:((e+1:Nat):Int)=(e:Int)+1:=by omega
    have eb:((e/2:Nat):Int)=(e:Int)/2:=by omega
    rw[ea,eb]at c1;clear aN dl ea eb;go_wp2_with fail;refine c1.mono ?_;clear c1;rintro e' w1 ⟨rfl,b1⟩;have c2:=wy w1 base p q mb n' cap ys (e+1) (e/2) x y (KA.out.1.later b1) (by omega) (by have:=KA.out.2.2.2.2.2.2;omega) KA.out.2.2.2.2.1 KA.out.2.2.2.2.2.1;have ea:((e+1:Nat):Int)=(e:Int)+1:=by omega
    have eb:((e/2:Nat):Int)=(e:Int)/2:=by omega
    rw[ea,eb]at c2;have KB:=af (b1);clear ea eb b1;go_wp2_with fail;refine c2.mono ?_;clear c2;rintro e' w2 ⟨rfl,p2,k2⟩;have KE:=dw p2 ((KA.out.2.2.2.1.trans (aG.bN KB.out)).trans k2);clear p2 k2;go_wp2;obtain⟨f1,f2,f3,f4,f5,f6,f7⟩:=KA.out;refine⟨⟨e/2,n'+1+1,(ys.set (e+1) y).set (e/2) x,by simp,by omega,by omega,by simpa using f7,KE.out.1,(dF.set_set_perm ys (e+1) (e/2) x y f5 f6).trans f2,?_,KE.out.2⟩,by simp[intOf];omega⟩;have fq:=f3.step (by omega) (by omega) (by simpa using J3.out);rw[show(e+1-1)/2=e/2 by omega]at fq;have BZ:jS ((ys.set (e+1) y).set (e/2) x)=dF.G6 (jS ys) (e+1) (e/2):=funext fun k=>Dr f5 f6 k
    rw[BZ];simpa using fq
   ·have dl:decide (jS ys (e+1)<jS ys (e/2))=false:=by simpa using aN
    rw[dl]at c1;have KE:Hid (dF.Hp (jS ys) ys.length):=KA.out.2.2.1.done (.inr (by simp at aN ⊢;omega));have ea:((e+1:Nat):Int)=(e:Int)+1:=by omega
    have eb:((e/2:Nat):Int)=(e:Int)/2:=by omega
    rw[ea,eb]at c1;clear aN dl ea eb;go_wp2_with fail;refine c1.mono ?_;clear c1;rintro e' w1 ⟨rfl,b1⟩;have KB:=af (b1);clear b1;go_wp2;refine bodyPost_ret (v:=.tuple #[]) (by simp[results,results181,go_sem]) rfl ⟨rfl,n',ys,by omega,KA.out.1.later KB.out,KA.out.2.1,KE.out,KA.out.2.2.2.1.trans (aG.bN KB.out)⟩
end tx
namespace tx
open Go.Proofs.Tryz
theorem LY(w:World)(base p q mb n cap:Nat)(xs:List S5)(h:o7 w base p q mb n cap xs)(hn:n<=10000)(hl:xs.length<=1000)(hu:dF.su (jS xs) xs.length 0):
  Calls prog 229 #[.pointer (some ⟨p,0,none⟩),vI 0] w fun e w'=>e=.returned (.tuple #[])/\∃n' ys,n'<=n+2*xs.length/\o7 w' base p q mb n' cap ys/\ys.Perm xs/\dF.Hp (jS ys) ys.length/\aG (qE p q mb) w w':=by
 have H:=dw h hu;clear h hu;go_enter func229,ntmps229;go_wp2;go_loopw[1] (fun v wr=>∃(d n':Nat) (ys:List S5),v=vI (d:Int)/\(d<xs.length\/d=0)/\n'<=n+2*d/\ys.length=xs.length/\o7 wr base p q mb n' cap ys/\ys.Perm xs/\dF.su (jS ys) ys.length d/\aG (qE p q mb) w wr) (fun v _=>2000-(intOf v).toNat)
 case atStart=>exact⟨0,n,xs,rfl,.inr rfl,by omega,rfl,H.out.1,List.Perm.refl _,H.out.2,aG.refl _ _⟩
 case round=>
  obtain⟨d,n',ys,rfl,hd,IG,hle,hp,jQ,hu,hk⟩:=hrel;have KA:=nE hp jQ hu hk hle;clear hp jQ hu hk hle;have QE:d<=1000:=by omega
  go_wp2;generalize wr=W0 at *;go_loopw[4,5] (fun v4 v5 wr=>∃l b:Nat,v4=vI (l:Int)/\v5=vI (b:Int)/\2*d+1<=b/\b<=2*d+3/\Below W0.1.size W0 wr/\(l=d\/(2*d+1<=l/\l<b/\l<ys.length/\jS ys l<jS ys d))/\(∀j,2*d+1<=j->j<b->j<ys.length->jS ys l<=jS ys j)) (fun _ v5 _=>2*d+3-(intOf v5).toNat)
  case atStart=>exact⟨d,2*d+1,rfl,by simp,by omega,by omega,aK,.inl rfl,fun j h1 h2=>by omega⟩
  case round=>
   obtain⟨l,b,rfl,rfl,DW,kU,aB,uQ,JU⟩:=hrel;have hlen:=KA.out.2.2.2.2;by_cases Wx:b<=2*d+2
   ·have db:decide ((b:Int)<=2*(d:Int)+2)=true:=by simp;omega
    have p0:=(KA.out.1.later aB).c0;rw[hlen]at p0;by_cases Aj:b<xs.length
    ·have dn:decide ((b:Int)<(xs.length:Int))=true:=by simp;omega
     have tH:l<ys.length:=by omega
     obtain⟨x,hx⟩:∃x,ys[b]?=some x:=⟨_,List.getElem?_eq_getElem (by omega)⟩
     obtain⟨y,hy⟩:∃y,ys[l]?=some y:=⟨_,List.getElem?_eq_getElem tH⟩
     have c1:=wu wr base p q mb n' cap ys b l x y (KA.out.1.later aB) hx hy;rw[(ll hx).symm,(ll hy).symm]at c1;have KB:=pI aB uQ JU hlen;clear hx hy aB uQ JU hlen tH;by_cases aN:jS ys b<jS ys l
     ·have dl:decide (jS ys b<jS ys l)=true:=by simpa using aN
      rw[dl]at c1;have J3:=af aN;clear aN dl;go_wp2_with fail;refine c1.mono ?_;clear c1;rintro e' w1 ⟨rfl,b1⟩;have KC:=af (KB.out.1.trans (b1.mono KB.out.1.size));clear b1 p0;go_wp2;obtain⟨_,g1,g2,g3⟩:=KB.out;have g4:=J3.out;refine⟨⟨b,b+1,rfl,by simp,by omega,by omega,KC.out,.inr ⟨by omega,by omega,by omega,?_⟩,fun j h1 h2 h3=>?_⟩,by simp[intOf];omega⟩
      ·rcases g1 with rfl|g1
       ·exact g4
       ·have:=g1.2.2.2;omega
      ·by_cases e:j=b
       ·subst e;exact Int.le_refl _
       ·have:=g2 j h1 (by omega) h3;omega
     ·have dl:decide (jS ys b<jS ys l)=false:=by simpa using aN
      rw[dl]at c1;have J3:=af aN;clear aN dl;go_wp2_with fail;refine c1.mono ?_;clear c1;rintro e' w1 ⟨rfl,b1⟩;have KC:=af (KB.out.1.trans (b1.mono KB.out.1.size));clear b1 p0;go_wp2;obtain⟨_,g1,g2,g3⟩:=KB.out;have g4:=J3.out;refine⟨⟨l,b+1,rfl,by simp,by omega,by omega,KC.out,?_,fun j h1 h2 h3=>?_⟩,by simp[intOf];omega⟩
      ·rcases g1 with g1|g1
       ·exact .inl g1
       ·exact .inr ⟨g1.1,by omega,g1.2.2.1,g1.2.2.2⟩
      ·by_cases e:j=b
       ·subst e;omega
       ·exact g2 j h1 (by omega) h3
    ·have dn:decide ((b:Int)<(xs.length:Int))=false:=by simp;omega
     have KB:=pI aB uQ JU hlen;clear aB uQ JU hlen;go_wp2;obtain⟨g0,g1,g2,g3⟩:=KB.out;refine⟨⟨l,b+1,rfl,by simp,by omega,by omega,g0,?_,fun j h1 h2 h3=>?_⟩,by simp[intOf];omega⟩
     ·rcases g1 with g1|g1
      ·exact .inl g1
      ·exact .inr ⟨g1.1,by omega,g1.2.2.1,g1.2.2.2⟩
     ·exact g2 j h1 (by omega) h3
   ·have db:decide ((b:Int)<=2*(d:Int)+2)=false:=by simp;omega
    have KB:Hid (Below W0.1.size W0 wr/\(l=d\/(2*d+1<=l/\l<=2*d+2/\l<ys.length/\jS ys l<jS ys d))/\(∀j,2*d+1<=j->j<=2*d+2->j<ys.length->jS ys l<=jS ys j)):=⟨aB,by
     rcases uQ with g|g
     ·exact .inl g
     ·exact .inr ⟨g.1,by omega,g.2.2.1,g.2.2.2⟩,fun j h1 h2 h3=>JU j h1 (by omega) h3⟩
    clear uQ JU aB DW kU Wx;by_cases QJ:l=d
    ·have ql:((l:Int)==(d:Int))=true:=by simp;omega
     have KE:Hid (dF.Hp (jS ys) ys.length):=KA.out.2.2.1.done (fun h1=>by have:=KB.out.2.2 (2*d+1) (by omega) (by omega) h1;rwa[QJ]at this) (fun h1=>by have:=KB.out.2.2 (2*d+2) (by omega) (by omega) h1;rwa[QJ]at this);have HD:=af (hd);clear QJ hlen hd;go_wp2;obtain⟨f1,f2,f3,f4,f5⟩:=KA.out;have f6:=HD.out;refine bodyPost_ret (v:=.tuple #[]) (by simp[results,results229,go_sem]) rfl ⟨rfl,n',ys,by omega,f1.later KB.out.1,f2,KE.out,f4.trans (aG.bN KB.out.1)⟩
    ·have ql:((l:Int)==(d:Int))=false:=by simp;omega
     have Va:=KB.out.2.1.resolve_left QJ;obtain⟨x,hx⟩:∃x,ys[d]?=some x:=⟨_,List.getElem?_eq_getElem (by omega)⟩
     obtain⟨y,hy⟩:∃y,ys[l]?=some y:=⟨_,List.getElem?_eq_getElem Va.2.2.1⟩
     have c2:=wy wr base p q mb n' cap ys d l x y (KA.out.1.later KB.out.1) (by omega) (by omega) hx hy;have KX:=fP hx hy Va;clear hx hy Va QJ hlen;go_wp2_with fail;refine c2.mono ?_;clear c2;rintro e' w2 ⟨rfl,p2,k2⟩;have KE:=dw p2 ((KA.out.2.2.2.1.trans (aG.bN KB.out.1)).trans k2);clear p2 k2;go_wp2;obtain⟨f1,f2,f3,f4,f5⟩:=KA.out;obtain⟨g1,g2,g3,g4,g5,g6⟩:=KX.out;refine⟨⟨l,n'+1+1,(ys.set d y).set l x,rfl,.inl (by omega),by omega,by simpa using f5,KE.out.1,(dF.set_set_perm ys d l x y g1 g2).trans f2,?_,KE.out.2⟩,by simp[intOf];omega⟩;have fq:=f3.step (l:=l) (by omega) g5 g6 (fun h1=>KB.out.2.2 _ (by omega) (by omega) h1) (fun h1=>KB.out.2.2 _ (by omega) (by omega) h1);have BZ:jS ((ys.set d y).set l x)=dF.G6 (jS ys) d l:=funext fun k=>Dr g1 g2 k
     rw[BZ];simpa using fq
end tx
namespace tx
open Go.Proofs.Tryz
variable {W:World}{xs:List S5}
theorem aV.jY{V:World}{b o:Nat}{s:S5}(h:aV W b o s)(e:V.1[b]?=W.1[b]?):aV V b o s:=
 ⟨(World.cell?_of_block (a:=⟨b,o,none⟩) e).trans h.c0,(World.cell?_of_block (a:=⟨b,o+1,none⟩) e).trans h.c1,(World.cell?_of_block (a:=⟨b,o+2,none⟩) e).trans h.c2,(World.cell?_of_block (a:=⟨b,o+3,none⟩) e).trans h.c3,(World.cell?_of_block (a:=⟨b,o+4,none⟩) e).trans h.c4⟩
theorem o7.trunc{base p q mb n cap:Nat}(h:o7 W base p q mb n cap xs)(m:Nat)(hm:m<=xs.length):o7 (W.setCell ⟨p,0,none⟩ (.slice (some ⟨q,0,none⟩) m cap)) base p q mb n cap (xs.take m):=by
 have JV:(xs.take m).length=m:=by rw[List.length_take];omega
 have hq:(W.setCell ⟨p,0,none⟩ (.slice (some ⟨q,0,none⟩) m cap)).1[q]?=W.1[q]?:=Below.heap_setCell _ _ _ _ (fun e=>h.pq e.symm);refine⟨by rw[JV];exact ay h.c0,(ae (by omega)).trans h.c1,fun j=>by rw[World.frozen?_setCell];exact h.fz j,fun i s e=>?_,fun j hj=>?_,by have:=h.cp;omega,h.mp.aj (Below.heap_setCell _ _ _ _ (fun e=>h.pm e.symm)),fun s hs=>h.ok s (List.mem_of_mem_take hs),h.pq,h.pm,h.qm,h.bp,h.bq,h.bm,by simpa[World.setCell]using h.lp,by simpa[World.setCell]using h.lq⟩
 ·rw[List.getElem?_take]at e;split at e
  ·exact(h.at_.aj hq) i s e
  ·cases e
 ·exact(h.rm.aj hq) j (by rw[JV]at hj;have:m*5<=xs.length*5:=Nat.mul_le_mul_right 5 hm;omega)
theorem XP{m:Nat}{x y:S5}(hl:xs.length=m+1)(hx:xs[0]?=some x)(hy:xs[m]?=some y):((xs.set 0 y).set m x)[m]?=some x/\xs.Perm (x::((xs.set 0 y).set m x).take m):=by
 have h1:((xs.set 0 y).set m x)[m]?=some x:=by rw[List.getElem?_set_self (by simp;omega)]
 have h2:=dF.set_set_perm xs 0 m x y hx hy;have wq:((xs.set 0 y).set m x).length=m+1:=by simpa using hl
 refine⟨h1,h2.symm.trans ?_⟩;generalize (xs.set 0 y).set m x=zs at *
 have h3:zs=zs.take m++[x]:=by
  have e:zs.take (m+1)=zs:=List.take_of_length_le (by omega);have:=List.take_add_one (l:=zs) (i:=m);rw[h1,e]at this;simpa using this
 exact(List.Perm.of_eq h3).trans List.perm_append_comm
theorem LZ(w:World)(base p q mb n cap m:Nat)(xs:List S5)(x:S5)(h:o7 w base p q mb n cap xs)(hn:n<=9000)(hl:xs.length=m+1)(JU:m<=100)(hx:xs[0]?=some x)(hu:dF.Hp (jS xs) xs.length):
  Calls prog 196 #[.pointer (some ⟨p,0,none⟩)] w fun e w'=>e=.returned (.agg #[vI x.b,vI x.e,vI x.g,.bool x.j,vI x.i])/\∃n' ys,n'<=n+2+2*m/\o7 w' base p q mb n' cap ys/\xs.Perm (x::ys)/\dF.Hp (jS ys) ys.length/\aG (qE p q mb) w w':=by
 obtain⟨y,hy⟩:∃y,xs[m]?=some y:=⟨_,List.getElem?_eq_getElem (by omega)⟩
 obtain⟨W0,dO⟩:=bO (w.alloc (.cells #[vI 0,vI 0,vI 0,.bool false,vI 0] 96));have b0:Below w.1.size w W0:=by rw[dO];exact aK.alloc aU _
 have h0:=h.later b0;have zr:W0.1[w.1.size]?=some (.cells #[vI 0,vI 0,vI 0,.bool false,vI 0] 96 (0,0)):=by rw[dO];exact heap_alloc_new w _
 have p0:=h0.c0;rw[hl,dO]at p0;have wa:IntKind.i64.wrap (((m+1:Nat):Int)-1)=(m:Int):=by simp[IntKind.wrap,IntKind.bits,IntKind.signed];omega
 have c1:=wy W0 base p q mb n cap xs 0 m x y h0 (by omega) (by omega) hx hy;obtain⟨mi,oP⟩:=XP hl hx hy
 have DX:dF.su (jS (((xs.set 0 y).set m x).take m)) m 0:=by
  rw[hl]at hu;have hd:=dF.su.Ry hu;have BZ:jS ((xs.set 0 y).set m x)=dF.G6 (jS xs) 0 m:=funext fun k=>Dr hx hy k
  rw[<-BZ]at hd;refine hd.congr (fun i hi=>?_);unfold jS aF;rw[List.getElem?_take,if_pos hi]
 have H:=xZ b0 (show w.1.size<W0.1.size by rw[dO];simp) zr mi oP DX (h.ok x (List.mem_of_getElem? hx)) (nH (show p≠w.1.size by have:=h.lp;omega) (show q≠w.1.size by have:=h.lq;omega) (show mb≠w.1.size by have:=h.mp.lt;omega));have vT:((xs.set 0 y).set m x).length=m+1:=by simpa using hl
 clear h h0 b0 zr mi oP DX hu hx hy;generalize (xs.set 0 y).set m x=zs at *;go_enter func196,ntmps196;go_wp2_with fail;rw[<-dO];clear dO;refine c1.mono ?_;clear c1 p0;rintro e w1 ⟨rfl,p1,k1⟩;have e0:=p1.c0;rw[vT]at e0;obtain⟨t0,t1,t2,t3,t4⟩:=(show aV w1 q (m*5) x by simpa using p1.at_ m x H.out.2.2.2.1)
 have mx:(m:Int)<((m+1:Nat):Int):=by omega
 obtain⟨W1,fA⟩:=bO (w1.alloc (.cells #[vI x.b,vI x.e,vI x.g,.bool x.j,vI x.i] 96));have b1:Below w1.1.size w1 W1:=by rw[fA];exact aK.alloc aU _
 have z1:W1.1.size=w1.1.size+1:=by rw[fA];simp
 have e1:=(b1.cell (p:=⟨p,0,none⟩) p1.lp).trans e0;have f1:=(p1.later b1).fz 0;have xS:=p1.cp;rw[vT]at xS;have bx1:aV W1 w1.1.size 0 x:=by rw[fA];exact aV.box w1 x _
 have pt:=(p1.later b1).trunc m (by omega);obtain⟨W2,AU⟩:=bO (W1.setCell ⟨p,0,none⟩ (.slice (some ⟨q,0,none⟩) m cap));rw[<-AU]at pt;have yS:p≠w1.1.size:=by have:=p1.lp;omega
 have YR:aV W2 w1.1.size 0 x:=by
  rw[AU];exact aV.jY bx1 (Below.heap_setCell _ _ _ _ (fun e=>yS e.symm))
 have K2:Hid (o7 W2 base p q mb (n+1+1) cap (zs.take m)/\aV W2 w1.1.size 0 x/\aG (qE p q mb) w W2/\w1.1.size<W2.1.size/\W2.1[w.1.size]?=some (.cells #[vI 0,vI 0,vI 0,.bool false,vI 0] 96 (0,0))/\w.1.size<w1.1.size/\p≠w1.1.size/\q≠w1.1.size/\mb≠w1.1.size):=by
  have kk:aG (qE p q mb) w1 W2:=by
   rw[AU];exact(aG.bN b1).trans (aG.uj _ _ (.inl rfl))
  have E5:¬qE p q mb w.1.size:=by
   rintro (e|e|e)
   ·exact H.out.2.2.2.2.2.2.2.1 e.symm
   ·exact H.out.2.2.2.2.2.2.2.2.1 e.symm
   ·exact H.out.2.2.2.2.2.2.2.2.2 e.symm
  have ZX:=k1.trans kk;exact⟨pt,YR,(aG.bN H.out.1).trans ZX,by rw[AU];simp[World.setCell,z1],(ZX.block _ H.out.2.1 E5).trans H.out.2.2.1,Nat.lt_of_lt_of_le H.out.2.1 k1.size,yS,by have:=p1.lq;omega,by have:=p1.mp.lt;omega⟩
 clear p1 k1 b1 z1 bx1 YR pt yS;rw[fA]at AU e1 f1;have km:(m:Int)<=(cap:Int):=by omega
 go_upto_region 5 with fail
 rw[<-AU];clear AU fA e0 e1 f1 t0 t1 t2 t3 t4 W1;have hk:=fM H.out.2.2.2.2.2.2.1;obtain⟨lb,GX⟩:=bO w1.1.size;rw[<-GX]at K2 ⊢;have s7:=af (GX);clear GX;have hS:(fun X:World=>X.cell? ⟨p,1,none⟩=some (.map (some mb))/\aV X lb 0 x) W2.drew:=⟨K2.out.1.c1,K2.out.2.1.below ((Below.refl W2.1.size W2).drew) K2.out.2.2.2.1⟩
 have hm:∀w:World,(method 458 96 (.agg #[vI x.b,vI x.e,vI x.g,.bool x.j,vI x.i]) "loop.example/g00153/impl.cell").run prog w=.ok (157,.agg #[vI x.b,vI x.e,vI x.g,.bool x.j,vI x.i]) w:=fun _=>by kernel_rfl
 refine aT (fun _=>false) (fun X:World=>X.cell? ⟨p,1,none⟩=some (.map (some mb))/\aV X lb 0 x) (by kernel_rfl) ?_;have KD:Hid (Below W2.1.size W2 W2.drew):=aK.drew;generalize W2.drew=Wd at *;refine bf 0 rfl hS ?_;simp only[Act.put];refine bf 1 rfl hS ?_;simp only[Act.put];refine bf 2 rfl hS ?_;simp only[Act.put];refine fU 3 ?_ rfl ?_ hS ?_;rotate_left
 ·(intro w aA;obtain⟨s1,⟨a0,a1,a2,a3,a4⟩⟩:=aA;go_simp;first|done|with_reducible rfl)
 simp only[Act.put];refine fU 4 ?_ rfl ?_ hS ?_;rotate_left
 ·(intro w aA;obtain⟨s1,⟨a0,a1,a2,a3,a4⟩⟩:=aA;go_simp;first|done|with_reducible rfl)
 simp only[Act.put];refine bf 5 rfl hS ?_;simp only[Act.put];refine bG 6 rfl (fun K hK=>?_);go_simp;refine(gF Wd x).mono ?_;rintro e X2 ⟨rfl,b2⟩;have bX:=KD.out.trans (b2.mono KD.out.size);have P2:=K2.out.1.later bX;obtain⟨Y,fq,uR,ng,vR⟩:=P2.mp.drop hk.1 hk.2 0;have P3:=P2.DI ng uR vR;have gN:=And.intro P2.c1 (K2.out.2.1.below bX K2.out.2.2.2.1)
 have K3:Hid (o7 Y base p q mb (n+1+1) cap (zs.take m)/\aV Y lb 0 x/\aG (qE p q mb) w Y/\lb<Y.1.size/\Y.1[w.1.size]?=some (.cells #[vI 0,vI 0,vI 0,.bool false,vI 0] 96 (0,0))/\w.1.size<lb/\p≠lb/\q≠lb/\mb≠lb):=by
  obtain⟨_,g1,g2,g3,g4,g5,g6,g7,g8⟩:=K2.out;have bL:=bX.size;refine⟨P3,aV.jY (gN.2) (ng.block lb (by omega) (Ne.symm g8)),(g2.trans (aG.bN bX)).trans (aG.mJ ng (.inr (.inr rfl))),by rw[vR];omega,?_,g5,g6,g7,g8⟩;exact(ng.block _ (by omega) (fun e=>H.out.2.2.2.2.2.2.2.2.2 e.symm)).trans ((bX.block _ (by omega)).trans g4)
 simp only[jI]at fq;refine hK.out _ _ (fun _=>gN) ?_;have jN:=And.intro K3.out.1.c1 K3.out.2.1;clear hK K gN hS P2 P3 bX KD uR ng vR hm hk b2 K2;refine bG 7 rfl (fun K hK=>?_);go_simp;refine hK.out _ _ (fun _=>jN) ?_;clear hK K fq jN;refine bH (by kernel_rfl) ?_ _;have aN:(zs.take m).length=m:=by rw[List.length_take];omega
 have c3:=LY Y base p q mb (n+1+1) cap (zs.take m) K3.out.1 (by omega) (by omega) (by rw[aN];exact H.out.2.2.2.2.2.1);rw[aN]at c3;have J3:=af aN;clear aN;go_wp2_with fail;refine c3.mono ?_;clear c3;rintro e w5 ⟨rfl,n5,ys,kt,p5,aE,uS,k5⟩;have Xz:∀b,b≠p->b≠q->b≠mb->¬qE p q mb b:=fun b h1 h2 h3 h=>by rcases h with h|h|h;exact h1 h;exact h2 h;exact h3 h
 obtain⟨_,g1,g2,g3,g4,g5,g6,g7,g8⟩:=K3.out;obtain⟨t0,t1,t2,t3,t4⟩:=aV.jY g1 (k5.block lb g3 (Xz lb (Ne.symm g6) (Ne.symm g7) (Ne.symm g8)));have DN:=(k5.block w.1.size (by omega) (Xz _ (Ne.symm H.out.2.2.2.2.2.2.2.1) (Ne.symm H.out.2.2.2.2.2.2.2.2.1) (Ne.symm H.out.2.2.2.2.2.2.2.2.2))).trans g4;have r0:w5.cell? ⟨w.1.size,0,none⟩=some (vI 0):=by rw[cell_of_row w5 _ 0 _ _ _ DN];rfl
 have r1:w5.cell? ⟨w.1.size,1,none⟩=some (vI 0):=by rw[cell_of_row w5 _ 1 _ _ _ DN];rfl
 have r2:w5.cell? ⟨w.1.size,2,none⟩=some (vI 0):=by rw[cell_of_row w5 _ 2 _ _ _ DN];rfl
 have r3:w5.cell? ⟨w.1.size,3,none⟩=some (.bool false):=by rw[cell_of_row w5 _ 3 _ _ _ DN];rfl
 have r4:w5.cell? ⟨w.1.size,4,none⟩=some (vI 0):=by rw[cell_of_row w5 _ 4 _ _ _ DN];rfl
 have q0:=frozen_of_row w5 _ 0 _ _ DN;have q1:=frozen_of_row w5 _ 1 _ _ DN;have q2:=frozen_of_row w5 _ 2 _ _ DN;have q3:=frozen_of_row w5 _ 3 _ _ DN;have q4:=frozen_of_row w5 _ 4 _ _ DN;have KE:=nE (show n5<=n+2+2*m by omega) p5 (H.out.2.2.2.2.1.trans (List.Perm.cons x aE.symm)) uS (g2.trans k5);have HP:=af (H.out.2.2.2.2.2.2.2);simp only[Nat.zero_add]at t0 t1 t2 t3 t4;clear g1 g2 g3 g4 g5 g6 g7 g8 DN Xz p5 aE uS k5 kt H K3 vT J3 xS;go_wp2;refine bodyPost_ret (v:=.agg #[vI x.b,vI x.e,vI x.g,.bool x.j,vI x.i]) (by simp[results,results196,go_sem,r0,r1,r2,r3,r4]) rfl ⟨rfl,n5,ys,KE.out.1,?_,KE.out.2.2.1,KE.out.2.2.2.1,?_⟩
 ·refine KE.out.2.1.aM (by simp[World.setCell]) (fun b hb=>?_)
  have Aj:b≠w.1.size:=by
   rcases hb with rfl|rfl|rfl
   ·exact HP.out.1
   ·exact HP.out.2.1
   ·exact HP.out.2.2
  exact(Below.heap_setCell _ _ _ _ Aj).trans ((Below.heap_setCell _ _ _ _ Aj).trans ((Below.heap_setCell _ _ _ _ Aj).trans ((Below.heap_setCell _ _ _ _ Aj).trans (Below.heap_setCell _ _ _ _ Aj))))
 ·have kk:=KE.out.2.2.2.2;refine⟨kk.os,kk.tape,kk.output,by simpa[World.setCell]using kk.size,fun b hb Aa=>?_⟩;have Aj:b≠w.1.size:=by omega
  exact((Below.heap_setCell _ _ _ _ Aj).trans ((Below.heap_setCell _ _ _ _ Aj).trans ((Below.heap_setCell _ _ _ _ Aj).trans ((Below.heap_setCell _ _ _ _ Aj).trans (Below.heap_setCell _ _ _ _ Aj))))).trans (kk.block b hb Aa)
end tx
namespace tx
open Go.Proofs.Tryz
variable {x:S5}
def lM(s:S5):Int:=rk s.b s.e
def VB:Value->Nat
 | .slice _ n _=>n
 | _=>0
theorem FE{xs:List S5}{i:Nat}(h:xs[i]?=some x):jS xs i=lM x:=ll h
theorem bk{ys:List S5}(h:dF.Hp (jS ys) ys.length)(hx:ys[0]?=some x):∀b∈ys,lM x<=lM b:=fun b hb=>by
 obtain⟨i,hi,rfl⟩:=List.getElem_of_mem hb;have:=h.top i hi;rwa[FE hx,FE (List.getElem?_eq_getElem hi)]at this
theorem vo(w:World)(base p q mb n cap:Nat)(xs:List S5)(h:o7 w base p q mb n cap xs)(hn:n<=5000)(hl:xs.length<=13)(hu:dF.Hp (jS xs) xs.length)(hd:xs.Pairwise (fun a b=>lM a≠lM b)):
  Calls prog 159 #[.pointer (some ⟨p,0,none⟩)] w fun e w'=>∃v out,e=.returned v/\iJ w' w.1.size v out/\out.Perm xs/\out.Pairwise (fun a b=>lM a<lM b)/\aG (qE p q mb) w w':=by
 have Gd:=nH h.lp h.lq h.mp.lt;have H:=pI h hu hd Gd;clear h hu hd Gd;go_enter func159,ntmps159;go_wp2;go_loopw[3] (fun v wr=>∃(n':Nat) (ys out:List S5),iJ wr w.1.size v out/\o7 wr base p q mb n' cap ys/\dF.Hp (jS ys) ys.length/\(out++ys).Perm xs/\out.Pairwise (fun a b=>lM a<lM b)/\(∀a∈out,∀b∈ys,lM a<lM b)/\n'+60*ys.length<=n+60*xs.length/\aG (qE p q mb) w wr) (fun v _=>100-VB v)
 case atStart=>exact⟨n,xs,[],iJ.nil _ _,H.out.1,H.out.2.1,by simp,by simp,by simp,Nat.le_refl _,aG.refl _ _⟩
 case round=>
  obtain⟨n',ys,out,iV,hp,hu,jQ,TK,aN,IG,hk⟩:=hrel;obtain⟨a3,k3,rfl,-⟩:=iV.form;have hlen:out.length+ys.length=xs.length:=by have:=jQ.length_eq;simpa using this
  have p0:=hp.c0
  cases Oo:ys with
  | nil=>
   subst Oo;have KE:=pI iV (show out.Perm xs by simpa using jQ) TK hk;simp only[List.length_nil]at p0;clear iV hp hu jQ TK aN hk hlen IG;go_wp2;go_ret;exact⟨_,out,rfl,KE.out.1,KE.out.2.1,KE.out.2.2.1,KE.out.2.2.2⟩
  | cons x r=>
   have hx:ys[0]?=some x:=by rw[Oo];rfl
   have QY:ys.length=r.length+1:=by rw[Oo];rfl
   have c1:=LZ wr base p q mb n' cap r.length ys x hp (by omega) QY (by omega) hx hu;rw[QY]at p0;have d0:decide ((0:Int)<((r.length+1:Nat):Int))=true:=by simp
   have Iw:=(jQ.symm.pairwise_iff (fun {a b} (h:lM a≠lM b)=>h.symm)).1 H.out.2.2.1;have KA:=xZ iV jQ TK aN hk (bk hu hx) (List.mem_of_getElem? hx) (And.intro Iw QY);clear iV hp hu jQ TK aN hk hx Iw Oo;go_wp2_with fail;refine c1.mono ?_;clear c1 p0;rintro e w1 ⟨rfl,n1,zs,JW,p1,O7,Oi,k1⟩;obtain⟨g1,g2,g3,g4,g5,g6,g7,g8,g9⟩:=KA.out
   have KI:∀b,w.1.size<=b->¬qE p q mb b:=fun b hb h=>by
    obtain⟨_,_,_,l1,l2,l3⟩:=H.out;rcases h with h|h|h<;>omega
   have jG:=g1.aM (fun b hb aN _=>k1.block b aN (KI b hb));obtain⟨V,hV⟩:=bO (w1.alloc (.cells #[vI x.b,vI x.e,vI x.g,.bool x.j,vI x.i] 96));have bV:Below w1.1.size w1 V:=by rw[hV];exact aK.alloc aU _
   have jE:aY V w1.1.size 0 [x]:=by rw[hV];exact(aV.box w1 _ _).one
   have Xb:=Nat.le_trans g5.size k1.size;obtain⟨v',Y,hr,pM,gP,iD⟩:=wh (jG.later bV) [x] (by simp;omega) 89 w1.1.size 0 1 jE (by have:=bV.size;omega);have vT:zs.length=r.length:=by have:=O7.length_eq;simp at this;omega
   have ZP:∀b∈zs,lM x<lM b:=fun b hb=>by
    have h1:=g6 b (O7.mem_iff.2 (by simp[hb]));have h2:=(O7.pairwise_iff (fun {a b} (h:lM a≠lM b)=>h.symm)).1 ((List.pairwise_append.1 g8).2.1);have h3:=(List.pairwise_cons.1 h2).1 b hb;omega
   have kY:aG (qE p q mb) w Y:=by
    have k0:=(g5.trans k1).trans (aG.bN bV);exact⟨gP.os.trans k0.os,gP.tape.trans k0.tape,gP.output.trans k0.output,Nat.le_trans k0.size gP.size,fun b hb Aa=>(gP.block b (Nat.lt_of_lt_of_le hb k0.size) (fun e=>by have:=(jG.lt e.symm).1;omega)).trans (k0.block b hb Aa)⟩
   have KE:Hid (iJ Y w.1.size v' (out++[x])/\o7 Y base p q mb n1 cap zs/\dF.Hp (jS zs) zs.length/\((out++[x])++zs).Perm xs/\(out++[x]).Pairwise (fun a b=>lM a<lM b)/\(∀a∈out++[x],∀b∈zs,lM a<lM b)/\n1+60*zs.length<=n+60*xs.length/\aG (qE p q mb) w Y):=by
    refine⟨pM,?_,Oi,?_,?_,?_,by omega,kY⟩
    ·refine(p1.later bV).aM gP.size (fun b hb=>gP.block b ?_ (fun e=>?_))
     ·have:=bV.size;rcases hb with rfl|rfl|rfl
      ·have:=p1.lp;omega
      ·have:=p1.lq;omega
      ·have:=p1.mp.lt;omega
     ·exact KI b (jG.lt e.symm).1 hb
    ·rw[List.append_assoc];exact((List.Perm.refl out).append (O7.symm:(x::zs).Perm ys)).trans g2
    ·rw[List.pairwise_append];exact⟨g3,by simp,fun a ha b hb=>by simp at hb;subst hb;exact g4 a ha b g7⟩
    ·intro a ha b hb;rcases List.mem_append.1 ha with ha|ha
     ·exact g4 a ha b (O7.mem_iff.2 (by simp[hb]))
     ·simp at ha;subst ha;exact ZP b hb
   have HL:=dw (show out.length<13 by omega) (show ∃a c,v'=.slice a (out++[x]).length c by obtain⟨a,c,e,_⟩:=pM.form;exact⟨a,c,e⟩);rw[hV]at hr;clear hV bV jE pM gP iD jG KI vT ZP kY g1 g2 g3 g4 g5 g6 g7 g8 g9 p1 O7 Oi k1 Xb;simp only[List.length_cons,List.length_nil,Nat.zero_add]at hr;go_wp2_with (at_builtin;refine eD _ rfl (.tmp 10) (.tmp 13) 89 rfl _ _ _ _ rfl rfl hr ?_);obtain⟨g1,a,c,rfl⟩:=HL.out;exact⟨⟨n1,zs,out++[x],KE.out⟩,by simp[VB];omega⟩
end tx
namespace tx
open Go.Proofs.Tryz
variable {xs:List S5}
def l8(xs:List S5)(r s:Int):Option Nat:=xs.findIdx? fun x=>decide (x.b=r)&&decide (x.e=s)
theorem JF{x:S5}(h:l8 xs x.b x.e=none):l8 (xs++[x])=Gw (l8 xs) x.b x.e xs.length:=by
 funext r s;unfold l8 Gw;rw[List.findIdx?_append];by_cases e:r=x.b/\s=x.e
 ·obtain⟨rfl,rfl⟩:=e;unfold l8 at h;rw[h];simp[List.findIdx?_cons]
 ·rw[if_neg e]
  have:[x].findIdx? (fun x=>decide (x.b=r)&&decide (x.e=s))=none:=by
   simp[List.findIdx?_cons];intro h1 h2;exact e ⟨h1.symm,h2.symm⟩
  rw[this];simp
theorem Du{r s:Int}:l8 xs r s=none↔∀x∈xs,¬(x.b=r/\x.e=s):=by
 unfold l8;rw[List.findIdx?_eq_none_iff];constructor
 ·intro h x hx e;have:=h x hx;simp[e.1,e.2]at this
 ·intro h x hx;have:=h x hx;simp only[Bool.and_eq_false_iff,decide_eq_false_iff_not];by_cases e:x.b=r
  ·exact .inr (fun e'=>this ⟨e,e'⟩)
  ·exact .inl e
structure oo(W:World)(base p mb n:Nat)(v:Value)(xs:List S5):Prop where
 c0:W.cell? ⟨p,0,none⟩=some v
 c1:W.cell? ⟨p,1,none⟩=some (.map (some mb))
 fz:∀j,W.frozen? ⟨p,j,none⟩=false
 row:iJ W base v xs
 mp:kE W mb n (l8 xs)
 ok:∀s∈xs,bK s=true
 vp:v.ownBlock≠some p
 vm:v.ownBlock≠some mb
 pm:p≠mb
 bp:base<=p
 bm:base<=mb
 lp:p<W.1.size
theorem oo.later{W V:World}{base p mb n:Nat}{v:Value}{xs:List S5}(h:oo W base p mb n v xs)(hb:Below W.1.size W V):oo V base p mb n v xs:=
 ⟨(hb.cell (p:=⟨p,0,none⟩) h.lp).trans h.c0,(hb.cell (p:=⟨p,1,none⟩) h.lp).trans h.c1,fun j=>(hb.frozen (p:=⟨p,j,none⟩) h.lp).trans (h.fz j),h.row.later hb,h.mp.later hb,h.ok,h.vp,h.vm,h.pm,h.bp,h.bm,Nat.lt_of_lt_of_le h.lp hb.size⟩
theorem oo.Yq{W:World}{base p mb n:Nat}{v:Value}(h:oo W base p mb n v xs)(hx:xs≠[]):∃q cap,v=.slice (some ⟨q,0,none⟩) xs.length cap/\o7 W base p q mb n cap xs:=by
 obtain⟨a,c,e,ho⟩:=h.row.form;rcases ho with ho|⟨q,rfl,hq,hl,ha,hr⟩
 ·exact absurd ho hx
 ·refine⟨q,c,e,⟨by rw[<-e];exact h.c0,h.c1,h.fz,ha,hr,?_,h.mp.any,h.ok,fun e'=>h.vp (by rw[hq,e']),h.pm,fun e'=>h.vm (by rw[hq,e']),h.bp,(h.row.lt hq).1,h.bm,h.lp,hl⟩⟩;rcases h.row.2 with ⟨h0,_⟩|⟨q',aZ,cur,h0,_,_,hc,_⟩
  ·rw[h0]at e;cases e
  ·rw[h0]at e;cases e;exact hc
theorem LW(w:World)(base p q mb n cap:Nat)(xs:List S5)(c:Nat)(h:o7 w base p q mb n cap xs)(hl:xs.length<=1000)(hc:c<xs.length)(hs:c=0\/jS xs ((c-1)/2)<=jS xs c):
  Calls prog 181 #[.pointer (some ⟨p,0,none⟩),vI (c:Int)] w fun e w'=>e=.returned (.tuple #[])/\Below w.1.size w w':=by
 have H:=af h;clear h;go_enter func181,ntmps181;go_wp2;go_loopw[1] (fun v wr=>v=vI (c:Int)/\wr=w) (fun _ _=>0)
 case atStart=>exact⟨rfl,rfl⟩
 case round=>
  obtain⟨rfl,rfl⟩:=hrel;rcases c with _|e
  ·have d0:decide ((0:Int)<((0:Nat):Int))=false:=by simp
   go_wp2;refine bodyPost_end (v:=.tuple #[]) (by simp[results,results181,go_sem]) rfl ⟨rfl,aK⟩
  ·have d0:decide ((0:Int)<((e+1:Nat):Int))=true:=by simp
   obtain⟨x,hx⟩:∃x,xs[e+1]?=some x:=⟨_,List.getElem?_eq_getElem (by omega)⟩
   obtain⟨y,hy⟩:∃y,xs[e/2]?=some y:=⟨_,List.getElem?_eq_getElem (by omega)⟩
   have c1:=wu wr base p q mb n cap xs (e+1) (e/2) x y H.out hx hy;rw[(ll hx).symm,(ll hy).symm]at c1
   have dl:decide (jS xs (e+1)<jS xs (e/2))=false:=by
    have:=hs.resolve_left (by omega);rw[show(e+1-1)/2=e/2 by omega]at this;simpa using this
   rw[dl]at c1;have ea:((e+1:Nat):Int)=(e:Int)+1:=by omega
   have eb:((e/2:Nat):Int)=(e:Int)/2:=by omega
   rw[ea,eb]at c1;clear dl ea eb hx hy hs;go_wp2_with fail;refine c1.mono ?_;clear c1;rintro e' w1 ⟨rfl,b1⟩;have KB:=af b1;clear b1;go_wp2;refine bodyPost_ret (v:=.tuple #[]) (by simp[results,results181,go_sem]) rfl ⟨rfl,KB.out⟩
theorem Pb(w:World)(base p mb n:Nat)(v:Value)(xs:List S5)(x:S5)(h:oo w base p mb n v xs)(hn:n<=1000)(hl:xs.length<=100)(il:bK x=true)(jD:l8 xs x.b x.e=none)(Iu:base<=w.1.size)(hs:xs=[]\/jS (xs++[x]) ((xs.length-1)/2)<=jS (xs++[x]) xs.length):
  Calls prog 151 #[.pointer (some ⟨p,0,none⟩),.agg #[vI x.b,vI x.e,vI x.g,.bool x.j,vI x.i]] w fun e w'=>e=.returned (.tuple #[])/\∃v',oo w' base p mb (n+1) v' (xs++[x])/\Below base w w':=by
 obtain⟨W0,dO⟩:=bO (w.alloc (.cells #[vI x.b,vI x.e,vI x.g,.bool x.j,vI x.i] 96));have b0:Below w.1.size w W0:=by rw[dO];exact aK.alloc aU _
 have z0:W0.1.size=w.1.size+1:=by rw[dO];simp
 have x0:aV W0 w.1.size 0 x:=by rw[dO];exact aV.box w x _
 have h0:=h.later b0;have hk:=fM il;have yS:=h.lp;have et:=h.mp.lt
 have lk:∀d os,(Instr.lookup 170 (.map (some mb)) (jI x.b x.e) true).run prog (grow (redrawn W0 d) os)=.ok (.tuple #[vI 0,.bool false]) (grow (redrawn W0 d) os):=fun d os=>by
  have hu:=((h0.mp).later (below_regrown W0 d os)).look hk.1 hk.2;rw[jD]at hu;exact hu
 have lift:∀{b o:Nat}{u:Value},b<W0.1.size->W0.cell? ⟨b,o,none⟩=some u->∀d os,(grow (redrawn W0 d) os).cell? ⟨b,o,none⟩=some u:=fun {b o u} hb hh d os=>((below_regrown W0 d os).cell (p:=⟨b,o,none⟩) hb).trans hh
 have m1:=lift (by omega) h0.c1;have t0:=lift (by omega) x0.c0;have t1:=lift (by omega) x0.c1;have t2:=lift (by omega) x0.c2;have t3:=lift (by omega) x0.c3;have t4:=lift (by omega) x0.c4;have cC:∀d os,Calls prog 157 #[.agg #[vI x.b,vI x.e,vI x.g,.bool x.j,vI x.i]] (grow (redrawn W0 d) os) fun e gH=>e=.returned (.agg #[vI x.b,vI x.e])/\∃p:Regrown,gH=grow (redrawn W0 p.d) p.os:=fun d os=>Calls.regrown_of (gF _ _)
 have hm:∀w:World,(method 458 96 (.agg #[vI x.b,vI x.e,vI x.g,.bool x.j,vI x.i]) "loop.example/g00153/impl.cell").run prog w=.ok (157,.agg #[vI x.b,vI x.e,vI x.g,.bool x.j,vI x.i]) w:=fun _=>by kernel_rfl
 have H:=xZ h0 x0 b0 z0 Iu jD il (show v.ownBlock≠some w.1.size from fun e=>by have:=(h.row.lt e).2;omega);have HS:=af hs;clear h h0 x0 b0 z0 Iu jD il hs lift;simp only[jI,Nat.zero_add]at lk t0 t1 t2 t3 t4;go_enter func151,ntmps151;go_wp2_with fail;rw[<-dO];clear dO;refine gy ?_;repeat (go_big_quiet_step (exact cC _ _))
 refine wpQuiet_nil ?_;intro _ tL;obtain⟨⟨jH,bu⟩,jF⟩:=tL;subst jF;have bq:=below_regrown W0 jH bu
 have K1:Hid (oo (grow (redrawn W0 jH) bu) base p mb n v xs/\aV (grow (redrawn W0 jH) bu) w.1.size 0 x/\Below w.1.size w (grow (redrawn W0 jH) bu)/\w.1.size<(grow (redrawn W0 jH) bu).1.size):=by
  obtain⟨g1,g2,g3,g4,_⟩:=H.out;have:=bq.size;exact⟨g1.later bq,g2.below bq (by omega),g3.trans (bq.mono g3.size),by omega⟩
 clear bq m1 t0 t1 t2 t3 t4 cC lk;obtain⟨av,ac,Kq,-⟩:=K1.out.1.row.form;have m0:=K1.out.1.c0;rw[Kq]at m0;have HV:=af Kq;clear Kq;go_upto_region 5 with fail
 clear m0;generalize grow (redrawn W0 jH) bu=W1 at *;have hS:(fun X:World=>X.cell? ⟨p,0,none⟩=some v/\aV X w.1.size 0 x) W1.drew:=⟨K1.out.1.c0,K1.out.2.1.below ((Below.refl W1.1.size W1).drew) K1.out.2.2.2⟩
 refine aT (fun z=>z==10) (fun X:World=>X.cell? ⟨p,0,none⟩=some v/\aV X w.1.size 0 x) (by kernel_rfl) ?_;have KD:Hid (Below W1.1.size W1 W1.drew):=aK.drew;generalize W1.drew=Wd at *;refine bf 0 rfl hS ?_;simp only[Act.put];refine bf 1 rfl hS ?_;simp only[Act.put];refine bf 2 rfl hS ?_;simp only[Act.put];refine bf 3 rfl hS ?_;simp only[Act.put];refine fU 4 ?_ rfl ?_ hS ?_;rotate_left
 ·(intro w aA;obtain⟨s0,⟨a0,a1,a2,a3,a4⟩⟩:=aA;go_simp;first|done|with_reducible rfl)
 simp only[Act.put];refine fU 5 ?_ rfl ?_ hS ?_;rotate_left
 ·(intro w aA;obtain⟨s0,⟨a0,a1,a2,a3,a4⟩⟩:=aA;go_simp;first|done|with_reducible rfl)
 simp only[Act.put];obtain⟨V,hV⟩:=bO (Wd.alloc (.cells #[vI x.b,vI x.e,vI x.g,.bool x.j,vI x.i] 96));have bV:Below Wd.1.size Wd V:=by rw[hV];exact aK.alloc aU _
 have Bt:=KD.out.trans (bV.mono KD.out.size);have jE:aY V Wd.1.size 0 [x]:=by rw[hV];exact(aV.box Wd _ _).one
 have fJ:=(K1.out.1.later Bt)
 obtain⟨v5,Y5,hr,mY,gP,iD⟩:=wh fJ.row [x] (by simp;omega) 89 Wd.1.size 0 1 jE (by have:=fJ.bp;have:=fJ.lp;omega)
 obtain⟨a5,k5,rfl⟩:∃a5 k5,v5=Value.slice a5 (xs.length+1) k5:=by
  obtain⟨a5,k5,e5,-⟩:=mY.form;exact⟨a5,k5,by simpa using e5⟩
 have qR:=Nat.lt_of_lt_of_le K1.out.2.2.2 Bt.size;have Kn:=And.intro fJ.c0 (K1.out.2.1.below Bt K1.out.2.2.2);have kb:∀b,b<V.1.size->v.ownBlock≠some b->Y5.1[b]?=V.1[b]?:=fun b hb eO=>gP.block b hb (fun e=>eO e.symm)
 have xP:(fun X:World=>X.cell? ⟨p,0,none⟩=some v/\aV X w.1.size 0 x) Y5:=⟨(World.cell?_of_block (a:=⟨p,0,none⟩) (kb p fJ.lp fJ.vp)).trans fJ.c0,aV.jY Kn.2 (kb _ qR H.out.2.2.2.2.2.2.2)⟩
 have ru:∀b,b<V.1.size->v.ownBlock≠some b->(Value.slice a5 (xs.length+1) k5).ownBlock≠some b:=fun b hb eO e=>by
  rcases iD with h|h
  ·rw[h]at e;exact eO e
  ·rw[h]at e;cases e;omega
 have K5:Hid (iJ Y5 base (Value.slice a5 (xs.length+1) k5) (xs++[x])/\Y5.cell? ⟨p,0,none⟩=some v/\Y5.cell? ⟨p,1,none⟩=some (.map (some mb))/\(∀j,Y5.frozen? ⟨p,j,none⟩=false)/\kE Y5 mb n (l8 xs)/\(Value.slice a5 (xs.length+1) k5).ownBlock≠some p/\(Value.slice a5 (xs.length+1) k5).ownBlock≠some mb/\p<Y5.1.size/\Below base w Y5/\aV Y5 w.1.size 0 x/\w.1.size<Y5.1.size/\(Value.slice a5 (xs.length+1) k5).ownBlock≠some w.1.size/\mb<V.1.size):=by
  have uS:=kb p fJ.lp fJ.vp;have WS:=kb mb fJ.mp.lt fJ.vm;have V8:Below base w V:=(K1.out.2.2.1.mono H.out.2.2.2.2.1).trans (Bt.mono (by have:=K1.out.1.bp;have:=K1.out.1.lp;omega));refine⟨mY,xP.1,(World.cell?_of_block (a:=⟨p,1,none⟩) uS).trans fJ.c1,fun j=>(World.frozen?_of_block (a:=⟨p,j,none⟩) uS).trans (fJ.fz j),fJ.mp.aj WS,ru p fJ.lp fJ.vp,ru mb fJ.mp.lt fJ.vm,Nat.lt_of_lt_of_le fJ.lp gP.size,?_,xP.2,Nat.lt_of_lt_of_le qR gP.size,ru _ qR H.out.2.2.2.2.2.2.2,fJ.mp.lt⟩;exact V8.grown gP (by have:=fJ.bp;have:=fJ.lp;omega) (fun b e=>(fJ.row.lt e).1)
 rw[hV]at hr;have f0:=K5.out.2.2.2.1 0;have e0:=K5.out.2.1;simp only[List.length_cons,List.length_nil,Nat.zero_add]at hr;refine bG 6 rfl (fun K hK=>?_);go_simp;refine hK.out _ _ (fun _=>by rw[<-hV];exact Kn) ?_;clear hK K;refine bG 7 rfl (fun K hK=>?_);refine bJ _ rfl (.tmp 34) (.tmp 36) 89 rfl _ _ _ _ (by first|rfl|simp[Act.eval,Act.put]) (by first|rfl|simp[Act.eval,Act.put]) hr ?_;refine hK.out _ _ (fun _=>xP) ?_;clear hK K hr;simp only[Act.put];refine bf 8 rfl xP ?_;simp only[Act.put];refine bf 9 rfl xP ?_;simp only[Act.put];refine bG 10 rfl (fun K hK=>?_);go_simp;refine hK.out _ _ (fun h=>absurd (show false=true from h.symm.trans (by kernel_rfl)) (by decide)) ?_;clear hK K;refine bH (by kernel_rfl) ?_ _
 have KU:Hid (aV (Y5.setCell ⟨p,0,none⟩ (Value.slice a5 (xs.length+1) k5)) w.1.size 0 x/\iJ (Y5.setCell ⟨p,0,none⟩ (Value.slice a5 (xs.length+1) k5)) base (Value.slice a5 (xs.length+1) k5) (xs++[x])/\(Y5.setCell ⟨p,0,none⟩ (Value.slice a5 (xs.length+1) k5)).cell? ⟨p,0,none⟩=some (Value.slice a5 (xs.length+1) k5)/\(Y5.setCell ⟨p,0,none⟩ (Value.slice a5 (xs.length+1) k5)).cell? ⟨p,1,none⟩=some (.map (some mb))/\(∀j,(Y5.setCell ⟨p,0,none⟩ (Value.slice a5 (xs.length+1) k5)).frozen? ⟨p,j,none⟩=false)/\kE (Y5.setCell ⟨p,0,none⟩ (Value.slice a5 (xs.length+1) k5)) mb n (l8 xs)/\(Value.slice a5 (xs.length+1) k5).ownBlock≠some p/\(Value.slice a5 (xs.length+1) k5).ownBlock≠some mb/\p<(Y5.setCell ⟨p,0,none⟩ (Value.slice a5 (xs.length+1) k5)).1.size/\Below base w (Y5.setCell ⟨p,0,none⟩ (Value.slice a5 (xs.length+1) k5))/\w.1.size<(Y5.setCell ⟨p,0,none⟩ (Value.slice a5 (xs.length+1) k5)).1.size/\(Value.slice a5 (xs.length+1) k5).ownBlock≠some w.1.size):=by
  obtain⟨g1,g2,g3,g4,g5,g6,g7,g8,g9,F8,F9,Kl,g13⟩:=K5.out;have bp:=K1.out.1.bp;have dS:∀b,b≠p->(Y5.setCell ⟨p,0,none⟩ (Value.slice a5 (xs.length+1) k5)).1[b]?=Y5.1[b]?:=fun b hb=>Below.heap_setCell _ _ _ _ hb
  refine⟨aV.jY F8 (dS _ (by omega)),g1.aM (fun b _ _ e=>dS b (fun e'=>g6 (by rw[e,e']))),ay g2,(ae (by omega)).trans g3,fun j=>by rw[World.frozen?_setCell];exact g4 j,g5.aj (dS mb (fun e=>K1.out.1.pm e.symm)),g6,g7,by simpa[World.setCell]using g8,g9.setCell (p:=⟨p,0,none⟩) bp _,by simpa[World.setCell]using F9,Kl⟩
 clear K5 hS Kn xP kb ru gP iD mY fJ jE Bt bV hV V qR f0 e0 KD;generalize Y5.setCell ⟨p,0,none⟩ (Value.slice a5 (xs.length+1) k5)=W5 at *;clear Y5;have hS:(fun X:World=>X.cell? ⟨p,1,none⟩=some (.map (some mb))/\aV X w.1.size 0 x) W5.drew:=⟨KU.out.2.2.2.1,KU.out.1.below ((Below.refl W5.1.size W5).drew) KU.out.2.2.2.2.2.2.2.2.2.2.1⟩
 go_upto_region 6 with fail
 refine aT (fun z=>z==8) (fun X:World=>X.cell? ⟨p,1,none⟩=some (.map (some mb))/\aV X w.1.size 0 x) (by kernel_rfl) ?_;have KD:Hid (Below W5.1.size W5 W5.drew):=aK.drew;generalize W5.drew=We at *;refine bf 0 rfl hS ?_;simp only[Act.put];refine bf 1 rfl hS ?_;simp only[Act.put];refine bf 2 rfl hS ?_;simp only[Act.put];refine fU 3 ?_ rfl ?_ hS ?_;rotate_left
 ·(intro w aA;obtain⟨s0,⟨a0,a1,a2,a3,a4⟩⟩:=aA;go_simp;first|done|with_reducible rfl)
 simp only[Act.put];refine fU 4 ?_ rfl ?_ hS ?_;rotate_left
 ·(intro w aA;obtain⟨s0,⟨a0,a1,a2,a3,a4⟩⟩:=aA;go_simp;first|done|with_reducible rfl)
 simp only[Act.put];refine bf 5 rfl hS ?_;simp only[Act.put];refine bf 7 rfl hS ?_;simp only[Act.put];refine bG 6 rfl (fun K hK=>?_);go_simp;refine(gF We x).mono ?_;rintro e X2 ⟨rfl,b2⟩;have bX:=KD.out.trans (b2.mono KD.out.size);obtain⟨Y,fq,uR,ng,vR⟩:=(KU.out.2.2.2.2.2.1.later bX).store (by omega) hk.1 hk.2 xs.length (by omega);rw[<-JF H.out.2.2.2.2.2.1]at uR
 have gN:(fun X:World=>X.cell? ⟨p,1,none⟩=some (.map (some mb))/\aV X w.1.size 0 x) X2:=by
  obtain⟨g1,g2,g3,g4,g5,g6,g7,g8,g9,F8,F9,Kl⟩:=KU.out;exact⟨(bX.cell (p:=⟨p,1,none⟩) g9).trans g4,g1.below bX F9⟩
 have K7:Hid (oo Y base p mb (n+1) (Value.slice a5 (xs.length+1) k5) (xs++[x])/\Below base w Y):=by
  obtain⟨g1,g2,g3,g4,g5,g6,g7,g8,g9,F8,F9,Kl⟩:=KU.out;have jQ:=K1.out.1.pm;have uS:=(ng.block p (Nat.lt_of_lt_of_le g9 bX.size) jQ).trans (bX.block p g9);refine⟨⟨(World.cell?_of_block (a:=⟨p,0,none⟩) uS).trans g3,(World.cell?_of_block (a:=⟨p,1,none⟩) uS).trans g4,fun j=>(World.frozen?_of_block (a:=⟨p,j,none⟩) uS).trans (g5 j),g2.aM (fun b _ hb e=>(ng.block b (Nat.lt_of_lt_of_le hb bX.size) (fun e'=>g8 (by rw[e,e']))).trans (bX.block b hb)),uR,fun s hs=>?_,g7,g8,jQ,K1.out.1.bp,K1.out.1.bm,by rw[vR];exact Nat.lt_of_lt_of_le g9 bX.size⟩,?_⟩
  ·rcases List.mem_append.1 hs with hs|hs
   ·exact K1.out.1.ok s hs
   ·simp at hs;subst hs;exact H.out.2.2.2.2.2.2.1
  ·have sI:base<=W5.1.size:=by have:=K1.out.1.bp;omega
   exact(F8.trans (bX.mono sI)).trans (ng.below K1.out.1.bm (Nat.le_trans sI bX.size))
 simp only[jI]at fq;refine hK.out _ _ (fun _=>gN) ?_;clear hK K gN hS bX KD uR ng vR hm hk b2;refine bG 8 rfl (fun K hK=>?_);go_simp;refine hK.out _ _ (fun h=>absurd (show false=true from h.symm.trans (by kernel_rfl)) (by decide)) ?_;clear hK K fq;refine bH (by kernel_rfl) ?_ _;obtain⟨q5,cap5,my,P7⟩:=K7.out.1.Yq (by simp)
 have c7:=LW Y base p q5 mb (n+1) cap5 (xs++[x]) xs.length P7 (by simp;omega) (by simp) (by
  rcases HS.out with h|h
  ·exact .inl (by rw[h];rfl)
  ·exact .inr h)
 go_wp2_with fail;refine c7.mono ?_;clear c7;rintro e w8 ⟨rfl,b8⟩;have KE:=dw (K7.out.1.later b8) (show Below base w w8 from K7.out.2.trans (b8.mono (by have:=K7.out.1.bp;have:=K7.out.1.lp;omega)));clear b8;go_wp2;refine bodyPost_end (v:=.tuple #[]) (by simp[results,results151,go_sem]) rfl ⟨rfl,(Value.slice a5 (xs.length+1) k5),KE.out.1,KE.out.2⟩
theorem RO(w:World)(base p mb n:Nat)(v:Value)(xs:List S5)(x:S5)(h:oo w base p mb n v xs)(hn:n<=1000)(hl:xs.length<=100)(il:bK x=true)(jD:l8 xs x.b x.e=none)(Iu:base<=w.1.size)(hs:dF.Hp (jS xs) xs.length):
  Calls prog 151 #[.pointer (some ⟨p,0,none⟩),.agg #[vI x.b,vI x.e,vI x.g,.bool x.j,vI x.i]] w fun e w'=>e=.returned (.tuple #[])/\∃q cap n' ys,n'<=n+1+2*xs.length/\o7 w' base p q mb n' cap ys/\ys.Perm (xs++[x])/\dF.Hp (jS ys) ys.length/\Below base w w':=by
 obtain⟨W0,dO⟩:=bO (w.alloc (.cells #[vI x.b,vI x.e,vI x.g,.bool x.j,vI x.i] 96));have b0:Below w.1.size w W0:=by rw[dO];exact aK.alloc aU _
 have z0:W0.1.size=w.1.size+1:=by rw[dO];simp
 have x0:aV W0 w.1.size 0 x:=by rw[dO];exact aV.box w x _
 have h0:=h.later b0;have hk:=fM il;have yS:=h.lp;have et:=h.mp.lt
 have lk:∀d os,(Instr.lookup 170 (.map (some mb)) (jI x.b x.e) true).run prog (grow (redrawn W0 d) os)=.ok (.tuple #[vI 0,.bool false]) (grow (redrawn W0 d) os):=fun d os=>by
  have hu:=((h0.mp).later (below_regrown W0 d os)).look hk.1 hk.2;rw[jD]at hu;exact hu
 have lift:∀{b o:Nat}{u:Value},b<W0.1.size->W0.cell? ⟨b,o,none⟩=some u->∀d os,(grow (redrawn W0 d) os).cell? ⟨b,o,none⟩=some u:=fun {b o u} hb hh d os=>((below_regrown W0 d os).cell (p:=⟨b,o,none⟩) hb).trans hh
 have m1:=lift (by omega) h0.c1;have t0:=lift (by omega) x0.c0;have t1:=lift (by omega) x0.c1;have t2:=lift (by omega) x0.c2;have t3:=lift (by omega) x0.c3;have t4:=lift (by omega) x0.c4;have cC:∀d os,Calls prog 157 #[.agg #[vI x.b,vI x.e,vI x.g,.bool x.j,vI x.i]] (grow (redrawn W0 d) os) fun e gH=>e=.returned (.agg #[vI x.b,vI x.e])/\∃p:Regrown,gH=grow (redrawn W0 p.d) p.os:=fun d os=>Calls.regrown_of (gF _ _)
 have hm:∀w:World,(method 458 96 (.agg #[vI x.b,vI x.e,vI x.g,.bool x.j,vI x.i]) "loop.example/g00153/impl.cell").run prog w=.ok (157,.agg #[vI x.b,vI x.e,vI x.g,.bool x.j,vI x.i]) w:=fun _=>by kernel_rfl
 have H:=xZ h0 x0 b0 z0 Iu jD il (show v.ownBlock≠some w.1.size from fun e=>by have:=(h.row.lt e).2;omega);have HS:=af hs;clear h h0 x0 b0 z0 Iu jD il hs lift;simp only[jI,Nat.zero_add]at lk t0 t1 t2 t3 t4;go_enter func151,ntmps151;go_wp2_with fail;rw[<-dO];clear dO;refine gy ?_;repeat (go_big_quiet_step (exact cC _ _))
 refine wpQuiet_nil ?_;intro _ tL;obtain⟨⟨jH,bu⟩,jF⟩:=tL;subst jF;have bq:=below_regrown W0 jH bu
 have K1:Hid (oo (grow (redrawn W0 jH) bu) base p mb n v xs/\aV (grow (redrawn W0 jH) bu) w.1.size 0 x/\Below w.1.size w (grow (redrawn W0 jH) bu)/\w.1.size<(grow (redrawn W0 jH) bu).1.size):=by
  obtain⟨g1,g2,g3,g4,_⟩:=H.out;have:=bq.size;exact⟨g1.later bq,g2.below bq (by omega),g3.trans (bq.mono g3.size),by omega⟩
 clear bq m1 t0 t1 t2 t3 t4 cC lk;obtain⟨av,ac,Kq,-⟩:=K1.out.1.row.form;have m0:=K1.out.1.c0;rw[Kq]at m0;have HV:=af Kq;clear Kq;go_upto_region 5 with fail
 clear m0;generalize grow (redrawn W0 jH) bu=W1 at *;have hS:(fun X:World=>X.cell? ⟨p,0,none⟩=some v/\aV X w.1.size 0 x) W1.drew:=⟨K1.out.1.c0,K1.out.2.1.below ((Below.refl W1.1.size W1).drew) K1.out.2.2.2⟩
 refine aT (fun z=>z==10) (fun X:World=>X.cell? ⟨p,0,none⟩=some v/\aV X w.1.size 0 x) (by kernel_rfl) ?_;have KD:Hid (Below W1.1.size W1 W1.drew):=aK.drew;generalize W1.drew=Wd at *;refine bf 0 rfl hS ?_;simp only[Act.put];refine bf 1 rfl hS ?_;simp only[Act.put];refine bf 2 rfl hS ?_;simp only[Act.put];refine bf 3 rfl hS ?_;simp only[Act.put];refine fU 4 ?_ rfl ?_ hS ?_;rotate_left
 ·(intro w aA;obtain⟨s0,⟨a0,a1,a2,a3,a4⟩⟩:=aA;go_simp;first|done|with_reducible rfl)
 simp only[Act.put];refine fU 5 ?_ rfl ?_ hS ?_;rotate_left
 ·(intro w aA;obtain⟨s0,⟨a0,a1,a2,a3,a4⟩⟩:=aA;go_simp;first|done|with_reducible rfl)
 simp only[Act.put];obtain⟨V,hV⟩:=bO (Wd.alloc (.cells #[vI x.b,vI x.e,vI x.g,.bool x.j,vI x.i] 96));have bV:Below Wd.1.size Wd V:=by rw[hV];exact aK.alloc aU _
 have Bt:=KD.out.trans (bV.mono KD.out.size);have jE:aY V Wd.1.size 0 [x]:=by rw[hV];exact(aV.box Wd _ _).one
 have fJ:=(K1.out.1.later Bt)
 obtain⟨v5,Y5,hr,mY,gP,iD⟩:=wh fJ.row [x] (by simp;omega) 89 Wd.1.size 0 1 jE (by have:=fJ.bp;have:=fJ.lp;omega)
 obtain⟨a5,k5,rfl⟩:∃a5 k5,v5=Value.slice a5 (xs.length+1) k5:=by
  obtain⟨a5,k5,e5,-⟩:=mY.form;exact⟨a5,k5,by simpa using e5⟩
 have qR:=Nat.lt_of_lt_of_le K1.out.2.2.2 Bt.size;have Kn:=And.intro fJ.c0 (K1.out.2.1.below Bt K1.out.2.2.2);have kb:∀b,b<V.1.size->v.ownBlock≠some b->Y5.1[b]?=V.1[b]?:=fun b hb eO=>gP.block b hb (fun e=>eO e.symm)
 have xP:(fun X:World=>X.cell? ⟨p,0,none⟩=some v/\aV X w.1.size 0 x) Y5:=⟨(World.cell?_of_block (a:=⟨p,0,none⟩) (kb p fJ.lp fJ.vp)).trans fJ.c0,aV.jY Kn.2 (kb _ qR H.out.2.2.2.2.2.2.2)⟩
 have ru:∀b,b<V.1.size->v.ownBlock≠some b->(Value.slice a5 (xs.length+1) k5).ownBlock≠some b:=fun b hb eO e=>by
  rcases iD with h|h
  ·rw[h]at e;exact eO e
  ·rw[h]at e;cases e;omega
 have K5:Hid (iJ Y5 base (Value.slice a5 (xs.length+1) k5) (xs++[x])/\Y5.cell? ⟨p,0,none⟩=some v/\Y5.cell? ⟨p,1,none⟩=some (.map (some mb))/\(∀j,Y5.frozen? ⟨p,j,none⟩=false)/\kE Y5 mb n (l8 xs)/\(Value.slice a5 (xs.length+1) k5).ownBlock≠some p/\(Value.slice a5 (xs.length+1) k5).ownBlock≠some mb/\p<Y5.1.size/\Below base w Y5/\aV Y5 w.1.size 0 x/\w.1.size<Y5.1.size/\(Value.slice a5 (xs.length+1) k5).ownBlock≠some w.1.size/\mb<V.1.size):=by
  have uS:=kb p fJ.lp fJ.vp;have WS:=kb mb fJ.mp.lt fJ.vm;have V8:Below base w V:=(K1.out.2.2.1.mono H.out.2.2.2.2.1).trans (Bt.mono (by have:=K1.out.1.bp;have:=K1.out.1.lp;omega));refine⟨mY,xP.1,(World.cell?_of_block (a:=⟨p,1,none⟩) uS).trans fJ.c1,fun j=>(World.frozen?_of_block (a:=⟨p,j,none⟩) uS).trans (fJ.fz j),fJ.mp.aj WS,ru p fJ.lp fJ.vp,ru mb fJ.mp.lt fJ.vm,Nat.lt_of_lt_of_le fJ.lp gP.size,?_,xP.2,Nat.lt_of_lt_of_le qR gP.size,ru _ qR H.out.2.2.2.2.2.2.2,fJ.mp.lt⟩;exact V8.grown gP (by have:=fJ.bp;have:=fJ.lp;omega) (fun b e=>(fJ.row.lt e).1)
 rw[hV]at hr;have f0:=K5.out.2.2.2.1 0;have e0:=K5.out.2.1;simp only[List.length_cons,List.length_nil,Nat.zero_add]at hr;refine bG 6 rfl (fun K hK=>?_);go_simp;refine hK.out _ _ (fun _=>by rw[<-hV];exact Kn) ?_;clear hK K;refine bG 7 rfl (fun K hK=>?_);refine bJ _ rfl (.tmp 34) (.tmp 36) 89 rfl _ _ _ _ (by first|rfl|simp[Act.eval,Act.put]) (by first|rfl|simp[Act.eval,Act.put]) hr ?_;refine hK.out _ _ (fun _=>xP) ?_;clear hK K hr;simp only[Act.put];refine bf 8 rfl xP ?_;simp only[Act.put];refine bf 9 rfl xP ?_;simp only[Act.put];refine bG 10 rfl (fun K hK=>?_);go_simp;refine hK.out _ _ (fun h=>absurd (show false=true from h.symm.trans (by kernel_rfl)) (by decide)) ?_;clear hK K;refine bH (by kernel_rfl) ?_ _
 have KU:Hid (aV (Y5.setCell ⟨p,0,none⟩ (Value.slice a5 (xs.length+1) k5)) w.1.size 0 x/\iJ (Y5.setCell ⟨p,0,none⟩ (Value.slice a5 (xs.length+1) k5)) base (Value.slice a5 (xs.length+1) k5) (xs++[x])/\(Y5.setCell ⟨p,0,none⟩ (Value.slice a5 (xs.length+1) k5)).cell? ⟨p,0,none⟩=some (Value.slice a5 (xs.length+1) k5)/\(Y5.setCell ⟨p,0,none⟩ (Value.slice a5 (xs.length+1) k5)).cell? ⟨p,1,none⟩=some (.map (some mb))/\(∀j,(Y5.setCell ⟨p,0,none⟩ (Value.slice a5 (xs.length+1) k5)).frozen? ⟨p,j,none⟩=false)/\kE (Y5.setCell ⟨p,0,none⟩ (Value.slice a5 (xs.length+1) k5)) mb n (l8 xs)/\(Value.slice a5 (xs.length+1) k5).ownBlock≠some p/\(Value.slice a5 (xs.length+1) k5).ownBlock≠some mb/\p<(Y5.setCell ⟨p,0,none⟩ (Value.slice a5 (xs.length+1) k5)).1.size/\Below base w (Y5.setCell ⟨p,0,none⟩ (Value.slice a5 (xs.length+1) k5))/\w.1.size<(Y5.setCell ⟨p,0,none⟩ (Value.slice a5 (xs.length+1) k5)).1.size/\(Value.slice a5 (xs.length+1) k5).ownBlock≠some w.1.size):=by
  obtain⟨g1,g2,g3,g4,g5,g6,g7,g8,g9,F8,F9,Kl,g13⟩:=K5.out;have bp:=K1.out.1.bp;have dS:∀b,b≠p->(Y5.setCell ⟨p,0,none⟩ (Value.slice a5 (xs.length+1) k5)).1[b]?=Y5.1[b]?:=fun b hb=>Below.heap_setCell _ _ _ _ hb
  refine⟨aV.jY F8 (dS _ (by omega)),g1.aM (fun b _ _ e=>dS b (fun e'=>g6 (by rw[e,e']))),ay g2,(ae (by omega)).trans g3,fun j=>by rw[World.frozen?_setCell];exact g4 j,g5.aj (dS mb (fun e=>K1.out.1.pm e.symm)),g6,g7,by simpa[World.setCell]using g8,g9.setCell (p:=⟨p,0,none⟩) bp _,by simpa[World.setCell]using F9,Kl⟩
 clear K5 hS Kn xP kb ru gP iD mY fJ jE Bt bV hV V qR f0 e0 KD;generalize Y5.setCell ⟨p,0,none⟩ (Value.slice a5 (xs.length+1) k5)=W5 at *;clear Y5;have hS:(fun X:World=>X.cell? ⟨p,1,none⟩=some (.map (some mb))/\aV X w.1.size 0 x) W5.drew:=⟨KU.out.2.2.2.1,KU.out.1.below ((Below.refl W5.1.size W5).drew) KU.out.2.2.2.2.2.2.2.2.2.2.1⟩
 go_upto_region 6 with fail
 refine aT (fun z=>z==8) (fun X:World=>X.cell? ⟨p,1,none⟩=some (.map (some mb))/\aV X w.1.size 0 x) (by kernel_rfl) ?_;have KD:Hid (Below W5.1.size W5 W5.drew):=aK.drew;generalize W5.drew=We at *;refine bf 0 rfl hS ?_;simp only[Act.put];refine bf 1 rfl hS ?_;simp only[Act.put];refine bf 2 rfl hS ?_;simp only[Act.put];refine fU 3 ?_ rfl ?_ hS ?_;rotate_left
 ·(intro w aA;obtain⟨s0,⟨a0,a1,a2,a3,a4⟩⟩:=aA;go_simp;first|done|with_reducible rfl)
 simp only[Act.put];refine fU 4 ?_ rfl ?_ hS ?_;rotate_left
 ·(intro w aA;obtain⟨s0,⟨a0,a1,a2,a3,a4⟩⟩:=aA;go_simp;first|done|with_reducible rfl)
 simp only[Act.put];refine bf 5 rfl hS ?_;simp only[Act.put];refine bf 7 rfl hS ?_;simp only[Act.put];refine bG 6 rfl (fun K hK=>?_);go_simp;refine(gF We x).mono ?_;rintro e X2 ⟨rfl,b2⟩;have bX:=KD.out.trans (b2.mono KD.out.size);obtain⟨Y,fq,uR,ng,vR⟩:=(KU.out.2.2.2.2.2.1.later bX).store (by omega) hk.1 hk.2 xs.length (by omega);rw[<-JF H.out.2.2.2.2.2.1]at uR
 have gN:(fun X:World=>X.cell? ⟨p,1,none⟩=some (.map (some mb))/\aV X w.1.size 0 x) X2:=by
  obtain⟨g1,g2,g3,g4,g5,g6,g7,g8,g9,F8,F9,Kl⟩:=KU.out;exact⟨(bX.cell (p:=⟨p,1,none⟩) g9).trans g4,g1.below bX F9⟩
 have K7:Hid (oo Y base p mb (n+1) (Value.slice a5 (xs.length+1) k5) (xs++[x])/\Below base w Y):=by
  obtain⟨g1,g2,g3,g4,g5,g6,g7,g8,g9,F8,F9,Kl⟩:=KU.out;have jQ:=K1.out.1.pm;have uS:=(ng.block p (Nat.lt_of_lt_of_le g9 bX.size) jQ).trans (bX.block p g9);refine⟨⟨(World.cell?_of_block (a:=⟨p,0,none⟩) uS).trans g3,(World.cell?_of_block (a:=⟨p,1,none⟩) uS).trans g4,fun j=>(World.frozen?_of_block (a:=⟨p,j,none⟩) uS).trans (g5 j),g2.aM (fun b _ hb e=>(ng.block b (Nat.lt_of_lt_of_le hb bX.size) (fun e'=>g8 (by rw[e,e']))).trans (bX.block b hb)),uR,fun s hs=>?_,g7,g8,jQ,K1.out.1.bp,K1.out.1.bm,by rw[vR];exact Nat.lt_of_lt_of_le g9 bX.size⟩,?_⟩
  ·rcases List.mem_append.1 hs with hs|hs
   ·exact K1.out.1.ok s hs
   ·simp at hs;subst hs;exact H.out.2.2.2.2.2.2.1
  ·have sI:base<=W5.1.size:=by have:=K1.out.1.bp;omega
   exact(F8.trans (bX.mono sI)).trans (ng.below K1.out.1.bm (Nat.le_trans sI bX.size))
 simp only[jI]at fq;refine hK.out _ _ (fun _=>gN) ?_;clear hK K gN hS bX KD uR ng vR hm hk b2;refine bG 8 rfl (fun K hK=>?_);go_simp;refine hK.out _ _ (fun h=>absurd (show false=true from h.symm.trans (by kernel_rfl)) (by decide)) ?_;clear hK K fq;refine bH (by kernel_rfl) ?_ _;obtain⟨q5,cap5,my,P7⟩:=K7.out.1.Yq (by simp)
 have c7:=LX Y base p q5 mb (n+1) cap5 (xs++[x]) xs.length P7 (by omega) (by simp;omega) (by simp) (by
  have:=dF.yX.Nb (n:=xs.length) (k:=jS (xs++[x])) (fun i h0 hi=>by
   have e1:jS (xs++[x]) i=jS xs i:=by unfold jS aF;rw[List.getElem?_append_left hi]
   have e2:jS (xs++[x]) ((i-1)/2)=jS xs ((i-1)/2):=by unfold jS aF;rw[List.getElem?_append_left (by omega)]
   rw[e1,e2];exact HS.out i h0 hi)
  simpa using this)
 go_wp2_with fail;refine c7.mono ?_;clear c7;rintro e w8 ⟨rfl,n8,ys,kx,p8,Ng,Zy,k8⟩;have KE:=nE (show n8<=n+1+2*xs.length by omega) p8 Ng Zy (show Below base w w8 from K7.out.2.trans (k8.below (fun b hb=>by rcases hb with rfl|rfl|rfl;exact p8.bp;exact p8.bq;exact p8.bm) (by have:=K7.out.1.bp;have:=K7.out.1.lp;omega)));clear p8 Ng Zy k8 kx;go_wp2;refine bodyPost_end (v:=.tuple #[]) (by simp[results,results151,go_sem]) rfl ⟨rfl,q5,cap5,n8,ys,KE.out⟩
end tx
namespace tx
open Go.Proofs.Tryz
variable {k:Nat}{x:S5}{xs:List S5}
def yD(xs:List S5):Prop:=xs.Pairwise fun a b=>lM a<lM b
theorem Dt(h:yD xs){i j:Nat}{y:S5}(hi:xs[i]?=some x)(hj:xs[j]?=some y)(IC:i<j):lM x<lM y:=by
 have li:=(List.getElem?_eq_some_iff.1 hi)
 have lj:=(List.getElem?_eq_some_iff.1 hj)
 have:=List.pairwise_iff_getElem.1 h i j li.1 lj.1 IC;rwa[li.2,lj.2]at this
theorem bj(h:yD xs)(hk:xs[k]?=some x):l8 (xs.take k) x.b x.e=none:=by
 rw[Du];intro y hy e;obtain⟨i,hi,rfl⟩:=List.getElem_of_mem hy;have Ky:i<k:=by rw[List.length_take]at hi;omega
 have e2:xs[i]?=some ((xs.take k)[i]):=by
  have:=List.getElem?_eq_getElem hi;rwa[List.getElem?_take,if_pos Ky]at this
 have:=Dt h e2 hk Ky;unfold lM at this;rw[e.1,e.2]at this;omega
theorem XQ(h:yD xs)(hk:xs[k]?=some x):xs.take k=[]\/jS (xs.take k++[x]) (((xs.take k).length-1)/2)<=jS (xs.take k++[x]) (xs.take k).length:=by
 by_cases h0:k=0
 ·exact .inl (by rw[h0];rfl)
 ·have lk:=(List.getElem?_eq_some_iff.1 hk).1;have hl:(xs.take k).length=k:=by rw[List.length_take];omega
  have e1:xs.take k++[x]=xs.take (k+1):=by rw[List.take_add_one,hk];rfl
  refine .inr ?_;rw[hl,e1];obtain⟨y,hy⟩:∃y,xs[(k-1)/2]?=some y:=⟨_,List.getElem?_eq_getElem (by omega)⟩
  rw[FE (x:=y) (by rw[List.getElem?_take,if_pos (by omega)];exact hy),FE (x:=x) (by rw[List.getElem?_take,if_pos (by omega)];exact hk)];exact Int.le_of_lt (Dt h hy hk (by omega))
theorem rA(w:World)(a:OA)(c:Nat)(xs:List S5)(hl:xs.length<=100)(hs:Sl w w.1.size a xs.length xs)(il:∀s∈xs,bK s=true)(Gh:yD xs):
  Calls prog 110 #[.slice a xs.length c] w fun e w'=>∃p mb n v,e=.returned (.pointer (some ⟨p,0,none⟩))/\oo w' w.1.size p mb n v xs/\n<=xs.length/\Below w.1.size w w':=by
 obtain⟨W0,dO⟩:=bO (w.alloc (.map #[] 0));have z0:W0.1.size=w.1.size+1:=by rw[dO];simp
 have b0:Below w.1.size w W0:=by rw[dO];exact aK.alloc aU _
 obtain⟨W,hW⟩:=bO (W0.alloc (.cells #[.slice none 0 0,.map (some w.1.size)] 229));have b1:Below W0.1.size W0 W:=by rw[hW];exact aK.alloc aU _
 have pb:oo W w.1.size (w.1.size+1) w.1.size 0 (.slice none 0 0) []:=by
  refine⟨(by rw[hW,<-z0];go_simp),(by rw[hW,<-z0];go_simp),(fun j=>by rw[hW,<-z0];go_simp),iJ.nil _ _,?_,(fun s hs=>by cases hs),(fun e=>by cases e),(fun e=>by cases e),(by omega),(by omega),Nat.le_refl _,(by rw[hW];simp[z0])⟩;have hm:=(kE.made w).later (W':=W) (by rw[<-dO];exact b1);exact hm
 have H:=nE hs il Gh pb (b0.trans (b1.mono b0.size));clear hs il Gh pb b0 b1 z0;rw[dO]at hW;clear dO;have Cb:=@run_makeMap prog;go_enter func110,ntmps110;go_wp2;rw[<-hW];clear hW;go_loopw[11] (fun v11 wr=>∃(k n:Nat) (v:Value),k<=xs.length/\v11=vI (k:Int)/\oo wr w.1.size (w.1.size+1) w.1.size n v (xs.take k)/\n<=k/\Below w.1.size w wr) (fun v11 _=>xs.length-(intOf v11).toNat)
 case atStart=>exact⟨0,0,.slice none 0 0,Nat.zero_le _,rfl,by simpa using H.out.2.2.2.1,Nat.le_refl _,H.out.2.2.2.2⟩
 case round=>
  obtain⟨k,n,v,hk,rfl,hp,k9,aB⟩:=hrel;by_cases aN:k<xs.length
  ·obtain⟨_,fQ⟩:=H.out.1.later aB;rcases fQ with fQ|⟨b,off,rfl,hb,hx⟩
   ·omega
   have zg:=eX aN;obtain⟨c0,c1,c2,c3,c4⟩:=hx k _ zg;obtain⟨V,hV⟩:=bO (wr.alloc (.cells #[vI (aF xs k).b,vI (aF xs k).e,vI (aF xs k).g,.bool (aF xs k).j,vI (aF xs k).i] 96));have bV:Below wr.1.size wr V:=by rw[hV];exact aK.alloc aU _
   have cp:=Pb V w.1.size (w.1.size+1) w.1.size n v (xs.take k) (aF xs k) (hp.later bV) (by omega) (by rw[List.length_take];omega) (H.out.2.1 _ (List.mem_of_getElem? zg)) (bj H.out.2.2.1 zg) (Nat.le_trans aB.size bV.size) (XQ H.out.2.2.1 zg);have KB:=dw (aB.trans (bV.mono aB.size)) (show xs.take k++[aF xs k]=xs.take (k+1) by rw[List.take_add_one,zg];rfl);clear hp aB hx zg bV;go_wp2_with fail;rw[<-hV];clear hV c0 c1 c2 c3 c4;refine cp.mono ?_;clear cp;rintro e w1 ⟨rfl,v',p1,b1⟩;rw[KB.out.2]at p1;have KE:=dw p1 (KB.out.1.trans b1);clear p1 b1;go_wp2;exact⟨⟨k+1,n+1,v',by omega,by simp,KE.out.1,by omega,KE.out.2⟩,by simp[intOf];omega⟩
  ·obtain rfl:k=xs.length:=by omega
   have hd:decide ((xs.length:Int)<(xs.length:Int))=false:=by simp
   rw[List.take_length]at hp;have KE:=dw hp aB;clear hp aB;go_wp2;go_ret;exact⟨w.1.size+1,w.1.size,n,v,rfl,KE.out.1,k9,KE.out.2⟩
end tx
namespace tx
open Go.Proofs.Tryz
variable {k:Nat}{r s:Int}{t:T7}{x:S5}{xs:List S5}
theorem Jt{f:Nat->Int}{n:Nat}(h:∀i,i+1<n->f i<f (i+1)){i j:Nat}(IC:i<j)(hj:j<n):f i<f j:=by
 induction j with
 | zero=>omega
 | succ j ih=>
  by_cases e:i=j
  ·subst e;exact h i hj
  ·exact Int.lt_trans (ih (by omega) (by omega)) (h j hj)
theorem GN(h:kv t=true):(∀s∈t.a,bS s=true)/\uZ t.a:=by
 simp only[kv,Bool.and_eq_true]at h;have g:=h.1.2;rw[Je,Bool.and_eq_true,List.all_eq_true,List.all_eq_true]at g;refine⟨fun s hs=>?_,?_⟩
 ·obtain⟨i,hi,rfl⟩:=List.getElem_of_mem hs;have:=g.1 i (List.mem_range.2 hi);rwa[show aH t.a i=t.a[i]from by have:=fD hi;rw[List.getElem?_eq_getElem hi]at this;exact(Option.some.inj this).symm]at this
 ·refine List.pairwise_iff_getElem.2 fun i j hi hj IC=>?_
  have:=Jt (f:=fun i=>oK (aH t.a i)) (n:=t.a.length) (fun i hi=>by
   have:=g.2 (i+1) (List.mem_range.2 hi);simp only[Az,Nat.add_sub_cancel,Bool.or_eq_true,decide_eq_true_eq]at this;rcases this with h|h
   ·omega
   ·exact h) IC hj
  have e:∀i (hi:i<t.a.length),aH t.a i=t.a[i]:=fun i hi=>by have:=fD hi;rw[List.getElem?_eq_getElem hi]at this;exact(Option.some.inj this).symm
  rwa[e i hi,e j hj]at this
theorem Mg(h:kv t=true):(∀s∈t.ai,bK s=true)/\yD t.ai:=by
 simp only[kv,Bool.and_eq_true]at h;have g:=h.2;rw[JA,Bool.and_eq_true,List.all_eq_true,List.all_eq_true]at g;refine⟨fun s hs=>?_,?_⟩
 ·obtain⟨i,hi,rfl⟩:=List.getElem_of_mem hs;have:=g.1 i (List.mem_range.2 hi);rwa[show aF t.ai i=t.ai[i]from by have:=eX hi;rw[List.getElem?_eq_getElem hi]at this;exact(Option.some.inj this).symm]at this
 ·refine List.pairwise_iff_getElem.2 fun i j hi hj IC=>?_
  have:=Jt (f:=fun i=>lM (aF t.ai i)) (n:=t.ai.length) (fun i hi=>by
   have:=g.2 (i+1) (List.mem_range.2 hi);simp only[AB,Nat.add_sub_cancel,Bool.or_eq_true,decide_eq_true_eq]at this;rcases this with h|h
   ·omega
   ·exact h) IC hj
  have e:∀i (hi:i<t.ai.length),aF t.ai i=t.ai[i]:=fun i hi=>by have:=eX hi;rw[List.getElem?_eq_getElem hi]at this;exact(Option.some.inj this).symm
  rwa[e i hi,e j hj]at this
def D6(w:World)(xs:List N5)(e:Ending)(w':World):Prop:=
 ∃(a:OA) (c:Nat) (PS:Nat->Prop),e=.returned (.slice a xs.length c)/\oW w' PS a xs/\(∀q,PS q->w.1.size<=q/\q<w'.1.size)/\Below w.1.size w w'
def setAt(xs:List S5)(r s:Int):Int:=match l8 xs r s with|some i=>(i:Int)|none=>-1
theorem Pe(h:l8 (xs.take k) r s=none)(hx:xs[k]?=some x)(h1:x.b=r)(h2:x.e=s):l8 xs r s=some k:=by
 have lk:=List.getElem?_eq_some_iff.1 hx;have l1:=lk.1;unfold l8 at *;rw[List.findIdx?_eq_some_iff_getElem];refine⟨lk.1,by rw[lk.2];simp[h1,h2],fun j hj=>?_⟩;rw[List.findIdx?_eq_none_iff]at h;have:=h xs[j] (List.mem_take_iff_getElem.2 ⟨j,by omega,rfl⟩);simp at this ⊢;exact this
theorem JG(h:l8 (xs.take k) r s=none)(hx:xs[k]?=some x)(hn:¬(x.b=r/\x.e=s)):l8 (xs.take (k+1)) r s=none:=by
 rw[Du]at *;intro y hy;rw[List.take_add_one,hx]at hy;rcases List.mem_append.1 hy with hy|hy
 ·exact h y hy
 ·simp at hy;subst hy;exact hn
theorem Fe(w:World)(v:TV)(t:T7)(r s:Int)(hl:t.ai.length<=1000)(hs:uA w v t):
  Calls prog 92 #[v.val t,vI r,vI s] w fun e w'=>e=.returned (vI (setAt t.ai r s))/\Below w.1.size w w':=by
 obtain⟨ar,cr,ah,ch⟩:=v;simp only[TV.val];obtain⟨W,hW⟩:=bO (w.alloc (.cells #[vI t.id,vI t.l,vI t.o,vI t.q,.slice ar t.a.length cr,.slice ah t.ai.length ch,vI t.az] 91));have b0:Below w.1.size w W:=by rw[hW];exact aK.alloc aU _
 have x0:BT W w.1.size ⟨ar,cr,ah,ch⟩ t:=by rw[hW];exact BT.box w ⟨ar,cr,ah,ch⟩ t _
 have p5:=x0.c5;dsimp only at p5;have H:=dw ((hs.later b0).s) b0;clear hs b0 x0;go_enter func92,ntmps92;go_wp2;rw[<-hW];clear hW;go_loopw[7] (fun v7 wr=>∃k:Nat,k<=t.ai.length/\v7=vI k/\wr=W/\l8 (t.ai.take k) r s=none) (fun v7 _=>t.ai.length-(intOf v7).toNat)
 case atStart=>exact⟨0,Nat.zero_le _,rfl,rfl,by simp[l8]⟩
 case round=>
  obtain⟨k,hk,rfl,rfl,IG⟩:=hrel;have KN:=af IG;clear IG;by_cases aN:k<t.ai.length
  ·obtain⟨_,fQ⟩:=H.out.1;rcases fQ with fQ|⟨b,off,rfl,hb,hx⟩
   ·omega
   obtain⟨c0,c1,c2,c3,c4⟩:=hx k _ (eX aN);clear hx;by_cases hg:(aF t.ai k).b=r
   ·have dg:((aF t.ai k).b==r)=true:=by simpa using hg
    by_cases IA:(aF t.ai k).e=s
    ·have gd:((aF t.ai k).e==s)=true:=by simpa using IA
     have HF:Hid (setAt t.ai r s=(k:Int)):=by unfold Hid setAt;rw[Pe KN.out (eX aN) hg IA]
     clear hg IA;go_wp2;go_ret;exact⟨by rw[HF.out];rfl,H.out.2⟩
    ·have gd:((aF t.ai k).e==s)=false:=by simpa using IA
     have KE:=af (JG KN.out (eX aN) (fun h=>IA h.2));clear hg IA;go_wp2;exact⟨⟨k+1,by omega,by simp,trivial,KE.out⟩,by simp[intOf];omega⟩
   ·have dg:((aF t.ai k).b==r)=false:=by simpa using hg
    have KE:=af (JG KN.out (eX aN) (fun h=>hg h.1));clear hg;go_wp2;exact⟨⟨k+1,by omega,by simp,trivial,KE.out⟩,by simp[intOf];omega⟩
  ·obtain rfl:k=t.ai.length:=by omega
   have hd:decide ((t.ai.length:Int)<(t.ai.length:Int))=false:=by simp
   have HF:Hid (setAt t.ai r s=-1):=by unfold Hid setAt;have:=KN.out;rw[List.take_length]at this;rw[this]
   go_wp2;go_ret;exact⟨by rw[HF.out];rfl,H.out.2⟩
end tx
namespace tx
open Go.Proofs.Tryz
variable {w:World}
def xu(w:World)(N:T7)(ok:Bool)(e:Ending)(w':World):Prop:=
 ∃(a:OA) (c:Nat) (h:OA) (d:Nat) (PR PS:Nat->Prop),e=.returned (.tuple #[.agg #[vI N.id,vI N.l,vI N.o,vI N.q,.slice a N.a.length c,.slice h N.ai.length d,vI N.az],.bool ok])/\OT w' w.1.size ⟨a,c,h,d⟩ N PR PS/\Below w.1.size w w'
def kg:T7:=⟨0,0,0,0,[],[],0⟩
theorem OT.none{B:Nat}{N:T7}(h1:N.a=[])(h2:N.ai=[]):OT w B ⟨none,0,none,0⟩ N (fun _=>False) (fun _=>False):=⟨.inl h1,.inl h2,fun _ h=>h.elim,fun _ h=>h.elim,fun _ h=>h.elim⟩
theorem xu.zero{w':World}(hb:Below w.1.size w w'):xu w kg false (.returned (.tuple #[.agg #[vI 0,vI 0,vI 0,vI 0,.slice none 0 0,.slice none 0 0,vI 0],.bool false])) w':=
 ⟨none,0,none,0,fun _=>False,fun _=>False,rfl,OT.none rfl rfl,hb⟩
end tx
namespace tx
open Go.Proofs.Tryz
variable {W:World}{a:OA}{c n:Nat}
def YG(w:World)(t:T7)(e:Ending)(w':World):Prop:=∃(a4:OA) (c4:Nat) (h4:OA) (d4:Nat) (PR PS:Nat->Prop),e=.returned ((TV.mk a4 c4 h4 d4).val t)/\OT w' w.1.size ⟨a4,c4,h4,d4⟩ t PR PS/\Below w.1.size w w'/\t.a.length<=c4/\t.ai.length<=d4
theorem gZ.cap{base:Nat}{xs:List N5}(h:gZ W base (.slice a n c) xs):xs.length<=c:=by
 rcases h.2 with ⟨e,h0⟩|⟨_,_,_,e,_,_,hl,_⟩
 ·rw[h0];exact Nat.zero_le _
 ·cases e;exact hl
theorem iJ.cap{base:Nat}{xs:List S5}(h:iJ W base (.slice a n c) xs):xs.length<=c:=by
 rcases h.2 with ⟨e,h0⟩|⟨_,_,_,e,_,_,hl,_⟩
 ·rw[h0];exact Nat.zero_le _
 ·cases e;exact hl
theorem tX(w:World)(v:TV)(t:T7)(hr:t.a.length<=1048576)(Vi:t.ai.length<=1048576)(h:uA w v t):
  Calls prog 90 #[v.val t] w (YG w t):=by
 obtain⟨ar,cr,ah,ch⟩:=v;simp only[TV.val];obtain⟨W1,fA⟩:=bO (w.alloc (.cells #[vI t.id,vI t.l,vI t.o,vI t.q,.slice ar t.a.length cr,.slice ah t.ai.length ch,vI t.az] 91));have z1:W1.1.size=w.1.size+1:=by rw[fA];simp
 have x1:BT W1 w.1.size ⟨ar,cr,ah,ch⟩ t:=by rw[fA];exact BT.box w ⟨ar,cr,ah,ch⟩ t _
 have b1:Below w.1.size w W1:=by rw[fA];exact aK.alloc aU _
 obtain⟨W,hW⟩:=bO (W1.alloc (.cells #[vI 0,vI 0,vI 0,vI 0,.slice none 0 0,.slice none 0 0,vI 0] 91));have b2:Below W1.1.size W1 W:=by rw[hW];exact aK.alloc aU _
 have yR:BT W (w.1.size+1) ⟨none,0,none,0⟩ ⟨0,0,0,0,[],[],0⟩:=by rw[hW,<-z1];exact BT.zero W1 _
 have sW:W.1.size=w.1.size+2:=by rw[hW];simp[z1]
 have yA:=x1.later b2;have bW:=b1.trans (b2.mono b1.size);have aaa:Below W.1.size W (W.alloc (.cells #[] 99)):=aK.alloc aU _;obtain⟨a1,c1,Y1,lY,jG,Im⟩:=Qp (gZ.made W) t.a hr 88 ar cr ((h.later (bW.trans (aaa.mono bW.size))).r) aaa.size;have qN:Below W.1.size W Y1:=aaa.grown Im aaa.size (fun q e=>by cases e;exact Nat.le_refl _);have Py:=yA.later qN;have VE:=yR.later qN;have SH:=Py.L8 a1 c1 t.a;have VF:=VE.dS (p:=⟨w.1.size,4,none⟩) (by dsimp only;omega) (.slice a1 t.a.length c1);have MF:Below w.1.size w (Y1.setCell ⟨w.1.size,4,none⟩ (.slice a1 t.a.length c1)):=(bW.trans (qN.mono bW.size)).setCell (p:=⟨w.1.size,4,none⟩) aU _;have Dm:gZ (Y1.setCell ⟨w.1.size,4,none⟩ (.slice a1 t.a.length c1)) W.1.size (.slice a1 t.a.length c1) t.a:=jG.aM (fun q hq _ _=>Below.heap_setCell _ _ _ _ (by show q≠w.1.size;omega));have Yu:(Y1.setCell ⟨w.1.size,4,none⟩ (.slice a1 t.a.length c1)).1.size=Y1.1.size:=by simp[World.setCell]
 have NH:Below (Y1.setCell ⟨w.1.size,4,none⟩ (.slice a1 t.a.length c1)).1.size (Y1.setCell ⟨w.1.size,4,none⟩ (.slice a1 t.a.length c1)) ((Y1.setCell ⟨w.1.size,4,none⟩ (.slice a1 t.a.length c1)).alloc (.cells #[] 96)):=aK.alloc aU _;obtain⟨a2,c2,Y2,oM,uk,Io⟩:=Qq (iJ.made (Y1.setCell ⟨w.1.size,4,none⟩ (.slice a1 t.a.length c1))) t.ai Vi 89 ah ch ((h.later (MF.trans (NH.mono MF.size))).s) NH.size;have sQ:Below (Y1.setCell ⟨w.1.size,4,none⟩ (.slice a1 t.a.length c1)).1.size (Y1.setCell ⟨w.1.size,4,none⟩ (.slice a1 t.a.length c1)) Y2:=NH.grown Io NH.size (fun q e=>by cases e;exact Nat.le_refl _);have PL:=SH.later sQ;have VG:=VF.later sQ;have od:=PL.Dv a2 c2 t.ai;have VH:=VG.dS (p:=⟨w.1.size,5,none⟩) (by dsimp only;omega) (.slice a2 t.ai.length c2);have nI:Below w.1.size w (Y2.setCell ⟨w.1.size,5,none⟩ (.slice a2 t.ai.length c2)):=(MF.trans (sQ.mono MF.size)).setCell (p:=⟨w.1.size,5,none⟩) aU _;have lX:gZ (Y2.setCell ⟨w.1.size,5,none⟩ (.slice a2 t.ai.length c2)) W.1.size (.slice a1 t.a.length c1) t.a:=(Dm.later sQ).aM (fun q hq _ _=>Below.heap_setCell _ _ _ _ (by show q≠w.1.size;omega));have DZ:W.1.size<=(Y1.setCell ⟨w.1.size,4,none⟩ (.slice a1 t.a.length c1)).1.size:=by rw[Yu];exact qN.size
 have nX:iJ (Y2.setCell ⟨w.1.size,5,none⟩ (.slice a2 t.ai.length c2)) (Y1.setCell ⟨w.1.size,4,none⟩ (.slice a1 t.a.length c1)).1.size (.slice a2 t.ai.length c2) t.ai:=uk.aM (fun q hq _ _=>Below.heap_setCell _ _ _ _ (by show q≠w.1.size;omega));have jA:=VH.put ⟨a1,c1,a2,c2⟩ t;have p4:=yA.c4;have k4:=Py.c4;have GZ:=Py.fz 4;have p5:=(SH.later NH).c5;have k5:=PL.c5;have Vp:=PL.fz 5;dsimp only at p4 k4 p5 k5;obtain⟨o0,o1,o2,o3,o4,o5,o6,-,-⟩:=od;have KR:=VH;have QL:∀q,(Value.slice a1 t.a.length c1).ownBlock=some q->W.1.size<=q/\q<(Y1.setCell ⟨w.1.size,4,none⟩ (.slice a1 t.a.length c1)).1.size:=fun q e=>Dm.lt e
 have KO:OT (Y2.setCell ⟨w.1.size,5,none⟩ (.slice a2 t.ai.length c2)) w.1.size ⟨a1,c1,a2,c2⟩ t (fun q=>(Value.slice a1 t.a.length c1).ownBlock=some q) (fun q=>(Value.slice a2 t.ai.length c2).ownBlock=some q):=by
  obtain⟨_,_,e1,o1⟩:=lX.form;obtain⟨_,_,e2,o2⟩:=nX.form
  cases e1;cases e2;exact⟨o1,o2,fun q h1 h2=>by have:=(QL q h1).2;have:=(nX.lt h2).1;omega,fun q h1=>⟨by have:=(lX.lt h1).1;omega,(lX.lt h1).2⟩,fun q h1=>⟨by have:=(nX.lt h1).1;omega,(nX.lt h1).2⟩⟩
 have td:=dw lX.cap nX.cap
 have KH:Hid (OT (Y2.setCell ⟨w.1.size,5,none⟩ (.slice a2 t.ai.length c2)) w.1.size ⟨a1,c1,a2,c2⟩ t (fun q=>(Value.slice a1 t.a.length c1).ownBlock=some q) (fun q=>(Value.slice a2 t.ai.length c2).ownBlock=some q)/\Below w.1.size w (Y2.setCell ⟨w.1.size,5,none⟩ (.slice a2 t.ai.length c2))/\(∀q,lZ (fun q=>(Value.slice a1 t.a.length c1).ownBlock=some q) (fun q=>(Value.slice a2 t.ai.length c2).ownBlock=some q) q->w.1.size+2<=q)):=⟨KO,nI,fun q hq=>by
  rcases hq with hq|hq
  ·have:=(lX.lt hq).1;omega
  ·have:=(nX.lt hq).1;omega⟩
 simp only[iq]at jA;obtain⟨u0,u1,u2,u3,u4,u5,u6,-,-⟩:=jA;have KX:=dw (show((Y2.setCell ⟨w.1.size,5,none⟩ (.slice a2 t.ai.length c2)).cell? ⟨w.1.size,0,none⟩=some (vI t.id)/\(Y2.setCell ⟨w.1.size,5,none⟩ (.slice a2 t.ai.length c2)).cell? ⟨w.1.size,1,none⟩=some (vI t.l)/\(Y2.setCell ⟨w.1.size,5,none⟩ (.slice a2 t.ai.length c2)).cell? ⟨w.1.size,2,none⟩=some (vI t.o)/\(Y2.setCell ⟨w.1.size,5,none⟩ (.slice a2 t.ai.length c2)).cell? ⟨w.1.size,3,none⟩=some (vI t.q)/\(Y2.setCell ⟨w.1.size,5,none⟩ (.slice a2 t.ai.length c2)).cell? ⟨w.1.size,4,none⟩=some (.slice a1 t.a.length c1)/\(Y2.setCell ⟨w.1.size,5,none⟩ (.slice a2 t.ai.length c2)).cell? ⟨w.1.size,5,none⟩=some (.slice a2 t.ai.length c2)/\(Y2.setCell ⟨w.1.size,5,none⟩ (.slice a2 t.ai.length c2)).cell? ⟨w.1.size,6,none⟩=some (vI t.az))from⟨o0,o1,o2,o3,o4,o5,o6⟩) KR;have KU:=af (And.intro u0 (And.intro u1 (And.intro u2 (And.intro u3 (And.intro u4 (And.intro u5 u6))))));have K1:=af (And.intro k4 (And.intro GZ p5));have K2:=af (And.intro k5 Vp);have R1:=af lY;have R2:=af oM;rw[fA]at hW;have eL:W.1.size=w.1.size+1+1:=by omega
 clear sW;clear fA x1 b1 b2 z1 yA yR bW aaa qN jG Im Py VE SH VF MF Dm NH uk Io sQ PL VG nI lX nX DZ QL h KO KR o0 o1 o2 o3 o4 o5 o6 u0 u1 u2 u3 u4 u5 u6 k4 GZ p5 k5 Vp lY oM;go_enter func90,ntmps90;have r1:=R1.out;have r2:=R2.out;rw[eL]at r1;rw[Yu]at r2;rw[hW]at r1;obtain⟨k4,GZ,p5⟩:=K1.out;obtain⟨k5,Vp⟩:=K2.out;obtain⟨⟨o0,o1,o2,o3,o4,o5,o6⟩,⟨r0,r1',r2',r3,r4,r5,r6,fr,-⟩⟩:=KX.out;have f0:=fr 0;have f1:=fr 1;have f2:=fr 2;have f3:=fr 3;have f4:=fr 4;have f5:=fr 5;have f6:=fr 6;clear fr K1 K2 KX R1 R2 hW p4 Yu eL;go_wp2_with (first|(at_builtin;refine eD _ rfl (.tmp 3) (.tmp 5) 88 rfl _ _ _ _ rfl rfl r1 ?_)|(at_builtin;refine eD _ rfl (.tmp 8) (.tmp 10) 89 rfl _ _ _ _ rfl rfl r2 ?_));obtain⟨u0,u1,u2,u3,u4,u5,u6⟩:=KU.out;refine bodyPost_ret (v:=.agg #[vI t.id,vI t.l,vI t.o,vI t.q,.slice a1 t.a.length c1,.slice a2 t.ai.length c2,vI t.az]) (by simp[results,results90,go_sem,u0,u1,u2,u3,u4,u5,u6]) rfl ?_;obtain⟨ot,bX,q2⟩:=KH.out;refine⟨a1,c1,a2,c2,fun q=>(Value.slice a1 t.a.length c1).ownBlock=some q,fun q=>(Value.slice a2 t.ai.length c2).ownBlock=some q,rfl,?_,?_⟩
 ·exact ot.aM (by simp[World.setCell]) (fun q _ hq=>fu (s:=w.1.size+1) (v:=⟨a1,c1,a2,c2⟩) (t:=t) (by have:=q2 q hq;omega))
 ·exact⟨cz (s:=w.1.size+1) (v:=⟨a1,c1,a2,c2⟩) (t:=t) bX (by omega),td.out⟩
theorem Lb(w:World)(v:TV)(t:T7)(hr:t.a.length<=1048576)(Vi:t.ai.length<=1048576)(h:uA w v t):
  Calls prog 90 #[v.val t] w (YF w t):=by
 refine(tX w v t hr Vi h).mono ?_;rintro e w' ⟨a,b,c,d,PR,PS,h1,h2,h3,_⟩;exact⟨a,b,c,d,PR,PS,h1,h2,h3⟩
end tx
namespace tx
open Go.Proofs.Tryz
variable {k:Nat}{n x:N5}{r s:Int}{xs:List N5}
def jk(xs:List N5)(r s:Int):Int:=match kS xs r s with|some i=>(i:Int)|none=>-1
theorem O9(xs:List N5)(r s:Int):decide (0<=jk xs r s)=(kS xs r s).isSome:=by
 unfold jk
 cases kS xs r s<;>simp
theorem OL(h:kS (xs.take k) r s=none)(hx:xs[k]?=some x)(h1:x.b=r)(h2:x.e=s):kS xs r s=some k:=by
 have lk:=List.getElem?_eq_some_iff.1 hx;have l1:=lk.1;unfold kS at *;rw[List.findIdx?_eq_some_iff_getElem];refine⟨lk.1,by rw[lk.2];simp[h1,h2],fun j hj=>?_⟩;rw[List.findIdx?_eq_none_iff]at h;have:=h xs[j] (List.mem_take_iff_getElem.2 ⟨j,by omega,rfl⟩);simp at this ⊢;exact this
theorem Ji(h:kS (xs.take k) r s=none)(hx:xs[k]?=some x)(hn:¬(x.b=r/\x.e=s)):kS (xs.take (k+1)) r s=none:=by
 rw[ui]at *;intro y hy;rw[List.take_add_one,hx]at hy;rcases List.mem_append.1 hy with hy|hy
 ·exact h y hy
 ·simp at hy;subst hy;exact hn
theorem qV(w:World)(v:TV)(t:T7)(r s:Int)(hl:t.a.length<=1000)(hs:uA w v t):
  Calls prog 49 #[v.val t,vI r,vI s] w fun e w'=>e=.returned (vI (jk t.a r s))/\Below w.1.size w w':=by
 obtain⟨ar,cr,ah,ch⟩:=v;simp only[TV.val];obtain⟨W,hW⟩:=bO (w.alloc (.cells #[vI t.id,vI t.l,vI t.o,vI t.q,.slice ar t.a.length cr,.slice ah t.ai.length ch,vI t.az] 91));have b0:Below w.1.size w W:=by rw[hW];exact aK.alloc aU _
 have x0:BT W w.1.size ⟨ar,cr,ah,ch⟩ t:=by rw[hW];exact BT.box w ⟨ar,cr,ah,ch⟩ t _
 have p4:=x0.c4;dsimp only at p4;have H:=dw ((hs.later b0).r) b0;clear hs b0 x0;go_enter func49,ntmps49;go_wp2;rw[<-hW];clear hW;go_loopw[7] (fun v7 wr=>∃k:Nat,k<=t.a.length/\v7=vI k/\wr=W/\kS (t.a.take k) r s=none) (fun v7 _=>t.a.length-(intOf v7).toNat)
 case atStart=>exact⟨0,Nat.zero_le _,rfl,rfl,by simp[kS]⟩
 case round=>
  obtain⟨k,hk,rfl,rfl,IG⟩:=hrel;have KN:=af IG;clear IG;by_cases aN:k<t.a.length
  ·obtain⟨_,fQ⟩:=H.out.1;rcases fQ with fQ|⟨b,off,rfl,hb,hx⟩
   ·omega
   obtain⟨c0,c1,c2,c3,c4⟩:=hx k _ (fD aN);clear hx;by_cases hg:(aH t.a k).b=r
   ·have dg:((aH t.a k).b==r)=true:=by simpa using hg
    by_cases IA:(aH t.a k).e=s
    ·have gd:((aH t.a k).e==s)=true:=by simpa using IA
     have HF:Hid (jk t.a r s=(k:Int)):=by unfold Hid jk;rw[OL KN.out (fD aN) hg IA]
     clear hg IA;go_wp2;go_ret;exact⟨by rw[HF.out];rfl,H.out.2⟩
    ·have gd:((aH t.a k).e==s)=false:=by simpa using IA
     have KE:=af (Ji KN.out (fD aN) (fun h=>IA h.2));clear hg IA;go_wp2;exact⟨⟨k+1,by omega,by simp,trivial,KE.out⟩,by simp[intOf];omega⟩
   ·have dg:((aH t.a k).b==r)=false:=by simpa using hg
    have KE:=af (Ji KN.out (fD aN) (fun h=>hg h.1));clear hg;go_wp2;exact⟨⟨k+1,by omega,by simp,trivial,KE.out⟩,by simp[intOf];omega⟩
  ·obtain rfl:k=t.a.length:=by omega
   have hd:decide ((t.a.length:Int)<(t.a.length:Int))=false:=by simp
   have HF:Hid (jk t.a r s=-1):=by unfold Hid jk;have:=KN.out;rw[List.take_length]at this;rw[this]
   go_wp2;go_ret;exact⟨by rw[HF.out];rfl,H.out.2⟩
def oz(xs:List N5)(n:N5):Nat:=xs.findIdx fun x=>!jv x.b x.e n.b n.e
def oF(xs:List N5)(n:N5):List N5:=xs.take (oz xs n)++[n]++xs.drop (oz xs n)
def oH(xs:List N5)(n:N5)(j:Nat):Bool:=jv (aH xs j).b (aH xs j).e n.b n.e
theorem Bq{i:Nat}(h:i<xs.length):aH xs i=xs[i]:=by have:=fD h;rw[List.getElem?_eq_getElem h]at this;exact(Option.some.inj this).symm
theorem Tp(hk:k<xs.length)(h:oH xs n k=false)(aQ:∀j,j<k->oH xs n j=true):oz xs n=k:=by
 unfold oz;rw[List.findIdx_eq hk];refine⟨by rw[<-Bq hk];simpa[oH]using h,fun j hj=>?_⟩;rw[<-Bq (by omega)];simpa[oH]using aQ j hj
theorem Qr(aQ:∀j,j<xs.length->oH xs n j=true):oz xs n=xs.length:=by
 unfold oz;rw[List.findIdx_eq_length];intro x hx;obtain⟨i,hi,rfl⟩:=List.getElem_of_mem hx;have:=aQ i hi;rw[oH,Bq hi]at this;simp[this]
def dR(t:T7)(n:N5):T7:=if kv t=true/\bS n=true then(if (kS t.a n.b n.e).isSome=true then t else if t.a.length=12 then kg else⟨t.id,t.l,t.o,t.q,oF t.a n,t.ai,t.az⟩)else kg
def eT(t:T7)(n:N5):Bool:=kv t&&bS n&&((kS t.a n.b n.e).isSome||!decide (t.a.length=12))
theorem Lp(w:World)(base p mb m:Nat)(v:Value)(xs:List N5)(h:sw w base p mb m v xs):
  Calls prog 250 #[.pointer (some ⟨p,0,none⟩)] w fun e w'=>e=.returned (.bool (decide (12<=xs.length)))/\w'=w:=by
 obtain⟨a,c,rfl,-⟩:=h.row.form;have c0:=h.c0;clear h;by_cases hl:12<=xs.length
 ·have d1:decide ((12:Int)<=(xs.length:Int))=true:=by simp;omega
  have d2:decide (12<=xs.length)=true:=by simpa using hl
  rw[d2];clear hl d2;go_enter func250,ntmps250;go_wp2;go_ret;exact⟨rfl,rfl⟩
 ·have d1:decide ((12:Int)<=(xs.length:Int))=false:=by simp;omega
  have d2:decide (12<=xs.length)=false:=by simpa using hl
  rw[d2];clear hl d2;go_enter func250,ntmps250;go_wp2;go_ret;exact⟨rfl,rfl⟩
end tx
namespace tx
open Go.Proofs.Tryz
def EK(w:World)(N:T7)(ok:Bool)(e:Ending)(w':World):Prop:=
 ∃(a:OA) (c:Nat) (h:OA) (d:Nat) (PR PS:Nat->Prop),e=.returned (.tuple #[.agg #[vI N.id,vI N.l,vI N.o,vI N.q,.slice a N.a.length c,.slice h N.ai.length d,vI N.az],.bool ok])/\OT w' w.1.size ⟨a,c,h,d⟩ N PR PS/\Below w.1.size w w'/\N.ai.length<=d
theorem EK.zero{w w':World}(hb:Below w.1.size w w'):EK w kg false (.returned (.tuple #[.agg #[vI 0,vI 0,vI 0,vI 0,.slice none 0 0,.slice none 0 0,vI 0],.bool false])) w':=
 ⟨none,0,none,0,fun _=>False,fun _=>False,rfl,OT.none rfl rfl,hb,Nat.le_refl _⟩
theorem jL(w:World)(v:TV)(t:T7)(n:N5)(hl:TL t)(hs:uA w v t)(hc:t.a.length<=v.cr):
  Calls prog 95 #[v.val t,.agg #[vI n.b,vI n.e,vI n.i,vI n.g,.bool n.j]] w (EK w (dR t n) (eT t n)):=by
 obtain⟨ar,cr,ah,ch⟩:=v;simp only[TV.val];dsimp only at hc;obtain⟨W0,dO⟩:=bO (w.alloc (.cells #[vI t.id,vI t.l,vI t.o,vI t.q,.slice ar t.a.length cr,.slice ah t.ai.length ch,vI t.az] 91));have z0:W0.1.size=w.1.size+1:=by rw[dO];simp
 have x0:BT W0 w.1.size ⟨ar,cr,ah,ch⟩ t:=by rw[dO];exact BT.box w ⟨ar,cr,ah,ch⟩ t _
 have b0:Below w.1.size w W0:=by rw[dO];exact aK.alloc aU _
 obtain⟨W1,fA⟩:=bO (W0.alloc (.cells #[vI n.b,vI n.e,vI n.i,vI n.g,.bool n.j] 99));have z1:W1.1.size=w.1.size+2:=by rw[fA];simp[z0]
 have x1:aP W1 (w.1.size+1) 0 n:=by rw[fA,<-z0];exact aP.box W0 _ _
 have b1:Below W0.1.size W0 W1:=by rw[fA];exact aK.alloc aU _
 obtain⟨W,hW⟩:=bO (W1.alloc (.cells #[vI 0,vI 0,vI 0,vI 0,.slice none 0 0,.slice none 0 0,vI 0] 91));have zW:W.1.size=w.1.size+3:=by rw[hW];simp[z1]
 have x2:BT W (w.1.size+2) ⟨none,0,none,0⟩ ⟨0,0,0,0,[],[],0⟩:=by rw[hW,<-z1];exact BT.zero W1 _
 have b2:Below W1.1.size W1 W:=by rw[hW];exact aK.alloc aU _
 have bW:=(b0.trans (b1.mono b0.size)).trans (b2.mono (by omega));have c1:=rE W ⟨ar,cr,ah,ch⟩ t hl (hs.later bW);simp only[TV.val]at c1;have H:=wL ((x0.later b1).later b2) (x1.below b2 (by omega)) x2 bW (hs.later bW) zW;rw[fA,dO]at hW;clear dO fA z0 x0 b0 z1 x1 b1 zW x2 b2 bW hs hl
 cases hB:kv t with
 | false=>
  rw[hB]at c1;have HN:=dw (show dR t n=kg by simp[dR,hB]) (show eT t n=false by simp[eT,hB]);go_enter func95,ntmps95;go_wp2_with fail;rw[<-hW];clear hW;refine c1.mono ?_;clear c1;rintro e w1 ⟨rfl,b1⟩;have KZ:=dw (H.out.2.2.1.later b1) (H.out.2.2.2.1.trans (b1.mono H.out.2.2.2.1.size));clear b1 H;obtain⟨r0,r1,r2,r3,r4,r5,r6,fr,-⟩:=KZ.out.1;have jA:=KZ.out.1.put ⟨none,0,none,0⟩ kg;simp only[iq,kg,List.length_nil]at jA;obtain⟨u0,u1,u2,u3,u4,u5,u6,-,-⟩:=jA;have KU:=af (And.intro u0 (And.intro u1 (And.intro u2 (And.intro u3 (And.intro u4 (And.intro u5 u6))))));clear u0 u1 u2 u3 u4 u5 u6;have f0:=fr 0;have f1:=fr 1;have f2:=fr 2;have f3:=fr 3;have f4:=fr 4;have f5:=fr 5;have f6:=fr 6;clear fr;simp only[List.length_nil]at r4 r5;go_wp2;obtain⟨u0,u1,u2,u3,u4,u5,u6⟩:=KU.out;refine bodyPost_ret (v:=.tuple #[.agg #[vI 0,vI 0,vI 0,vI 0,.slice none 0 0,.slice none 0 0,vI 0],.bool false]) (by simp[results,results95,go_sem,u0,u1,u2,u3,u4,u5,u6]) rfl ?_;rw[HN.out.1,HN.out.2];exact EK.zero (cz (s:=w.1.size+2) (v:=⟨none,0,none,0⟩) (t:=kg) KZ.out.2 (by omega))
 | true=>
  rw[hB]at c1;go_enter func95,ntmps95;go_wp2_with fail;rw[<-hW];clear hW;refine c1.mono ?_;clear c1;rintro e w1 ⟨rfl,b1⟩;obtain⟨n0,n1,n2,n3,n4⟩:=H.out.2.1.below b1 (by have:=H.out.2.2.2.2.2;omega);simp only[Nat.zero_add]at n1 n2 n3 n4;have c2:=yH w1 n;have H1:=wL (H.out.1.later b1) (show aP w1 (w.1.size+1) 0 n from H.out.2.1.below b1 (by have:=H.out.2.2.2.2.2;omega)) (H.out.2.2.1.later b1) (H.out.2.2.2.1.trans (b1.mono H.out.2.2.2.1.size)) (H.out.2.2.2.2.1.later b1) (show w.1.size+3<=w1.1.size by have:=H.out.2.2.2.2.2;have:=b1.size;omega);clear b1 H;go_wp2_with fail;refine c2.mono ?_;clear c2 n0 n1 n2 n3 n4;rintro e w2 ⟨rfl,b2⟩;have H2:=wL (H1.out.1.later b2) (show aP w2 (w.1.size+1) 0 n from H1.out.2.1.below b2 (by have:=H1.out.2.2.2.2.2;omega)) (H1.out.2.2.1.later b2) (H1.out.2.2.2.1.trans (b2.mono H1.out.2.2.2.1.size)) (H1.out.2.2.2.2.1.later b2) (show w.1.size+3<=w2.1.size by have:=H1.out.2.2.2.2.2;have:=b2.size;omega);clear b2 H1
  cases hO:bS n with
  | false=>
   have HN:=dw (show dR t n=kg by simp[dR,hO]) (show eT t n=false by simp[eT,hO]);have KZ:=dw H2.out.2.2.1 H2.out.2.2.2.1;clear H2;obtain⟨r0,r1,r2,r3,r4,r5,r6,fr,-⟩:=KZ.out.1;have jA:=KZ.out.1.put ⟨none,0,none,0⟩ kg;simp only[iq,kg,List.length_nil]at jA;obtain⟨u0,u1,u2,u3,u4,u5,u6,-,-⟩:=jA;have KU:=af (And.intro u0 (And.intro u1 (And.intro u2 (And.intro u3 (And.intro u4 (And.intro u5 u6))))));clear u0 u1 u2 u3 u4 u5 u6;have f0:=fr 0;have f1:=fr 1;have f2:=fr 2;have f3:=fr 3;have f4:=fr 4;have f5:=fr 5;have f6:=fr 6;clear fr;simp only[List.length_nil]at r4 r5;go_wp2;obtain⟨u0,u1,u2,u3,u4,u5,u6⟩:=KU.out;refine bodyPost_ret (v:=.tuple #[.agg #[vI 0,vI 0,vI 0,vI 0,.slice none 0 0,.slice none 0 0,vI 0],.bool false]) (by simp[results,results95,go_sem,u0,u1,u2,u3,u4,u5,u6]) rfl ?_;rw[HN.out.1,HN.out.2];exact EK.zero (cz (s:=w.1.size+2) (v:=⟨none,0,none,0⟩) (t:=kg) KZ.out.2 (by omega))
  | true=>
   have m8:=(gG hB).1;have Xt:=(gG hB).2;have c3:=tX w2 ⟨ar,cr,ah,ch⟩ t (by omega) (by omega) H2.out.2.2.2.2.1;simp only[TV.val]at c3;obtain⟨p0,p1,p2,p3,p4,p5,p6,-,-⟩:=H2.out.1;dsimp only at p4 p5;go_wp2_with fail;refine c3.mono ?_;clear c3 p0 p1 p2 p3 p4 p5 p6;rintro e w3 ⟨a4,c4,h4,d4,PR,PS,rfl,o3,b3,sJ⟩;have Yf:=af sJ.2;clear sJ;simp only[TV.val];obtain⟨X3,nL⟩:=bO (w3.alloc (.cells #[vI t.id,vI t.l,vI t.o,vI t.q,.slice a4 t.a.length c4,.slice h4 t.ai.length d4,vI t.az] 91));have b3':Below w3.1.size w3 X3:=by rw[nL];exact aK.alloc aU _
   have Br:=b3.trans (b3'.mono b3.size);have x3:BT X3 w3.1.size ⟨a4,c4,h4,d4⟩ t:=by rw[nL];exact BT.box w3 ⟨a4,c4,h4,d4⟩ t _
   have H3:=xZ (H2.out.1.later Br) (show aP X3 (w.1.size+1) 0 n from H2.out.2.1.below Br (by have:=H2.out.2.2.2.2.2;omega)) (H2.out.2.2.1.later Br) (H2.out.2.2.2.1.trans (Br.mono H2.out.2.2.2.1.size)) (H2.out.2.2.2.2.1.later Br) (show w.1.size+3<=w3.1.size by have:=H2.out.2.2.2.2.2;have:=b3.size;omega) x3 (And.intro (o3.later b3') (show(∀q,lZ PR PS q->w.1.size+3<=q/\q<w3.1.size)from fun q hq=>⟨by have:=(o3.of hq).1;have:=H2.out.2.2.2.2.2;omega,(o3.of hq).2⟩));clear b3 b3' Br x3 o3 H2;obtain⟨p0,p1,p2,p3,p4,p5,p6,-,-⟩:=H3.out.1;dsimp only at p4 p5;obtain⟨n0,n1,-,-,-⟩:=H3.out.2.1;simp only[Nat.zero_add]at n1;have DT:=qV X3 ⟨ar,cr,ah,ch⟩ t n.b n.e (by omega) H3.out.2.2.2.2.1;simp only[TV.val]at DT;have dA:=O9 t.a n.b n.e;generalize jk t.a n.b n.e=A at *;rw[nL]at p0 p1 p2 p3 p4 p5 p6 n0 n1;go_wp2_with fail;rw[<-nL];clear nL p0 p1 p2 p3 p4 p5 p6 n0 n1;refine DT.mono ?_;clear DT;rintro e w4 ⟨rfl,b4⟩;have H4:=xZ (H3.out.1.later b4) (show aP w4 (w.1.size+1) 0 n from H3.out.2.1.below b4 (by have:=H3.out.2.2.2.2.2.1;have:=H3.out.2.2.2.2.2.2.1.lt;omega)) (H3.out.2.2.1.later b4) (H3.out.2.2.2.1.trans (b4.mono H3.out.2.2.2.1.size)) (H3.out.2.2.2.2.1.later b4) H3.out.2.2.2.2.2.1 (H3.out.2.2.2.2.2.2.1.later b4) (nH (H3.out.2.2.2.2.2.2.2.1.later b4) H3.out.2.2.2.2.2.2.2.2 ((H3.out.2.2.2.2.2.2.1.later b4).lt));clear b4 H3
   cases hF:(kS t.a n.b n.e).isSome with
   | true=>
    rw[hF]at dA;have HN:=dw (show dR t n=t by simp[dR,hB,hO,hF]) (show eT t n=true by simp[eT,hB,hO,hF]);obtain⟨o0,o1,o2,o3,o4,o5,o6,-,-⟩:=H4.out.2.2.2.2.2.2.1;obtain⟨r0,r1,r2,r3,r4,r5,r6,fr,-⟩:=H4.out.2.2.1;have jA:=H4.out.2.2.1.put ⟨a4,c4,h4,d4⟩ t;simp only[iq]at jA;obtain⟨u0,u1,u2,u3,u4,u5,u6,-,-⟩:=jA;have KU:=af (And.intro u0 (And.intro u1 (And.intro u2 (And.intro u3 (And.intro u4 (And.intro u5 u6))))));clear u0 u1 u2 u3 u4 u5 u6;have f0:=fr 0;have f1:=fr 1;have f2:=fr 2;have f3:=fr 3;have f4:=fr 4;have f5:=fr 5;have f6:=fr 6;clear fr;dsimp only at o4 o5 r4 r5;go_wp2;obtain⟨u0,u1,u2,u3,u4,u5,u6⟩:=KU.out;refine bodyPost_ret (v:=.tuple #[.agg #[vI t.id,vI t.l,vI t.o,vI t.q,.slice a4 t.a.length c4,.slice h4 t.ai.length d4,vI t.az],.bool true]) (by simp[results,results95,go_sem,u0,u1,u2,u3,u4,u5,u6]) rfl ?_;rw[HN.out.1,HN.out.2];obtain⟨-,-,-,g4,-,g6,-,g8,g9,-⟩:=H4.out;refine⟨a4,c4,h4,d4,PR,PS,rfl,?_,cz (s:=w.1.size+2) (v:=⟨a4,c4,h4,d4⟩) (t:=t) g4 (by omega),Yf.out⟩;exact(g8.aM (w':=iq w4 (w.1.size+2) ⟨a4,c4,h4,d4⟩ t) (by rw[jg];exact Nat.le_refl _) (fun q _ hq=>fu (by have:=(g9 q hq).1;omega))).low (fun q hq=>by have:=(g9 q hq).1;omega)
   | false=>
    rw[hF]at dA;have p4:=H4.out.1.c4;dsimp only at p4;by_cases wJ:t.a.length=12
    ·have d12:((t.a.length:Int)==12)=true:=by simp;omega
     have HN:=dw (show dR t n=kg by simp[dR,hB,hO,hF,wJ]) (show eT t n=false by simp[eT,hB,hO,hF,wJ]);have KZ:=dw H4.out.2.2.1 H4.out.2.2.2.1;clear H4;obtain⟨r0,r1,r2,r3,r4,r5,r6,fr,-⟩:=KZ.out.1;have jA:=KZ.out.1.put ⟨none,0,none,0⟩ kg;simp only[iq,kg,List.length_nil]at jA;obtain⟨u0,u1,u2,u3,u4,u5,u6,-,-⟩:=jA;have KU:=af (And.intro u0 (And.intro u1 (And.intro u2 (And.intro u3 (And.intro u4 (And.intro u5 u6))))));clear u0 u1 u2 u3 u4 u5 u6;have f0:=fr 0;have f1:=fr 1;have f2:=fr 2;have f3:=fr 3;have f4:=fr 4;have f5:=fr 5;have f6:=fr 6;clear fr;simp only[List.length_nil]at r4 r5;go_wp2;obtain⟨u0,u1,u2,u3,u4,u5,u6⟩:=KU.out;refine bodyPost_ret (v:=.tuple #[.agg #[vI 0,vI 0,vI 0,vI 0,.slice none 0 0,.slice none 0 0,vI 0],.bool false]) (by simp[results,results95,go_sem,u0,u1,u2,u3,u4,u5,u6]) rfl ?_;rw[HN.out.1,HN.out.2];exact EK.zero (cz (s:=w.1.size+2) (v:=⟨none,0,none,0⟩) (t:=kg) KZ.out.2 (by omega))
    ·have d12:((t.a.length:Int)==12)=false:=by simp;omega
     have HN:=dw (show dR t n=⟨t.id,t.l,t.o,t.q,oF t.a n,t.ai,t.az⟩ by simp[dR,hB,hO,hF,wJ]) (show eT t n=true by simp[eT,hB,hO,wJ]);obtain⟨V,hV⟩:=bO (w4.alloc (.cells #[] 99));have bV:Below w4.1.size w4 V:=by rw[hV];exact aK.alloc aU _
     have rV:gZ V w4.1.size (.slice (some ⟨w4.1.size,0,none⟩) 0 0) []:=by rw[hV];exact gZ.made w4
     have K4:=dw rV bV;clear rV bV;go_wp2;rw[<-hV];clear hV p4 d12 dA;go_loopw[7,8] (fun v7 v8 wr=>∃k:Nat,k<=t.a.length/\v8=vI k/\gZ wr w4.1.size v7 (t.a.take k)/\Below w4.1.size w4 wr/\(∀j,j<k->oH t.a n j=true)) (fun _ v8 _=>t.a.length-(intOf v8).toNat)
     case atStart=>exact⟨0,Nat.zero_le _,rfl,by simpa using K4.out.1,K4.out.2,fun j h=>by omega⟩
     case round=>
      obtain⟨k,hk,rfl,iV,aB,aQ⟩:=hrel;obtain⟨a7,c7,e7,-⟩:=iV.form;rw[show(t.a.take k).length=k by rw[List.length_take];omega]at e7;subst e7;have KA:=fP iV aB aQ;have Wy:=H4.out.1.later aB;have QK:=Wy.lt;have p4:=Wy.c4;dsimp only at p4;have fI:=(H4.out.2.2.2.2.1.later aB).r;have jD:=H4.out.2.1.below aB (by have:=H4.out.2.2.2.2.2.1;have:=H4.out.2.2.2.2.2.2.2.2.2;omega);have SA:w.1.size+1<wr.1.size:=by have:=H4.out.2.2.2.2.2.1;have:=H4.out.2.2.2.2.2.2.2.2.2;have:=aB.size;omega
      clear iV aB aQ Wy;by_cases aN:k<t.a.length
      ·obtain⟨_,fQ⟩:=fI;dsimp only at fQ;rcases fQ with fQ|⟨b,off,rfl,hb,hx⟩
       ·omega
       obtain⟨c0,c1,c2,c3,DT⟩:=hx k _ (fD aN);obtain⟨n0,n1,-,-,-⟩:=jD;simp only[Nat.zero_add]at n1;have j1:(k:Int)<(t.a.length:Int):=by omega
       have ka:decide ((k:Int)<(t.a.length:Int))=true:=by simpa using j1
       have q4:=fun d os=>((below_regrown wr d os).cell (p:=⟨w.1.size,4,none⟩) QK).trans p4
       have m0:=fun d os=>((below_regrown wr d os).cell (p:=⟨b,off+k*5,none⟩) hb).trans c0
       have m1:=fun d os=>((below_regrown wr d os).cell (p:=⟨b,off+k*5+1,none⟩) hb).trans c1
       have m2:=fun d os=>((below_regrown wr d os).cell (p:=⟨b,off+k*5+2,none⟩) hb).trans c2
       have m3:=fun d os=>((below_regrown wr d os).cell (p:=⟨b,off+k*5+3,none⟩) hb).trans c3
       have m4:=fun d os=>((below_regrown wr d os).cell (p:=⟨b,off+k*5+4,none⟩) hb).trans DT
       have g0:=fun d os=>((below_regrown wr d os).cell (p:=⟨w.1.size+1,0,none⟩) SA).trans n0
       have g1:=fun d os=>((below_regrown wr d os).cell (p:=⟨w.1.size+1,1,none⟩) SA).trans n1
       have cL:∀d os,Calls prog 99 #[vI (aH t.a k).b,vI (aH t.a k).e,vI n.b,vI n.e] (grow (redrawn wr d) os) fun e gH=>e=.returned (.bool (oH t.a n k))/\∃p:Regrown,gH=grow (redrawn wr p.d) p.os:=fun d os=>Calls.regrown_of (yF _ _ _ _ _)
       clear c0 c1 c2 c3 DT hx n0 n1 p4
       cases gl:oH t.a n k with
       | true=>
        rw[gl]at cL;go_wp2_with fail;refine gy ?_;repeat (go_big_quiet_step (exact cL _ _))
        refine jb fun dq bu=>?_
        have bq:=below_regrown wr dq bu;have e4:=q4 dq bu;have e0:=m0 dq bu;have e1:=m1 dq bu;have e2:=m2 dq bu;have e3:=m3 dq bu;have e5:=m4 dq bu;clear q4 m0 m1 m2 m3 m4 g0 g1 cL;generalize grow (redrawn wr dq) bu=U at *;obtain⟨V',hV⟩:=bO (U.alloc (.cells #[vI (aH t.a k).b,vI (aH t.a k).e,vI (aH t.a k).i,vI (aH t.a k).g,.bool (aH t.a k).j] 99));have bU:Below U.1.size U V':=by rw[hV];exact aK.alloc aU _
        have bV:=bq.trans (bU.mono bq.size);have jE:dK V' U.1.size 0 [aH t.a k]:=by rw[hV];exact(aP.box U _ _).one
        obtain⟨v',Y,yT,pM,gP,-⟩:=vZ (KA.out.1.later bV) [aH t.a k] (by rw[List.length_take];simp;omega) 88 U.1.size 0 1 jE (Nat.le_trans KA.out.2.1.size bV.size)
        have KE:Hid (gZ Y w4.1.size v' (t.a.take (k+1))/\Below w4.1.size w4 Y/\(∀j,j<k+1->oH t.a n j=true)):=by
         refine⟨by rw[List.take_add_one,fD aN];exact pM,?_,fun j hj=>?_⟩
         ·exact(KA.out.2.1.trans (bV.mono KA.out.2.1.size)).grown gP (Nat.le_trans KA.out.2.1.size bV.size) (fun q e=>(KA.out.1.lt e).1)
         ·by_cases ej:j=k
          ·rw[ej];exact gl
          ·exact KA.out.2.2 j (by omega)
        rw[hV]at yT;clear hV bV bU bq jE pM gP;simp only[List.length_cons,List.length_nil,Nat.zero_add]at yT;go_wp2_with (at_builtin;refine eD _ rfl (.tmp 60) (.tmp 66) 88 rfl _ _ _ _ rfl rfl yT ?_);exact⟨⟨k+1,by omega,by simp,KE.out.1,KE.out.2.1,KE.out.2.2⟩,by simp[intOf];omega⟩
       | false=>
        rw[gl]at cL;go_wp2_with fail;refine gy ?_;repeat (go_big_quiet_step (exact cL _ _))
        refine jb fun dq bu=>?_
        have bq:=below_regrown wr dq bu;have KT:=dw (KA.out.1.later bq) (KA.out.2.1.trans (bq.mono KA.out.2.1.size));have HC:=af (Tp aN gl KA.out.2.2);clear bq q4 m0 m1 m2 m3 m4 g0 g1 cL KA;generalize grow (redrawn wr dq) bu=U at *;have KD:Hid (Below U.1.size U U.drew):=aK.drew;have bD:=KT.out.2.trans (KD.out.mono KT.out.2.size);have SF:Hid (∀X,Below w4.1.size w4 X->(fun X:World=>aP X (w.1.size+1) 0 n/\X.cell? ⟨w.1.size,4,none⟩=some (.slice (some ⟨b,off,none⟩) t.a.length cr)) X):=fun X hX=>⟨H4.out.2.1.below hX (by have:=H4.out.2.2.2.2.2.1;have:=H4.out.2.2.2.2.2.2.2.2.2;omega),(H4.out.1.later hX).c4⟩
        have hS:=SF.out _ bD;have rD:=KT.out.1.later KD.out;clear KD;go_wp2_with fail;refine aT (fun z=>z==11) (fun X:World=>aP X (w.1.size+1) 0 n/\X.cell? ⟨w.1.size,4,none⟩=some (.slice (some ⟨b,off,none⟩) t.a.length cr)) (by kernel_rfl) ?_;generalize U.drew=Ud at *;obtain⟨V1,lL⟩:=bO (Ud.alloc (.cells #[vI n.b,vI n.e,vI n.i,vI n.g,.bool n.j] 99));have aaa:Below Ud.1.size Ud V1:=by rw[lL];exact aK.alloc aU _
        have jE:dK V1 Ud.1.size 0 [n]:=by rw[lL];exact(aP.box Ud _ _).one
        have kP:(t.a.take k).length=k:=by rw[List.length_take];omega
        obtain⟨v1,Y1,lY,jG,Im,-⟩:=vZ (rD.later aaa) [n] (by rw[kP];simp;omega) 88 Ud.1.size 0 1 jE (Nat.le_trans bD.size aaa.size);have qL:=bD.trans (aaa.mono bD.size);have qN:=qL.grown Im qL.size (fun q e=>(rD.lt e).1);obtain⟨a1,c1,rfl,-⟩:=jG.form;have uQ:(t.a.take k++[n]).length=k+1:=by simp[kP]
        obtain⟨a8,Ko⟩:∃a8:OA,a8=(if cr=k then(some (⟨b,off,none⟩:Addr))else Option.map (fun x=>x.add (k*5)) (some (⟨b,off,none⟩:Addr))):=⟨_,rfl⟩
        have src:ky Y1 Y1.1.size a8 (t.a.drop k).length (t.a.drop k):=by
         refine⟨rfl,?_⟩;by_cases hz:(t.a.drop k).length=0
         ·exact .inl hz
         ·rw[List.length_drop]at hz;obtain⟨-,hq⟩:=(H4.out.2.2.2.2.1.later qN).r;dsimp only at hq;rcases hq with hq|⟨b',di,e',fB,E8⟩
          ·omega
          ·refine .inr ⟨b',di+k*5,?_,fB,fun i s hi=>?_⟩
           ·rw[Ko,if_neg (by omega),e',Option.map_some];congr 1;unfold Addr.add;split<;>simp_all
           ·rw[List.getElem?_drop]at hi;have:=E8 (k+i) s hi;rwa[show di+k*5+i*5=di+(k+i)*5 by omega]
        have Dp:=zy jG (t.a.drop k) (by rw[uQ,List.length_drop];omega) 88 a8 (cr-k) src qN.size;obtain⟨a2,c2,Y2,oM,uk,Io,-⟩:=Dp;have sQ:=qN.grown Io qN.size (fun q e=>(jG.lt e).1);rw[uQ,List.length_drop]at oM;generalize nM:t.a.take k++[n]++t.a.drop k=zs at *;have HZ:=af nM;clear nM;rw[uQ]at lY;simp only[List.length_cons,List.length_nil,Nat.zero_add]at lY;have xB:=H4.out.2.2.2.2.2.2.1.later sQ;have k4:=xB.c4;have GZ:=xB.fz 4;dsimp only at k4;have yB:=xB.L8 a2 c2 zs;have yR:BT (Y2.setCell ⟨w3.1.size,4,none⟩ (.slice a2 zs.length c2)) (w.1.size+2) ⟨none,0,none,0⟩ ⟨0,0,0,0,[],[],0⟩:=(H4.out.2.2.1.later sQ).dS (by dsimp only;have:=H4.out.2.2.2.2.2.1;omega) _;have KF:=pI yB yR uk sQ;have S1:=af (SF.out _ qL);have S2:=af (SF.out _ qN);have S3:=af (SF.out _ sQ);have ik:(k:Int)<=(t.a.length:Int):=by omega
        clear aaa jE Im qL qN jG src Io sQ uk rD bD xB yB yR SF uQ kP;refine bf 0 rfl hS ?_;simp only[Act.put];refine fU 1 ?_ rfl ?_ hS ?_;rotate_left
        ·(intro X aA;obtain⟨⟨s0,s1,s2,s3,s4⟩,s5⟩:=aA;simp only[Nat.zero_add]at s1 s2 s3 s4;go_simp;first|done|with_reducible rfl)
        simp only[Act.put];refine bf 4 rfl hS ?_;simp only[Act.put];refine fU 5 ?_ rfl ?_ hS ?_;rotate_left
        ·(intro X aA;obtain⟨⟨s0,s1,s2,s3,s4⟩,s5⟩:=aA;simp only[Nat.zero_add]at s1 s2 s3 s4;go_simp;first|done|with_reducible rfl)
        simp only[Act.put];refine bf 6 rfl hS ?_;simp only[Act.put];refine bf 7 rfl hS ?_;simp only[Act.put];refine Nr 8 (.slice a8 (t.a.length-k) (cr-k)) rfl ?_ hS ?_
        ·(intro X _;rw[Ko];go_simp;first|done|with_reducible rfl|rfl)
        clear Ko;simp only[Act.put];refine bG 2 rfl (fun K hK=>?_);go_simp;refine hK.out _ _ (fun _=>by rw[<-lL];exact S1.out) ?_;clear hK K;rw[<-lL];clear lL S1;refine bG 3 rfl (fun K hK=>?_);refine bJ _ rfl (.tmp 68) (.tmp 70) 88 rfl _ _ _ _ (by first|rfl|simp[Act.eval,Act.put]) (by first|rfl|simp[Act.eval,Act.put]) lY ?_;refine hK.out _ _ (fun _=>S2.out) ?_;clear hK K;clear S2 lY;simp only[Act.put];refine bG 9 rfl (fun K hK=>?_);refine bJ _ rfl (.tmp 71) (.tmp 76) 88 rfl _ _ _ _ (by first|rfl|simp[Act.eval,Act.put]) (by first|rfl|simp[Act.eval,Act.put]) oM ?_;refine hK.out _ _ (fun _=>S3.out) ?_;clear hK K;clear oM;simp only[Act.put];have hS:=S3.out;refine bf 10 rfl hS ?_;simp only[Act.put];refine bG 11 rfl (fun K hK=>?_);go_simp;refine hK.out _ _ (fun h=>absurd (show false=true from h.symm.trans (by kernel_rfl)) (by decide)) ?_;clear hK K;refine bH (by kernel_rfl) ?_ _;clear S3 hS k4 GZ;have jA:=KF.out.2.1.put ⟨a2,c2,h4,d4⟩ (⟨t.id,t.l,t.o,t.q,zs,t.ai,t.az⟩:T7);simp only[iq]at jA;obtain⟨u0,u1,u2,u3,u4,u5,u6,-,-⟩:=jA;have KU:=af (And.intro u0 (And.intro u1 (And.intro u2 (And.intro u3 (And.intro u4 (And.intro u5 u6))))));clear u0 u1 u2 u3 u4 u5 u6;obtain⟨o0,o1,o2,o3,o4,o5,o6,-,-⟩:=KF.out.1;obtain⟨r0,r1,r2,r3,r4,r5,r6,fr,-⟩:=KF.out.2.1;have f0:=fr 0;have f1:=fr 1;have f2:=fr 2;have f3:=fr 3;have f4:=fr 4;have f5:=fr 5;have f6:=fr 6;clear fr;dsimp only at o0 o1 o2 o3 o4 o5 o6 r4 r5;go_wp2;obtain⟨u0,u1,u2,u3,u4,u5,u6⟩:=KU.out
        refine bodyPost_ret (v:=.tuple #[.agg #[vI t.id,vI t.l,vI t.o,vI t.q,.slice a2 zs.length c2,.slice h4 t.ai.length d4,vI t.az],.bool true]) (by simp[results,results95,go_sem,u0,u1,u2,u3,u4,u5,u6]) rfl ?_;rw[HN.out.1,HN.out.2,oF,HC.out,HZ.out];obtain⟨g1,g2,g3,g4⟩:=KF.out;obtain⟨-,-,-,j4,-,j6,-,j8,j9,j10⟩:=H4.out;have bX:Below w.1.size w (Y2.setCell ⟨w3.1.size,4,none⟩ (.slice a2 zs.length c2)):=(j4.trans (g4.mono j4.size)).setCell (p:=⟨w3.1.size,4,none⟩) (by dsimp only;omega) _;refine⟨a2,c2,h4,d4,fun q=>(Value.slice a2 zs.length c2).ownBlock=some q,PS,rfl,?_,cz (s:=w.1.size+2) (v:=⟨a2,c2,h4,d4⟩) (t:=(⟨t.id,t.l,t.o,t.q,zs,t.ai,t.az⟩:T7)) bX (by omega),Yf.out⟩;obtain⟨_,_,e2,O5⟩:=g3.form
        cases e2;have ot:OT Y2 w.1.size ⟨a2,c2,h4,d4⟩ (⟨t.id,t.l,t.o,t.q,zs,t.ai,t.az⟩:T7) (fun q=>(Value.slice a2 zs.length c2).ownBlock=some q) PS:=⟨O5,(j8.later g4).s,fun q h1 h2=>by have:=(g3.lt h1).1;have:=(j9 q (.inr h2)).2;omega,fun q h1=>⟨by have:=(g3.lt h1).1;omega,(g3.lt h1).2⟩,fun q h1=>⟨by have:=(j9 q (.inr h1)).1;omega,((j8.later g4).sB q h1).2⟩⟩
        have eO:∀q,lZ (fun q=>(Value.slice a2 zs.length c2).ownBlock=some q) PS q->q≠w3.1.size/\q≠w.1.size+2:=fun q hq=>by
         rcases hq with hq|hq
         ·have:=(g3.lt hq).1;omega
         ·have:=j9 q (.inr hq);omega
        have LH:OT (Y2.setCell ⟨w3.1.size,4,none⟩ (.slice a2 zs.length c2)) w.1.size ⟨a2,c2,h4,d4⟩ (⟨t.id,t.l,t.o,t.q,zs,t.ai,t.az⟩:T7) (fun q=>(Value.slice a2 zs.length c2).ownBlock=some q) PS:=ot.aM (by simp[World.setCell]) (fun q _ hq=>Below.heap_setCell _ _ _ _ (eO q hq).1);exact LH.aM (w':=iq (Y2.setCell ⟨w3.1.size,4,none⟩ (.slice a2 zs.length c2)) (w.1.size+2) ⟨a2,c2,h4,d4⟩ (⟨t.id,t.l,t.o,t.q,zs,t.ai,t.az⟩:T7)) (by rw[jg];exact Nat.le_refl _) (fun q _ hq=>fu (eO q hq).2)
      ·have ka:decide ((k:Int)<(t.a.length:Int))=false:=by simp;omega
       have q4:=fun d os=>((below_regrown wr d os).cell (p:=⟨w.1.size,4,none⟩) QK).trans p4
       clear p4 jD fI;go_wp2_with fail;refine gy ?_;repeat (go_big_quiet_step (fail))
       refine jb fun dq bu=>?_
       have bq:=below_regrown wr dq bu;have KT:=dw (KA.out.1.later bq) (KA.out.2.1.trans (bq.mono KA.out.2.1.size));have HC:Hid (oz t.a n=k):=(Qr (fun j hj=>KA.out.2.2 j (by omega))).trans (by omega);clear bq q4 KA;generalize grow (redrawn wr dq) bu=U at *;have KD:Hid (Below U.1.size U U.drew):=aK.drew;have bD:=KT.out.2.trans (KD.out.mono KT.out.2.size);have SF:Hid (∀X,Below w4.1.size w4 X->(fun X:World=>aP X (w.1.size+1) 0 n/\X.cell? ⟨w.1.size,4,none⟩=some (.slice ar t.a.length cr)) X):=fun X hX=>⟨H4.out.2.1.below hX (by have:=H4.out.2.2.2.2.2.1;have:=H4.out.2.2.2.2.2.2.2.2.2;omega),(H4.out.1.later hX).c4⟩
       have hS:=SF.out _ bD;have rD:=KT.out.1.later KD.out;clear KD;go_wp2_with fail;refine aT (fun z=>z==11) (fun X:World=>aP X (w.1.size+1) 0 n/\X.cell? ⟨w.1.size,4,none⟩=some (.slice ar t.a.length cr)) (by kernel_rfl) ?_;generalize U.drew=Ud at *;obtain⟨V1,lL⟩:=bO (Ud.alloc (.cells #[vI n.b,vI n.e,vI n.i,vI n.g,.bool n.j] 99));have aaa:Below Ud.1.size Ud V1:=by rw[lL];exact aK.alloc aU _
       have jE:dK V1 Ud.1.size 0 [n]:=by rw[lL];exact(aP.box Ud _ _).one
       have kP:(t.a.take k).length=k:=by rw[List.length_take];omega
       obtain⟨v1,Y1,lY,jG,Im,-⟩:=vZ (rD.later aaa) [n] (by rw[kP];simp;omega) 88 Ud.1.size 0 1 jE (Nat.le_trans bD.size aaa.size);have qL:=bD.trans (aaa.mono bD.size);have qN:=qL.grown Im qL.size (fun q e=>(rD.lt e).1);obtain⟨a1,c1,rfl,-⟩:=jG.form;have uQ:(t.a.take k++[n]).length=k+1:=by simp[kP]
       obtain⟨a8,Ko⟩:∃a8:OA,a8=(if cr=k then ar else Option.map (fun x=>x.add (k*5)) ar):=⟨_,rfl⟩
       have src:ky Y1 Y1.1.size a8 (t.a.drop k).length (t.a.drop k):=by
        refine⟨rfl,?_⟩;by_cases hz:(t.a.drop k).length=0
        ·exact .inl hz
        ·rw[List.length_drop]at hz;obtain⟨-,hq⟩:=(H4.out.2.2.2.2.1.later qN).r;dsimp only at hq;rcases hq with hq|⟨b',di,e',fB,E8⟩
         ·omega
         ·refine .inr ⟨b',di+k*5,?_,fB,fun i s hi=>?_⟩
          ·rw[Ko,if_neg (by omega),e',Option.map_some];congr 1;unfold Addr.add;split<;>simp_all
          ·rw[List.getElem?_drop]at hi;have:=E8 (k+i) s hi;rwa[show di+k*5+i*5=di+(k+i)*5 by omega]
       have Dp:=zy jG (t.a.drop k) (by rw[uQ,List.length_drop];omega) 88 a8 (cr-k) src qN.size;obtain⟨a2,c2,Y2,oM,uk,Io,-⟩:=Dp;have sQ:=qN.grown Io qN.size (fun q e=>(jG.lt e).1);rw[uQ,List.length_drop]at oM;generalize nM:t.a.take k++[n]++t.a.drop k=zs at *;have HZ:=af nM;clear nM;rw[uQ]at lY;simp only[List.length_cons,List.length_nil,Nat.zero_add]at lY;have xB:=H4.out.2.2.2.2.2.2.1.later sQ;have k4:=xB.c4;have GZ:=xB.fz 4;dsimp only at k4;have yB:=xB.L8 a2 c2 zs;have yR:BT (Y2.setCell ⟨w3.1.size,4,none⟩ (.slice a2 zs.length c2)) (w.1.size+2) ⟨none,0,none,0⟩ ⟨0,0,0,0,[],[],0⟩:=(H4.out.2.2.1.later sQ).dS (by dsimp only;have:=H4.out.2.2.2.2.2.1;omega) _;have KF:=pI yB yR uk sQ;have S1:=af (SF.out _ qL);have S2:=af (SF.out _ qN);have S3:=af (SF.out _ sQ);have ik:(k:Int)<=(t.a.length:Int):=by omega
       clear aaa jE Im qL qN jG src Io sQ uk rD bD xB yB yR SF uQ kP;refine bf 0 rfl hS ?_;simp only[Act.put];refine fU 1 ?_ rfl ?_ hS ?_;rotate_left
       ·(intro X aA;obtain⟨⟨s0,s1,s2,s3,s4⟩,s5⟩:=aA;simp only[Nat.zero_add]at s1 s2 s3 s4;go_simp;first|done|with_reducible rfl)
       simp only[Act.put];refine bf 4 rfl hS ?_;simp only[Act.put];refine fU 5 ?_ rfl ?_ hS ?_;rotate_left
       ·(intro X aA;obtain⟨⟨s0,s1,s2,s3,s4⟩,s5⟩:=aA;simp only[Nat.zero_add]at s1 s2 s3 s4;go_simp;first|done|with_reducible rfl)
       simp only[Act.put];refine bf 6 rfl hS ?_;simp only[Act.put];refine bf 7 rfl hS ?_;simp only[Act.put];refine Nr 8 (.slice a8 (t.a.length-k) (cr-k)) rfl ?_ hS ?_
       ·(intro X _;rw[Ko];go_simp;first|done|with_reducible rfl|rfl)
       clear Ko;simp only[Act.put];refine bG 2 rfl (fun K hK=>?_);go_simp;refine hK.out _ _ (fun _=>by rw[<-lL];exact S1.out) ?_;clear hK K;rw[<-lL];clear lL S1;refine bG 3 rfl (fun K hK=>?_);refine bJ _ rfl (.tmp 68) (.tmp 70) 88 rfl _ _ _ _ (by first|rfl|simp[Act.eval,Act.put]) (by first|rfl|simp[Act.eval,Act.put]) lY ?_;refine hK.out _ _ (fun _=>S2.out) ?_;clear hK K;clear S2 lY;simp only[Act.put];refine bG 9 rfl (fun K hK=>?_);refine bJ _ rfl (.tmp 71) (.tmp 76) 88 rfl _ _ _ _ (by first|rfl|simp[Act.eval,Act.put]) (by first|rfl|simp[Act.eval,Act.put]) oM ?_;refine hK.out _ _ (fun _=>S3.out) ?_;clear hK K;clear oM;simp only[Act.put];have hS:=S3.out;refine bf 10 rfl hS ?_;simp only[Act.put];refine bG 11 rfl (fun K hK=>?_);go_simp;refine hK.out _ _ (fun h=>absurd (show false=true from h.symm.trans (by kernel_rfl)) (by decide)) ?_;clear hK K;refine bH (by kernel_rfl) ?_ _;clear S3 hS k4 GZ;have jA:=KF.out.2.1.put ⟨a2,c2,h4,d4⟩ (⟨t.id,t.l,t.o,t.q,zs,t.ai,t.az⟩:T7);simp only[iq]at jA;obtain⟨u0,u1,u2,u3,u4,u5,u6,-,-⟩:=jA;have KU:=af (And.intro u0 (And.intro u1 (And.intro u2 (And.intro u3 (And.intro u4 (And.intro u5 u6))))));clear u0 u1 u2 u3 u4 u5 u6;obtain⟨o0,o1,o2,o3,o4,o5,o6,-,-⟩:=KF.out.1;obtain⟨r0,r1,r2,r3,r4,r5,r6,fr,-⟩:=KF.out.2.1;have f0:=fr 0;have f1:=fr 1;have f2:=fr 2;have f3:=fr 3;have f4:=fr 4;have f5:=fr 5;have f6:=fr 6;clear fr;dsimp only at o0 o1 o2 o3 o4 o5 o6 r4 r5;go_wp2;obtain⟨u0,u1,u2,u3,u4,u5,u6⟩:=KU.out
       refine bodyPost_ret (v:=.tuple #[.agg #[vI t.id,vI t.l,vI t.o,vI t.q,.slice a2 zs.length c2,.slice h4 t.ai.length d4,vI t.az],.bool true]) (by simp[results,results95,go_sem,u0,u1,u2,u3,u4,u5,u6]) rfl ?_;rw[HN.out.1,HN.out.2,oF,HC.out,HZ.out];obtain⟨g1,g2,g3,g4⟩:=KF.out;obtain⟨-,-,-,j4,-,j6,-,j8,j9,j10⟩:=H4.out;have bX:Below w.1.size w (Y2.setCell ⟨w3.1.size,4,none⟩ (.slice a2 zs.length c2)):=(j4.trans (g4.mono j4.size)).setCell (p:=⟨w3.1.size,4,none⟩) (by dsimp only;omega) _;refine⟨a2,c2,h4,d4,fun q=>(Value.slice a2 zs.length c2).ownBlock=some q,PS,rfl,?_,cz (s:=w.1.size+2) (v:=⟨a2,c2,h4,d4⟩) (t:=(⟨t.id,t.l,t.o,t.q,zs,t.ai,t.az⟩:T7)) bX (by omega),Yf.out⟩;obtain⟨_,_,e2,O5⟩:=g3.form
       cases e2;have ot:OT Y2 w.1.size ⟨a2,c2,h4,d4⟩ (⟨t.id,t.l,t.o,t.q,zs,t.ai,t.az⟩:T7) (fun q=>(Value.slice a2 zs.length c2).ownBlock=some q) PS:=⟨O5,(j8.later g4).s,fun q h1 h2=>by have:=(g3.lt h1).1;have:=(j9 q (.inr h2)).2;omega,fun q h1=>⟨by have:=(g3.lt h1).1;omega,(g3.lt h1).2⟩,fun q h1=>⟨by have:=(j9 q (.inr h1)).1;omega,((j8.later g4).sB q h1).2⟩⟩
       have eO:∀q,lZ (fun q=>(Value.slice a2 zs.length c2).ownBlock=some q) PS q->q≠w3.1.size/\q≠w.1.size+2:=fun q hq=>by
        rcases hq with hq|hq
        ·have:=(g3.lt hq).1;omega
        ·have:=j9 q (.inr hq);omega
       have LH:OT (Y2.setCell ⟨w3.1.size,4,none⟩ (.slice a2 zs.length c2)) w.1.size ⟨a2,c2,h4,d4⟩ (⟨t.id,t.l,t.o,t.q,zs,t.ai,t.az⟩:T7) (fun q=>(Value.slice a2 zs.length c2).ownBlock=some q) PS:=ot.aM (by simp[World.setCell]) (fun q _ hq=>Below.heap_setCell _ _ _ _ (eO q hq).1);exact LH.aM (w':=iq (Y2.setCell ⟨w3.1.size,4,none⟩ (.slice a2 zs.length c2)) (w.1.size+2) ⟨a2,c2,h4,d4⟩ (⟨t.id,t.l,t.o,t.q,zs,t.ai,t.az⟩:T7)) (by rw[jg];exact Nat.le_refl _) (fun q _ hq=>fu (eO q hq).2)
end tx
namespace tx
open Go.Proofs.Tryz
variable {xs:List N5}
theorem XM{r s q t:Int}(h1:aW 0 5 s=true)(h2:aW 0 5 t=true)(h:rk r s=rk q t):r=q/\s=t:=by
 rw[dD]at h1 h2;unfold rk at h;omega
theorem Rs(h:uZ xs):dF.Hp (jR xs) xs.length:=fun i h0 hn=>by
 have e1:xs[(i-1)/2]?=some xs[(i-1)/2]:=List.getElem?_eq_getElem (by omega);have e2:xs[i]?=some xs[i]:=List.getElem?_eq_getElem hn;rw[Fp e1,Fp e2];exact Int.le_of_lt (De h e1 e2 (by omega))
theorem uG(xs:List N5)(n:N5):(oF xs n).Perm (xs++[n]):=by
 unfold oF;rw[List.append_assoc];refine((List.Perm.refl _).append (List.perm_append_comm (l₁:=[n]) (l₂:=xs.drop (oz xs n)))).trans ?_;rw[<-List.append_assoc,List.take_append_drop]
theorem MU{n:N5}(h:uZ xs)(il:∀s∈xs,bS s=true)(hn:bS n=true)(jD:kS xs n.b n.e=none):(oF xs n).Pairwise (fun a b=>oK a<oK b):=by
 have Ec:=gI hn
 have EZ:∀x∈xs.take (oz xs n),oK x<oK n:=fun x hx=>by
  obtain⟨i,hi,rfl⟩:=List.getElem_of_mem hx;have AV:i<oz xs n:=by rw[List.length_take]at hi;omega
  have Oc:i<xs.length:=by rw[List.length_take]at hi;omega
  have:=List.not_of_lt_findIdx (p:=fun x:N5=>!jv x.b x.e n.b n.e) (xs:=xs) AV;rw[List.getElem_take];have hk:=(gI (il _ (List.getElem_mem Oc))).2;simp only[Bool.not_eq_false']at this;rw[nS hk Ec.2]at this;simpa[oK]using this
 have Sy:∀x∈xs.drop (oz xs n),oK n<oK x:=fun x hx=>by
  obtain⟨i,hi,rfl⟩:=List.getElem_of_mem hx;rw[List.length_drop]at hi;have hc:oz xs n<xs.length:=by omega
  have h1:=List.findIdx_getElem (p:=fun x:N5=>!jv x.b x.e n.b n.e) (xs:=xs) (w:=hc);have hm:=List.getElem_mem hc;have hk:=(gI (il _ hm)).2;change (!jv xs[oz xs n].b xs[oz xs n].e n.b n.e)=true at h1;rw[nS hk Ec.2]at h1;simp only[Bool.not_eq_true',decide_eq_false_iff_not]at h1
  have h2:oK n≠oK xs[oz xs n]:=fun e=>by
   have:=XM hk Ec.2 e.symm;exact ui.1 jD _ hm this
  have h3:oK n<oK xs[oz xs n]:=by
   have:¬oK xs[oz xs n]<oK n:=h1;omega
  rw[List.getElem_drop];rcases i with _|i
  ·simpa using h3
  ·exact Int.lt_trans h3 (List.pairwise_iff_getElem.1 h _ _ hc (by omega) (by omega))
 unfold oF;rw[List.pairwise_append,List.pairwise_append];refine⟨⟨h.sublist (List.take_sublist _ _),by simp,fun a ha b hb=>by simp at hb;subst hb;exact EZ a ha⟩,h.sublist (List.drop_sublist _ _),fun a ha b hb=>?_⟩;rcases List.mem_append.1 ha with ha|ha
 ·exact Int.lt_trans (EZ a ha) (Sy b hb)
 ·simp at ha;subst ha;exact Sy b hb
theorem Ra(xs:List N5)(n:N5):(oF xs n).length=xs.length+1:=by have:=(uG xs n).length_eq;simpa using this
end tx
end Go.Proofs.YtbiigfbhhkiodaaGreatDoor
