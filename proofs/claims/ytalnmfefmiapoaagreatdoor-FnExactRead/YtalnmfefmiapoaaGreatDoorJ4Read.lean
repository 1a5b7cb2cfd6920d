import Derived.Test.YtalnmfefmiapoaaGreatDoorJ3Read
set_option maxHeartbeats 16000000
set_option maxRecDepth 100000
namespace Go.Proofs.YtalnmfefmiapoaaGreatDoor
open Go.RowKit
open Go.Sort (grow)
section
variable {X Y:World}{alive:Bool}{p s:Nat}{vd vk vr:Value}{zs:List Int}
theorem sM(W:World)(base:Nat)(a0:Option Addr)(c0:Nat)(h:W.ownsRow base 2 1 (.slice a0 0 c0) 0 [])(zs:List Int)(hm:zs.length<=1048576)(ty:TypeId)(a:Option Addr)(k:Nat)(src:mP W W.1.size a zs.length zs)(gF:base<=W.1.size):
  ∃a' c' W',(Builtin.append_ #[74,74] ty #[.slice a0 0 c0,.slice a zs.length k]).run Tryz.prog W=.ok (.slice a' zs.length c') W'/\W'.ownsRow base 2 1 (.slice a' zs.length c') zs.length (zs.map (Value.int .i64))/\W.grownBy W' (Value.slice a0 0 c0).ownBlock/\((Value.slice a' zs.length c').ownBlock=(Value.slice a0 0 c0).ownBlock\/(Value.slice a' zs.length c').ownBlock=some W.1.size):=by
 obtain⟨i0,qP,rH,lY,nY⟩:=partsOf PV;by_cases e:zs=[]
 ·subst e;refine⟨a0,c0,W,?_,h,⟨rfl,rfl,rfl,Nat.le_refl _,fun _ _ _=>rfl⟩,.inl rfl⟩;refine run_append_nothing W 74 74 ty 2 i0 Tryz.underlying74 qP a0 0 c0 (Nat.zero_le _) (.slice a 0 k) ?_
  cases a with
  | none=>exact Src.ofNil W Tryz.underlying74 k
  | some x=>exact Src.ofSlice W Tryz.underlying74 x 0 k [] (by simp) (fun j u hu=>by simp at hu) (fun u hu=>by cases hu)
 ·have rF:0<zs.length:=List.length_pos_iff.2 e;obtain⟨_,src⟩:=src;rcases src with src|⟨b,off,rfl,hb,hx⟩
  ·omega
  obtain⟨q,cap,W',h1,h2,h3,h4,h5,h6,h7,h8,h9⟩:=sN (cells:=fun z:Int=>[Value.int .i64 z]) (fun _=>rfl) (fun s u hu=>by
   simp only[List.mem_cons,List.not_mem_nil,or_false]at hu
   subst hu;rfl) (by decide) Tryz.underlying74 qP rH lY nY rfl (by decide) h zs rF hm ty b off k (fun i s e t u hu=>by
    rcases t with _|t
    ·simp at hu;subst hu;rw[Nat.mul_one,Nat.add_zero];exact hx i s e
    ·simp at hu) gF
  have km:zs.flatMap (fun z:Int=>[Value.int .i64 z])=zs.map (Value.int .i64):=List.map_eq_flatMap.symm;rw[km]at h9;refine⟨_,cap,W',h1,h9,h7,?_⟩;rcases h8 with e|e
  ·exact .inl e.symm
  ·exact .inr (by rw[e];rfl)
structure B3(s p:Nat)(alive:Bool)(X:World)(vk vr vd:Value):Prop where
 r0:X.cell? ⟨s+1,0,none⟩=some (.slice none 0 0)
 r1:X.cell? ⟨s+1,1,none⟩=some (.bool false)
 r2:X.cell? ⟨s+1,2,none⟩=some (.slice none 0 0)
 r3:X.cell? ⟨s+1,3,none⟩=some (.slice none 0 0)
 fr:∀j,X.frozen? ⟨s+1,j,none⟩=false
 o0:X.cell? ⟨p,0,none⟩=some vr
 o1:X.cell? ⟨p,1,none⟩=some (.bool alive)
 o2:X.cell? ⟨p,2,none⟩=some vk
 o3:X.cell? ⟨p,3,none⟩=some vd
 fo:∀j,X.frozen? ⟨p,j,none⟩=false
 pl:s+2<=p
 pX:p<X.1.size
theorem B3.aQ(h:B3 s p alive X vk vr vd)(hs:X.1.size<=Y.1.size)(er:Y.1[s+1]?=X.1[s+1]?)(ep:Y.1[p]?=X.1[p]?):B3 s p alive Y vk vr vd:=by
 have c:∀{b j:Nat}{u:Value},Y.1[b]?=X.1[b]?->X.cell? ⟨b,j,none⟩=some u->Y.cell? ⟨b,j,none⟩=some u:=fun {b j u} e h=>(World.cell?_of_block (a:=⟨b,j,none⟩) e).trans h
 exact⟨c er h.r0,c er h.r1,c er h.r2,c er h.r3,fun j=>(World.frozen?_of_block (a:=⟨s+1,j,none⟩) er).trans (h.fr j),c ep h.o0,c ep h.o1,c ep h.o2,c ep h.o3,fun j=>(World.frozen?_of_block (a:=⟨p,j,none⟩) ep).trans (h.fo j),h.pl,Nat.lt_of_lt_of_le h.pX hs⟩
theorem B3.later(h:B3 s p alive X vk vr vd)(hb:Below X.1.size X Y):B3 s p alive Y vk vr vd:=
 h.aQ hb.size (hb.block _ (by have:=h.pl;have:=h.pX;omega)) (hb.block _ h.pX)
theorem B3.Ui(h:B3 s p alive X vk vr vd)(u:Value):B3 s p alive (X.setCell ⟨p,2,none⟩ u) u vr vd:=
 have hp:=h.pl;have dZ:∀j,(X.setCell ⟨p,2,none⟩ u).cell? ⟨s+1,j,none⟩=X.cell? ⟨s+1,j,none⟩:=fun j=>aI (by show p≠s+1;omega) u
 ⟨(dZ 0).trans h.r0,(dZ 1).trans h.r1,(dZ 2).trans h.r2,(dZ 3).trans h.r3,fun j=>by rw[World.frozen?_setCell];exact h.fr j,(ae (by omega)).trans h.o0,(ae (by omega)).trans h.o1,az h.o2,(ae (by omega)).trans h.o3,fun j=>by rw[World.frozen?_setCell];exact h.fo j,h.pl,by simpa[World.setCell]using h.pX⟩
theorem B3.NZ(h:B3 s p alive X vk vr vd)(u:Value):B3 s p alive (X.setCell ⟨p,0,none⟩ u) vk u vd:=
 have hp:=h.pl;have dZ:∀j,(X.setCell ⟨p,0,none⟩ u).cell? ⟨s+1,j,none⟩=X.cell? ⟨s+1,j,none⟩:=fun j=>aI (by show p≠s+1;omega) u
 ⟨(dZ 0).trans h.r0,(dZ 1).trans h.r1,(dZ 2).trans h.r2,(dZ 3).trans h.r3,fun j=>by rw[World.frozen?_setCell];exact h.fr j,az h.o0,(ae (by omega)).trans h.o1,(ae (by omega)).trans h.o2,(ae (by omega)).trans h.o3,fun j=>by rw[World.frozen?_setCell];exact h.fo j,h.pl,by simpa[World.setCell]using h.pX⟩
def gz:Nat->Nat:=fun _=>0
theorem MR.start{base:Nat}(hd:X.ownsRow base 2 1 vd zs.length (zs.map (Value.int .i64)))(hp:vd.ownBlock≠some p):MR base p X (.slice none 0 0) (.slice none 0 0) vd [] [] zs gz gz:=
 ⟨gZ.nil _ _ _,gZ.nil _ _ _,hd,fun q h=>by rcases h with h|⟨i,hi,_⟩;cases h;simp at hi,fun q h=>by rcases h with h|⟨i,hi,_⟩;cases h;simp at hi,fun q h=>by rcases h with h|⟨i,hi,_⟩;cases h;simp at hi,fun q h=>by rcases h with h|⟨i,hi,_⟩;cases h;simp at hi,fun q h=>by rcases h with h|⟨i,hi,_⟩;cases h;simp at hi,hp⟩
structure O4(m:M4):Prop where
 k:m.af.length<=6
 ks:∀c∈m.af,c.cells.length=6
 r:m.h.length<=200
 rs:∀c∈m.h,0<c.ag.length/\c.ag.length<=12
 n:m.ai.length<=60
theorem yo{r:Nat}(h:X.1[r]?=some (.cells #[.slice none 0 0,.bool false,.slice none 0 0,.slice none 0 0] 179 (0,0))):
  X.cell? ⟨r,0,none⟩=some (.slice none 0 0)/\X.cell? ⟨r,1,none⟩=some (.bool false)/\X.cell? ⟨r,2,none⟩=some (.slice none 0 0)/\X.cell? ⟨r,3,none⟩=some (.slice none 0 0)/\∀j,X.frozen? ⟨r,j,none⟩=false:=
 ⟨by rw[cell_of_row X r 0 _ _ _ h];rfl,by rw[cell_of_row X r 1 _ _ _ h];rfl,by rw[cell_of_row X r 2 _ _ _ h];rfl,by rw[cell_of_row X r 3 _ _ _ h];rfl,fun j=>frozen_of_row X r j _ _ h⟩
theorem Po(hX:s+2<=X.1.size)(hr:X.1[s+1]?=some (.cells #[.slice none 0 0,.bool false,.slice none 0 0,.slice none 0 0] 179 (0,0)))(hd:X.ownsRow (s+2) 2 1 vd zs.length (zs.map (Value.int .i64))):
  B3 s X.1.size alive (X.alloc (.cells #[.slice none 0 0,.bool alive,.slice none 0 0,vd] 179)) (.slice none 0 0) (.slice none 0 0) vd/\MR (s+2) X.1.size (X.alloc (.cells #[.slice none 0 0,.bool alive,.slice none 0 0,vd] 179)) (.slice none 0 0) (.slice none 0 0) vd [] [] zs gz gz:=by
 have bA:Below X.1.size X (X.alloc (.cells #[.slice none 0 0,.bool alive,.slice none 0 0,vd] 179)):=aJ.alloc aR _;obtain⟨z0,z1,z2,z3,zf⟩:=yo ((bA.block (s+1) (by omega)).trans hr);refine⟨⟨z0,z1,z2,z3,zf,by go_simp,by go_simp,by go_simp,by go_simp,by intro j;go_simp,hX,by simp⟩,MR.start ?_ (fun e=>by have:=(World.ownsRow.lt hd _ e).2;omega)⟩;refine⟨hd.1,hd.2.imp id ?_⟩;rintro ⟨q,cap,cur,rfl,l,hg,r⟩;exact⟨q,cap,cur,rfl,l,(bA.block q (World.ownsRow.lt hd q rfl).2).trans hg,r⟩
theorem Pp(hp:s+2<=p)(QX:p<X.1.size)(hr:X.1[s+1]?=some (.cells #[.slice none 0 0,.bool false,.slice none 0 0,.slice none 0 0] 179 (0,0)))(hz:X.1[p]?=some (.cells #[.slice none 0 0,.bool false,.slice none 0 0,.slice none 0 0] 179 (0,0)))(hd:X.ownsRow (s+2) 2 1 vd zs.length (zs.map (Value.int .i64)))(fF:vd.ownBlock≠some p):
  B3 s p alive ((((X.setCell ⟨p,0,none⟩ (.slice none 0 0)).setCell ⟨p,1,none⟩ (.bool alive)).setCell ⟨p,2,none⟩ (.slice none 0 0)).setCell ⟨p,3,none⟩ vd) (.slice none 0 0) (.slice none 0 0) vd/\MR (s+2) p ((((X.setCell ⟨p,0,none⟩ (.slice none 0 0)).setCell ⟨p,1,none⟩ (.bool alive)).setCell ⟨p,2,none⟩ (.slice none 0 0)).setCell ⟨p,3,none⟩ vd) (.slice none 0 0) (.slice none 0 0) vd [] [] zs gz gz:=by
 obtain⟨z0,z1,z2,z3,zf⟩:=yo hr;obtain⟨y0,y1,y2,y3,yf⟩:=yo hz
 have f:∀j,((((X.setCell ⟨p,0,none⟩ (.slice none 0 0)).setCell ⟨p,1,none⟩ (.bool alive)).setCell ⟨p,2,none⟩ (.slice none 0 0)).setCell ⟨p,3,none⟩ vd).cell? ⟨s+1,j,none⟩=X.cell? ⟨s+1,j,none⟩:=fun j=>by
  rw[aI (by show p≠s+1;omega),aI (by show p≠s+1;omega),aI (by show p≠s+1;omega),aI (by show p≠s+1;omega)]
 refine⟨⟨(f 0).trans z0,(f 1).trans z1,(f 2).trans z2,(f 3).trans z3,fun j=>by simp only[World.frozen?_setCell];exact zf j,?_,?_,?_,?_,fun j=>by simp only[World.frozen?_setCell];exact yf j,hp,by simpa[World.setCell]using QX⟩,(((MR.start hd fF).set.set).set).set⟩
 ·rw[ae (by omega),ae (by omega),ae (by omega)];exact az y0
 ·rw[ae (by omega),ae (by omega)];exact az (by rw[ae (by omega)];exact y1)
 ·rw[ae (by omega)];exact az (by rw[ae (by omega),ae (by omega)];exact y2)
 ·exact az (by rw[ae (by omega),ae (by omega),ae (by omega)];exact y3)
theorem zM(w:World)(v:MV)(m:M4)(hm:O4 m)(hs:pF w v m):
  Calls Tryz.prog 111 #[v.val m] w fun e w'=>∃(u:MV) (p:Nat) (gk gr:Nat->Nat),e=.returned (.agg #[.slice u.al m.h.length u.cl,.bool m.x,.slice u.ac m.af.length u.cc,.slice u.ad m.ai.length u.cd])/\MR (w.1.size+2) p w' (.slice u.ac m.af.length u.cc) (.slice u.al m.h.length u.cl) (.slice u.ad m.ai.length u.cd) m.af m.h m.ai gk gr/\Below w.1.size w w':=by
 obtain⟨ac,cc,al,cl,ad,cd⟩:=v;simp only[MV.val];obtain⟨W0,eB⟩:∃W0,W0=w.alloc (.cells #[.bool m.x,.slice ac m.af.length cc,.slice al m.h.length cl,.slice ad m.ai.length cd] 92):=⟨_,rfl⟩
 have b0:Below w.1.size w W0:=by subst eB;exact aJ.alloc aR _
 have s0:W0.1.size=w.1.size+1:=by subst eB;simp
 have c0:∀X,Below (w.1.size+1) W0 X->X.cell? ⟨w.1.size,0,none⟩=some (.bool m.x)/\X.cell? ⟨w.1.size,1,none⟩=some (.slice ac m.af.length cc)/\X.cell? ⟨w.1.size,2,none⟩=some (.slice al m.h.length cl)/\X.cell? ⟨w.1.size,3,none⟩=some (.slice ad m.ai.length cd):=fun X hX=>by
  refine⟨(hX.cell (p:=⟨w.1.size,0,none⟩) (by simp)).trans ?_,(hX.cell (p:=⟨w.1.size,1,none⟩) (by simp)).trans ?_,(hX.cell (p:=⟨w.1.size,2,none⟩) (by simp)).trans ?_,(hX.cell (p:=⟨w.1.size,3,none⟩) (by simp)).trans ?_⟩;all_goals (subst eB;go_simp)
 have H:Hid (O4 m/\pF w ⟨ac,cc,al,cl,ad,cd⟩ m/\Below w.1.size w W0/\W0.1.size=w.1.size+1):=⟨hm,hs,b0,s0⟩
 have HC:=aB c0;clear hm hs b0 s0 c0;go_enter Tryz.func111,Tryz.ntmps111;go_upto_region 1 with fail
 go_cut[3]from 8 to 13 (fun s3 wx=>∃(p:Nat) (a':Option Addr) (c':Nat),s3=.pointer (some ⟨p,0,none⟩)/\B3 w.1.size p m.x wx (.slice none 0 0) (.slice none 0 0) (.slice a' m.ai.length c')/\MR (w.1.size+2) p wx (.slice none 0 0) (.slice none 0 0) (.slice a' m.ai.length c') [] [] m.ai gz gz/\Below (w.1.size+1) W0 wx)
 case first=>
  obtain⟨W1,ja⟩:∃W1,W1=(W0.alloc (.cells #[.slice none 0 0,.bool false,.slice none 0 0,.slice none 0 0] 179)).drew:=⟨_,rfl⟩
  have b1:Below W0.1.size W0 W1:=by subst ja;exact(aJ.alloc aR _).drew
  have s1:W1.1.size=w.1.size+2:=by subst ja;simp[H.out.2.2.2]
  have b1':Below (w.1.size+1) W0 W1:=b1.mono (by rw[H.out.2.2.2];exact Nat.le_refl _);obtain⟨ca,_,_,UN⟩:=HC.out W1 b1'
  have wR:W1.1[w.1.size+1]?=some (.cells #[.slice none 0 0,.bool false,.slice none 0 0,.slice none 0 0] 179 (0,0)):=by
   subst ja;rw[<-H.out.2.2.2];exact heap_alloc_new W0 _
  have DI:(fun X:World=>X.cell? ⟨w.1.size,0,none⟩=some (.bool m.x)/\X.cell? ⟨w.1.size,3,none⟩=some (.slice ad m.ai.length cd)) W1:=⟨ca,UN⟩
  refine bL 7 (fun X:World=>X.cell? ⟨w.1.size,0,none⟩=some (.bool m.x)/\X.cell? ⟨w.1.size,3,none⟩=some (.slice ad m.ai.length cd)) (by kernel_rfl) ?_;have KW:Hid (Below w.1.size w W1/\Below (w.1.size+1) W0 W1/\W1.1.size=w.1.size+2/\W1.1[w.1.size+1]?=some (.cells #[.slice none 0 0,.bool false,.slice none 0 0,.slice none 0 0] 179 (0,0))):=⟨H.out.2.2.1.trans (b1'.mono (by omega)),b1',s1,wR⟩
  clear b1 s1 b1' ca UN wR;subst eB;rw[<-ja];clear ja;refine eQ 0 ?_ rfl ?_ DI ?_;rotate_left
  ·(intro w aG;go_simp;first|done|with_reducible rfl|exact aG.1|exact aG.2)
  simp only[Act.put];refine eQ 1 ?_ rfl ?_ DI ?_;rotate_left
  ·(intro w aG;go_simp;first|done|with_reducible rfl|exact aG.1|exact aG.2)
  simp only[Act.put];refine eQ 2 ?_ rfl ?_ DI ?_;rotate_left
  ·(intro w aG;go_simp;first|done|with_reducible rfl|exact aG.1|exact aG.2)
  simp only[Act.put];refine eQ 3 ?_ rfl ?_ DI ?_;rotate_left
  ·(intro w aG;go_simp;first|done|with_reducible rfl|exact aG.1|exact aG.2)
  simp only[Act.put];refine kD (rs:=[4,6]) (by kernel_rfl) (by simp) ?_;refine pg.cons rfl (fun K hK=>?_) (pg.cons rfl (fun K hK=>?_) pg.nil)
  ·obtain⟨a',c',WA,hr,hd,hg,hl⟩:=sM W1 (w.1.size+2) none 0 (uw _ _ _ _) m.ai (by have:=H.out.1.n;omega) 74 ad cd (H.out.2.1.later KW.out.1).n (by rw[KW.out.2.2.1];exact Nat.le_refl _);have bA:Below W1.1.size W1 WA:=aJ.grown hg aR (fun k h=>by cases h);have Yx:Below (w.1.size+1) W1 WA:=bA.mono (by rw[KW.out.2.2.1];omega);have DJ:(fun X:World=>X.cell? ⟨w.1.size,0,none⟩=some (.bool m.x)/\X.cell? ⟨w.1.size,3,none⟩=some (.slice ad m.ai.length cd)) WA:=⟨(Yx.cell (p:=⟨w.1.size,0,none⟩) (by simp)).trans DI.1,(Yx.cell (p:=⟨w.1.size,3,none⟩) (by simp)).trans DI.2⟩
   have KA:Hid (Below W1.1.size W1 WA/\WA.ownsRow (w.1.size+2) 2 1 (.slice a' m.ai.length c') m.ai.length (m.ai.map (Value.int .i64))):=⟨bA,hd⟩
   clear hd hg hl bA Yx;refine df _ rfl (.const (.slice none 0 0)) (.tmp 11) 74 rfl _ _ _ _ (by first|rfl|simp[Act.eval,Act.put]) (by first|rfl|simp[Act.eval,Act.put]) hr ?_;refine hK.out _ _ (fun _=>DJ) ?_;clear hK K hr DI;simp only[Act.put];refine eQ 5 ?_ rfl ?_ DJ ?_;rotate_left
   ·(intro w aG;go_simp;first|done|with_reducible rfl|exact aG.1|exact aG.2)
   simp only[Act.put];refine dX 6 rfl (fun K hK=>?_);go_simp;have bB:Below WA.1.size WA (WA.alloc (.cells #[.slice none 0 0,.bool false,.slice none 0 0,.slice none 0 0] 179)):=aJ.alloc aR _
   have OC:(fun X:World=>X.cell? ⟨w.1.size,0,none⟩=some (.bool m.x)/\X.cell? ⟨w.1.size,3,none⟩=some (.slice ad m.ai.length cd)) (WA.alloc (.cells #[.slice none 0 0,.bool false,.slice none 0 0,.slice none 0 0] 179)):=by
    have h1:w.1.size<WA.1.size:=by have:=KA.out.1.size;have:=KW.out.2.2.1;omega
    exact⟨(bB.cell (p:=⟨w.1.size,0,none⟩) h1).trans DJ.1,(bB.cell (p:=⟨w.1.size,3,none⟩) h1).trans DJ.2⟩
   refine hK.out _ _ (fun _=>OC) ?_;clear hK K bB OC DJ;refine dX 7 rfl (fun K hK=>?_);go_simp;refine hK.out _ _ (fun h=>absurd rfl h) ?_;clear hK K;refine bS (by kernel_rfl) ?_ _;go_wp2_with fail;go_meet;have q1:=KA.out.1.size;have q2:=KW.out.2.2.1;obtain⟨f1,f2⟩:=Po (s:=w.1.size) (alive:=m.x) (X:=WA) (by omega) ((KA.out.1.block _ (by omega)).trans KW.out.2.2.2) KA.out.2;exact⟨WA.1.size,a',c',rfl,f1,f2,KW.out.2.1.trans ((KA.out.1.mono (by omega)).alloc (by omega) _)⟩
  ·have bB:Below W1.1.size W1 (W1.alloc (.cells #[.slice none 0 0,.bool false,.slice none 0 0,.slice none 0 0] 179)):=aJ.alloc aR _;have sB:(W1.alloc (.cells #[.slice none 0 0,.bool false,.slice none 0 0,.slice none 0 0] 179)).1.size=W1.1.size+1:=by simp
   have Zp:(W1.alloc (.cells #[.slice none 0 0,.bool false,.slice none 0 0,.slice none 0 0] 179)).1[W1.1.size]?=some (.cells #[.slice none 0 0,.bool false,.slice none 0 0,.slice none 0 0] 179 (0,0)):=heap_alloc_new W1 _
   have OC:(fun X:World=>X.cell? ⟨w.1.size,0,none⟩=some (.bool m.x)/\X.cell? ⟨w.1.size,3,none⟩=some (.slice ad m.ai.length cd)) (W1.alloc (.cells #[.slice none 0 0,.bool false,.slice none 0 0,.slice none 0 0] 179)):=by
    have h1:w.1.size<W1.1.size:=by have:=KW.out.2.2.1;omega
    exact⟨(bB.cell (p:=⟨w.1.size,0,none⟩) h1).trans DI.1,(bB.cell (p:=⟨w.1.size,3,none⟩) h1).trans DI.2⟩
   have bj:Below w.1.size w (W1.alloc (.cells #[.slice none 0 0,.bool false,.slice none 0 0,.slice none 0 0] 179)):=KW.out.1.trans (bB.mono (by have:=KW.out.2.2.1;omega));obtain⟨a',c',WA,hr,hd,hg,hl⟩:=sM (W1.alloc (.cells #[.slice none 0 0,.bool false,.slice none 0 0,.slice none 0 0] 179)) (w.1.size+2) none 0 (uw _ _ _ _) m.ai (by have:=H.out.1.n;omega) 74 ad cd (H.out.2.1.later bj).n (by rw[sB,KW.out.2.2.1];omega);have bA:Below (W1.1.size+1) (W1.alloc (.cells #[.slice none 0 0,.bool false,.slice none 0 0,.slice none 0 0] 179)) WA:=aJ.grown hg (by rw[sB];exact Nat.le_refl _) (fun k h=>by cases h)
   have fF:(Value.slice a' m.ai.length c').ownBlock≠some W1.1.size:=fun e=>by
    rcases hl with e'|e'
    ·rw[e']at e;cases e
    ·rw[e',sB]at e;have:=Option.some.inj e;omega
   have z:=yo ((bA.block W1.1.size (by omega)).trans Zp)
   have DJ:(fun X:World=>X.cell? ⟨w.1.size,0,none⟩=some (.bool m.x)/\X.cell? ⟨w.1.size,3,none⟩=some (.slice ad m.ai.length cd)) WA:=by
    have h1:w.1.size<W1.1.size+1:=by have:=KW.out.2.2.1;omega
    exact⟨(bA.cell (p:=⟨w.1.size,0,none⟩) h1).trans OC.1,(bA.cell (p:=⟨w.1.size,3,none⟩) h1).trans OC.2⟩
   have KA:Hid (Below (W1.1.size+1) (W1.alloc (.cells #[.slice none 0 0,.bool false,.slice none 0 0,.slice none 0 0] 179)) WA/\WA.ownsRow (w.1.size+2) 2 1 (.slice a' m.ai.length c') m.ai.length (m.ai.map (Value.int .i64))/\(Value.slice a' m.ai.length c').ownBlock≠some W1.1.size/\(W1.alloc (.cells #[.slice none 0 0,.bool false,.slice none 0 0,.slice none 0 0] 179)).1[W1.1.size]?=some (.cells #[.slice none 0 0,.bool false,.slice none 0 0,.slice none 0 0] 179 (0,0))/\Below W1.1.size W1 (W1.alloc (.cells #[.slice none 0 0,.bool false,.slice none 0 0,.slice none 0 0] 179))/\(W1.alloc (.cells #[.slice none 0 0,.bool false,.slice none 0 0,.slice none 0 0] 179)).1.size=W1.1.size+1):=⟨bA,hd,fF,Zp,bB,sB⟩
   obtain⟨z0,z1,z2,z3,zf⟩:=z;have ZV:=zf 0;have ZW:=zf 1;have ZX:=zf 2;have ZY:=zf 3;clear hd hg hl bA bB sB fF Zp bj zf;go_simp;refine hK.out _ _ (fun _=>OC) ?_;clear hK K DI;refine dX 4 rfl (fun K hK=>?_);refine df _ rfl (.const (.slice none 0 0)) (.tmp 11) 74 rfl _ _ _ _ (by first|rfl|simp[Act.eval,Act.put]) (by first|rfl|simp[Act.eval,Act.put]) hr ?_;refine hK.out _ _ (fun _=>DJ) ?_;clear hK K hr OC;simp only[Act.put];refine eQ 5 ?_ rfl ?_ DJ ?_;rotate_left
   ·(intro w aG;go_simp;first|done|with_reducible rfl|exact aG.1|exact aG.2)
   simp only[Act.put];refine dX 7 rfl (fun K hK=>?_);go_simp;refine hK.out _ _ (fun h=>absurd rfl h) ?_;clear hK K;refine bS (by kernel_rfl) ?_ _;go_wp2_with fail;go_meet;have q2:=KW.out.2.2.1;obtain⟨k1,k2,k3,k4,k5,k6⟩:=KA.out;have q3:=k1.size;obtain⟨f1,f2⟩:=Pp (s:=w.1.size) (p:=W1.1.size) (alive:=m.x) (X:=WA) (by omega) (by omega) ((k1.block _ (by omega)).trans ((k5.block _ (by omega)).trans KW.out.2.2.2)) ((k1.block _ (by omega)).trans k4) k2 k3;exact⟨W1.1.size,a',c',rfl,f1,f2,(((((KW.out.2.1.trans (k5.mono (by omega))).trans (k1.mono (by omega))).setCell (p:=⟨_,_,none⟩) (by simp;omega) _).setCell (p:=⟨_,_,none⟩) (by simp;omega) _).setCell (p:=⟨_,_,none⟩) (by simp;omega) _).setCell (p:=⟨_,_,none⟩) (by simp;omega) _⟩
 case rest=>
  obtain⟨p,a',c',rfl,iR,lI,bC⟩:=hcut;obtain⟨_,c1,_,_⟩:=HC.out wc bC;have KC:Hid (B3 w.1.size p m.x wc (.slice none 0 0) (.slice none 0 0) (.slice a' m.ai.length c')/\MR (w.1.size+2) p wc (.slice none 0 0) (.slice none 0 0) (.slice a' m.ai.length c') [] [] m.ai gz gz/\Below (w.1.size+1) W0 wc):=⟨iR,lI,bC⟩
  have kA:m.af.length<=6:=H.out.1.k;clear iR lI bC;go_wp2;go_loopw[17] (fun v17 wr=>∃(j:Nat) (ak:Option Addr) (ck:Nat) (gk:Nat->Nat),j<=m.af.length/\v17=vI j/\B3 w.1.size p m.x wr (.slice ak j ck) (.slice none 0 0) (.slice a' m.ai.length c')/\MR (w.1.size+2) p wr (.slice ak j ck) (.slice none 0 0) (.slice a' m.ai.length c') (m.af.take j) [] m.ai gk gz/\Below (w.1.size+1) W0 wr) (fun v17 _=>m.af.length-(intOf v17).toNat)
  case atStart=>exact⟨0,none,0,gz,Nat.zero_le _,rfl,KC.out.1,by rw[List.take_zero];exact KC.out.2.1,KC.out.2.2⟩
  case round=>
   obtain⟨j,ak,ck,gk,hj,rfl,iR,lI,bC⟩:=hrel;by_cases aN:j<m.af.length
   ·have oM:Below w.1.size w wr:=H.out.2.2.1.trans (bC.mono (by omega));obtain⟨_,gu⟩:=(H.out.2.1.later oM).k;have rC:m.af[j]?=some (cO m.af j):=eX aN;have h6:(cO m.af j).cells.length=6:=H.out.1.ks _ (List.mem_of_getElem? rC);simp only[]at gu;rcases gu with gu|⟨b,off,rfl,hb,h1⟩
    ·omega
    have hr:=h1 j _ rC;have k0:=hr.c0;obtain⟨a1,p1,k1,gy,jJ⟩:=hr.c1;have bX:Below wr.1.size wr (wr.alloc (.cells #[vI (cO m.af j).b,.slice a1 (cO m.af j).cells.length p1] 107)).drew:=(aJ.alloc aR _).drew;have sX:(wr.alloc (.cells #[vI (cO m.af j).b,.slice a1 (cO m.af j).cells.length p1] 107)).drew.1.size=wr.1.size+1:=by simp
    have hc:=uu (wr.alloc (.cells #[vI (cO m.af j).b,.slice a1 (cO m.af j).cells.length p1] 107)).drew a1 p1 (cO m.af j).cells (by omega) (by omega) (gy.later bX)
    have dW:(fun X:World=>X.cell? ⟨p,2,none⟩=some (.slice ak j ck)/\X.cell? ⟨wr.1.size,0,none⟩=some (vI (cO m.af j).b)/\X.cell? ⟨wr.1.size,1,none⟩=some (.slice a1 (cO m.af j).cells.length p1)) (wr.alloc (.cells #[vI (cO m.af j).b,.slice a1 (cO m.af j).cells.length p1] 107)).drew:=
     ⟨(bX.cell (p:=⟨p,2,none⟩) iR.pX).trans iR.o2,by go_simp,by go_simp⟩
    have KH:Hid (B3 w.1.size p m.x wr (.slice ak j ck) (.slice none 0 0) (.slice a' m.ai.length c')/\MR (w.1.size+2) p wr (.slice ak j ck) (.slice none 0 0) (.slice a' m.ai.length c') (m.af.take j) [] m.ai gk gz/\Below (w.1.size+1) W0 wr/\Below wr.1.size wr (wr.alloc (.cells #[vI (cO m.af j).b,.slice a1 (cO m.af j).cells.length p1] 107)).drew/\(wr.alloc (.cells #[vI (cO m.af j).b,.slice a1 (cO m.af j).cells.length p1] 107)).drew.1.size=wr.1.size+1/\m.af[j]?=some (cO m.af j)):=⟨iR,lI,bC,bX,sX,rC⟩
    have Am:=iR.pX;clear iR lI bC oM h1 hr gy jJ bX sX rC h6;go_wp2_with fail;refine bL 11 (fun X:World=>X.cell? ⟨p,2,none⟩=some (.slice ak j ck)/\X.cell? ⟨wr.1.size,0,none⟩=some (vI (cO m.af j).b)/\X.cell? ⟨wr.1.size,1,none⟩=some (.slice a1 (cO m.af j).cells.length p1)) (by kernel_rfl) ?_;generalize Sm:(wr.alloc (.cells #[vI (cO m.af j).b,.slice a1 (cO m.af j).cells.length p1] 107)).drew=X at *;clear Sm;refine eQ 0 ?_ rfl ?_ dW ?_;rotate_left
    ·(intro w aG;go_simp;first|done|with_reducible rfl|exact aG.1|exact aG.2.1|exact aG.2.2)
    simp only[Act.put];refine eQ 1 ?_ rfl ?_ dW ?_;rotate_left
    ·(intro w aG;go_simp;first|done|with_reducible rfl|exact aG.1|exact aG.2.1|exact aG.2.2)
    simp only[Act.put];refine eQ 2 ?_ rfl ?_ dW ?_;rotate_left
    ·(intro w aG;go_simp;first|done|with_reducible rfl|exact aG.1|exact aG.2.1|exact aG.2.2)
    simp only[Act.put];refine eQ 3 ?_ rfl ?_ dW ?_;rotate_left
    ·(intro w aG;go_simp;first|done|with_reducible rfl|exact aG.1|exact aG.2.1|exact aG.2.2)
    simp only[Act.put];refine eQ 4 ?_ rfl ?_ dW ?_;rotate_left
    ·(intro w aG;go_simp;first|done|with_reducible rfl|exact aG.1|exact aG.2.1|exact aG.2.2)
    simp only[Act.put];refine eQ 5 ?_ rfl ?_ dW ?_;rotate_left
    ·(intro w aG;go_simp;first|done|with_reducible rfl|exact aG.1|exact aG.2.1|exact aG.2.2)
    simp only[Act.put];refine dX 6 rfl (fun K hK=>?_);go_simp;refine hc.mono ?_;clear hc;rintro e X2 ⟨q,cp,rfl,Gz,M5,M6,M7,Lv,b2⟩;obtain⟨iR,lI,bC,bX,sX,rC⟩:=KH.out;have l6:Below wr.1.size wr X2:=bX.trans (b2.mono bX.size);have iD:(fun X:World=>X.cell? ⟨p,2,none⟩=some (.slice ak j ck)/\X.cell? ⟨wr.1.size,0,none⟩=some (vI (cO m.af j).b)/\X.cell? ⟨wr.1.size,1,none⟩=some (.slice a1 (cO m.af j).cells.length p1)) X2:=⟨(l6.cell (p:=⟨p,2,none⟩) Am).trans iR.o2,(b2.cell (p:=⟨wr.1.size,0,none⟩) (by show wr.1.size<X.1.size;omega)).trans dW.2.1,(b2.cell (p:=⟨wr.1.size,1,none⟩) (by show wr.1.size<X.1.size;omega)).trans dW.2.2⟩
    have b3:Below X2.1.size X2 (X2.alloc (.cells #[vI (cO m.af j).b,.slice (some ⟨q,0,none⟩) (cO m.af j).cells.length cp] 107)):=aJ.alloc aR _;have s3:(X2.alloc (.cells #[vI (cO m.af j).b,.slice (some ⟨q,0,none⟩) (cO m.af j).cells.length cp] 107)).1.size=X2.1.size+1:=by simp
    have nR:Below wr.1.size wr (X2.alloc (.cells #[vI (cO m.af j).b,.slice (some ⟨q,0,none⟩) (cO m.af j).cells.length cp] 107)):=l6.trans (b3.mono l6.size);have iM:wr.1.size<X2.1.size:=by have:=b2.size;omega
    have jo:(fun X:World=>X.cell? ⟨p,2,none⟩=some (.slice ak j ck)/\X.cell? ⟨wr.1.size,0,none⟩=some (vI (cO m.af j).b)/\X.cell? ⟨wr.1.size,1,none⟩=some (.slice a1 (cO m.af j).cells.length p1)) (X2.alloc (.cells #[vI (cO m.af j).b,.slice (some ⟨q,0,none⟩) (cO m.af j).cells.length cp] 107)):=⟨(nR.cell (p:=⟨p,2,none⟩) Am).trans iR.o2,(b3.cell (p:=⟨wr.1.size,0,none⟩) iM).trans iD.2.1,(b3.cell (p:=⟨wr.1.size,1,none⟩) iM).trans iD.2.2⟩
    obtain⟨v',Y,hr,lJ,iT,Gy⟩:=lI.Rp nR (by have:=iR.pl;omega) Am (cO m.af j) q cp X2.1.size (by simp;omega) 89 (by go_simp) (by go_simp) (lD.aj _ _ _ _ (b3.block q M5) ⟨M7,Lv⟩) M6 (by omega) (by omega);have EC:m.af.take j++[cO m.af j]=m.af.take (j+1):=by rw[List.take_add_one,rC];rfl
    have gL:∀x,wr.1.size<=x\/x=p\/x<w.1.size+2->x<(X2.alloc (.cells #[vI (cO m.af j).b,.slice (some ⟨q,0,none⟩) (cO m.af j).cells.length cp] 107)).1.size->Y.1[x]?=(X2.alloc (.cells #[vI (cO m.af j).b,.slice (some ⟨q,0,none⟩) (cO m.af j).cells.length cp] 107)).1[x]?:=fun x hx Zz=>iT.block x Zz (fun e=>by have:=Gy x e.symm;omega)
    have mQ:(fun X:World=>X.cell? ⟨p,2,none⟩=some (.slice ak j ck)/\X.cell? ⟨wr.1.size,0,none⟩=some (vI (cO m.af j).b)/\X.cell? ⟨wr.1.size,1,none⟩=some (.slice a1 (cO m.af j).cells.length p1)) Y:=⟨(World.cell?_of_block (a:=⟨p,2,none⟩) (gL p (by omega) (by have:=nR.size;omega))).trans jo.1,(World.cell?_of_block (a:=⟨wr.1.size,0,none⟩) (gL wr.1.size (.inl aR) (by omega))).trans jo.2.1,(World.cell?_of_block (a:=⟨wr.1.size,1,none⟩) (gL wr.1.size (.inl aR) (by omega))).trans jo.2.2⟩
    have nW:(m.af.take (j+1)).length=j+1:=by rw[List.length_take];omega
    rw[EC,List.length_take,Nat.min_eq_left (by omega)]at lJ;obtain⟨yb,yc,rfl,-⟩:=gZ.own (hd:=pQ) (sz:=2) (fun _=>rfl) lJ.gK (fun e=>by rw[e]at nW;simp at nW);rw[nW]at hr lJ;have nU:B3 w.1.size p m.x Y (.slice ak j ck) (.slice none 0 0) (.slice a' m.ai.length c'):=(iR.later nR).aQ iT.size (gL (w.1.size+1) (.inr (.inr (by omega))) (by have:=nR.size;have:=iR.pl;omega)) (gL p (.inr (.inl rfl)) (by have:=nR.size;omega));have o2:=nU.o2;have XF:=nU.fo 2
    have KE:Hid (B3 w.1.size p m.x (Y.setCell ⟨p,2,none⟩ (.slice (some ⟨yb,0,none⟩) (j+1) yc)) (.slice (some ⟨yb,0,none⟩) (j+1) yc) (.slice none 0 0) (.slice a' m.ai.length c')/\MR (w.1.size+2) p (Y.setCell ⟨p,2,none⟩ (.slice (some ⟨yb,0,none⟩) (j+1) yc)) (.slice (some ⟨yb,0,none⟩) (j+1) yc) (.slice none 0 0) (.slice a' m.ai.length c') (m.af.take (j+1)) [] m.ai (fun i=>if i=j then q else gk i) gz/\Below (w.1.size+1) W0 (Y.setCell ⟨p,2,none⟩ (.slice (some ⟨yb,0,none⟩) (j+1) yc))):=
     ⟨nU.Ui _,lJ.set,((bC.trans (nR.mono (by have:=iR.pl;omega))).grown iT (by have:=nR.size;have:=iR.pl;omega) (fun x e=>by have:=Gy x e;omega)).setCell (p:=⟨p,2,none⟩) (by show w.1.size+1<=p;have:=iR.pl;omega) _⟩
    refine hK.out _ _ (fun _=>iD) ?_;clear hK K iR lI bC bX sX rC l6 b3 s3 nR iM lJ iT Gy EC gL nW nU dW b2 Gz M5 M6 M7 Lv KH;refine eQ 7 ?_ rfl ?_ iD ?_;rotate_left
    ·(intro w aG;go_simp;first|done|with_reducible rfl|exact aG.1|exact aG.2.1|exact aG.2.2)
    simp only[Act.put];refine dX 8 rfl (fun K hK=>?_);go_simp;refine hK.out _ _ (fun _=>jo) ?_;clear hK K iD;refine dX 9 rfl (fun K hK=>?_);refine df _ rfl (.tmp 22) (.tmp 29) 89 rfl _ _ _ _ (by first|rfl|simp[Act.eval,Act.put]) (by first|rfl|simp[Act.eval,Act.put]) hr ?_;refine hK.out _ _ (fun _=>mQ) ?_;clear hK K hr jo;simp only[Act.put];refine dX 10 rfl (fun K hK=>?_);go_simp;refine hK.out _ _ (fun _=>mQ) ?_;clear hK K;refine dX 11 rfl (fun K hK=>?_);go_simp;refine hK.out _ _ (fun h=>absurd rfl h) ?_;clear hK K;refine bS (by kernel_rfl) ?_ _;go_wp2;exact⟨⟨j+1,some ⟨yb,0,none⟩,yc,_,by omega,by simp,KE.out.1,KE.out.2.1,KE.out.2.2⟩,by simp[intOf];omega⟩
   ·obtain rfl:j=m.af.length:=by omega
    have hd:decide ((m.af.length:Int)<(m.af.length:Int))=false:=by simp
    obtain⟨_,_,c2,_⟩:=HC.out wr bC;rw[List.take_length]at lI;have O0:Hid (B3 w.1.size p m.x wr (.slice ak m.af.length ck) (.slice none 0 0) (.slice a' m.ai.length c')/\MR (w.1.size+2) p wr (.slice ak m.af.length ck) (.slice none 0 0) (.slice a' m.ai.length c') m.af [] m.ai gk gz/\Below (w.1.size+1) W0 wr):=⟨iR,lI,bC⟩
    have Wm:m.h.length<=200:=H.out.1.r;clear iR lI bC KC c1 hj aN;generalize wr=wk at *;go_wp2;go_loopw[36] (fun v36 wr=>∃(j:Nat) (ar:Option Addr) (cr:Nat) (gr:Nat->Nat),j<=m.h.length/\v36=vI j/\B3 w.1.size p m.x wr (.slice ak m.af.length ck) (.slice ar j cr) (.slice a' m.ai.length c')/\MR (w.1.size+2) p wr (.slice ak m.af.length ck) (.slice ar j cr) (.slice a' m.ai.length c') m.af (m.h.take j) m.ai gk gr/\Below (w.1.size+1) W0 wr) (fun v36 _=>m.h.length-(intOf v36).toNat)
    case atStart=>exact⟨0,none,0,gz,Nat.zero_le _,rfl,O0.out.1,by rw[List.take_zero];exact O0.out.2.1,O0.out.2.2⟩
    case round=>
     obtain⟨j,ar,cr,gr,hj,rfl,iR,lI,bC⟩:=hrel;by_cases aN:j<m.h.length
     ·have oM:Below w.1.size w wr:=H.out.2.2.1.trans (bC.mono (by omega));obtain⟨_,gu⟩:=(H.out.2.1.later oM).r;have rC:m.h[j]?=some (atR m.h j):=iV aN;have h6:=H.out.1.rs _ (List.mem_of_getElem? rC);simp only[]at gu;rcases gu with gu|⟨b,off,rfl,hb,h1⟩
      ·omega
      have hr:=h1 j _ rC;have k0:=hr.c0;have k1:=hr.c1;have k2:=hr.c2;obtain⟨a1,p1,k3,gy,jJ⟩:=hr.c3;have bX:Below wr.1.size wr (wr.alloc (.cells #[vI (atR m.h j).kind,vI (atR m.h j).tx,vI (atR m.h j).b,.slice a1 (atR m.h j).ag.length p1] 148)).drew:=(aJ.alloc aR _).drew;have sX:(wr.alloc (.cells #[vI (atR m.h j).kind,vI (atR m.h j).tx,vI (atR m.h j).b,.slice a1 (atR m.h j).ag.length p1] 148)).drew.1.size=wr.1.size+1:=by simp
      have hc:=Bb (wr.alloc (.cells #[vI (atR m.h j).kind,vI (atR m.h j).tx,vI (atR m.h j).b,.slice a1 (atR m.h j).ag.length p1] 148)).drew (atR m.h j) a1 p1 h6.1 (by omega) ((gy.below bX).mono bX.size);simp only[R4.val]at hc;have dW:(fun X:World=>X.cell? ⟨p,0,none⟩=some (.slice ar j cr)/\X.cell? ⟨wr.1.size,0,none⟩=some (vI (atR m.h j).kind)/\X.cell? ⟨wr.1.size,1,none⟩=some (vI (atR m.h j).tx)/\X.cell? ⟨wr.1.size,2,none⟩=some (vI (atR m.h j).b)/\X.cell? ⟨wr.1.size,3,none⟩=some (.slice a1 (atR m.h j).ag.length p1)) (wr.alloc (.cells #[vI (atR m.h j).kind,vI (atR m.h j).tx,vI (atR m.h j).b,.slice a1 (atR m.h j).ag.length p1] 148)).drew:=⟨(bX.cell (p:=⟨p,0,none⟩) iR.pX).trans iR.o0,by go_simp,by go_simp,by go_simp,by go_simp⟩
      have KH:Hid (B3 w.1.size p m.x wr (.slice ak m.af.length ck) (.slice ar j cr) (.slice a' m.ai.length c')/\MR (w.1.size+2) p wr (.slice ak m.af.length ck) (.slice ar j cr) (.slice a' m.ai.length c') m.af (m.h.take j) m.ai gk gr/\Below (w.1.size+1) W0 wr/\Below wr.1.size wr (wr.alloc (.cells #[vI (atR m.h j).kind,vI (atR m.h j).tx,vI (atR m.h j).b,.slice a1 (atR m.h j).ag.length p1] 148)).drew/\(wr.alloc (.cells #[vI (atR m.h j).kind,vI (atR m.h j).tx,vI (atR m.h j).b,.slice a1 (atR m.h j).ag.length p1] 148)).drew.1.size=wr.1.size+1/\m.h[j]?=some (atR m.h j)):=⟨iR,lI,bC,bX,sX,rC⟩
      have Am:=iR.pX;clear iR lI bC oM h1 hr gy jJ bX sX rC h6;go_wp2_with fail;refine bL 9 (fun X:World=>X.cell? ⟨p,0,none⟩=some (.slice ar j cr)/\X.cell? ⟨wr.1.size,0,none⟩=some (vI (atR m.h j).kind)/\X.cell? ⟨wr.1.size,1,none⟩=some (vI (atR m.h j).tx)/\X.cell? ⟨wr.1.size,2,none⟩=some (vI (atR m.h j).b)/\X.cell? ⟨wr.1.size,3,none⟩=some (.slice a1 (atR m.h j).ag.length p1)) (by kernel_rfl) ?_;generalize Sm:(wr.alloc (.cells #[vI (atR m.h j).kind,vI (atR m.h j).tx,vI (atR m.h j).b,.slice a1 (atR m.h j).ag.length p1] 148)).drew=X at *;clear Sm;refine eQ 0 ?_ rfl ?_ dW ?_;rotate_left
      ·(intro w aG;go_simp;first|done|with_reducible rfl|exact aG.1|exact aG.2.1|exact aG.2.2.1|exact aG.2.2.2.1|exact aG.2.2.2.2)
      simp only[Act.put];refine eQ 1 ?_ rfl ?_ dW ?_;rotate_left
      ·(intro w aG;go_simp;first|done|with_reducible rfl|exact aG.1|exact aG.2.1|exact aG.2.2.1|exact aG.2.2.2.1|exact aG.2.2.2.2)
      simp only[Act.put];refine eQ 2 ?_ rfl ?_ dW ?_;rotate_left
      ·(intro w aG;go_simp;first|done|with_reducible rfl|exact aG.1|exact aG.2.1|exact aG.2.2.1|exact aG.2.2.2.1|exact aG.2.2.2.2)
      simp only[Act.put];refine eQ 3 ?_ rfl ?_ dW ?_;rotate_left
      ·(intro w aG;go_simp;first|done|with_reducible rfl|exact aG.1|exact aG.2.1|exact aG.2.2.1|exact aG.2.2.2.1|exact aG.2.2.2.2)
      simp only[Act.put];refine dX 4 rfl (fun K hK=>?_);go_simp;refine hc.mono ?_;clear hc;rintro e X2 ⟨q,cp,rfl,Gz,M5,M6,M7,b2⟩;obtain⟨iR,lI,bC,bX,sX,rC⟩:=KH.out;have l6:Below wr.1.size wr X2:=bX.trans (b2.mono bX.size);have MS:wr.1.size<X.1.size:=by omega
      have iD:(fun X:World=>X.cell? ⟨p,0,none⟩=some (.slice ar j cr)/\X.cell? ⟨wr.1.size,0,none⟩=some (vI (atR m.h j).kind)/\X.cell? ⟨wr.1.size,1,none⟩=some (vI (atR m.h j).tx)/\X.cell? ⟨wr.1.size,2,none⟩=some (vI (atR m.h j).b)/\X.cell? ⟨wr.1.size,3,none⟩=some (.slice a1 (atR m.h j).ag.length p1)) X2:=⟨(l6.cell (p:=⟨p,0,none⟩) Am).trans iR.o0,(b2.cell (p:=⟨wr.1.size,0,none⟩) MS).trans dW.2.1,(b2.cell (p:=⟨wr.1.size,1,none⟩) MS).trans dW.2.2.1,(b2.cell (p:=⟨wr.1.size,2,none⟩) MS).trans dW.2.2.2.1,(b2.cell (p:=⟨wr.1.size,3,none⟩) MS).trans dW.2.2.2.2⟩
      have b3:Below X2.1.size X2 (X2.alloc (.cells #[vI (atR m.h j).kind,vI (atR m.h j).tx,vI (atR m.h j).b,.slice (some ⟨q,0,none⟩) (atR m.h j).ag.length cp] 148)):=aJ.alloc aR _;have s3:(X2.alloc (.cells #[vI (atR m.h j).kind,vI (atR m.h j).tx,vI (atR m.h j).b,.slice (some ⟨q,0,none⟩) (atR m.h j).ag.length cp] 148)).1.size=X2.1.size+1:=by simp
      have nR:Below wr.1.size wr (X2.alloc (.cells #[vI (atR m.h j).kind,vI (atR m.h j).tx,vI (atR m.h j).b,.slice (some ⟨q,0,none⟩) (atR m.h j).ag.length cp] 148)):=l6.trans (b3.mono l6.size);have iM:wr.1.size<X2.1.size:=by have:=b2.size;omega
      have jo:(fun X:World=>X.cell? ⟨p,0,none⟩=some (.slice ar j cr)/\X.cell? ⟨wr.1.size,0,none⟩=some (vI (atR m.h j).kind)/\X.cell? ⟨wr.1.size,1,none⟩=some (vI (atR m.h j).tx)/\X.cell? ⟨wr.1.size,2,none⟩=some (vI (atR m.h j).b)/\X.cell? ⟨wr.1.size,3,none⟩=some (.slice a1 (atR m.h j).ag.length p1)) (X2.alloc (.cells #[vI (atR m.h j).kind,vI (atR m.h j).tx,vI (atR m.h j).b,.slice (some ⟨q,0,none⟩) (atR m.h j).ag.length cp] 148)):=⟨(nR.cell (p:=⟨p,0,none⟩) Am).trans iR.o0,(b3.cell (p:=⟨wr.1.size,0,none⟩) iM).trans iD.2.1,(b3.cell (p:=⟨wr.1.size,1,none⟩) iM).trans iD.2.2.1,(b3.cell (p:=⟨wr.1.size,2,none⟩) iM).trans iD.2.2.2.1,(b3.cell (p:=⟨wr.1.size,3,none⟩) iM).trans iD.2.2.2.2⟩
      obtain⟨v',Y,hr,lJ,iT,Gy⟩:=lI.Rq nR (by have:=iR.pl;omega) Am (atR m.h j) q cp X2.1.size (by simp;omega) 90 (by go_simp) (by go_simp) (by go_simp) (by go_simp) (AtR.aj _ _ _ _ (b3.block q M5) M7) M6 (by omega) (by omega);have EC:m.h.take j++[(atR m.h j)]=m.h.take (j+1):=by rw[List.take_add_one,rC];rfl
      have gL:∀x,wr.1.size<=x\/x=p\/x<w.1.size+2->x<(X2.alloc (.cells #[vI (atR m.h j).kind,vI (atR m.h j).tx,vI (atR m.h j).b,.slice (some ⟨q,0,none⟩) (atR m.h j).ag.length cp] 148)).1.size->Y.1[x]?=(X2.alloc (.cells #[vI (atR m.h j).kind,vI (atR m.h j).tx,vI (atR m.h j).b,.slice (some ⟨q,0,none⟩) (atR m.h j).ag.length cp] 148)).1[x]?:=fun x hx Zz=>iT.block x Zz (fun e=>by have:=Gy x e.symm;omega)
      have VN:=gL wr.1.size (.inl aR) (by omega);have mQ:(fun X:World=>X.cell? ⟨p,0,none⟩=some (.slice ar j cr)/\X.cell? ⟨wr.1.size,0,none⟩=some (vI (atR m.h j).kind)/\X.cell? ⟨wr.1.size,1,none⟩=some (vI (atR m.h j).tx)/\X.cell? ⟨wr.1.size,2,none⟩=some (vI (atR m.h j).b)/\X.cell? ⟨wr.1.size,3,none⟩=some (.slice a1 (atR m.h j).ag.length p1)) Y:=⟨(World.cell?_of_block (a:=⟨p,0,none⟩) (gL p (by omega) (by have:=nR.size;omega))).trans jo.1,(World.cell?_of_block (a:=⟨wr.1.size,0,none⟩) VN).trans jo.2.1,(World.cell?_of_block (a:=⟨wr.1.size,1,none⟩) VN).trans jo.2.2.1,(World.cell?_of_block (a:=⟨wr.1.size,2,none⟩) VN).trans jo.2.2.2.1,(World.cell?_of_block (a:=⟨wr.1.size,3,none⟩) VN).trans jo.2.2.2.2⟩
      have nW:(m.h.take (j+1)).length=j+1:=by rw[List.length_take];omega
      rw[EC,List.length_take,Nat.min_eq_left (by omega)]at lJ;obtain⟨yb,yc,rfl,-⟩:=gZ.own (hd:=oZ) (sz:=4) (fun _=>rfl) lJ.gR (fun e=>by rw[e]at nW;simp at nW);rw[nW]at hr lJ;have nU:B3 w.1.size p m.x Y (.slice ak m.af.length ck) (.slice ar j cr) (.slice a' m.ai.length c'):=(iR.later nR).aQ iT.size (gL (w.1.size+1) (.inr (.inr (by omega))) (by have:=nR.size;have:=iR.pl;omega)) (gL p (.inr (.inl rfl)) (by have:=nR.size;omega));have o0:=nU.o0;have oi:=nU.fo 0
      have KE:Hid (B3 w.1.size p m.x (Y.setCell ⟨p,0,none⟩ (.slice (some ⟨yb,0,none⟩) (j+1) yc)) (.slice ak m.af.length ck) (.slice (some ⟨yb,0,none⟩) (j+1) yc) (.slice a' m.ai.length c')/\MR (w.1.size+2) p (Y.setCell ⟨p,0,none⟩ (.slice (some ⟨yb,0,none⟩) (j+1) yc)) (.slice ak m.af.length ck) (.slice (some ⟨yb,0,none⟩) (j+1) yc) (.slice a' m.ai.length c') m.af (m.h.take (j+1)) m.ai gk (fun i=>if i=j then q else gr i)/\Below (w.1.size+1) W0 (Y.setCell ⟨p,0,none⟩ (.slice (some ⟨yb,0,none⟩) (j+1) yc))):=
       ⟨nU.NZ _,lJ.set,((bC.trans (nR.mono (by have:=iR.pl;omega))).grown iT (by have:=nR.size;have:=iR.pl;omega) (fun x e=>by have:=Gy x e;omega)).setCell (p:=⟨p,0,none⟩) (by show w.1.size+1<=p;have:=iR.pl;omega) _⟩
      refine hK.out _ _ (fun _=>iD) ?_;clear hK K iR lI bC bX sX rC l6 b3 s3 nR iM MS lJ iT Gy EC gL VN nW nU dW b2 Gz M5 M6 M7 KH;refine dX 5 rfl (fun K hK=>?_);go_simp;refine hK.out _ _ (fun _=>jo) ?_;clear hK K iD;refine dX 6 rfl (fun K hK=>?_);refine df _ rfl (.tmp 42) (.tmp 45) 90 rfl _ _ _ _ (by first|rfl|simp[Act.eval,Act.put]) (by first|rfl|simp[Act.eval,Act.put]) hr ?_;refine hK.out _ _ (fun _=>mQ) ?_;clear hK K hr jo;simp only[Act.put];refine dX 7 rfl (fun K hK=>?_);go_simp;refine hK.out _ _ (fun _=>mQ) ?_;clear hK K;refine dX 8 rfl (fun K hK=>?_);go_simp;refine hK.out _ _ (fun _=>mQ) ?_;clear hK K;refine dX 9 rfl (fun K hK=>?_);go_simp;refine hK.out _ _ (fun h=>absurd rfl h) ?_;clear hK K;refine bS (by kernel_rfl) ?_ _;go_wp2;exact⟨⟨j+1,some ⟨yb,0,none⟩,yc,_,by omega,by simp,KE.out.1,KE.out.2.1,KE.out.2.2⟩,by simp[intOf];omega⟩
     ·obtain rfl:j=m.h.length:=by omega
      have ki:decide ((m.h.length:Int)<(m.h.length:Int))=false:=by simp
      rw[List.take_length]at lI;have KF:Hid (MR (w.1.size+2) p wr (.slice ak m.af.length ck) (.slice ar m.h.length cr) (.slice a' m.ai.length c') m.af m.h m.ai gk gr/\Below (w.1.size+1) W0 wr):=⟨lI,bC⟩
      obtain⟨r0,r1,r2,r3,fr,o0,o1,o2,o3,fo,pl,pX⟩:=iR;have f0:=fr 0;have f1:=fr 1;have f2:=fr 2;have f3:=fr 3;clear lI bC O0 c2 hj aN fr fo;go_wp2;refine bodyPost_ret (v:=.agg #[.slice ar m.h.length cr,.bool m.x,.slice ak m.af.length ck,.slice a' m.ai.length c']) (by simp[results,Tryz.results111,go_sem,r0,r1,r2,r3]) rfl ⟨⟨ak,ck,ar,cr,a',c'⟩,p,gk,gr,rfl,?_,?_⟩
      ·refine KF.out.1.aQ (by simp[World.setCell]) (fun x _ hx _=>?_);exact(Below.heap_setCell _ _ _ _ (by show x≠w.1.size+1;omega)).trans ((Below.heap_setCell _ _ _ _ (by show x≠w.1.size+1;omega)).trans ((Below.heap_setCell _ _ _ _ (by show x≠w.1.size+1;omega)).trans (Below.heap_setCell _ _ _ _ (by show x≠w.1.size+1;omega))))
      ·exact((((H.out.2.2.1.trans (KF.out.2.mono (by omega))).setCell (p:=⟨_,_,none⟩) (by simp) _).setCell (p:=⟨_,_,none⟩) (by simp) _).setCell (p:=⟨_,_,none⟩) (by simp) _).setCell (p:=⟨_,_,none⟩) (by simp) _
end
theorem O4.Qe{m:M4}(h:eY m=true):O4 m:=by
 simp only[eY,Bool.and_eq_true,decide_eq_true_eq]at h;obtain⟨⟨⟨⟨⟨h1,h2⟩,h3⟩,_⟩,h4⟩,h5⟩:=h;refine⟨h1,fun c hc=>?_,h2,fun c hc=>?_,h3⟩
 ·obtain⟨i,hi,rfl⟩:=List.getElem_of_mem hc;have:=List.all_eq_true.1 h4 i (List.mem_range.2 hi);simp only[l8,cO,List.getElem?_eq_getElem hi,Option.getD_some,Bool.and_eq_true,fJ,decide_eq_true_eq]at this;exact this.1.2.1
 ·obtain⟨i,hi,rfl⟩:=List.getElem_of_mem hc;have:=List.all_eq_true.1 h5 i (List.mem_range.2 hi);simp only[vO,atR,List.getElem?_eq_getElem hi,Option.getD_some,Bool.and_eq_true,mO,decide_eq_true_eq]at this;exact⟨this.1.1.1.2,this.1.1.2⟩
def ON(w:World)(base:Nat)(v:Value)(zs:List Int):Prop:=w.ownsRow base 2 1 v zs.length (zs.map (Value.int .i64))
theorem ON.empty(w:World):ON (w.alloc (.cells #[] 2)) w.1.size (.slice (some ⟨w.1.size,0,none⟩) 0 0) []:=World.ownsRow_made w #[] 0 aR (Nat.zero_le _) rfl
theorem ON.form{w:World}{base:Nat}{v:Value}{zs:List Int}(h:ON w base v zs):(v=.slice none 0 0/\zs=[])\/∃g cap,v=.slice (some ⟨g,0,none⟩) zs.length cap/\base<=g/\g<w.1.size/\zs.length<=cap/\dV w g 0 zs/\Room w g zs.length:=by
 rcases h.2 with ⟨e,h0⟩|⟨g,cap,cur,rfl,hb,hg,hc,_⟩
 ·exact .inl ⟨e,List.eq_nil_of_length_eq_zero h0⟩
 ·refine .inr ⟨g,cap,rfl,hb,?_,hc,fun i z e=>?_,fun i hi=>?_⟩
  ·exact(World.ownsRow.lt h g rfl).2
  ·have hi:i<zs.length:=(List.getElem?_eq_some_iff.1 e).1;rw[Nat.zero_add,World.ownsRow.cellAt h i (by omega)];rw[List.getElem?_map,e];rfl
  ·refine⟨vI zs[i],?_,World.ownsRow.frozenAt h i⟩;rw[World.ownsRow.cellAt h i (by omega)];simp[hi]
theorem Nj:(Tryz.prog.info? 2).map (fun i=>(i.zero,i.size,i.bytes))=some (some (vI 0),1,8):=by kernel_rfl
theorem Ca(W:World)(base:Nat)(v:Value)(zs ys:List Int)(b off k:Nat)(ty:TypeId)(h:ON W base v zs)(hx:dV W b off ys)(hm:zs.length+ys.length<=100000)(gF:base<=W.1.size):
  ∃v' W',(Builtin.append_ #[74,74] ty #[v,.slice (some ⟨b,off,none⟩) ys.length k]).run Tryz.prog W=.ok v' W'/\ON W' base v' (zs++ys)/\W.grownBy W' v.ownBlock/\(v'.ownBlock=v.ownBlock\/v'.ownBlock=some W.1.size):=by
 obtain⟨i0,qP,rH,lY,nY⟩:=info_parts Nj;have rz:∀(b o j:Nat),(⟨b,o,none⟩:Addr).add j=⟨b,o+j,none⟩:=fun b o j=>by unfold Addr.add;split<;>simp_all
 obtain⟨v',w',jN,fB,hg,_,hl⟩:=run_append_own_at (P:=Tryz.prog) W base 74 ty 2 i0 (vI 0) 1 8 Tryz.underlying74 qP rH lY nY rfl (by decide)
  v zs.length _ h ⟨b,off,none⟩ ys.length k (ys.map (Value.int .i64)) (by simp) (fun j u h=>by
   rw[List.getElem?_map]at h
   cases F9:ys[j]? with
   | none=>rw[F9]at h;cases h
   | some x=>rw[F9]at h;simp at h;subst h;rw[rz];exact hx j x F9)
  (fun u hu=>by obtain⟨x,_,rfl⟩:=List.mem_map.1 hu;rfl) (by unfold maxLen;omega) (by omega) gF
 refine⟨v',w',jN,?_,hg,hl⟩;unfold ON;rw[List.map_append,List.length_append];exact fB
section
variable {X w:World}{k:C6}
structure Ot(k:C6):Prop where
 p:k.f.length<=6
 ps:∀zs∈k.f,0<zs.length/\zs.length<=3
 m:k.aa.length<=8
 ms:∀m∈k.aa,O4 m
 t:k.c.length<=60
 ts:∀t∈k.c,t.a.length<=12/\t.ag.length<=12
theorem Ot.of(h:aD k=true):Ot k:=by
 simp only[aD,dS,iK,qB,Bool.and_eq_true,decide_eq_true_eq]at h;obtain⟨⟨⟨⟨⟨⟨⟨⟨_,_⟩,_⟩,h4⟩,⟨_,h5⟩,h6⟩,h7⟩,h8⟩,_⟩,h9⟩:=h;refine⟨h5,fun zs hz=>?_,h4,fun m hm=>?_,h7,fun t ht=>?_⟩
 ·obtain⟨i,hi,rfl⟩:=List.getElem_of_mem hz;have:=List.all_eq_true.1 h6 i (List.mem_range.2 hi);simp only[dR,List.getElem?_eq_getElem hi,Option.getD_some,dY,Bool.and_eq_true,decide_eq_true_eq]at this;omega
 ·obtain⟨i,hi,rfl⟩:=List.getElem_of_mem hm;have:=List.all_eq_true.1 h8 i (List.mem_range.2 hi);simp only[aS,List.getElem?_eq_getElem hi,Option.getD_some]at this;exact O4.Qe this
 ·obtain⟨i,hi,rfl⟩:=List.getElem_of_mem ht;have:=List.all_eq_true.1 h9 i (List.mem_range.2 hi);simp only[mr,tx.jI,aM,List.getElem?_eq_getElem hi,Option.getD_some,Bool.and_eq_true,decide_eq_true_eq]at this;omega
structure Bt(w:World)(A Z:List Value)(k:C6)(X:World)(vp vm vt:Value)(ps:List ((Nat×Nat)×List Int))(gp:Nat->Nat->Prop)(ms:List (MV×M4))(gm:Nat->Nat->Prop)(ts:List (tx.TV×tx.T7))(gt:Nat->Nat->Prop):Prop where
 arg:Bx X w.1.size A
 res:Bx X (w.1.size+1) Z
 own:Bx X (w.1.size+2) [vI k.u,vI k.l,vp,vm,vt,.bool k.w]
 rows:su (w.1.size+3) (w.1.size+2) X vp vm vt ps gp ms gm ts gt
 sP:Below w.1.size w X
theorem Bt.later{A Z:List Value}{Y:World}{vp vm vt:Value}{ps:List ((Nat×Nat)×List Int)}{gp:Nat->Nat->Prop}{ms:List (MV×M4)}{gm:Nat->Nat->Prop}{ts:List (tx.TV×tx.T7)}{gt:Nat->Nat->Prop}(h:Bt w A Z k X vp vm vt ps gp ms gm ts gt)(b:Below X.1.size X Y):Bt w A Z k Y vp vm vt ps gp ms gm ts gt:=⟨h.arg.later b,h.res.later b,h.own.later b,h.rows.later b,ay h.sP b⟩
theorem Bt.Ju{w:World}{A Z:List Value}{k:C6}{X W:World}{vp vm vt:Value}{ps:List ((Nat×Nat)×List Int)}{gp:Nat->Nat->Prop}{ms:List (MV×M4)}{gm:Nat->Nat->Prop}{ts:List (tx.TV×tx.T7)}{gt:Nat->Nat->Prop}(h:Bt w A Z k X vp vm vt ps gp ms gm ts gt)(hb:Below X.1.size X W)(x:Nat×Nat)(d:List Int)(Q:Nat->Prop)(e:Nat)(hm:ps.length<=1000)(ty:TypeId)(he:∀j u,(Ag.cells x d)[j]?=some u->W.cell? ⟨e,j,none⟩=some u)(ho:Ag.Ow W X.1.size x d Q):
  ∃v' Y,(Builtin.append_ #[28,28] ty #[vp,.slice (some ⟨e,0,none⟩) 1 1]).run Tryz.prog W=.ok v' Y/\Bt w A Z k (Y.setCell ⟨w.1.size+2,2,none⟩ v') v' vm vt (ps++[(x,d)]) (fun i=>if i=ps.length then Q else gp i) ms gm ts gt/\Bx Y (w.1.size+2) [vI k.u,vI k.l,vp,vm,vt,.bool k.w]/\(∀q,q<w.1.size+3\/(X.1.size<=q/\q<W.1.size)->Y.1[q]?=W.1[q]?)/\W.1.size<=Y.1.size/\(∃a' c',v'=.slice a' (ps.length+1) c'):=by
 have dQ:w.1.size+2<X.1.size:=h.own.2.2;obtain⟨v',Y,hr,hc,hg,hv⟩:=h.rows.Ju hb (by omega) dQ x d Q e hm ty he ho;have MQ:=hb.size;have dZ:∀q,q<w.1.size+3\/(X.1.size<=q/\q<W.1.size)->Y.1[q]?=W.1[q]?:=fun q hq=>hg.block q (by omega) (fun e'=>by have:=hv q e'.symm;omega)
 have hW:=h.later hb;have o':Bx Y (w.1.size+2) [vI k.u,vI k.l,vp,vm,vt,.bool k.w]:=hW.own.aj (dZ _ (by omega)) hg.size;have bY:Below w.1.size w Y:=hW.sP.grown hg (by omega) (fun q hq=>by have:=hv q hq;omega);refine⟨v',Y,hr,⟨(hW.arg.aj (dZ _ (by omega)) hg.size).dZ (by omega) _,(hW.res.aj (dZ _ (by omega)) hg.size).dZ (by omega) _,?_,hc.set,bY.setCell (p:=⟨w.1.size+2,2,none⟩) (by show w.1.size<=w.1.size+2;omega) _⟩,o',dZ,hg.size,?_⟩
 ·exact o'.set (by simp) v'
 ·obtain⟨a',c',e'⟩:=hc.P.form;exact⟨a',c',by rw[e'];simp⟩
theorem Bt.Jt{w:World}{A Z:List Value}{k:C6}{X W:World}{vp vm vt:Value}{ps:List ((Nat×Nat)×List Int)}{gp:Nat->Nat->Prop}{ms:List (MV×M4)}{gm:Nat->Nat->Prop}{ts:List (tx.TV×tx.T7)}{gt:Nat->Nat->Prop}(h:Bt w A Z k X vp vm vt ps gp ms gm ts gt)(hb:Below X.1.size X W)(x:MV)(d:M4)(Q:Nat->Prop)(e:Nat)(hm:ms.length<=1000)(ty:TypeId)(he:∀j u,(fZ.cells x d)[j]?=some u->W.cell? ⟨e,j,none⟩=some u)(ho:fZ.Ow W X.1.size x d Q):
  ∃v' Y,(Builtin.append_ #[29,29] ty #[vm,.slice (some ⟨e,0,none⟩) 1 1]).run Tryz.prog W=.ok v' Y/\Bt w A Z k (Y.setCell ⟨w.1.size+2,3,none⟩ v') vp v' vt ps gp (ms++[(x,d)]) (fun i=>if i=ms.length then Q else gm i) ts gt/\Bx Y (w.1.size+2) [vI k.u,vI k.l,vp,vm,vt,.bool k.w]/\(∀q,q<w.1.size+3\/(X.1.size<=q/\q<W.1.size)->Y.1[q]?=W.1[q]?)/\W.1.size<=Y.1.size/\(∃a' c',v'=.slice a' (ms.length+1) c'):=by
 have dQ:w.1.size+2<X.1.size:=h.own.2.2;obtain⟨v',Y,hr,hc,hg,hv⟩:=h.rows.Jt hb (by omega) dQ x d Q e hm ty he ho;have MQ:=hb.size;have dZ:∀q,q<w.1.size+3\/(X.1.size<=q/\q<W.1.size)->Y.1[q]?=W.1[q]?:=fun q hq=>hg.block q (by omega) (fun e'=>by have:=hv q e'.symm;omega)
 have hW:=h.later hb;have o':Bx Y (w.1.size+2) [vI k.u,vI k.l,vp,vm,vt,.bool k.w]:=hW.own.aj (dZ _ (by omega)) hg.size;have bY:Below w.1.size w Y:=hW.sP.grown hg (by omega) (fun q hq=>by have:=hv q hq;omega);refine⟨v',Y,hr,⟨(hW.arg.aj (dZ _ (by omega)) hg.size).dZ (by omega) _,(hW.res.aj (dZ _ (by omega)) hg.size).dZ (by omega) _,?_,hc.set,bY.setCell (p:=⟨w.1.size+2,3,none⟩) (by show w.1.size<=w.1.size+2;omega) _⟩,o',dZ,hg.size,?_⟩
 ·exact o'.set (by simp) v'
 ·obtain⟨a',c',e'⟩:=hc.M.form;exact⟨a',c',by rw[e'];simp⟩
theorem Bt.Jv{w:World}{A Z:List Value}{k:C6}{X W:World}{vp vm vt:Value}{ps:List ((Nat×Nat)×List Int)}{gp:Nat->Nat->Prop}{ms:List (MV×M4)}{gm:Nat->Nat->Prop}{ts:List (tx.TV×tx.T7)}{gt:Nat->Nat->Prop}(h:Bt w A Z k X vp vm vt ps gp ms gm ts gt)(hb:Below X.1.size X W)(x:tx.TV)(d:tx.T7)(Q:Nat->Prop)(e:Nat)(hm:ts.length<=1000)(ty:TypeId)(he:∀j u,(fQ.cells x d)[j]?=some u->W.cell? ⟨e,j,none⟩=some u)(ho:fQ.Ow W X.1.size x d Q):
  ∃v' Y,(Builtin.append_ #[30,30] ty #[vt,.slice (some ⟨e,0,none⟩) 1 1]).run Tryz.prog W=.ok v' Y/\Bt w A Z k (Y.setCell ⟨w.1.size+2,4,none⟩ v') vp vm v' ps gp ms gm (ts++[(x,d)]) (fun i=>if i=ts.length then Q else gt i)/\Bx Y (w.1.size+2) [vI k.u,vI k.l,vp,vm,vt,.bool k.w]/\(∀q,q<w.1.size+3\/(X.1.size<=q/\q<W.1.size)->Y.1[q]?=W.1[q]?)/\W.1.size<=Y.1.size/\(∃a' c',v'=.slice a' (ts.length+1) c'):=by
 have dQ:w.1.size+2<X.1.size:=h.own.2.2;obtain⟨v',Y,hr,hc,hg,hv⟩:=h.rows.Jv hb (by omega) dQ x d Q e hm ty he ho;have MQ:=hb.size;have dZ:∀q,q<w.1.size+3\/(X.1.size<=q/\q<W.1.size)->Y.1[q]?=W.1[q]?:=fun q hq=>hg.block q (by omega) (fun e'=>by have:=hv q e'.symm;omega)
 have hW:=h.later hb;have o':Bx Y (w.1.size+2) [vI k.u,vI k.l,vp,vm,vt,.bool k.w]:=hW.own.aj (dZ _ (by omega)) hg.size;have bY:Below w.1.size w Y:=hW.sP.grown hg (by omega) (fun q hq=>by have:=hv q hq;omega);refine⟨v',Y,hr,⟨(hW.arg.aj (dZ _ (by omega)) hg.size).dZ (by omega) _,(hW.res.aj (dZ _ (by omega)) hg.size).dZ (by omega) _,?_,hc.set,bY.setCell (p:=⟨w.1.size+2,4,none⟩) (by show w.1.size<=w.1.size+2;omega) _⟩,o',dZ,hg.size,?_⟩
 ·exact o'.set (by simp) v'
 ·obtain⟨a',c',e'⟩:=hc.T.form;exact⟨a',c',by rw[e'];simp⟩
def QD(w:World)(k:C6)(e:Ending)(w':World):Prop:=∃(a1:Option Addr) (c1:Nat) (a2:Option Addr) (c2:Nat) (a3:Option Addr) (c3:Nat) (ps:List ((Nat×Nat)×List Int)) (gp:Nat->Nat->Prop) (ms:List (MV×M4)) (gm:Nat->Nat->Prop) (ts:List (tx.TV×tx.T7)) (gt:Nat->Nat->Prop),e=.returned (.agg #[vI k.u,vI k.l,.slice a1 k.f.length c1,.slice a2 k.aa.length c2,.slice a3 k.c.length c3,.bool k.w])/\su (w.1.size+3) (w.1.size+2) w' (.slice a1 k.f.length c1) (.slice a2 k.aa.length c2) (.slice a3 k.c.length c3) ps gp ms gm ts gt/\ps.map (·.2)=k.f/\ms.map (·.2)=k.aa/\ts.map (·.2)=k.c/\Below w.1.size w w'
theorem lC{α:Type}{l:List α}{j:Nat}{x:α}(h:l[j]?=some x):l.take j++[x]=l.take (j+1):=by rw[List.take_add_one,h];rfl
theorem MR.ow{base p:Nat}{u:MV}{m:M4}{gk gr:Nat->Nat}(h:MR base p X (.slice u.ac m.af.length u.cc) (.slice u.al m.h.length u.cl) (.slice u.ad m.ai.length u.cd) m.af m.h m.ai gk gr):∃P,fZ.Ow X base u m P:=by
 refine⟨_,KM.of (h.om (v:=u)) (fun q hq=>?_)⟩;rcases hq with hq|hq|hq
 ·exact(h.gK.blocks hq).2
 ·exact(h.gR.blocks hq).2
 ·exact(World.ownsRow.lt h.gD q hq).2
theorem ON.kp{B q cp:Nat}{zs:List Int}(h:ON w B (.slice (some ⟨q,0,none⟩) zs.length cp) zs):Ag.Ow w B (q,cp) zs (fun x=>x=q):=by
 rcases h.form with ⟨e,_⟩|⟨g,cap,e,h1,h2,h3,h4,h5⟩
 ·cases e
 ·cases e;exact⟨⟨rfl,h4,h5,h3⟩,fun x hx=>by subst hx;exact⟨h1,h2⟩⟩
end
section
variable {X:World}{alive:Bool}{p s:Nat}{vd vk vr:Value}{zs:List Int}
structure C3(s p:Nat)(alive:Bool)(X:World)(vk vr vd:Value):Prop where
 r0:X.cell? ⟨s+1,0,none⟩=some (.bool false)
 r1:X.cell? ⟨s+1,1,none⟩=some (.slice none 0 0)
 r2:X.cell? ⟨s+1,2,none⟩=some (.slice none 0 0)
 r3:X.cell? ⟨s+1,3,none⟩=some (.slice none 0 0)
 fr:∀j,X.frozen? ⟨s+1,j,none⟩=false
 o0:X.cell? ⟨p,0,none⟩=some (.bool alive)
 o1:X.cell? ⟨p,1,none⟩=some vk
 o2:X.cell? ⟨p,2,none⟩=some vr
 o3:X.cell? ⟨p,3,none⟩=some vd
 fo:∀j,X.frozen? ⟨p,j,none⟩=false
 pl:s+2<=p
 pX:p<X.1.size
theorem C3.aQ{Y:World}(h:C3 s p alive X vk vr vd)(hs:X.1.size<=Y.1.size)(er:Y.1[s+1]?=X.1[s+1]?)(ep:Y.1[p]?=X.1[p]?):C3 s p alive Y vk vr vd:=by
 have c:∀{b j:Nat}{u:Value},Y.1[b]?=X.1[b]?->X.cell? ⟨b,j,none⟩=some u->Y.cell? ⟨b,j,none⟩=some u:=fun {b j u} e h=>(World.cell?_of_block (a:=⟨b,j,none⟩) e).trans h
 exact⟨c er h.r0,c er h.r1,c er h.r2,c er h.r3,fun j=>(World.frozen?_of_block (a:=⟨s+1,j,none⟩) er).trans (h.fr j),c ep h.o0,c ep h.o1,c ep h.o2,c ep h.o3,fun j=>(World.frozen?_of_block (a:=⟨p,j,none⟩) ep).trans (h.fo j),h.pl,Nat.lt_of_lt_of_le h.pX hs⟩
theorem C3.Ui(h:C3 s p alive X vk vr vd)(u:Value):C3 s p alive (X.setCell ⟨p,1,none⟩ u) u vr vd:=
 have hp:=h.pl;have dZ:∀j,(X.setCell ⟨p,1,none⟩ u).cell? ⟨s+1,j,none⟩=X.cell? ⟨s+1,j,none⟩:=fun j=>aI (by show p≠s+1;omega) u
 ⟨(dZ 0).trans h.r0,(dZ 1).trans h.r1,(dZ 2).trans h.r2,(dZ 3).trans h.r3,fun j=>by rw[World.frozen?_setCell];exact h.fr j,(ae (by omega)).trans h.o0,az h.o1,(ae (by omega)).trans h.o2,(ae (by omega)).trans h.o3,fun j=>by rw[World.frozen?_setCell];exact h.fo j,h.pl,by simpa[World.setCell]using h.pX⟩
theorem C3.NZ(h:C3 s p alive X vk vr vd)(u:Value):C3 s p alive (X.setCell ⟨p,2,none⟩ u) vk u vd:=
 have hp:=h.pl;have dZ:∀j,(X.setCell ⟨p,2,none⟩ u).cell? ⟨s+1,j,none⟩=X.cell? ⟨s+1,j,none⟩:=fun j=>aI (by show p≠s+1;omega) u
 ⟨(dZ 0).trans h.r0,(dZ 1).trans h.r1,(dZ 2).trans h.r2,(dZ 3).trans h.r3,fun j=>by rw[World.frozen?_setCell];exact h.fr j,(ae (by omega)).trans h.o0,(ae (by omega)).trans h.o1,az h.o2,(ae (by omega)).trans h.o3,fun j=>by rw[World.frozen?_setCell];exact h.fo j,h.pl,by simpa[World.setCell]using h.pX⟩
theorem nO{r:Nat}(h:X.1[r]?=some (.cells #[.bool false,.slice none 0 0,.slice none 0 0,.slice none 0 0] 92 (0,0))):
  X.cell? ⟨r,0,none⟩=some (.bool false)/\X.cell? ⟨r,1,none⟩=some (.slice none 0 0)/\X.cell? ⟨r,2,none⟩=some (.slice none 0 0)/\X.cell? ⟨r,3,none⟩=some (.slice none 0 0)/\∀j,X.frozen? ⟨r,j,none⟩=false:=
 ⟨by rw[cell_of_row X r 0 _ _ _ h];rfl,by rw[cell_of_row X r 1 _ _ _ h];rfl,by rw[cell_of_row X r 2 _ _ _ h];rfl,by rw[cell_of_row X r 3 _ _ _ h];rfl,fun j=>frozen_of_row X r j _ _ h⟩
theorem rY{q base:Nat}(h:X.1[q]?=some (.cells #[] 2 (0,0)))(hb:base<=q):X.ownsRow base 2 1 (.slice (some ⟨q,0,none⟩) 0 0) 0 []:=
 ⟨by simp,.inr ⟨q,0,#[],rfl,hb,h,Nat.le_refl _,Nat.zero_le _,by simp,by simp⟩⟩
theorem ME(hX:s+2<=X.1.size)(hr:X.1[s+1]?=some (.cells #[.bool false,.slice none 0 0,.slice none 0 0,.slice none 0 0] 92 (0,0)))(hd:X.ownsRow (s+2) 2 1 vd zs.length (zs.map (Value.int .i64))):
  C3 s X.1.size alive (X.alloc (.cells #[.bool alive,.slice none 0 0,.slice none 0 0,vd] 92)) (.slice none 0 0) (.slice none 0 0) vd/\MR (s+2) X.1.size (X.alloc (.cells #[.bool alive,.slice none 0 0,.slice none 0 0,vd] 92)) (.slice none 0 0) (.slice none 0 0) vd [] [] zs gz gz:=by
 have bA:Below X.1.size X (X.alloc (.cells #[.bool alive,.slice none 0 0,.slice none 0 0,vd] 92)):=aJ.alloc aR _;obtain⟨z0,z1,z2,z3,zf⟩:=nO ((bA.block (s+1) (by omega)).trans hr);refine⟨⟨z0,z1,z2,z3,zf,by go_simp,by go_simp,by go_simp,by go_simp,by intro j;go_simp,hX,by simp⟩,MR.start ?_ (fun e=>by have:=(World.ownsRow.lt hd _ e).2;omega)⟩;refine⟨hd.1,hd.2.imp id ?_⟩;rintro ⟨q,cap,cur,rfl,l,hg,r⟩;exact⟨q,cap,cur,rfl,l,(bA.block q (World.ownsRow.lt hd q rfl).2).trans hg,r⟩
theorem Ej(hp:s+2<=p)(QX:p<X.1.size)(hr:X.1[s+1]?=some (.cells #[.bool false,.slice none 0 0,.slice none 0 0,.slice none 0 0] 92 (0,0)))(hz:X.1[p]?=some (.cells #[.bool false,.slice none 0 0,.slice none 0 0,.slice none 0 0] 92 (0,0)))(hd:X.ownsRow (s+2) 2 1 vd zs.length (zs.map (Value.int .i64)))(fF:vd.ownBlock≠some p):
  C3 s p alive ((((X.setCell ⟨p,0,none⟩ (.bool alive)).setCell ⟨p,1,none⟩ (.slice none 0 0)).setCell ⟨p,2,none⟩ (.slice none 0 0)).setCell ⟨p,3,none⟩ vd) (.slice none 0 0) (.slice none 0 0) vd/\MR (s+2) p ((((X.setCell ⟨p,0,none⟩ (.bool alive)).setCell ⟨p,1,none⟩ (.slice none 0 0)).setCell ⟨p,2,none⟩ (.slice none 0 0)).setCell ⟨p,3,none⟩ vd) (.slice none 0 0) (.slice none 0 0) vd [] [] zs gz gz:=by
 obtain⟨z0,z1,z2,z3,zf⟩:=nO hr;obtain⟨y0,y1,y2,y3,yf⟩:=nO hz
 have f:∀j,((((X.setCell ⟨p,0,none⟩ (.bool alive)).setCell ⟨p,1,none⟩ (.slice none 0 0)).setCell ⟨p,2,none⟩ (.slice none 0 0)).setCell ⟨p,3,none⟩ vd).cell? ⟨s+1,j,none⟩=X.cell? ⟨s+1,j,none⟩:=fun j=>by
  rw[aI (by show p≠s+1;omega),aI (by show p≠s+1;omega),aI (by show p≠s+1;omega),aI (by show p≠s+1;omega)]
 refine⟨⟨(f 0).trans z0,(f 1).trans z1,(f 2).trans z2,(f 3).trans z3,fun j=>by simp only[World.frozen?_setCell];exact zf j,?_,?_,?_,?_,fun j=>by simp only[World.frozen?_setCell];exact yf j,hp,by simpa[World.setCell]using QX⟩,(((MR.start hd fF).set.set).set).set⟩
 ·rw[ae (by omega),ae (by omega),ae (by omega)];exact az y0
 ·rw[ae (by omega),ae (by omega)];exact az (by rw[ae (by omega)];exact y1)
 ·rw[ae (by omega)];exact az (by rw[ae (by omega),ae (by omega)];exact y2)
 ·exact az (by rw[ae (by omega),ae (by omega),ae (by omega)];exact y3)
end
theorem JU(w:World)(p:Nat)(alive:Bool)(al:Option Addr)(nl cl:Nat)(ac:Option Addr)(nc cc:Nat)(ad:Option Addr)(nd cd:Nat)(h0:w.cell? ⟨p,0,none⟩=some (.slice al nl cl))(h1:w.cell? ⟨p,1,none⟩=some (.bool alive))(h2:w.cell? ⟨p,2,none⟩=some (.slice ac nc cc))(h3:w.cell? ⟨p,3,none⟩=some (.slice ad nd cd))(hp:p<w.1.size):
  Calls Tryz.prog 112 #[.pointer (some ⟨p,0,none⟩)] w fun e w'=>e=.returned (.agg #[.bool alive,.slice ac nc cc,.slice al nl cl,.slice ad nd cd])/\Below w.1.size w w':=by
 obtain⟨W,hW⟩:∃W,W=(w.alloc (.cells #[.bool false,.slice none 0 0,.slice none 0 0,.slice none 0 0] 92)).drew:=⟨_,rfl⟩
 have bW:Below w.1.size w W:=by subst hW;exact(aJ.alloc aR _).drew
 have hS:(fun X:World=>X.cell? ⟨p,0,none⟩=some (.slice al nl cl)/\X.cell? ⟨p,1,none⟩=some (.bool alive)/\X.cell? ⟨p,2,none⟩=some (.slice ac nc cc)/\X.cell? ⟨p,3,none⟩=some (.slice ad nd cd)) W:=⟨(bW.cell (p:=⟨p,0,none⟩) hp).trans h0,(bW.cell (p:=⟨p,1,none⟩) hp).trans h1,(bW.cell (p:=⟨p,2,none⟩) hp).trans h2,(bW.cell (p:=⟨p,3,none⟩) hp).trans h3⟩
 have hz:W.1[w.1.size]?=some (.cells #[.bool false,.slice none 0 0,.slice none 0 0,.slice none 0 0] 92 (0,0)):=by subst hW;exact heap_alloc_new w _
 obtain⟨z0,z1,z2,z3,zf⟩:=nO hz;have f0:=zf 0;have f1:=zf 1;have f2:=zf 2;have f3:=zf 3;have KB:=aB bW;clear bW h0 h1 h2 h3 zf hz;go_enter Tryz.func112,Tryz.ntmps112;go_wp2_with fail;refine bL 18 (fun X:World=>X.cell? ⟨p,0,none⟩=some (.slice al nl cl)/\X.cell? ⟨p,1,none⟩=some (.bool alive)/\X.cell? ⟨p,2,none⟩=some (.slice ac nc cc)/\X.cell? ⟨p,3,none⟩=some (.slice ad nd cd)) (by kernel_rfl) ?_;rw[<-hW];clear hW;refine eQ 0 ?_ rfl ?_ hS ?_;rotate_left
 ·(intro w aG;obtain⟨gX,gY,iy,iA⟩:=aG;go_simp;first|done|with_reducible rfl|exact gX|exact gY|exact iy|exact iA)
 simp only[Act.put];refine eQ 1 ?_ rfl ?_ hS ?_;rotate_left
 ·(intro w aG;obtain⟨gX,gY,iy,iA⟩:=aG;go_simp;first|done|with_reducible rfl|exact gX|exact gY|exact iy|exact iA)
 simp only[Act.put];refine eQ 2 ?_ rfl ?_ hS ?_;rotate_left
 ·(intro w aG;obtain⟨gX,gY,iy,iA⟩:=aG;go_simp;first|done|with_reducible rfl|exact gX|exact gY|exact iy|exact iA)
 simp only[Act.put];refine eQ 3 ?_ rfl ?_ hS ?_;rotate_left
 ·(intro w aG;obtain⟨gX,gY,iy,iA⟩:=aG;go_simp;first|done|with_reducible rfl|exact gX|exact gY|exact iy|exact iA)
 simp only[Act.put];refine eQ 4 ?_ rfl ?_ hS ?_;rotate_left
 ·(intro w aG;obtain⟨gX,gY,iy,iA⟩:=aG;go_simp;first|done|with_reducible rfl|exact gX|exact gY|exact iy|exact iA)
 simp only[Act.put];refine eQ 5 ?_ rfl ?_ hS ?_;rotate_left
 ·(intro w aG;obtain⟨gX,gY,iy,iA⟩:=aG;go_simp;first|done|with_reducible rfl|exact gX|exact gY|exact iy|exact iA)
 simp only[Act.put];refine eQ 6 ?_ rfl ?_ hS ?_;rotate_left
 ·(intro w aG;obtain⟨gX,gY,iy,iA⟩:=aG;go_simp;first|done|with_reducible rfl|exact gX|exact gY|exact iy|exact iA)
 simp only[Act.put];refine eQ 7 ?_ rfl ?_ hS ?_;rotate_left
 ·(intro w aG;obtain⟨gX,gY,iy,iA⟩:=aG;go_simp;first|done|with_reducible rfl|exact gX|exact gY|exact iy|exact iA)
 simp only[Act.put];refine eQ 8 ?_ rfl ?_ hS ?_;rotate_left
 ·(intro w aG;obtain⟨gX,gY,iy,iA⟩:=aG;go_simp;first|done|with_reducible rfl|exact gX|exact gY|exact iy|exact iA)
 simp only[Act.put];refine eQ 9 ?_ rfl ?_ hS ?_;rotate_left
 ·(intro w aG;obtain⟨gX,gY,iy,iA⟩:=aG;go_simp;first|done|with_reducible rfl|exact gX|exact gY|exact iy|exact iA)
 simp only[Act.put];refine eQ 10 ?_ rfl ?_ hS ?_;rotate_left
 ·(intro w aG;obtain⟨gX,gY,iy,iA⟩:=aG;go_simp;first|done|with_reducible rfl|exact gX|exact gY|exact iy|exact iA)
 simp only[Act.put];refine eQ 11 ?_ rfl ?_ hS ?_;rotate_left
 ·(intro w aG;obtain⟨gX,gY,iy,iA⟩:=aG;go_simp;first|done|with_reducible rfl|exact gX|exact gY|exact iy|exact iA)
 simp only[Act.put];refine eQ 12 ?_ rfl ?_ hS ?_;rotate_left
 ·(intro w aG;obtain⟨gX,gY,iy,iA⟩:=aG;go_simp;first|done|with_reducible rfl|exact gX|exact gY|exact iy|exact iA)
 simp only[Act.put];refine eQ 13 ?_ rfl ?_ hS ?_;rotate_left
 ·(intro w aG;obtain⟨gX,gY,iy,iA⟩:=aG;go_simp;first|done|with_reducible rfl|exact gX|exact gY|exact iy|exact iA)
 simp only[Act.put];refine eQ 14 ?_ rfl ?_ hS ?_;rotate_left
 ·(intro w aG;obtain⟨gX,gY,iy,iA⟩:=aG;go_simp;first|done|with_reducible rfl|exact gX|exact gY|exact iy|exact iA)
 simp only[Act.put];refine eQ 15 ?_ rfl ?_ hS ?_;rotate_left
 ·(intro w aG;obtain⟨gX,gY,iy,iA⟩:=aG;go_simp;first|done|with_reducible rfl|exact gX|exact gY|exact iy|exact iA)
 simp only[Act.put];refine eQ 16 ?_ rfl ?_ hS ?_;rotate_left
 ·(intro w aG;obtain⟨gX,gY,iy,iA⟩:=aG;go_simp;first|done|with_reducible rfl|exact gX|exact gY|exact iy|exact iA)
 simp only[Act.put];refine eQ 17 ?_ rfl ?_ hS ?_;rotate_left
 ·(intro w aG;obtain⟨gX,gY,iy,iA⟩:=aG;go_simp;first|done|with_reducible rfl|exact gX|exact gY|exact iy|exact iA)
 simp only[Act.put];refine dX 18 rfl (fun K hK=>?_);go_simp;refine hK.out _ _ (fun h=>absurd rfl h) ?_;clear hK K;refine bS (by kernel_rfl) ?_ _;go_wp2;refine bodyPost_ret (v:=.agg #[.bool alive,.slice ac nc cc,.slice al nl cl,.slice ad nd cd]) (by simp[results,Tryz.results112,go_sem,z0,z1,z2,z3]) rfl ⟨rfl,?_⟩;exact(((KB.out.setCell (p:=⟨_,_,none⟩) (by simp) _).setCell (p:=⟨_,_,none⟩) (by simp) _).setCell (p:=⟨_,_,none⟩) (by simp) _).setCell (p:=⟨_,_,none⟩) (by simp) _
namespace tx
variable {B g n:Nat}{P:Program}{vs:List Value}{w:World}{z:Value}
def S5.cells(s:S5):List Value:=[vI s.b,vI s.e,vI s.g,.bool s.i,vI s.j]
def N5.cells(s:N5):List Value:=[vI s.b,vI s.e,vI s.j,vI s.g,.bool s.i]
theorem partsOf{t:TypeId}{s b:Nat}(h:(P.info? t).map (fun i=>(i.zero,i.size,i.bytes))=some (some z,s,b)):∃i,P.info? t=some i/\i.zero=some z/\i.size=s/\i.bytes=b:=by
 obtain⟨i,hi,mR⟩:=Option.map_eq_some_iff.1 h;simp only[Prod.mk.injEq]at mR;exact⟨i,hi,mR.1,mR.2.1,mR.2.2⟩
theorem iZ{β:Type}{f:β->List Value}{sz:Nat}:∀{l:List β} (_:∀x∈l,(f x).length=sz){i t:Nat}{x:β},l[i]?=some x->t<sz->(l.flatMap f)[i*sz+t]?=(f x)[t]?
 | [],_,i,t,x,h,_=>by simp at h
 | y::l,hf,0,t,x,h,ht=>by
  simp at h;subst h;rw[List.flatMap_cons,List.getElem?_append_left (by rw[hf y (by simp)];omega)];simp
 | y::l,hf,i+1,t,x,h,ht=>by
  have hl:=hf y (by simp);rw[List.flatMap_cons,List.getElem?_append_right (by rw[hl,Nat.add_mul];omega),hl,show(i+1)*sz+t-sz=i*sz+t by rw[Nat.add_mul];omega];exact iZ (fun x hx=>hf x (by simp[hx])) (by simpa using h) ht
theorem sN{α:Type}{cells:α->List Value}{T ST:TypeId}{sz xY:Nat}(hl:∀s,(cells s).length=sz)(h1:∀s,∀u∈cells s,u.oneCell'=true)(dQ:0<sz){i0:TypeInfo}(ht:P.underlying ST=some (.slice T))(hi:P.info? T=some i0)(hz:i0.zero=some z)(hs:i0.size=sz)(Pv:i0.bytes=xY)(qL:z.cells.size=sz)(iE:xY<=1000)
  {W:World}{base:Nat}{v:Value} (h:W.ownsRow base T sz v 0 []) (xs:List α) (hx:0<xs.length) (hm:xs.length<=1048576) (ty:TypeId) (b off k:Nat) (src:∀i s,xs[i]?=some s->∀t u,(cells s)[t]?=some u->W.cell? ⟨b,off+i*sz+t,none⟩=some u) (gF:base<=W.1.size):
  ∃q cap W',(Builtin.append_ #[ST,ST] ty #[v,.slice (some ⟨b,off,none⟩) xs.length k]).run P W=.ok (.slice (some ⟨q,0,none⟩) xs.length cap) W'/\base<=q/\q<W'.1.size/\xs.length<=cap/\(∀i s,xs[i]?=some s->∀t u,(cells s)[t]?=some u->W'.cell? ⟨q,i*sz+t,none⟩=some u)/\Room W' q (xs.length*sz)/\W.grownBy W' v.ownBlock/\(v.ownBlock=some q\/q=W.1.size)/\W'.ownsRow base T sz (.slice (some ⟨q,0,none⟩) xs.length cap) xs.length (xs.flatMap cells):=by
 have rz:∀(b o j:Nat),(⟨b,o,none⟩:Addr).add j=⟨b,o+j,none⟩:=fun b o j=>by unfold Addr.add;split<;>simp_all
 have SB:∀l:List α,(l.flatMap cells).length=l.length*sz:=fun l=>by
  induction l with
  | nil=>simp
  | cons y l ih=>rw[List.flatMap_cons,List.length_append,ih,hl,List.length_cons,Nat.add_mul];omega
 obtain⟨v',W',jN,fB,hg,PG,jd⟩:=run_append_own_at (P:=P) W base ST ty T i0 z sz xY ht hi hz hs Pv qL dQ
  v 0 [] h ⟨b,off,none⟩ xs.length k (xs.flatMap cells) (SB xs) (fun j u hu=>by
   have hj:j<xs.length*sz:=by rw[<-SB];exact(List.getElem?_eq_some_iff.1 hu).1
   have hi:j/sz<xs.length:=Nat.div_lt_of_lt_mul (by rw[Nat.mul_comm];exact hj);have oN:=List.getElem?_eq_getElem hi;have QR:j/sz*sz+j%sz=j:=Nat.div_add_mod' j sz;have:=iZ (f:=cells) (l:=xs) (fun x _=>hl x) oN (Nat.mod_lt j dQ);rw[QR]at this;rw[rz,<-QR,<-Nat.add_assoc]
   exact src _ _ oN _ u (by rw[<-this];exact hu))
  (fun u hu=>by obtain⟨s,_,hs⟩:=List.mem_flatMap.1 hu;exact h1 s u hs) (by unfold maxLen;omega) (by
   have:(0+xs.length)*xY<=1048576*1000:=Nat.mul_le_mul (by omega) iE
   omega) gF
 rw[Nat.zero_add,List.nil_append]at fB
 have yM:∃q cap,v'=.slice (some ⟨q,0,none⟩) xs.length cap/\xs.length<=cap:=by
  rcases fB.2 with ⟨_,h0⟩|⟨q,cap,cur,rfl,_,_,hl,_⟩
  ·omega
  ·exact⟨q,cap,rfl,hl⟩
 obtain⟨q,cap,rfl,hc⟩:=yM;have hb:=World.ownsRow.lt fB q rfl;refine⟨q,cap,W',jN,hb.1,hb.2,hc,fun i s e t u hu=>?_,fun j hj=>?_,hg,?_,fB⟩
 ·have hi:=(List.getElem?_eq_some_iff.1 e).1;have ht:=(List.getElem?_eq_some_iff.1 hu).1;rw[hl]at ht;have:(i+1)*sz<=xs.length*sz:=Nat.mul_le_mul_right sz hi;rw[Nat.add_mul]at this;rw[World.ownsRow.cellAt fB _ (by omega),iZ (fun x _=>hl x) e ht];exact hu
 ·exact⟨_,by rw[World.ownsRow.cellAt fB j hj];exact List.getElem?_eq_getElem (by rw[SB];exact hj),World.ownsRow.frozenAt fB j⟩
 ·rcases jd with e|e
  ·exact .inl e.symm
  ·exact .inr (Option.some.inj e)
theorem flat5:∀(xs:List S5) (i:Nat) (s:S5) (j:Nat),xs[i]?=some s->j<5->(xs.flatMap S5.cells)[i*5+j]?=(S5.cells s)[j]?
 | [],i,s,j,h,_=>by simp at h
 | x::xs,0,s,j,h,hj=>by
  simp at h;subst h;rw[List.flatMap_cons,List.getElem?_append_left (by simp[S5.cells];omega)];simp
 | x::xs,i+1,s,j,h,hj=>by
  have hl:(S5.cells x).length=5:=rfl;rw[List.flatMap_cons,List.getElem?_append_right (by rw[hl];omega),hl,show(i+1)*5+j-5=i*5+j by omega];exact flat5 xs i s j (by simpa using h) hj
theorem NK{t:TypeId}{cap:Nat}{xs:List S5}(h:w.ownsRow B t 5 (.slice (some ⟨g,0,none⟩) n cap) n (xs.flatMap S5.cells)):aX w g 0 xs:=by
 have key:∀(j:Nat) (u:Value),(xs.flatMap S5.cells)[j]?=some u->w.cell? ⟨g,j,none⟩=some u:=by
  intro j u e;rcases h.2 with ⟨h0,_⟩|⟨g',aZ,cur,hv,_,hg,_,_,_,ht⟩
  ·cases h0
  ·cases hv;rw[cell_of_row w g j cur t (0,0) hg];rw[<-ht,List.getElem?_take]at e;split at e
   ·simpa using e
   ·cases e
 intro i s e;have f:=fun j hj=>flat5 xs i s j e hj
 rw[Nat.zero_add];exact⟨key _ _ (by simpa[S5.cells]using f 0 (by omega)),key _ _ (by simpa[S5.cells]using f 1 (by omega)),key _ _ (by simpa[S5.cells]using f 2 (by omega)),key _ _ (by simpa[S5.cells]using f 3 (by omega)),key _ _ (by simpa[S5.cells]using f 4 (by omega))⟩
theorem NJ{t:TypeId}{cap:Nat}(h:w.ownsRow B t 5 (.slice (some ⟨g,0,none⟩) n cap) n vs):Room w g (n*5):=by
 intro j hj;rcases h.2 with ⟨h0,_⟩|⟨g',aZ,cur,hv,_,hg,hn,_,hc,ht⟩
 ·cases h0
 ·cases hv
  have aN:j<cur.size:=by
   have:n*5<=cap*5:=Nat.mul_le_mul_right 5 hn;omega
  refine⟨cur[j],?_,?_⟩
  ·rw[cell_of_row w g j cur t (0,0) hg,Array.getElem?_eq_getElem aN]
  ·simp[World.frozen?,hg]
theorem ui:(Tryz.prog.info? 100).map (fun i=>(i.zero,i.size,i.bytes))=some (some (.agg #[vI 0,vI 0,vI 0,.bool false,vI 0]),5,40):=by kernel_rfl
theorem Cu(W:World)(base:Nat)(v:Value)(h:W.ownsRow base 100 5 v 0 [])(xs:List S5)(hx:0<xs.length)(hm:xs.length<=1048576)(ty:TypeId)(b off k:Nat)(src:aX W b off xs)(gF:base<=W.1.size):
  ∃q cap W',(Builtin.append_ #[48,48] ty #[v,.slice (some ⟨b,off,none⟩) xs.length k]).run Tryz.prog W=.ok (.slice (some ⟨q,0,none⟩) xs.length cap) W'/\base<=q/\q<W'.1.size/\xs.length<=cap/\aX W' q 0 xs/\Room W' q (xs.length*5)/\W.grownBy W' v.ownBlock/\(v.ownBlock=some q\/q=W.1.size):=by
 obtain⟨i0,qP,rH,lY,nY⟩:=partsOf ui
 obtain⟨q,cap,W',h1,h2,h3,h4,h5,h6,h7,h8,_⟩:=sN (cells:=S5.cells) (fun _=>rfl) (fun s u hu=>by
  simp only[S5.cells,List.mem_cons,List.not_mem_nil,or_false]at hu
  rcases hu with rfl|rfl|rfl|rfl|rfl<;>rfl) (by omega) Tryz.underlying48 qP rH lY nY rfl (by omega) h xs hx hm ty b off k (fun i s e t u hu=>by
   obtain⟨c0,c1,c2,c3,c4⟩:=src i s e;rcases t with _|_|_|_|_|t
   ·simp[S5.cells]at hu;subst hu;exact c0
   ·simp[S5.cells]at hu;subst hu;exact c1
   ·simp[S5.cells]at hu;subst hu;exact c2
   ·simp[S5.cells]at hu;subst hu;exact c3
   ·simp[S5.cells]at hu;subst hu;exact c4
   ·simp[S5.cells]at hu) gF
 refine⟨q,cap,W',h1,h2,h3,h4,fun i s e=>⟨?_,?_,?_,?_,?_⟩,h6,h7,h8⟩
 ·rw[Nat.zero_add];exact h5 i s e 0 _ rfl
 ·rw[Nat.zero_add];exact h5 i s e 1 _ rfl
 ·rw[Nat.zero_add];exact h5 i s e 2 _ rfl
 ·rw[Nat.zero_add];exact h5 i s e 3 _ rfl
 ·rw[Nat.zero_add];exact h5 i s e 4 _ rfl
theorem MG:∀(xs:List N5) (i:Nat) (s:N5) (j:Nat),xs[i]?=some s->j<5->(xs.flatMap N5.cells)[i*5+j]?=s.cells[j]?
 | [],i,s,j,h,_=>by simp at h
 | x::xs,0,s,j,h,hj=>by
  simp at h;subst h;rw[List.flatMap_cons,List.getElem?_append_left (by simp[N5.cells];omega)];simp
 | x::xs,i+1,s,j,h,hj=>by
  have hl:x.cells.length=5:=rfl;rw[List.flatMap_cons,List.getElem?_append_right (by rw[hl];omega),hl,show(i+1)*5+j-5=i*5+j by omega];exact MG xs i s j (by simpa using h) hj
theorem Kw{t:TypeId}{cap:Nat}{xs:List N5}(h:w.ownsRow B t 5 (.slice (some ⟨g,0,none⟩) n cap) n (xs.flatMap N5.cells)):bR w g 0 xs:=by
 have key:∀(j:Nat) (u:Value),(xs.flatMap N5.cells)[j]?=some u->w.cell? ⟨g,j,none⟩=some u:=by
  intro j u e;rcases h.2 with ⟨h0,_⟩|⟨g',aZ,cur,hv,_,hg,_,_,_,ht⟩
  ·cases h0
  ·cases hv;rw[cell_of_row w g j cur t (0,0) hg];rw[<-ht,List.getElem?_take]at e;split at e
   ·simpa using e
   ·cases e
 intro i s e;have f:=fun j hj=>MG xs i s j e hj
 rw[Nat.zero_add];exact⟨key _ _ (by simpa[N5.cells]using f 0 (by omega)),key _ _ (by simpa[N5.cells]using f 1 (by omega)),key _ _ (by simpa[N5.cells]using f 2 (by omega)),key _ _ (by simpa[N5.cells]using f 3 (by omega)),key _ _ (by simpa[N5.cells]using f 4 (by omega))⟩
theorem Ht{t:TypeId}{cap:Nat}(h:w.ownsRow B t 5 (.slice (some ⟨g,0,none⟩) n cap) n vs):Room w g (n*5):=by
 intro j hj;rcases h.2 with ⟨h0,_⟩|⟨g',aZ,cur,hv,_,hg,hn,_,hc,ht⟩
 ·cases h0
 ·cases hv
  have aN:j<cur.size:=by
   have:n*5<=cap*5:=Nat.mul_le_mul_right 5 hn;omega
  refine⟨cur[j],?_,?_⟩
  ·rw[cell_of_row w g j cur t (0,0) hg,Array.getElem?_eq_getElem aN]
  ·simp[World.frozen?,hg]
theorem EJ:(Tryz.prog.info? 112).map (fun i=>(i.zero,i.size,i.bytes))=some (some (.agg #[vI 0,vI 0,vI 0,vI 0,.bool false]),5,40):=by kernel_rfl
end tx
namespace tx
variable {W W' w:World}{b o q:Nat}{s:S5}{v:Value}{xs:List S5}
theorem tJ{α:Type}{cells:α->List Value}{sz:Nat}(hl:∀s,(cells s).length=sz)(l:List α):(l.flatMap cells).length=l.length*sz:=by
 induction l with
 | nil=>simp
 | cons y l ih=>rw[List.flatMap_cons,List.length_append,ih,hl,List.length_cons,Nat.add_mul];omega
theorem Rs{α:Type}{cells:α->List Value}{T ST:TypeId}{sz xY:Nat}(hl:∀s,(cells s).length=sz)(h1:∀s,∀u∈cells s,u.oneCell'=true)(dQ:0<sz){P:Program}{i0:TypeInfo}{z:Value}(ht:P.underlying ST=some (.slice T))(hi:P.info? T=some i0)(hz:i0.zero=some z)(hs:i0.size=sz)(Pv:i0.bytes=xY)(qL:z.cells.size=sz)(iE:xY<=1000)
  {W:World}{base:Nat}{v:Value}{xs:List α} (h:W.ownsRow base T sz v xs.length (xs.flatMap cells)) (ys:List α) (hm:xs.length+ys.length<=1048576) (ty:TypeId) (b off k:Nat) (src:∀i s,ys[i]?=some s->∀t u,(cells s)[t]?=some u->W.cell? ⟨b,off+i*sz+t,none⟩=some u) (gF:base<=W.1.size):
  ∃v' W',(Builtin.append_ #[ST,ST] ty #[v,.slice (some ⟨b,off,none⟩) ys.length k]).run P W=.ok v' W'/\W'.ownsRow base T sz v' (xs++ys).length ((xs++ys).flatMap cells)/\W.grownBy W' v.ownBlock/\(v'.ownBlock=v.ownBlock\/v'.ownBlock=some W.1.size):=by
 have rz:∀(b o j:Nat),(⟨b,o,none⟩:Addr).add j=⟨b,o+j,none⟩:=fun b o j=>by unfold Addr.add;split<;>simp_all
 obtain⟨v',W',jN,fB,hg,PG,jd⟩:=run_append_own_at (P:=P) W base ST ty T i0 z sz xY ht hi hz hs Pv qL dQ
  v xs.length _ h ⟨b,off,none⟩ ys.length k (ys.flatMap cells) (tJ hl ys) (fun j u hu=>by
   have hj:j<ys.length*sz:=by rw[<-tJ hl];exact(List.getElem?_eq_some_iff.1 hu).1
   have hi:j/sz<ys.length:=Nat.div_lt_of_lt_mul (by rw[Nat.mul_comm];exact hj);have oN:=List.getElem?_eq_getElem hi;have QR:j/sz*sz+j%sz=j:=Nat.div_add_mod' j sz;have:=iZ (f:=cells) (l:=ys) (fun x _=>hl x) oN (Nat.mod_lt j dQ);rw[QR]at this;rw[rz,<-QR,<-Nat.add_assoc]
   exact src _ _ oN _ u (by rw[<-this];exact hu))
  (fun u hu=>by obtain⟨s,_,hs⟩:=List.mem_flatMap.1 hu;exact h1 s u hs) (by unfold maxLen;omega) (by
   have:(xs.length+ys.length)*xY<=1048576*1000:=Nat.mul_le_mul hm iE
   omega) gF
 rw[<-List.flatMap_append,<-List.length_append]at fB;exact⟨v',W',jN,fB,hg,jd⟩
theorem Uj:∀s:S5,∀u∈S5.cells s,u.oneCell'=true:=fun s u hu=>by
 simp only[S5.cells,List.mem_cons,List.not_mem_nil,or_false]at hu;rcases hu with rfl|rfl|rfl|rfl|rfl<;>rfl
theorem Qc:∀s:N5,∀u∈s.cells,u.oneCell'=true:=fun s u hu=>by
 simp only[N5.cells,List.mem_cons,List.not_mem_nil,or_false]at hu;rcases hu with rfl|rfl|rfl|rfl|rfl<;>rfl
theorem dI.Cz(h:dI w b o s):∀t u,(S5.cells s)[t]?=some u->w.cell? ⟨b,o+t,none⟩=some u:=fun t u hu=>by
 rcases t with _|_|_|_|_|t
 ·simp[S5.cells]at hu;subst hu;exact h.c0
 ·simp[S5.cells]at hu;subst hu;exact h.c1
 ·simp[S5.cells]at hu;subst hu;exact h.c2
 ·simp[S5.cells]at hu;subst hu;exact h.c3
 ·simp[S5.cells]at hu;subst hu;exact h.c4
 ·simp[S5.cells]at hu
theorem aL.Cz{s:N5}(h:aL w b o s):∀t u,s.cells[t]?=some u->w.cell? ⟨b,o+t,none⟩=some u:=fun t u hu=>by
 rcases t with _|_|_|_|_|t
 ·simp[N5.cells]at hu;subst hu;exact h.c0
 ·simp[N5.cells]at hu;subst hu;exact h.c1
 ·simp[N5.cells]at hu;subst hu;exact h.c2
 ·simp[N5.cells]at hu;subst hu;exact h.c3
 ·simp[N5.cells]at hu;subst hu;exact h.c4
 ·simp[N5.cells]at hu
def jT(W:World)(base:Nat)(v:Value)(xs:List S5):Prop:=W.ownsRow base 100 5 v xs.length (xs.flatMap S5.cells)
def eZ(W:World)(base:Nat)(v:Value)(xs:List N5):Prop:=W.ownsRow base 112 5 v xs.length (xs.flatMap N5.cells)
theorem NM{base:Nat}(h:jT W base v xs)(ys:List S5)(hm:xs.length+ys.length<=1048576)(ty:TypeId)(b off k:Nat)(src:aX W b off ys)(gF:base<=W.1.size):
  ∃v' W',(Builtin.append_ #[48,48] ty #[v,.slice (some ⟨b,off,none⟩) ys.length k]).run Tryz.prog W=.ok v' W'/\jT W' base v' (xs++ys)/\W.grownBy W' v.ownBlock/\(v'.ownBlock=v.ownBlock\/v'.ownBlock=some W.1.size):=by
 obtain⟨i0,qP,rH,lY,nY⟩:=partsOf ui;exact Rs (cells:=S5.cells) (fun _=>rfl) Uj (by omega) Tryz.underlying48 qP rH lY nY rfl (by omega) h ys hm ty b off k (fun i s e t u hu=>(src i s e).Cz t u hu) gF
theorem rZ{base:Nat}{xs:List N5}(h:eZ W base v xs)(ys:List N5)(hm:xs.length+ys.length<=1048576)(ty:TypeId)(b off k:Nat)(src:bR W b off ys)(gF:base<=W.1.size):
  ∃v' W',(Builtin.append_ #[47,47] ty #[v,.slice (some ⟨b,off,none⟩) ys.length k]).run Tryz.prog W=.ok v' W'/\eZ W' base v' (xs++ys)/\W.grownBy W' v.ownBlock/\(v'.ownBlock=v.ownBlock\/v'.ownBlock=some W.1.size):=by
 obtain⟨i0,qP,rH,lY,nY⟩:=partsOf EJ;exact Rs (cells:=N5.cells) (fun _=>rfl) Qc (by omega) Tryz.underlying47 qP rH lY nY rfl (by omega) h ys hm ty b off k (fun i s e t u hu=>(src i s e).Cz t u hu) gF
theorem jT.nil(W:World)(base:Nat):jT W base (.slice none 0 0) []:=⟨rfl,.inl ⟨rfl,rfl⟩⟩
theorem eZ.nil(W:World)(base:Nat):eZ W base (.slice none 0 0) []:=⟨rfl,.inl ⟨rfl,rfl⟩⟩
theorem jT.lt{base:Nat}(h:jT W base v xs)(e:v.ownBlock=some q):base<=q/\q<W.1.size:=World.ownsRow.lt h q e
theorem eZ.lt{base:Nat}{xs:List N5}(h:eZ W base v xs)(e:v.ownBlock=some q):base<=q/\q<W.1.size:=World.ownsRow.lt h q e
theorem Fz{base:Nat}{T:TypeId}{sz n:Nat}{vs:List Value}(h:W.ownsRow base T sz v n vs)(hk:∀q,v.ownBlock=some q->W'.1[q]?=W.1[q]?):W'.ownsRow base T sz v n vs:=by
 refine⟨h.1,h.2.imp id ?_⟩;rintro ⟨q,cap,cur,rfl,l,hg,r⟩;exact⟨q,cap,cur,rfl,l,(hk q rfl).trans hg,r⟩
theorem jT.aQ{base:Nat}(h:jT W base v xs)(hk:∀q,base<=q->q<W.1.size->v.ownBlock=some q->W'.1[q]?=W.1[q]?):jT W' base v xs:=Fz h (fun q e=>hk q (h.lt e).1 (h.lt e).2 e)
theorem eZ.aQ{base:Nat}{xs:List N5}(h:eZ W base v xs)(hk:∀q,base<=q->q<W.1.size->v.ownBlock=some q->W'.1[q]?=W.1[q]?):eZ W' base v xs:=Fz h (fun q e=>hk q (h.lt e).1 (h.lt e).2 e)
theorem jT.later{base:Nat}(h:jT W base v xs)(hb:Below W.1.size W W'):jT W' base v xs:=h.aQ (fun q _ hq _=>hb.block q hq)
theorem eZ.later{base:Nat}{xs:List N5}(h:eZ W base v xs)(hb:Below W.1.size W W'):eZ W' base v xs:=h.aQ (fun q _ hq _=>hb.block q hq)
theorem jT.form{base:Nat}(h:jT W base v xs):∃a c,v=.slice a xs.length c/\oL W (fun q=>v.ownBlock=some q) a xs:=by
 rcases h.2 with ⟨rfl,h0⟩|⟨q,cap,cur,rfl,hb,hg,hl,_⟩
 ·exact⟨none,0,by rw[h0],.inl (List.eq_nil_of_length_eq_zero h0)⟩
 ·refine⟨some ⟨q,0,none⟩,cap,rfl,.inr ⟨q,rfl,rfl,(World.ownsRow.lt h q rfl).2,NK h,NJ h⟩⟩
theorem eZ.form{base:Nat}{xs:List N5}(h:eZ W base v xs):∃a c,v=.slice a xs.length c/\mW W (fun q=>v.ownBlock=some q) a xs:=by
 rcases h.2 with ⟨rfl,h0⟩|⟨q,cap,cur,rfl,hb,hg,hl,_⟩
 ·exact⟨none,0,by rw[h0],.inl (List.eq_nil_of_length_eq_zero h0)⟩
 ·refine⟨some ⟨q,0,none⟩,cap,rfl,.inr ⟨q,rfl,rfl,(World.ownsRow.lt h q rfl).2,Kw h,Ht h⟩⟩
theorem jT.made(W:World):jT (W.alloc (.cells #[] 100)) W.1.size (.slice (some ⟨W.1.size,0,none⟩) 0 0) []:=World.ownsRow_made W #[] 0 aR (Nat.zero_le _) rfl
theorem eZ.made(W:World):eZ (W.alloc (.cells #[] 112)) W.1.size (.slice (some ⟨W.1.size,0,none⟩) 0 0) []:=World.ownsRow_made W #[] 0 aR (Nat.zero_le _) rfl
theorem dI.box(W:World)(s:S5)(T:TypeId):dI (W.alloc (.cells #[vI s.b,vI s.e,vI s.g,.bool s.i,vI s.j] T)) W.1.size 0 s:=⟨by go_simp,by go_simp,by go_simp,by go_simp,by go_simp⟩
theorem aL.box(W:World)(s:N5)(T:TypeId):aL (W.alloc (.cells #[vI s.b,vI s.e,vI s.j,vI s.g,.bool s.i] T)) W.1.size 0 s:=⟨by go_simp,by go_simp,by go_simp,by go_simp,by go_simp⟩
theorem dI.one(h:dI W b o s):aX W b o [s]:=fun i x e=>by
 rcases i with _|i
 ·simp at e;subst e;simpa using h
 ·simp at e
theorem aL.one{s:N5}(h:aL W b o s):bR W b o [s]:=fun i x e=>by
 rcases i with _|i
 ·simp at e;subst e;simpa using h
 ·simp at e
end tx
namespace tx
variable {W:World}{v:Value}
def Vn(w:World)(t:T7)(e:Ending)(w':World):Prop:=∃(a4:Option Addr) (c4:Nat) (h4:Option Addr) (d4:Nat) (PR PS:Nat->Prop),e=.returned ((TV.mk a4 c4 h4 d4).val t)/\OT w' w.1.size ⟨a4,c4,h4,d4⟩ t PR PS/\Below w.1.size w w'
theorem wh{base:Nat}{xs:List N5}(h:eZ W base v xs)(ys:List N5)(hm:xs.length+ys.length<=1048576)(ty:TypeId)(a:Option Addr)(k:Nat)(src:jD W W.1.size a ys.length ys)(gF:base<=W.1.size):
  ∃a' c' W',(Builtin.append_ #[47,47] ty #[v,.slice a ys.length k]).run Tryz.prog W=.ok (.slice a' (xs++ys).length c') W'/\eZ W' base (.slice a' (xs++ys).length c') (xs++ys)/\W.grownBy W' v.ownBlock/\((Value.slice a' (xs++ys).length c').ownBlock=v.ownBlock\/(Value.slice a' (xs++ys).length c').ownBlock=some W.1.size):=by
 by_cases e:ys=[]
 ·subst e;obtain⟨i0,qP,rH,lY,nY⟩:=partsOf EJ;obtain⟨a0,c0,rfl,-⟩:=h.form
  have hle:xs.length<=c0:=by
   rcases h.2 with ⟨h0,h1⟩|⟨q',aZ,cur,h0,_,_,hc,_⟩
   ·rw[h1];exact Nat.zero_le _
   ·cases h0;exact hc
  simp only[List.append_nil];refine⟨a0,c0,W,?_,h,⟨rfl,rfl,rfl,Nat.le_refl _,fun _ _ _=>rfl⟩,.inl rfl⟩;refine run_append_nothing W 47 47 ty 112 i0 Tryz.underlying47 qP a0 xs.length c0 hle (.slice a 0 k) ?_
  cases a with
  | none=>exact Src.ofNil W Tryz.underlying47 k
  | some x=>exact Src.ofSlice W Tryz.underlying47 x 0 k [] (by simp) (fun j u hu=>by simp at hu) (fun u hu=>by cases hu)
 ·have rF:0<ys.length:=List.length_pos_iff.2 e;obtain⟨_,src⟩:=src;rcases src with src|⟨b,off,rfl,hb,hx⟩
  ·omega
  obtain⟨v',W',h1,h2,h3,h4⟩:=rZ h ys hm ty b off k hx gF;obtain⟨a',c',rfl,-⟩:=h2.form;exact⟨a',c',W',h1,h2,h3,h4⟩
theorem Mv{base:Nat}(h:eZ W base v [])(ys:List N5)(hm:ys.length<=1048576)(ty:TypeId)(a:Option Addr)(k:Nat)(src:jD W W.1.size a ys.length ys)(gF:base<=W.1.size):
  ∃a' c' W',(Builtin.append_ #[47,47] ty #[v,.slice a ys.length k]).run Tryz.prog W=.ok (.slice a' ys.length c') W'/\eZ W' base (.slice a' ys.length c') ys/\W.grownBy W' v.ownBlock:=
 let ⟨a',c',W',h1,h2,h3,_⟩:=wh h ys (by simpa using hm) ty a k src gF
 ⟨a',c',W',h1,h2,h3⟩
theorem Kz{base:Nat}{xs:List S5}(h:jT W base v xs)(ys:List S5)(hm:xs.length+ys.length<=1048576)(ty:TypeId)(a:Option Addr)(k:Nat)(src:Sl W W.1.size a ys.length ys)(gF:base<=W.1.size):
  ∃a' c' W',(Builtin.append_ #[48,48] ty #[v,.slice a ys.length k]).run Tryz.prog W=.ok (.slice a' (xs++ys).length c') W'/\jT W' base (.slice a' (xs++ys).length c') (xs++ys)/\W.grownBy W' v.ownBlock/\((Value.slice a' (xs++ys).length c').ownBlock=v.ownBlock\/(Value.slice a' (xs++ys).length c').ownBlock=some W.1.size):=by
 by_cases e:ys=[]
 ·subst e;obtain⟨i0,qP,rH,lY,nY⟩:=partsOf ui;obtain⟨a0,c0,rfl,-⟩:=h.form
  have hle:xs.length<=c0:=by
   rcases h.2 with ⟨h0,h1⟩|⟨q',aZ,cur,h0,_,_,hc,_⟩
   ·rw[h1];exact Nat.zero_le _
   ·cases h0;exact hc
  simp only[List.append_nil];refine⟨a0,c0,W,?_,h,⟨rfl,rfl,rfl,Nat.le_refl _,fun _ _ _=>rfl⟩,.inl rfl⟩;refine run_append_nothing W 48 48 ty 100 i0 Tryz.underlying48 qP a0 xs.length c0 hle (.slice a 0 k) ?_
  cases a with
  | none=>exact Src.ofNil W Tryz.underlying48 k
  | some x=>exact Src.ofSlice W Tryz.underlying48 x 0 k [] (by simp) (fun j u hu=>by simp at hu) (fun u hu=>by cases hu)
 ·have rF:0<ys.length:=List.length_pos_iff.2 e;obtain⟨_,src⟩:=src;rcases src with src|⟨b,off,rfl,hb,hx⟩
  ·omega
  obtain⟨v',W',h1,h2,h3,h4⟩:=NM h ys hm ty b off k hx gF;obtain⟨a',c',rfl,-⟩:=h2.form;exact⟨a',c',W',h1,h2,h3,h4⟩
theorem Mw{base:Nat}(h:jT W base v [])(ys:List S5)(hm:ys.length<=1048576)(ty:TypeId)(a:Option Addr)(k:Nat)(src:Sl W W.1.size a ys.length ys)(gF:base<=W.1.size):
  ∃a' c' W',(Builtin.append_ #[48,48] ty #[v,.slice a ys.length k]).run Tryz.prog W=.ok (.slice a' ys.length c') W'/\jT W' base (.slice a' ys.length c') ys/\W.grownBy W' v.ownBlock:=
 let ⟨a',c',W',h1,h2,h3,_⟩:=Kz h ys (by simpa using hm) ty a k src gF
 ⟨a',c',W',h1,h2,h3⟩
end tx
namespace tx
theorem vY(w:World)(v:TV)(t:T7)(hr:t.a.length<=1048576)(Q3:t.ag.length<=1048576)(h:lW w v t):
  Calls Tryz.prog 102 #[v.val t] w (Vn w t):=by
 obtain⟨ar,cr,ah,ch⟩:=v;simp only[TV.val];obtain⟨W1,ja⟩:∃W1,W1=w.alloc (.cells #[vI t.id,vI t.o,vI t.q,vI t.v,.slice ar t.a.length cr,.slice ah t.ag.length ch,vI t.aA] 50):=⟨_,rfl⟩
 have z1:W1.1.size=w.1.size+1:=by rw[ja];simp
 have x1:BT W1 w.1.size ⟨ar,cr,ah,ch⟩ t:=by rw[ja];exact BT.box w ⟨ar,cr,ah,ch⟩ t _
 have b1:Below w.1.size w W1:=by rw[ja];exact aJ.alloc aR _
 obtain⟨W,hW⟩:∃W2,W2=W1.alloc (.cells #[vI 0,vI 0,vI 0,vI 0,.slice none 0 0,.slice none 0 0,vI 0] 50):=⟨_,rfl⟩
 have b2:Below W1.1.size W1 W:=by rw[hW];exact aJ.alloc aR _
 have yR:BT W (w.1.size+1) ⟨none,0,none,0⟩ ⟨0,0,0,0,[],[],0⟩:=by rw[hW,<-z1];exact BT.zero W1 _
 have sW:W.1.size=w.1.size+2:=by rw[hW];simp[z1]
 have yA:BT W w.1.size ⟨ar,cr,ah,ch⟩ t:=x1.later b2;have bW:Below w.1.size w W:=b1.trans (b2.mono b1.size);have Au:Below W.1.size W W:=aJ;obtain⟨a1,c1,Y1,r9,nK,MI⟩:=Mv (eZ.nil W W.1.size) t.a hr 47 ar cr ((h.later (bW.trans (Au.mono bW.size))).r) Au.size;have xg:Below W.1.size W Y1:=Au.grown MI Au.size (fun q e=>by cases e);have Lp:BT Y1 w.1.size ⟨ar,cr,ah,ch⟩ t:=yA.later xg;have Rv:=yR.later xg;have OV:BT (Y1.setCell ⟨w.1.size,4,none⟩ (.slice a1 t.a.length c1)) w.1.size ⟨a1,c1,ah,ch⟩ t:=Lp.Ig a1 c1 t.a;have Rw:=Rv.dZ (p:=⟨w.1.size,4,none⟩) (by dsimp only;omega) (.slice a1 t.a.length c1);have IY:Below w.1.size w (Y1.setCell ⟨w.1.size,4,none⟩ (.slice a1 t.a.length c1)):=(bW.trans (xg.mono bW.size)).setCell (p:=⟨w.1.size,4,none⟩) aR _;have zS:eZ (Y1.setCell ⟨w.1.size,4,none⟩ (.slice a1 t.a.length c1)) W.1.size (.slice a1 t.a.length c1) t.a:=nK.aQ (fun q hq _ _=>Below.heap_setCell _ _ _ _ (by show q≠w.1.size;omega));have U8:(Y1.setCell ⟨w.1.size,4,none⟩ (.slice a1 t.a.length c1)).1.size=Y1.1.size:=by simp[World.setCell]
 have JE:Below (Y1.setCell ⟨w.1.size,4,none⟩ (.slice a1 t.a.length c1)).1.size (Y1.setCell ⟨w.1.size,4,none⟩ (.slice a1 t.a.length c1)) (Y1.setCell ⟨w.1.size,4,none⟩ (.slice a1 t.a.length c1)):=aJ;obtain⟨a2,c2,Y2,wo,zT,MJ⟩:=Mw (jT.nil (Y1.setCell ⟨w.1.size,4,none⟩ (.slice a1 t.a.length c1)) (Y1.setCell ⟨w.1.size,4,none⟩ (.slice a1 t.a.length c1)).1.size) t.ag Q3 48 ah ch ((h.later (IY.trans (JE.mono IY.size))).s) JE.size;have yz:Below (Y1.setCell ⟨w.1.size,4,none⟩ (.slice a1 t.a.length c1)).1.size (Y1.setCell ⟨w.1.size,4,none⟩ (.slice a1 t.a.length c1)) Y2:=JE.grown MJ JE.size (fun q e=>by cases e);have LB:BT Y2 w.1.size ⟨a1,c1,ah,ch⟩ t:=OV.later yz;have Rx:=Rw.later yz;have ZR:BT (Y2.setCell ⟨w.1.size,5,none⟩ (.slice a2 t.ag.length c2)) w.1.size ⟨a1,c1,a2,c2⟩ t:=LB.Qm a2 c2 t.ag;have Ry:=Rx.dZ (p:=⟨w.1.size,5,none⟩) (by dsimp only;omega) (.slice a2 t.ag.length c2);have l6:Below w.1.size w (Y2.setCell ⟨w.1.size,5,none⟩ (.slice a2 t.ag.length c2)):=(IY.trans (yz.mono IY.size)).setCell (p:=⟨w.1.size,5,none⟩) aR _;have kT:eZ (Y2.setCell ⟨w.1.size,5,none⟩ (.slice a2 t.ag.length c2)) W.1.size (.slice a1 t.a.length c1) t.a:=(zS.later yz).aQ (fun q hq _ _=>Below.heap_setCell _ _ _ _ (by show q≠w.1.size;omega));have Ao:W.1.size<=(Y1.setCell ⟨w.1.size,4,none⟩ (.slice a1 t.a.length c1)).1.size:=by rw[U8];exact xg.size
 have nL:jT (Y2.setCell ⟨w.1.size,5,none⟩ (.slice a2 t.ag.length c2)) (Y1.setCell ⟨w.1.size,4,none⟩ (.slice a1 t.a.length c1)).1.size (.slice a2 t.ag.length c2) t.ag:=zT.aQ (fun q hq _ _=>Below.heap_setCell _ _ _ _ (by show q≠w.1.size;omega));have nN:=Ry.put ⟨a1,c1,a2,c2⟩ t;have p4:=yA.c4;have k4:=Lp.c4;have Lx:=Lp.fz 4;have p5:=(OV.later JE).c5;have k5:=LB.c5;have Re:=LB.fz 5;dsimp only at p4 k4 p5 k5;obtain⟨o0,o1,o2,o3,o4,o5,o6,-,-⟩:=ZR;have KR:=Ry;have M0:∀q,(Value.slice a1 t.a.length c1).ownBlock=some q->W.1.size<=q/\q<(Y1.setCell ⟨w.1.size,4,none⟩ (.slice a1 t.a.length c1)).1.size:=fun q e=>zS.lt e
 have KO:OT (Y2.setCell ⟨w.1.size,5,none⟩ (.slice a2 t.ag.length c2)) w.1.size ⟨a1,c1,a2,c2⟩ t (fun q=>(Value.slice a1 t.a.length c1).ownBlock=some q) (fun q=>(Value.slice a2 t.ag.length c2).ownBlock=some q):=by
  obtain⟨_,_,e1,o1⟩:=kT.form;obtain⟨_,_,e2,o2⟩:=nL.form
  cases e1;cases e2;exact⟨o1,o2,fun q h1 h2=>by have:=(M0 q h1).2;have:=(nL.lt h2).1;omega,fun q h1=>⟨by have:=(kT.lt h1).1;omega,(kT.lt h1).2⟩,fun q h1=>⟨by have:=(nL.lt h1).1;omega,(nL.lt h1).2⟩⟩
 have KH:Hid (OT (Y2.setCell ⟨w.1.size,5,none⟩ (.slice a2 t.ag.length c2)) w.1.size ⟨a1,c1,a2,c2⟩ t (fun q=>(Value.slice a1 t.a.length c1).ownBlock=some q) (fun q=>(Value.slice a2 t.ag.length c2).ownBlock=some q)/\Below w.1.size w (Y2.setCell ⟨w.1.size,5,none⟩ (.slice a2 t.ag.length c2))/\(∀q,oW (fun q=>(Value.slice a1 t.a.length c1).ownBlock=some q) (fun q=>(Value.slice a2 t.ag.length c2).ownBlock=some q) q->w.1.size+2<=q)):=⟨KO,l6,fun q hq=>by
  rcases hq with hq|hq
  ·have:=(kT.lt hq).1;omega
  ·have:=(nL.lt hq).1;omega⟩
 simp only[kJ]at nN;obtain⟨u0,u1,u2,u3,u4,u5,u6,-,-⟩:=nN;have KX:Hid (((Y2.setCell ⟨w.1.size,5,none⟩ (.slice a2 t.ag.length c2)).cell? ⟨w.1.size,0,none⟩=some (vI t.id)/\(Y2.setCell ⟨w.1.size,5,none⟩ (.slice a2 t.ag.length c2)).cell? ⟨w.1.size,1,none⟩=some (vI t.o)/\(Y2.setCell ⟨w.1.size,5,none⟩ (.slice a2 t.ag.length c2)).cell? ⟨w.1.size,2,none⟩=some (vI t.q)/\(Y2.setCell ⟨w.1.size,5,none⟩ (.slice a2 t.ag.length c2)).cell? ⟨w.1.size,3,none⟩=some (vI t.v)/\(Y2.setCell ⟨w.1.size,5,none⟩ (.slice a2 t.ag.length c2)).cell? ⟨w.1.size,4,none⟩=some (.slice a1 t.a.length c1)/\(Y2.setCell ⟨w.1.size,5,none⟩ (.slice a2 t.ag.length c2)).cell? ⟨w.1.size,5,none⟩=some (.slice a2 t.ag.length c2)/\(Y2.setCell ⟨w.1.size,5,none⟩ (.slice a2 t.ag.length c2)).cell? ⟨w.1.size,6,none⟩=some (vI t.aA))/\BT (Y2.setCell ⟨w.1.size,5,none⟩ (.slice a2 t.ag.length c2)) (w.1.size+1) ⟨none,0,none,0⟩ ⟨0,0,0,0,[],[],0⟩):=⟨⟨o0,o1,o2,o3,o4,o5,o6⟩,KR⟩
 have KU:=aB (And.intro u0 (And.intro u1 (And.intro u2 (And.intro u3 (And.intro u4 (And.intro u5 u6))))));have K1:=aB (And.intro k4 (And.intro Lx p5));have K2:=aB (And.intro k5 Re);have R1:=aB r9;have R2:=aB wo;rw[ja]at hW;have X5:W.1.size=w.1.size+1+1:=by omega
 clear sW;clear ja x1 b1 b2 z1 yA yR bW Au xg nK MI Lp Rv OV Rw IY zS JE zT MJ yz LB Rx l6 kT nL Ao M0 h KO KR o0 o1 o2 o3 o4 o5 o6 u0 u1 u2 u3 u4 u5 u6 k4 Lx p5 k5 Re r9 wo;go_enter Tryz.func102,Tryz.ntmps102;have r1:=R1.out;have r2:=R2.out;skip;skip;rw[hW]at r1;obtain⟨k4,Lx,p5⟩:=K1.out;obtain⟨k5,Re⟩:=K2.out;obtain⟨⟨o0,o1,o2,o3,o4,o5,o6⟩,⟨r0,r1',r2',r3,r4,r5,r6,fr,-⟩⟩:=KX.out;have f0:=fr 0;have f1:=fr 1;have f2:=fr 2;have f3:=fr 3;have f4:=fr 4;have f5:=fr 5;have f6:=fr 6;clear fr K1 K2 KX R1 R2 hW p4 U8 X5;go_wp2_with (first|(at_builtin;refine eO _ rfl (.const (.slice none 0 0)) (.tmp 4) 47 rfl _ _ _ _ rfl rfl r1 ?_)|(at_builtin;refine eO _ rfl (.const (.slice none 0 0)) (.tmp 8) 48 rfl _ _ _ _ rfl rfl r2 ?_));obtain⟨u0,u1,u2,u3,u4,u5,u6⟩:=KU.out;refine bodyPost_ret (v:=.agg #[vI t.id,vI t.o,vI t.q,vI t.v,.slice a1 t.a.length c1,.slice a2 t.ag.length c2,vI t.aA]) (by simp[results,Tryz.results102,go_sem,u0,u1,u2,u3,u4,u5,u6]) rfl ?_;obtain⟨ot,bX,q2⟩:=KH.out;refine⟨a1,c1,a2,c2,fun q=>(Value.slice a1 t.a.length c1).ownBlock=some q,fun q=>(Value.slice a2 t.ag.length c2).ownBlock=some q,rfl,?_,?_⟩
 ·exact ot.aQ (by simp[World.setCell]) (fun q _ hq=>iY (s:=w.1.size+1) (v:=⟨a1,c1,a2,c2⟩) (t:=t) (by have:=q2 q hq;omega))
 ·exact eP (s:=w.1.size+1) (v:=⟨a1,c1,a2,c2⟩) (t:=t) bX (by omega)
end tx
theorem JN(w:World)(b off cap:Nat)(zs:List Int)(hb:b<w.1.size)(hs:dV w b off zs)(hn:zs.length<=1000):
  Calls Tryz.prog 110 #[.slice (some ⟨b,off,none⟩) zs.length cap] w fun e w'=>∃q cp,e=.returned (.slice (some ⟨q,0,none⟩) zs.length cp)/\ON w' w.1.size (.slice (some ⟨q,0,none⟩) zs.length cp) zs/\Below w.1.size w w':=by
 have bA:Below w.1.size w (w.alloc (.cells #[] 2)):=aJ.alloc aR _;obtain⟨v',W',hr,ho,hg,hl⟩:=Ca (w.alloc (.cells #[] 2)) w.1.size _ [] zs b off cap 74 (ON.empty w) (hs.below bA hb) (by simp;omega) bA.size;rw[List.nil_append]at ho;have ky:Below w.1.size w W':=bA.grown hg bA.size (fun k h=>by cases h;exact Nat.le_refl _)
 obtain⟨g,cp,rfl⟩:∃g cp,v'=.slice (some ⟨g,0,none⟩) zs.length cp:=by
  rcases ho.form with ⟨rfl,_⟩|⟨g,cp,e,_⟩
  ·rcases hl with h|h<;>cases h
  ·exact⟨g,cp,e⟩
 have HK:Hid (ON W' w.1.size (.slice (some ⟨g,0,none⟩) zs.length cp) zs/\Below w.1.size w W'):=⟨ho,ky⟩
 clear ho hg hl ky bA hs;have heq:(binOp .eql 74 (.slice (some ⟨b,off,none⟩) zs.length cap) (.slice none 0 0)).run Tryz.prog w=.ok (.bool false) w:=Go.Lib.run_eql_slice_nil w 74 2 (some ⟨b,off,none⟩) zs.length cap 0 0 Tryz.underlying74;go_enter Tryz.func110,Tryz.ntmps110;go_wp2_with (at_builtin;refine eO _ rfl (.tmp 5) (.tmp 6) 74 rfl _ _ _ _ rfl rfl hr ?_);go_ret;exact⟨g,cp,rfl,HK.out.1,HK.out.2⟩
theorem lT(w:World)(a1:Option Addr)(c1:Nat)(a2:Option Addr)(c2:Nat)(a3:Option Addr)(c3:Nat)(k:C6)(hk:aD k=true)(h:bK.Rd w a1 c1 a2 c2 a3 c3 k):
  Calls Tryz.prog 65 #[.agg #[vI k.u,vI k.l,.slice a1 k.f.length c1,.slice a2 k.aa.length c2,.slice a3 k.c.length c3,.bool k.w]] w (QD w k):=by
 have H:Hid (Ot k/\bK.Rd w a1 c1 a2 c2 a3 c3 k):=⟨Ot.of hk,h⟩
 clear hk h;obtain⟨W0,eB⟩:∃X,X=((w.alloc (.cells #[vI k.u,vI k.l,.slice a1 k.f.length c1,.slice a2 k.aa.length c2,.slice a3 k.c.length c3,.bool k.w] 32)).alloc (.cells #[vI 0,vI 0,.slice none 0 0,.slice none 0 0,.slice none 0 0,.bool false] 32)).alloc (.cells #[vI k.u,vI k.l,.slice none 0 0,.slice none 0 0,.slice none 0 0,.bool k.w] 32):=⟨_,rfl⟩
 have S0:Hid (Bt w (dJ a1 c1 a2 c2 a3 c3 k) kv k W0 (.slice none 0 0) (.slice none 0 0) (.slice none 0 0) [] jb [] jb [] jb):=by
  obtain⟨U1,kG⟩:∃X,X=w.alloc (.cells #[vI k.u,vI k.l,.slice a1 k.f.length c1,.slice a2 k.aa.length c2,.slice a3 k.c.length c3,.bool k.w] 32):=⟨_,rfl⟩
  have x1:Bx U1 w.1.size (dJ a1 c1 a2 c2 a3 c3 k):=by rw[kG];exact Bx.made w (dJ a1 c1 a2 c2 a3 c3 k) _
  have b1:Below w.1.size w U1:=by rw[kG];exact aJ.alloc aR _
  have z1:U1.1.size=w.1.size+1:=by rw[kG];simp
  obtain⟨U2,tK⟩:∃X,X=U1.alloc (.cells #[vI 0,vI 0,.slice none 0 0,.slice none 0 0,.slice none 0 0,.bool false] 32):=⟨_,rfl⟩
  have x2:Bx U2 U1.1.size kv:=by rw[tK];exact Bx.made U1 kv _
  have b2:Below U1.1.size U1 U2:=by rw[tK];exact aJ.alloc aR _
  have z2:U2.1.size=U1.1.size+1:=by rw[tK];simp
  have x3:Bx W0 U2.1.size [vI k.u,vI k.l,.slice none 0 0,.slice none 0 0,.slice none 0 0,.bool k.w]:=by rw[eB,tK,kG];exact Bx.made _ [vI k.u,vI k.l,.slice none 0 0,.slice none 0 0,.slice none 0 0,.bool k.w] _
  have b3:Below U2.1.size U2 W0:=by rw[eB,tK,kG];exact aJ.alloc aR _
  rw[show U2.1.size=w.1.size+2 by omega]at x3;rw[show U1.1.size=w.1.size+1 by omega]at x2;exact⟨(x1.later b2).later b3,x2.later b3,x3,su.nil _ _ _,ay (ay b1 b2) b3⟩
 have p2:=S0.out.arg.1 2 _ rfl;rw[eB]at p2;go_enter Tryz.func65,Tryz.ntmps65;go_wp2;rw[<-eB];rw[<-eB]at p2;clear eB p2;go_loopw[21] (fun v wr=>∃(j:Nat) (bP:Option Addr) (dP:Nat) (ps:List ((Nat×Nat)×List Int)) (gp:Nat->Nat->Prop),j<=k.f.length/\v=vI j/\ps.map (·.2)=k.f.take j/\Bt w (dJ a1 c1 a2 c2 a3 c3 k) kv k wr (.slice bP j dP) (.slice none 0 0) (.slice none 0 0) ps gp [] jb [] jb) (fun v _=>k.f.length-(intOf v).toNat)
 case atStart=>exact⟨0,none,0,[],jb,Nat.zero_le _,rfl,by simp,S0.out⟩
 case round=>
  obtain⟨j,bP,dP,ps,gp,hj,rfl,nk,fO⟩:=hrel;have tV:k.f.length<=1000:=by have:=H.out.1.p;omega
  have p2:=fO.arg.1 2 _ rfl;have p3:=fO.arg.1 3 _ rfl;have p4:=fO.arg.1 4 _ rfl;by_cases aN:j<k.f.length
  ·skip
   have bg:=fI aN;have Ex:ps.length=j:=by have:=congrArg List.length nk;simpa[Nat.min_eq_left hj]using this
   have fM:=H.out.2.later fO.sP;obtain⟨_,gy⟩:=fM.p;rcases gy with h0|⟨b,off,rfl,hb,gy⟩
   ·omega
   obtain⟨z0,z1,e0,⟨_,qL⟩,jJ⟩:=gy j _ bg;obtain⟨lY,GA⟩:=H.out.1.ps _ (List.mem_of_getElem? bg);rcases qL with h0|⟨zb,zo,rfl,UZ,WG⟩
   ·omega
   have OB:=e0;clear gy fM;obtain⟨X0,En⟩:∃X,X=wr.alloc (.cells #[.slice (some ⟨zb,zo,none⟩) (dR k.f j).length z1] 93):=⟨_,rfl⟩
   have bX:Below wr.1.size wr X0:=by rw[En];exact aJ.alloc aR _
   have xX:Bx X0 wr.1.size [.slice (some ⟨zb,zo,none⟩) (dR k.f j).length z1]:=by rw[En];exact Bx.made wr [.slice (some ⟨zb,zo,none⟩) (dR k.f j).length z1] _
   have iM:=JN X0.drew zb zo z1 (dR k.f j) (by have:=bX.size;show zb<X0.1.size;omega) (WG.below (bX.drew) UZ) (by omega);have HS:=aB fO;have HX:Hid (Below wr.1.size wr X0/\wr.1.size+1<=X0.1.size):=⟨bX,by rw[En];simp⟩
   have HB:=aB xX;have HM:Hid (ps.map (·.2)=k.f.take j/\ps.length=j/\k.f[j]?=some (dR k.f j)):=⟨nk,Ex,bg⟩
   clear fO bX xX nk Ex bg WG UZ jJ;go_wp2_with fail;rw[<-En];clear En;refine bL 9 (fun X:World=>Bx X (w.1.size+2) [vI k.u,vI k.l,(.slice bP j dP),(.slice none 0 0),(.slice none 0 0),.bool k.w]/\Bx X wr.1.size [.slice (some ⟨zb,zo,none⟩) (dR k.f j).length z1]) (by kernel_rfl) ?_;have dW:(fun X:World=>Bx X (w.1.size+2) [vI k.u,vI k.l,(.slice bP j dP),(.slice none 0 0),(.slice none 0 0),.bool k.w]/\Bx X wr.1.size [.slice (some ⟨zb,zo,none⟩) (dR k.f j).length z1]) X0.drew:=⟨(HS.out.own.later HX.out.1).later aJ.drew,(HB.out).later aJ.drew⟩
   have HD:Hid (Below wr.1.size wr X0.drew/\X0.1.size<=X0.drew.1.size):=⟨ay HX.out.1 aJ.drew,Nat.le_refl _⟩
   have cJ:wr.1.size<X0.drew.1.size:=dW.2.2.2;generalize X0.drew=XD at *;refine eQ 0 ?_ rfl ?_ dW ?_;rotate_left
   ·(intro w aG;go_simp;first|done|with_reducible rfl)
   simp only[Act.put];refine eQ 1 ?_ rfl ?_ dW ?_;rotate_left
   ·(intro w aG;have q:=aG.1.1 2 _ rfl;go_simp;first|done|with_reducible rfl|exact q)
   simp only[Act.put];refine eQ 2 ?_ rfl ?_ dW ?_;rotate_left
   ·(intro w aG;go_simp;first|done|with_reducible rfl)
   simp only[Act.put];refine eQ 3 ?_ rfl ?_ dW ?_;rotate_left
   ·(intro w aG;have q:=aG.2.1 0 _ rfl;go_simp;first|done|with_reducible rfl|exact q)
   simp only[Act.put];refine dX 4 rfl (fun K hK=>?_);go_simp;refine iM.mono ?_;clear iM;rintro e X2 ⟨q,cp,rfl,ho,b2⟩;have hO:Ag.Ow X2 wr.1.size (q,cp) (dR k.f j) (fun x=>x=q):=Ag.low ho.kp HD.out.1.size;have Q:=fun x:Nat=>x=q
   have l6:Below wr.1.size wr X2:=ay HD.out.1 b2;have iD:(fun X:World=>Bx X (w.1.size+2) [vI k.u,vI k.l,(.slice bP j dP),(.slice none 0 0),(.slice none 0 0),.bool k.w]/\Bx X wr.1.size [.slice (some ⟨zb,zo,none⟩) (dR k.f j).length z1]) X2:=⟨dW.1.later b2,dW.2.later b2⟩
   obtain⟨X3,lX⟩:∃X,X=X2.alloc (.cells #[(.slice (some ⟨q,0,none⟩) (dR k.f j).length cp)] 93):=⟨_,rfl⟩
   have b3:Below X2.1.size X2 X3:=by rw[lX];exact aJ.alloc aR _
   have x3:Bx X3 X2.1.size [(.slice (some ⟨q,0,none⟩) (dR k.f j).length cp)]:=by rw[lX];exact Bx.made X2 [(.slice (some ⟨q,0,none⟩) (dR k.f j).length cp)] _
   have jo:(fun X:World=>Bx X (w.1.size+2) [vI k.u,vI k.l,(.slice bP j dP),(.slice none 0 0),(.slice none 0 0),.bool k.w]/\Bx X wr.1.size [.slice (some ⟨zb,zo,none⟩) (dR k.f j).length z1]) X3:=⟨iD.1.later b3,iD.2.later b3⟩
   obtain⟨v',Y,hr,sH,jW,gL,dQ,a',c',rfl⟩:=HS.out.Ju (ay l6 b3) (q,cp) (dR k.f j) (fun x=>x=q) X2.1.size (by rw[HM.out.2.1];omega) 28 x3.1 (Ag.aQ hO b3.size (fun q hq=>b3.block q (Ag.of hO hq).2));have mQ:(fun X:World=>Bx X (w.1.size+2) [vI k.u,vI k.l,(.slice bP j dP),(.slice none 0 0),(.slice none 0 0),.bool k.w]/\Bx X wr.1.size [.slice (some ⟨zb,zo,none⟩) (dR k.f j).length z1]) Y:=⟨jW,jo.2.aj (gL _ (.inr ⟨by have:=HD.out.1.size;omega,jo.2.2.2⟩)) dQ⟩
   have HE:Hid ((ps++[((q,cp),dR k.f j)]).map (·.2)=k.f.take (j+1)):=by unfold Hid;rw[List.map_append,HM.out.1];exact lC HM.out.2.2
   rw[HM.out.2.1]at hr sH;have KE:=aB sH;refine hK.out _ _ (fun _=>iD) ?_;clear hK K b2 l6 b3 x3 sH jW gL dQ hO dW;refine eQ 5 ?_ rfl ?_ iD ?_;rotate_left
   ·(intro w aG;go_simp;first|done|with_reducible rfl)
   simp only[Act.put];refine dX 6 rfl (fun K hK=>?_);go_simp;rw[<-lX];refine hK.out _ _ (fun _=>jo) ?_;clear hK K iD;refine dX 7 rfl (fun K hK=>?_);refine df _ rfl (.tmp 26) (.tmp 31) 28 rfl _ _ _ _ (by first|rfl|simp[Act.eval,Act.put]) (by first|rfl|simp[Act.eval,Act.put]) hr ?_;refine hK.out _ _ (fun _=>mQ) ?_;clear hK K hr jo lX;simp only[Act.put];refine dX 8 rfl (fun K hK=>?_);go_simp;refine hK.out _ _ (fun _=>mQ) ?_;clear hK K;refine dX 9 rfl (fun K hK=>?_);have o2:=mQ.1.1 2 _ rfl;have XF:=mQ.1.2.1 2;go_simp;refine hK.out _ _ (fun h=>absurd rfl h) ?_;clear hK K;refine bS (by kernel_rfl) ?_ _;go_wp2;exact⟨⟨j+1,a',c',_,_,by omega,by simp,HE.out,KE.out⟩,by simp[intOf];omega⟩
  ·obtain rfl:k.f.length=j:=by omega
   have hd:decide ((k.f.length:Int)<(k.f.length:Int))=false:=by simp
   rw[List.take_length]at nk;have EP:Hid (ps.map (·.2)=k.f):=nk;have S1:=aB fO;clear nk fO hj aN tV;go_wp2;clear p2 p3 p4;generalize wr=WP at *;go_loopw[38] (fun v wr=>∃(j:Nat) (bM:Option Addr) (dM:Nat) (ms:List ((MV)×M4)) (gm:Nat->Nat->Prop),j<=k.aa.length/\v=vI j/\ms.map (·.2)=k.aa.take j/\Bt w (dJ a1 c1 a2 c2 a3 c3 k) kv k wr (.slice bP k.f.length dP) (.slice bM j dM) (.slice none 0 0) ps gp ms gm [] jb) (fun v _=>k.aa.length-(intOf v).toNat)
   case atStart=>exact⟨0,none,0,[],jb,Nat.zero_le _,rfl,by simp,S1.out⟩
   case round=>
    obtain⟨j,bM,dM,ms,gm,hj,rfl,nk,fO⟩:=hrel;have tV:k.aa.length<=1000:=by have:=H.out.1.m;omega
    have p2:=fO.arg.1 2 _ rfl;have p3:=fO.arg.1 3 _ rfl;have p4:=fO.arg.1 4 _ rfl;by_cases aN:j<k.aa.length
    ·skip
     have bg:=il aN;have Ex:ms.length=j:=by have:=congrArg List.length nk;simpa[Nat.min_eq_left hj]using this
     have fM:=H.out.2.later fO.sP;rcases fM.m with h0|⟨b,off,rfl,hb,pU⟩
     ·rw[h0]at aN;simp at aN
     obtain⟨⟨m0,m1,m2,m3,m4,m5⟩,kz,Jd⟩:=pU j _ bg;have OB:wr.cell? ⟨b,off+j*4,none⟩=some (.bool (aS k.aa j).x):=kz 0 _ rfl;have Sb:wr.cell? ⟨b,off+j*4+1,none⟩=some (.slice m0 (aS k.aa j).af.length m1):=kz 1 _ rfl;have Sc:wr.cell? ⟨b,off+j*4+2,none⟩=some (.slice m2 (aS k.aa j).h.length m3):=kz 2 _ rfl;have Sd:wr.cell? ⟨b,off+j*4+3,none⟩=some (.slice m4 (aS k.aa j).ai.length m5):=kz 3 _ rfl;clear pU fM kz;obtain⟨X0,En⟩:∃X,X=wr.alloc (.cells #[.bool (aS k.aa j).x,.slice m0 (aS k.aa j).af.length m1,.slice m2 (aS k.aa j).h.length m3,.slice m4 (aS k.aa j).ai.length m5] 92):=⟨_,rfl⟩
     have bX:Below wr.1.size wr X0:=by rw[En];exact aJ.alloc aR _
     have xX:Bx X0 wr.1.size [.bool (aS k.aa j).x,.slice m0 (aS k.aa j).af.length m1,.slice m2 (aS k.aa j).h.length m3,.slice m4 (aS k.aa j).ai.length m5]:=by rw[En];exact Bx.made wr [.bool (aS k.aa j).x,.slice m0 (aS k.aa j).af.length m1,.slice m2 (aS k.aa j).h.length m3,.slice m4 (aS k.aa j).ai.length m5] _
     have iM:=zM X0 ⟨m0,m1,m2,m3,m4,m5⟩ (aS k.aa j) (H.out.1.ms _ (List.mem_of_getElem? bg)) (pF.later Jd bX);simp only[MV.val]at iM;have HS:=aB fO;have HX:Hid (Below wr.1.size wr X0/\wr.1.size+1<=X0.1.size):=⟨bX,by rw[En];simp⟩
     have HB:=aB xX;have HM:Hid (ms.map (·.2)=k.aa.take j/\ms.length=j/\k.aa[j]?=some (aS k.aa j)):=⟨nk,Ex,bg⟩
     clear fO bX xX nk Ex bg Jd;go_wp2_with fail;rw[<-En];clear En;refine iM.mono ?_;clear iM;rintro e w2 ⟨⟨u0,u1,u2,u3,u4,u5⟩,pp,gk,gr,rfl,lI,b2⟩;obtain⟨X1,XK⟩:∃X,X=w2.alloc (.cells #[.slice u2 (aS k.aa j).h.length u3,.bool (aS k.aa j).x,.slice u0 (aS k.aa j).af.length u1,.slice u4 (aS k.aa j).ai.length u5] 179):=⟨_,rfl⟩
     have b3:Below w2.1.size w2 X1:=by rw[XK];exact aJ.alloc aR _
     have xM:Bx X1 w2.1.size [.slice u2 (aS k.aa j).h.length u3,.bool (aS k.aa j).x,.slice u0 (aS k.aa j).af.length u1,.slice u4 (aS k.aa j).ai.length u5]:=by rw[XK];exact Bx.made w2 [.slice u2 (aS k.aa j).h.length u3,.bool (aS k.aa j).x,.slice u0 (aS k.aa j).af.length u1,.slice u4 (aS k.aa j).ai.length u5] _
     obtain⟨Q,hQ⟩:=MR.ow lI;have bs:fZ.Ow X1 wr.1.size ⟨u0,u1,u2,u3,u4,u5⟩ (aS k.aa j) Q:=fZ.aQ (fZ.low hQ (by have:=HX.out.2;omega)) b3.size (fun q hq=>b3.block q (fZ.of hQ hq).2);have IY:Below wr.1.size wr X1:=ay (ay HX.out.1 b2) b3;have eI:wr.1.size<w2.1.size:=by have:=HX.out.2;have:=b2.size;omega
     have Yp:Hid (Below wr.1.size wr X1/\fZ.Ow X1 wr.1.size ⟨u0,u1,u2,u3,u4,u5⟩ (aS k.aa j) Q):=⟨IY,bs⟩
     have HB1:Hid (Bx X1 w2.1.size [.slice u2 (aS k.aa j).h.length u3,.bool (aS k.aa j).x,.slice u0 (aS k.aa j).af.length u1,.slice u4 (aS k.aa j).ai.length u5]):=xM;have iM:=JU X1.drew w2.1.size (aS k.aa j).x u2 (aS k.aa j).h.length u3 u0 (aS k.aa j).af.length u1 u4 (aS k.aa j).ai.length u5 (xM.1 0 _ rfl) (xM.1 1 _ rfl) (xM.1 2 _ rfl) (xM.1 3 _ rfl) xM.2.2;clear lI b2 b3 xM hQ bs IY;go_wp2_with fail;rw[<-XK];clear XK;refine bL 6 (fun X:World=>Bx X (w.1.size+2) [vI k.u,vI k.l,(.slice bP k.f.length dP),(.slice bM j dM),(.slice none 0 0),.bool k.w]/\Bx X w2.1.size [.slice u2 (aS k.aa j).h.length u3,.bool (aS k.aa j).x,.slice u0 (aS k.aa j).af.length u1,.slice u4 (aS k.aa j).ai.length u5]) (by kernel_rfl) ?_;have dW:(fun X:World=>Bx X (w.1.size+2) [vI k.u,vI k.l,(.slice bP k.f.length dP),(.slice bM j dM),(.slice none 0 0),.bool k.w]/\Bx X w2.1.size [.slice u2 (aS k.aa j).h.length u3,.bool (aS k.aa j).x,.slice u0 (aS k.aa j).af.length u1,.slice u4 (aS k.aa j).ai.length u5]) X1.drew:=⟨(HS.out.own.later Yp.out.1).later aJ.drew,(HB1.out).later aJ.drew⟩
     have HD:Hid (Below wr.1.size wr X1.drew/\X1.1.size<=X1.drew.1.size):=⟨ay Yp.out.1 aJ.drew,Nat.le_refl _⟩
     have HQ:Hid (fZ.Ow X1.drew wr.1.size ⟨u0,u1,u2,u3,u4,u5⟩ (aS k.aa j) Q):=fZ.aQ Yp.out.2 aR (fun q _=>rfl);have cJ:w2.1.size<X1.drew.1.size:=dW.2.2.2;generalize X1.drew=XD at *;refine eQ 0 ?_ rfl ?_ dW ?_;rotate_left
     ·(intro w aG;go_simp;first|done|with_reducible rfl)
     simp only[Act.put];refine eQ 1 ?_ rfl ?_ dW ?_;rotate_left
     ·(intro w aG;have q:=aG.1.1 3 _ rfl;go_simp;first|done|with_reducible rfl|exact q)
     simp only[Act.put];refine dX 2 rfl (fun K hK=>?_);go_simp;refine iM.mono ?_;clear iM;rintro e X2 ⟨rfl,b2⟩;have hO:fZ.Ow X2 wr.1.size ⟨u0,u1,u2,u3,u4,u5⟩ (aS k.aa j) Q:=fZ.aQ HQ.out b2.size (fun q hq=>b2.block q (fZ.of HQ.out hq).2);have l6:Below wr.1.size wr X2:=ay HD.out.1 b2;have iD:(fun X:World=>Bx X (w.1.size+2) [vI k.u,vI k.l,(.slice bP k.f.length dP),(.slice bM j dM),(.slice none 0 0),.bool k.w]/\Bx X w2.1.size [.slice u2 (aS k.aa j).h.length u3,.bool (aS k.aa j).x,.slice u0 (aS k.aa j).af.length u1,.slice u4 (aS k.aa j).ai.length u5]) X2:=⟨dW.1.later b2,dW.2.later b2⟩
     obtain⟨X3,lX⟩:∃X,X=X2.alloc (.cells #[(.bool (aS k.aa j).x),(.slice u0 (aS k.aa j).af.length u1),(.slice u2 (aS k.aa j).h.length u3),(.slice u4 (aS k.aa j).ai.length u5)] 92):=⟨_,rfl⟩
     have b3:Below X2.1.size X2 X3:=by rw[lX];exact aJ.alloc aR _
     have x3:Bx X3 X2.1.size [(.bool (aS k.aa j).x),(.slice u0 (aS k.aa j).af.length u1),(.slice u2 (aS k.aa j).h.length u3),(.slice u4 (aS k.aa j).ai.length u5)]:=by rw[lX];exact Bx.made X2 [(.bool (aS k.aa j).x),(.slice u0 (aS k.aa j).af.length u1),(.slice u2 (aS k.aa j).h.length u3),(.slice u4 (aS k.aa j).ai.length u5)] _
     have jo:(fun X:World=>Bx X (w.1.size+2) [vI k.u,vI k.l,(.slice bP k.f.length dP),(.slice bM j dM),(.slice none 0 0),.bool k.w]/\Bx X w2.1.size [.slice u2 (aS k.aa j).h.length u3,.bool (aS k.aa j).x,.slice u0 (aS k.aa j).af.length u1,.slice u4 (aS k.aa j).ai.length u5]) X3:=⟨iD.1.later b3,iD.2.later b3⟩
     obtain⟨v',Y,hr,sH,jW,gL,dQ,a',c',rfl⟩:=HS.out.Jt (ay l6 b3) (⟨u0,u1,u2,u3,u4,u5⟩:MV) (aS k.aa j) Q X2.1.size (by rw[HM.out.2.1];omega) 29 x3.1 (fZ.aQ hO b3.size (fun q hq=>b3.block q (fZ.of hO hq).2));have mQ:(fun X:World=>Bx X (w.1.size+2) [vI k.u,vI k.l,(.slice bP k.f.length dP),(.slice bM j dM),(.slice none 0 0),.bool k.w]/\Bx X w2.1.size [.slice u2 (aS k.aa j).h.length u3,.bool (aS k.aa j).x,.slice u0 (aS k.aa j).af.length u1,.slice u4 (aS k.aa j).ai.length u5]) Y:=⟨jW,jo.2.aj (gL _ (.inr ⟨by have:=HD.out.1.size;omega,jo.2.2.2⟩)) dQ⟩
     have HE:Hid ((ms++[((⟨u0,u1,u2,u3,u4,u5⟩:MV),aS k.aa j)]).map (·.2)=k.aa.take (j+1)):=by unfold Hid;rw[List.map_append,HM.out.1];exact lC HM.out.2.2
     rw[HM.out.2.1]at hr sH;have KE:=aB sH;refine hK.out _ _ (fun _=>iD) ?_;clear hK K b2 l6 b3 x3 sH jW gL dQ hO dW;refine dX 3 rfl (fun K hK=>?_);go_simp;rw[<-lX];refine hK.out _ _ (fun _=>jo) ?_;clear hK K iD;refine dX 4 rfl (fun K hK=>?_);refine df _ rfl (.tmp 45) (.tmp 47) 29 rfl _ _ _ _ (by first|rfl|simp[Act.eval,Act.put]) (by first|rfl|simp[Act.eval,Act.put]) hr ?_;refine hK.out _ _ (fun _=>mQ) ?_;clear hK K hr jo lX;simp only[Act.put];refine dX 5 rfl (fun K hK=>?_);go_simp;refine hK.out _ _ (fun _=>mQ) ?_;clear hK K;refine dX 6 rfl (fun K hK=>?_);have o3:=mQ.1.1 3 _ rfl;have ij:=mQ.1.2.1 3;go_simp;refine hK.out _ _ (fun h=>absurd rfl h) ?_;clear hK K;refine bS (by kernel_rfl) ?_ _;go_wp2;exact⟨⟨j+1,a',c',_,_,by omega,by simp,HE.out,KE.out⟩,by simp[intOf];omega⟩
    ·obtain rfl:k.aa.length=j:=by omega
     have hd:decide ((k.aa.length:Int)<(k.aa.length:Int))=false:=by simp
     rw[List.take_length]at nk;have EM:Hid (ms.map (·.2)=k.aa):=nk;have S1:=aB fO;clear nk fO hj aN tV;go_wp2;clear p2 p3 p4;generalize wr=WM at *;go_loopw[54] (fun v wr=>∃(j:Nat) (bT:Option Addr) (dT:Nat) (ts:List ((tx.TV)×tx.T7)) (gt:Nat->Nat->Prop),j<=k.c.length/\v=vI j/\ts.map (·.2)=k.c.take j/\Bt w (dJ a1 c1 a2 c2 a3 c3 k) kv k wr (.slice bP k.f.length dP) (.slice bM k.aa.length dM) (.slice bT j dT) ps gp ms gm ts gt) (fun v _=>k.c.length-(intOf v).toNat)
     case atStart=>exact⟨0,none,0,[],jb,Nat.zero_le _,rfl,by simp,S1.out⟩
     case round=>
      obtain⟨j,bT,dT,ts,gt,hj,rfl,nk,fO⟩:=hrel;have tV:k.c.length<=1000:=by have:=H.out.1.t;omega
      have p2:=fO.arg.1 2 _ rfl;have p3:=fO.arg.1 3 _ rfl;have p4:=fO.arg.1 4 _ rfl;by_cases aN:j<k.c.length
      ·skip
       have bg:=fV aN;have Ex:ts.length=j:=by have:=congrArg List.length nk;simpa[Nat.min_eq_left hj]using this
       have fM:=H.out.2.later fO.sP;rcases fM.t with h0|⟨b,off,rfl,hb,pU⟩
       ·rw[h0]at aN;simp at aN
       obtain⟨⟨t0,t1,t2,t3⟩,kz,Jd⟩:=pU j _ bg;have OB:wr.cell? ⟨b,off+j*7,none⟩=some (vI (aM k.c j).id):=kz 0 _ rfl;have Sb:wr.cell? ⟨b,off+j*7+1,none⟩=some (vI (aM k.c j).o):=kz 1 _ rfl;have Sc:wr.cell? ⟨b,off+j*7+2,none⟩=some (vI (aM k.c j).q):=kz 2 _ rfl;have Sd:wr.cell? ⟨b,off+j*7+3,none⟩=some (vI (aM k.c j).v):=kz 3 _ rfl;have YI:wr.cell? ⟨b,off+j*7+4,none⟩=some (.slice t0 (aM k.c j).a.length t1):=kz 4 _ rfl;have YJ:wr.cell? ⟨b,off+j*7+5,none⟩=some (.slice t2 (aM k.c j).ag.length t3):=kz 5 _ rfl;have YK:wr.cell? ⟨b,off+j*7+6,none⟩=some (vI (aM k.c j).aA):=kz 6 _ rfl;clear pU fM kz;obtain⟨X0,En⟩:∃X,X=wr.alloc (.cells #[vI (aM k.c j).id,vI (aM k.c j).o,vI (aM k.c j).q,vI (aM k.c j).v,.slice t0 (aM k.c j).a.length t1,.slice t2 (aM k.c j).ag.length t3,vI (aM k.c j).aA] 50):=⟨_,rfl⟩
       have bX:Below wr.1.size wr X0:=by rw[En];exact aJ.alloc aR _
       have xX:Bx X0 wr.1.size (tx.iC t0 t1 t2 t3 (aM k.c j)):=by rw[En];exact Bx.made wr (tx.iC t0 t1 t2 t3 (aM k.c j)) _
       obtain⟨l1,l2⟩:=H.out.1.ts _ (List.mem_of_getElem? bg);have bh:Below wr.1.size wr X0.drew:=bX.drew;have iM:=tx.vY X0.drew ⟨t0,t1,t2,t3⟩ (aM k.c j) (by omega) (by omega) (tx.lW.later Jd bh);simp only[tx.TV.val]at iM;have HS:=aB fO;have HX:Hid (Below wr.1.size wr X0/\wr.1.size+1<=X0.1.size):=⟨bX,by rw[En];simp⟩
       have HB:=aB xX;have HM:Hid (ts.map (·.2)=k.c.take j/\ts.length=j/\k.c[j]?=some (aM k.c j)):=⟨nk,Ex,bg⟩
       clear fO bX xX nk Ex bg Jd bh l1 l2;go_wp2_with fail;rw[<-En];clear En;refine bL 7 (fun X:World=>Bx X (w.1.size+2) [vI k.u,vI k.l,(.slice bP k.f.length dP),(.slice bM k.aa.length dM),(.slice bT j dT),.bool k.w]/\Bx X wr.1.size (tx.iC t0 t1 t2 t3 (aM k.c j))) (by kernel_rfl) ?_;have dW:(fun X:World=>Bx X (w.1.size+2) [vI k.u,vI k.l,(.slice bP k.f.length dP),(.slice bM k.aa.length dM),(.slice bT j dT),.bool k.w]/\Bx X wr.1.size (tx.iC t0 t1 t2 t3 (aM k.c j))) X0.drew:=⟨(HS.out.own.later HX.out.1).later aJ.drew,(HB.out).later aJ.drew⟩
       have HD:Hid (Below wr.1.size wr X0.drew/\X0.1.size<=X0.drew.1.size):=⟨ay HX.out.1 aJ.drew,Nat.le_refl _⟩
       have cJ:wr.1.size<X0.drew.1.size:=dW.2.2.2;generalize X0.drew=XD at *;refine eQ 0 ?_ rfl ?_ dW ?_;rotate_left
       ·(intro w aG;go_simp;first|done|with_reducible rfl)
       simp only[Act.put];refine eQ 1 ?_ rfl ?_ dW ?_;rotate_left
       ·(intro w aG;have q:=aG.1.1 4 _ rfl;go_simp;first|done|with_reducible rfl|exact q)
       simp only[Act.put];refine eQ 2 ?_ rfl ?_ dW ?_;rotate_left
       ·(intro w aG;have q0:=aG.2.1 0 _ rfl;have q1:=aG.2.1 1 _ rfl;have q2:=aG.2.1 2 _ rfl;have q3:=aG.2.1 3 _ rfl;have q4:=aG.2.1 4 _ rfl;have q5:=aG.2.1 5 _ rfl;have q6:=aG.2.1 6 _ rfl;go_simp;first|done|rfl)
       simp only[Act.put];refine dX 3 rfl (fun K hK=>?_);go_simp;refine iM.mono ?_;clear iM;rintro e X2 ⟨u0,u1,u2,u3,PR,PS,rfl,ho,b2⟩;simp only[tx.TV.val];have hO:fQ.Ow X2 wr.1.size ⟨u0,u1,u2,u3⟩ (aM k.c j) (tx.oW PR PS):=fQ.low (KT.ow ho) HD.out.1.size;have l6:Below wr.1.size wr X2:=ay HD.out.1 b2;have iD:(fun X:World=>Bx X (w.1.size+2) [vI k.u,vI k.l,(.slice bP k.f.length dP),(.slice bM k.aa.length dM),(.slice bT j dT),.bool k.w]/\Bx X wr.1.size (tx.iC t0 t1 t2 t3 (aM k.c j))) X2:=⟨dW.1.later b2,dW.2.later b2⟩
       obtain⟨X3,lX⟩:∃X,X=X2.alloc (.cells #[(vI (aM k.c j).id),(vI (aM k.c j).o),(vI (aM k.c j).q),(vI (aM k.c j).v),(.slice u0 (aM k.c j).a.length u1),(.slice u2 (aM k.c j).ag.length u3),(vI (aM k.c j).aA)] 50):=⟨_,rfl⟩
       have b3:Below X2.1.size X2 X3:=by rw[lX];exact aJ.alloc aR _
       have x3:Bx X3 X2.1.size [(vI (aM k.c j).id),(vI (aM k.c j).o),(vI (aM k.c j).q),(vI (aM k.c j).v),(.slice u0 (aM k.c j).a.length u1),(.slice u2 (aM k.c j).ag.length u3),(vI (aM k.c j).aA)]:=by rw[lX];exact Bx.made X2 [(vI (aM k.c j).id),(vI (aM k.c j).o),(vI (aM k.c j).q),(vI (aM k.c j).v),(.slice u0 (aM k.c j).a.length u1),(.slice u2 (aM k.c j).ag.length u3),(vI (aM k.c j).aA)] _
       have jo:(fun X:World=>Bx X (w.1.size+2) [vI k.u,vI k.l,(.slice bP k.f.length dP),(.slice bM k.aa.length dM),(.slice bT j dT),.bool k.w]/\Bx X wr.1.size (tx.iC t0 t1 t2 t3 (aM k.c j))) X3:=⟨iD.1.later b3,iD.2.later b3⟩
       obtain⟨v',Y,hr,sH,jW,gL,dQ,a',c',rfl⟩:=HS.out.Jv (ay l6 b3) (⟨u0,u1,u2,u3⟩:tx.TV) (aM k.c j) (tx.oW PR PS) X2.1.size (by rw[HM.out.2.1];omega) 30 x3.1 (fQ.aQ hO b3.size (fun q hq=>b3.block q (fQ.of hO hq).2));have mQ:(fun X:World=>Bx X (w.1.size+2) [vI k.u,vI k.l,(.slice bP k.f.length dP),(.slice bM k.aa.length dM),(.slice bT j dT),.bool k.w]/\Bx X wr.1.size (tx.iC t0 t1 t2 t3 (aM k.c j))) Y:=⟨jW,jo.2.aj (gL _ (.inr ⟨by have:=HD.out.1.size;omega,jo.2.2.2⟩)) dQ⟩
       have HE:Hid ((ts++[((⟨u0,u1,u2,u3⟩:tx.TV),aM k.c j)]).map (·.2)=k.c.take (j+1)):=by unfold Hid;rw[List.map_append,HM.out.1];exact lC HM.out.2.2
       rw[HM.out.2.1]at hr sH;have KE:=aB sH;refine hK.out _ _ (fun _=>iD) ?_;clear hK K b2 l6 b3 x3 sH jW gL dQ hO dW;refine dX 4 rfl (fun K hK=>?_);go_simp;rw[<-lX];refine hK.out _ _ (fun _=>jo) ?_;clear hK K iD;refine dX 5 rfl (fun K hK=>?_);refine df _ rfl (.tmp 59) (.tmp 62) 30 rfl _ _ _ _ (by first|rfl|simp[Act.eval,Act.put]) (by first|rfl|simp[Act.eval,Act.put]) hr ?_;refine hK.out _ _ (fun _=>mQ) ?_;clear hK K hr jo lX;simp only[Act.put];refine dX 6 rfl (fun K hK=>?_);go_simp;refine hK.out _ _ (fun _=>mQ) ?_;clear hK K;refine dX 7 rfl (fun K hK=>?_);have o4:=mQ.1.1 4 _ rfl;have iu:=mQ.1.2.1 4;go_simp;refine hK.out _ _ (fun h=>absurd rfl h) ?_;clear hK K;refine bS (by kernel_rfl) ?_ _;go_wp2;exact⟨⟨j+1,a',c',_,_,by omega,by simp,HE.out,KE.out⟩,by simp[intOf];omega⟩
      ·obtain rfl:k.c.length=j:=by omega
       have hd:decide ((k.c.length:Int)<(k.c.length:Int))=false:=by simp
       rw[List.take_length]at nk;have ET:Hid (ts.map (·.2)=k.c):=nk;have S1:=aB fO;clear nk fO hj aN tV;have o0:=S1.out.own.1 0 _ rfl;have o1:=S1.out.own.1 1 _ rfl;have o2:=S1.out.own.1 2 _ rfl;have o3:=S1.out.own.1 3 _ rfl;have o4:=S1.out.own.1 4 _ rfl;have o5:=S1.out.own.1 5 _ rfl;have r0:=S1.out.res.1 0 _ rfl;have r1:=S1.out.res.1 1 _ rfl;have r2:=S1.out.res.1 2 _ rfl;have r3:=S1.out.res.1 3 _ rfl;have r4:=S1.out.res.1 4 _ rfl;have r5:=S1.out.res.1 5 _ rfl;have f0:=S1.out.res.2.1 0;have f1:=S1.out.res.2.1 1;have f2:=S1.out.res.2.1 2;have f3:=S1.out.res.2.1 3;have f4:=S1.out.res.2.1 4;have f5:=S1.out.res.2.1 5;go_wp2;refine bodyPost_ret (v:=.agg #[vI k.u,vI k.l,.slice bP k.f.length dP,.slice bM k.aa.length dM,.slice bT k.c.length dT,.bool k.w]) (by simp[results,Tryz.results65,go_sem,r0,r1,r2,r3,r4,r5]) rfl ?_;refine⟨bP,dP,bM,dM,bT,dT,ps,gp,ms,gm,ts,gt,rfl,?_,EP.out,EM.out,ET.out,?_⟩
       ·exact S1.out.rows.aQ (Y:=di wr (w.1.size+1) 0 (dJ bP dP bM dM bT dT k)) (by rw[bf];exact Nat.le_refl _) (fun q _ hb _=>aV (by omega) _ _ _)
       ·exact aU (w:=w) (by omega) (dJ bP dP bM dM bT dT k) wr 0 S1.out.sP
namespace tx
def eH(f:Nat->Bool)(n:Nat)(i:Int):Prop:=(i=-1/\∀j,j<n->f j=false)\/∃k:Nat,i=(k:Int)/\k<n/\f k=true/\∀j,j<k->f j=false
theorem gT{f:Nat->Bool}{n:Nat}{i:Int}(h:eH f n i):decide (0<=i)=!((List.range n).all fun j=>!f j):=by
 rcases h with ⟨rfl,h⟩|⟨k,rfl,hk,hf,_⟩
 ·have:((List.range n).all fun j=>!f j)=true:=by rw[List.all_eq_true];intro j hj;simp[h j (List.mem_range.1 hj)]
  rw[this];rfl
 ·have:((List.range n).all fun j=>!f j)=false:=by rw[List.all_eq_false];exact⟨k,List.mem_range.2 hk,by simp[hf]⟩
  rw[this];simp
theorem jl(w:World)(x:Int):Calls Tryz.prog 185 #[vI x] w fun e w'=>e=.returned (.bool (aY 1 1000000 x))/\w'=w:=by
 go_enter Tryz.func185,Tryz.ntmps185;go_wp2;all_goals (go_ret;refine⟨dU ?_,rfl⟩;simp[dm];try omega)
theorem ib(w:World)(x:Int):Calls Tryz.prog 212 #[vI x] w fun e w'=>e=.returned (.bool (aY 0 7 x))/\w'=w:=by
 go_enter Tryz.func212,Tryz.ntmps212;go_wp2;all_goals (go_ret;refine⟨dU ?_,rfl⟩;simp[dm];try omega)
theorem ll(w:World)(x:Int):Calls Tryz.prog 229 #[vI x] w fun e w'=>e=.returned (.bool (aY 1 9 x))/\w'=w:=by
 go_enter Tryz.func229,Tryz.ntmps229;go_wp2;all_goals (go_ret;refine⟨dU ?_,rfl⟩;simp[dm];try omega)
theorem nA(w:World)(x:Int):Calls Tryz.prog 230 #[vI x] w fun e w'=>e=.returned (.bool (aY 0 1000 x))/\w'=w:=by
 go_enter Tryz.func230,Tryz.ntmps230;go_wp2;all_goals (go_ret;refine⟨dU ?_,rfl⟩;simp[dm];try omega)
theorem kg(w:World)(x:Int):Calls Tryz.prog 164 #[vI x] w fun e w'=>e=.returned (.bool (aY 0 1000000 x))/\w'=w:=by
 go_enter Tryz.func164,Tryz.ntmps164;go_wp2;all_goals (go_ret;refine⟨dU ?_,rfl⟩;simp[dm];try omega)
theorem EF(w:World)(x:Int):Calls Tryz.prog 235 #[vI x] w fun e w'=>e=.returned (.bool (aY 0 1000000 x))/\w'=w:=by
 go_enter Tryz.func235,Tryz.ntmps235;go_wp2;all_goals (go_ret;refine⟨dU ?_,rfl⟩;simp[dm];try omega)
theorem yX(w:World)(s:N5):Calls Tryz.prog 207 #[.agg #[vI s.b,vI s.e,vI s.j,vI s.g,.bool s.i]] w fun e w'=>e=.returned (.bool (bn s))/\Below w.1.size w w':=by
 obtain⟨r,l,v,u,x⟩:=s;go_enter Tryz.func207,Tryz.ntmps207
 cases h1:aY 0 5 r<;>cases h2:aY 0 5 l<;>cases h3:aY 0 1000000 v;all_goals go_wp2_with (first|(go_at_call 235;refine(EF _ _).mono ?_;rintro e w' ⟨rfl,rfl⟩)|(go_at_call 234;refine(gH _ _).mono ?_;rintro e w' ⟨rfl,rfl⟩)|(go_at_call 64;refine(qc _ _).mono ?_;rintro e w' ⟨rfl,rfl⟩)|(go_at_call 226;refine(vL _ _).mono ?_;rintro e w' ⟨rfl,rfl⟩))
 all_goals (go_ret;refine⟨dU ?_,aJ.alloc aR _⟩;simp only[bn,h1,h2,h3,Bool.and_true,Bool.and_false,Bool.false_and,Bool.true_and];try simp[dm];try omega)
def rk(r s:Int):Int:=r*6+s
theorem Fu(w:World)(r s:Int)(h1:aY 0 5 r=true)(h2:aY 0 5 s=true):Calls Tryz.prog 223 #[.agg #[vI r,vI s]] w fun e w'=>e=.returned (vI (rk r s))/\Below w.1.size w w':=by
 rw[dm]at h1 h2;have e1:IntKind.i64.wrap (r*6)=r*6:=by simp[IntKind.wrap,IntKind.bits,IntKind.signed];omega
 have e2:IntKind.i64.wrap (r*6+s)=r*6+s:=by simp[IntKind.wrap,IntKind.bits,IntKind.signed];omega
 go_enter Tryz.func223,Tryz.ntmps223;go_wp2;go_ret;exact⟨by simp[rk],aJ.alloc aR _⟩
theorem qF{r s q t:Int}(h1:aY 0 5 s=true)(h2:aY 0 5 t=true):jP r s q t=decide (rk r s<rk q t):=by
 rw[dm]at h1 h2;have hk:∀a b,rk a b=a*6+b:=fun _ _=>rfl
 have hd:(r<q\/r=q/\s<t)↔rk r s<rk q t:=by
  rw[hk,hk];constructor
  ·rintro (h|⟨h,h'⟩)<;>omega
  ·intro h;by_cases hr:r<q
   ·exact .inl hr
   ·exact .inr ⟨by omega,by omega⟩
 rw[Bool.eq_iff_iff];simp[jP,hd]
theorem gI(w:World)(s:N5):Calls Tryz.prog 209 #[.agg #[vI s.b,vI s.e,vI s.j,vI s.g,.bool s.i]] w fun e w'=>e=.returned (.agg #[vI s.b,vI s.e])/\Below w.1.size w w':=by
 obtain⟨f0,f1,f2,f3,f4⟩:=s;go_enter Tryz.func209,Tryz.ntmps209;go_wp2;refine bodyPost_ret (v:=.agg #[vI f0,vI f1]) (by simp[results,Tryz.results209,go_sem]) rfl ⟨rfl,?_⟩;exact(aJ.alloc aR _).alloc (by simp) _
theorem oD(w:World)(s:N5)(h1:aY 0 5 s.b=true)(h2:aY 0 5 s.e=true):Calls Tryz.prog 224 #[.agg #[vI s.b,vI s.e,vI s.j,vI s.g,.bool s.i]] w fun e w'=>e=.returned (vI (rk s.b s.e))/\Below w.1.size w w':=by
 have b0:Below w.1.size w (w.alloc (.cells #[vI s.b,vI s.e,vI s.j,vI s.g,.bool s.i] 112)):=aJ.alloc aR _;have c1:=gI (w.alloc (.cells #[vI s.b,vI s.e,vI s.j,vI s.g,.bool s.i] 112)) s
 have hm:∀w:World,(method 454 112 (.agg #[vI s.b,vI s.e,vI s.j,vI s.g,.bool s.i]) "loop.example/g00153/impl.cell").run Tryz.prog w=.ok (209,.agg #[vI s.b,vI s.e,vI s.j,vI s.g,.bool s.i]) w:=fun _=>by kernel_rfl
 go_enter Tryz.func224,Tryz.ntmps224;go_wp2_with (first|(go_at_call 209;refine c1.mono ?_;rintro e w1 ⟨rfl,b1⟩)|(go_at_call 223;refine(Fu _ _ _ h1 h2).mono ?_;rintro e w2 ⟨rfl,b2⟩));go_ret;exact⟨rfl,b0.trans ((b1.trans (b2.mono b1.size)).mono b0.size)⟩
theorem oH(w:World)(s:S5):Calls Tryz.prog 283 #[.agg #[vI s.b,vI s.e,vI s.g,.bool s.i,vI s.j]] w fun e w'=>e=.returned (.agg #[vI s.b,vI s.e])/\Below w.1.size w w':=by
 obtain⟨f0,f1,f2,f3,f4⟩:=s;go_enter Tryz.func283,Tryz.ntmps283;go_wp2;refine bodyPost_ret (v:=.agg #[vI f0,vI f1]) (by simp[results,Tryz.results283,go_sem]) rfl ⟨rfl,?_⟩;exact(aJ.alloc aR _).alloc (by simp) _
theorem oI(w:World)(s:S5)(h1:aY 0 5 s.b=true)(h2:aY 0 5 s.e=true):Calls Tryz.prog 195 #[.agg #[vI s.b,vI s.e,vI s.g,.bool s.i,vI s.j]] w fun e w'=>e=.returned (vI (rk s.b s.e))/\Below w.1.size w w':=by
 have b0:Below w.1.size w (w.alloc (.cells #[vI s.b,vI s.e,vI s.g,.bool s.i,vI s.j] 100)):=aJ.alloc aR _;have c1:=oH (w.alloc (.cells #[vI s.b,vI s.e,vI s.g,.bool s.i,vI s.j] 100)) s
 have hm:∀w:World,(method 454 100 (.agg #[vI s.b,vI s.e,vI s.g,.bool s.i,vI s.j]) "loop.example/g00153/impl.cell").run Tryz.prog w=.ok (283,.agg #[vI s.b,vI s.e,vI s.g,.bool s.i,vI s.j]) w:=fun _=>by kernel_rfl
 go_enter Tryz.func195,Tryz.ntmps195;go_wp2_with (first|(go_at_call 283;refine c1.mono ?_;rintro e w1 ⟨rfl,b1⟩)|(go_at_call 223;refine(Fu _ _ _ h1 h2).mono ?_;rintro e w2 ⟨rfl,b2⟩));go_ret;exact⟨rfl,b0.trans ((b1.trans (b2.mono b1.size)).mono b0.size)⟩
end tx
end Go.Proofs.YtalnmfefmiapoaaGreatDoor
