import Derived.Test.YtajmlpgodcfghaaGreatDoorJ1Alloc
import Derived.TacticsInMore
set_option maxHeartbeats 16000000
set_option maxRecDepth 100000
namespace Go.Proofs.YtajmlpgodcfghaaGreatDoor
open Go.RowKit
open Go.Sort (grow)
section
open Go.Proofs.Tryz
variable {a:OA}{aP:List (List Int)}{g:Nat->Nat}{n:Nat}{w:World}
def nZ(w:World)(base:Nat)(a:OA)(n:Nat)(aP:List (List Int))(g:Nat->Nat):Prop:=
 (a=none/\n=0/\aP=[])\/∃b,a=some ⟨b,0,none⟩/\base<=b/\b<w.1.size/\lD w base b n aP g
theorem nZ.sl{w:World}{base:Nat}{a:OA}{n:Nat}{aP:List (List Int)}{g:Nat->Nat}(h:nZ w base a n aP g):wy w w.1.size a n aP:=by
 rcases h with ⟨rfl,rfl,rfl⟩|⟨b,rfl,_,hb,ho⟩
 ·exact⟨rfl,.inl rfl⟩
 ·exact ho.sl hb
theorem nZ.later{w w':World}{base:Nat}{a:OA}{n:Nat}{aP:List (List Int)}{g:Nat->Nat}(h:nZ w base a n aP g)(hb:Below w.1.size w w'):nZ w' base a n aP g:=by
 rcases h with h|⟨b,rfl,IY,lu,ho⟩
 ·exact .inl h
 ·exact .inr ⟨b,rfl,IY,Nat.lt_of_lt_of_le lu hb.size,ho.later hb lu⟩
theorem nZ.low{w:World}{base:Nat}{a:OA}{n:Nat}{aP:List (List Int)}{g:Nat->Nat}(h:nZ w base a n aP g):∀i,i<n->base<=g i:=by
 rcases h with ⟨_,rfl,_⟩|⟨b,rfl,_,_,ho⟩
 ·intro i hi;omega
 ·exact ho.low
theorem nZ.lt{w:World}{base:Nat}{a:OA}{n:Nat}{aP:List (List Int)}{g:Nat->Nat}(h:nZ w base a n aP g):∀i,i<n->g i<w.1.size:=by
 rcases h with ⟨_,rfl,_⟩|⟨b,rfl,_,_,ho⟩
 ·intro i hi;omega
 ·exact ho.lt
theorem nZ.kept{w':World}{base:Nat}(h:nZ w base a n aP g)(hs:w.1.size<=w'.1.size)(eb:∀b,a=some ⟨b,0,none⟩->w'.1[b]?=w.1[b]?)(eg:∀i,i<n->w'.1[g i]?=w.1[g i]?):nZ w' base a n aP g:=by
 rcases h with h|⟨b,rfl,IY,lu,ho⟩
 ·exact .inl h
 ·exact .inr ⟨b,rfl,IY,Nat.lt_of_lt_of_le lu hs,ho.ja hs (eb b rfl) eg⟩
theorem nZ.lower{base base':Nat}(h:nZ w base a n aP g)(hb:base'<=base):nZ w base' a n aP g:=by
 rcases h with h|⟨b,e,h1,h2,o⟩
 ·exact .inl h
 ·exact .inr ⟨b,e,Nat.le_trans hb h1,h2,⟨o.len,o.cell,fun i hi=>Nat.le_trans hb (o.low i hi),o.lt,o.ne,o.nums,o.room,o.inj⟩⟩
end
section
open Go.Proofs.Tryz
theorem Ia(w:World)(a:OA)(n cap:Nat)(zs:List Int)(hn:n<=1048576)(hs:ll w w.1.size a n zs):Calls prog 59 #[.agg #[.slice a n cap]] w fun e w'=>
  ∃g,e=.returned (.agg #[.slice (some ⟨g,0,none⟩) n n])/\Below w.1.size w w'/\w.1.size<=g/\g<w'.1.size/\dQ w' g 0 zs/\Room w' g n:=by
 go_enter func59,ntmps59;go_wp2_with fail;obtain⟨W,hW⟩:∃W,W=((w.alloc (.cells #[.slice a n cap] 89)).alloc (.cells #[.slice none 0 0] 102)).alloc (.cells #[.slice none 0 0] 102):=⟨_,rfl⟩
 have bW:Below w.1.size w W:=by rw[hW];exact((aN.alloc aU _).alloc (by simp) _).alloc (by simp;omega) _
 have zW:W.1.size=w.1.size+3:=by rw[hW];simp
 have c1:W.cell? ⟨w.1.size+1,0,none⟩=some (.slice none 0 0):=by rw[hW];go_simp
 have c2:W.cell? ⟨w.1.size+2,0,none⟩=some (.slice none 0 0):=by rw[hW];go_simp
 have f1:W.frozen? ⟨w.1.size+1,0,none⟩=false:=by rw[hW];go_simp
 have f2:W.frozen? ⟨w.1.size+2,0,none⟩=false:=by rw[hW];go_simp
 rw[<-hW];clear hW;refine(vU W a n cap zs hn (hs.later bW)).mono ?_;rintro e w1 ⟨rfl,b1,l1,n1,r1⟩;have c1:=(b1.cell (p:=⟨w.1.size+1,0,none⟩) (by simp;omega)).trans c1;have c2:=(b1.cell (p:=⟨w.1.size+2,0,none⟩) (by simp;omega)).trans c2;have f1:=(b1.frozen (p:=⟨w.1.size+1,0,none⟩) (by simp;omega)).trans f1;have f2:=(b1.frozen (p:=⟨w.1.size+2,0,none⟩) (by simp;omega)).trans f2;have K:Hid (Below w.1.size w w1/\W.1.size<w1.1.size/\dQ w1 W.1.size 0 zs/\Room w1 W.1.size n/\W.1.size=w.1.size+3):=⟨bW.trans (b1.mono bW.size),l1,n1,r1,zW⟩
 clear bW zW b1 l1 n1 r1 hs;generalize W.1.size=g at *;go_wp2;refine bodyPost_ret (v:=.agg #[.slice (some ⟨g,0,none⟩) n n]) (by simp[results,results59,go_sem,c1]) rfl ?_;obtain⟨b1,l1,n1,r1,zW⟩:=K.out;have dX:∀(V:World) (q o:Nat) (v:Value),q≠g->(V.setCell ⟨q,o,none⟩ v).1[g]?=V.1[g]?:=fun V q o v h=>Below.heap_setCell _ _ _ _ (fun e=>h e.symm)
 have he:=(dX (w1.setCell ⟨w.1.size+2,0,none⟩ (.slice (some ⟨g,0,none⟩) n n)) (w.1.size+1) 0 (.slice (some ⟨g,0,none⟩) n n) (by omega)).trans (dX w1 (w.1.size+2) 0 (.slice (some ⟨g,0,none⟩) n n) (by omega));exact⟨g,rfl,(b1.setCell (p:=⟨w.1.size+2,0,none⟩) (by simp) _).setCell (p:=⟨w.1.size+1,0,none⟩) (by simp) _,by omega,by simpa[World.setCell]using l1,n1.aj he,r1.aj he⟩
theorem Gv(n:Nat)(hn:n<=1048576)(w:World):(Instr.makeSlice 28 (vI (n:Int)) (vI (n:Int))).run prog w=.ok (.slice (some ⟨w.1.size,0,none⟩) n n) (w.alloc (.cells (madeCells #[.slice none 0 0] n) 102)):=by
 have info:(prog.info? 102).map (fun i=>(i.zero,i.size,i.bytes))=some (some (.agg #[.slice none 0 0]),1,24):=by kernel_rfl
 obtain⟨i,hi,oH⟩:=Option.map_eq_some_iff.1 info;simp only[Prod.mk.injEq]at oH;obtain⟨hz,hs,hb⟩:=oH;have:=run_make (P:=prog) w 28 102 i _ underlying28 hi hz .i64 .i64 (n:Int) (n:Int) (by omega) (by omega) (by rw[hb];omega) (by omega);rw[hs]at this;simpa[Value.cells]using this
theorem EY(w:World)(a:OA)(n cap:Nat)(aP:List (List Int))(hn:n<=1048576)(hl:∀zs∈aP,zs.length<=1048576)(hs:wy w w.1.size a n aP):Calls prog 25 #[.slice a n cap] w fun e w'=>
  ∃g,e=.returned (.slice (some ⟨w.1.size,0,none⟩) n n)/\Below w.1.size w w'/\w.1.size<w'.1.size/\lD w' w.1.size w.1.size n aP g:=by
 obtain⟨hx,hs⟩:=hs;have qc:=Gv n hn;go_enter func25,ntmps25;go_wp2;go_loopw[4] (fun i wr=>∃(j:Nat) (g:Nat->Nat),j<=n/\i=vI j/\Below w.1.size w wr/\w.1.size<wr.1.size/\Room wr w.1.size n/\lD wr w.1.size w.1.size j (aP.take j) g) (fun i _=>n-(intOf i).toNat)
 case atStart=>exact⟨0,fun _=>0,Nat.zero_le _,rfl,aN.alloc aU _,by simp,iE _ _ _ _,by rw[List.take_zero];exact lD.nil _ _ _ _⟩
 case round=>
  obtain⟨j,g,hj,rfl,aD,dO,eB,ig⟩:=hrel;by_cases aK:j<n
  ·rcases hs with hs|⟨b,off,rfl,hb,h1⟩
   ·omega
   ·obtain⟨a',aW,hc,gM,_⟩:=h1 j _ (gB (by omega));have c:=(aD.cell (p:=⟨b,off+j,none⟩) hb).trans hc;have jh:=Ia wr a' (dY aP j).length aW (dY aP j) (hl _ (List.mem_of_getElem? (gB (by omega)))) ((gM.below aD).mono aD.size);have K:Hid (Room wr w.1.size n/\lD wr w.1.size w.1.size j (aP.take j) g/\Below w.1.size w wr/\w.1.size<wr.1.size/\aP.take (j+1)=aP.take j++[dY aP j]):=⟨eB,ig,aD,dO,by rw[List.take_add_one,gB (by omega)];rfl⟩
    clear eB ig aD qc h1 hx hl gM hc;go_wp2_with fail;refine jh.mono ?_;clear jh;rintro e w1 ⟨q,rfl,b1,lq,hq,Eo,qH⟩;obtain⟨v,d,f⟩:=(K.out.1.below b1 K.out.2.2.2.1) j aK;have K1:Hid (Below wr.1.size wr w1/\wr.1.size<=q/\q<w1.1.size/\dQ w1 q 0 (dY aP j)/\Room w1 q (dY aP j).length):=⟨b1,lq,hq,Eo,qH⟩
    clear b1 lq hq Eo qH;go_wp2;obtain⟨eB,ig,aD,dO,Aa⟩:=K.out;obtain⟨b1,lq,hq,Eo,qH⟩:=K1.out;have dX:∀(V:World) (x o:Nat) (v:Value),x≠w.1.size->(V.setCell ⟨w.1.size,o,none⟩ v).1[x]?=V.1[x]?:=fun V x o v h=>Below.heap_setCell _ _ _ _ h
    have fj:w.1.size<w1.1.size:=Nat.lt_of_lt_of_le dO b1.size
    have UX:lD (w1.setCell ⟨w.1.size,j,none⟩ (.slice (some ⟨q,0,none⟩) (dY aP j).length (dY aP j).length)) w.1.size w.1.size j (aP.take j) g:=by
     have h1:=ig.later b1 dO;refine⟨h1.len,fun i zs e=>?_,h1.low,fun i hi=>by simpa[World.setCell]using h1.lt i hi,h1.ne,fun i zs e=>(h1.nums i zs e).aj (dX _ _ _ _ (h1.ne i ?_)),fun i zs e=>(h1.room i zs e).aj (dX _ _ _ _ (h1.ne i ?_)),h1.inj⟩
     ·obtain⟨cp,UG,kL⟩:=h1.cell i zs e;have hi:i<j:=by have:=(List.getElem?_eq_some_iff.1 e).1;have:=h1.len;omega
      exact⟨cp,by rw[ae (by omega)];exact UG,kL⟩
     ·have:=(List.getElem?_eq_some_iff.1 e).1;have:=h1.len;omega
     ·have:=(List.getElem?_eq_some_iff.1 e).1;have:=h1.len;omega
    have Mq:=UX.snoc (zs:=dY aP j) (q:=q) (cap:=(dY aP j).length) (ax d) aU (by omega) (by simpa[World.setCell]using hq) (by omega) (Eo.aj (dX _ _ _ _ (by omega))) (qH.aj (dX _ _ _ _ (by omega))) (fun i hi e=>by have:=ig.lt i hi;omega);rw[<-Aa]at Mq;exact⟨⟨j+1,_,by omega,by simp,(aD.trans (b1.mono aD.size)).setCell (p:=⟨w.1.size,j,none⟩) aU _,by simpa[World.setCell]using fj,(eB.below b1 dO).set _,Mq⟩,by simp[intOf];omega⟩
  ·have:j=n:=by omega
   subst this;have hd:decide (j<j)=false:=by simp
   rw[<-hx,List.take_length,hx]at ig;have K:Hid (lD wr w.1.size w.1.size j aP g):=ig;clear ig hs eB;go_wp2;go_ret;exact⟨g,rfl,aD,dO,K.out⟩
theorem Ef(w:World)(a a':OA)(n cap aW:Nat)(zs:List Int)(hn:n<=maxLen)(h1:ll w w.1.size a n zs)(h2:ll w w.1.size a' n zs):
  Calls prog 73 #[.agg #[.slice a n cap],.agg #[.slice a' n aW]] w fun e w'=>e=.returned (.bool true)/\Below w.1.size w w':=by
 go_enter func73,ntmps73;go_wp2_with fail;have b0:Below w.1.size w ((w.alloc (.cells #[.slice a n cap] 102)).alloc (.cells #[.slice a' n aW] 102)):=(aN.alloc aU _).alloc (by simp) _;refine(uW _ a a' n cap aW zs hn (h1.later b0) (h2.later b0)).mono ?_;rintro e w' ⟨rfl,b1⟩;go_wp2;go_ret;exact⟨rfl,b0.trans (b1.mono b0.size)⟩
theorem Ee(w:World)(a a':OA)(n cap aW:Nat)(aP:List (List Int))(hn:n<=maxLen)(hl:∀zs∈aP,zs.length<=maxLen)(h1:wy w w.1.size a n aP)(h2:wy w w.1.size a' n aP):
  Calls prog 33 #[.slice a n cap,.slice a' n aW] w fun e w'=>e=.returned (.bool true)/\Below w.1.size w w':=by
 unfold maxLen at hn;obtain⟨hx,h1⟩:=h1;obtain⟨_,h2⟩:=h2;go_enter func33,ntmps33;go_wp2;go_loopw[5] (fun i wr=>∃k:Nat,k<=n/\i=vI k/\Below w.1.size w wr) (fun i _=>n-(intOf i).toNat)
 case atStart=>exact⟨0,Nat.zero_le _,rfl,aN⟩
 case round=>
  obtain⟨k,hk,rfl,aD⟩:=hrel;by_cases aK:k<n
  ·rcases h1 with h1|⟨b,off,rfl,hb,h1⟩
   ·omega
   ·rcases h2 with h2|⟨b',bR,rfl,gJ,h2⟩
    ·omega
    ·obtain⟨a1,k1,d1,s1,_⟩:=h1 k _ (gB (by omega));obtain⟨a2,k2,d2,s2,_⟩:=h2 k _ (gB (by omega));have SY:=hl _ (List.mem_of_getElem? (gB (aP:=aP) (i:=k) (by omega)));have Cf:b<wr.1.size:=Nat.lt_of_lt_of_le hb aD.size;have XO:b'<wr.1.size:=Nat.lt_of_lt_of_le gJ aD.size;have e1:=(aD.cell (p:=⟨b,off+k,none⟩) hb).trans d1;have e2:=(aD.cell (p:=⟨b',bR+k,none⟩) gJ).trans d2;have c1:=@cell_regrown wr ⟨b,off+k,none⟩ (.slice a1 (dY aP k).length k1) e1;have c2:=@cell_regrown wr ⟨b',bR+k,none⟩ (.slice a2 (dY aP k).length k2) e2;have t1:ll wr wr.1.size a1 (dY aP k).length (dY aP k):=(s1.below aD).mono aD.size;have t2:ll wr wr.1.size a2 (dY aP k).length (dY aP k):=(s2.below aD).mono aD.size;have cQ:∀d os,Calls prog 73 #[.agg #[.slice a1 (dY aP k).length k1],.agg #[.slice a2 (dY aP k).length k2]] (grow (redrawn wr d) os) fun e eU=>e=.returned (.bool true)/\∃p:Regrown,eU=grow (redrawn wr p.d) p.os:=fun d os=>Calls.regrown_of (Ef _ a1 a2 _ k1 k2 (dY aP k) SY (t1.later (below_regrown wr d os)) (t2.later (below_regrown wr d os)))
     have K:Hid (Below w.1.size w wr):=aD;clear t1 t2 aD h1 h2 s1 s2 e1 e2 d1 d2 hl SY hx;go_wp2_with fail;refine gP ?_;repeat (go_big_quiet_step (exact cQ _ _))
     refine iW fun dq aZ=>?_
     have bq:=below_regrown wr dq aZ;go_wp2;exact⟨⟨k+1,by omega,by simp,K.out.trans (bq.mono K.out.size)⟩,by simp[intOf];omega⟩
  ·have:k=n:=by omega
   subst this;have hd:decide (k<k)=false:=by simp
   clear h1 h2;go_wp2;go_ret;exact⟨rfl,aD⟩
end
section
open Go.Proofs.Tryz
variable {B c1 q:Nat}{P:Nat->Prop}{a a1 a2 a3:OA}{aP:List (List Int)}{w w':World}
structure C6 where
 v:Int
 q:Int
 f:List (List Int)
 aa:List M4
 c:List tx.T7
 w:Bool
abbrev dR(a:Option Addr)(c:Nat)(b:Option Addr)(d:Nat)(e:Option Addr)(f:Nat)(k:C6):List Value:=[vI k.v,vI k.q,.slice a k.f.length c,.slice b k.aa.length d,.slice e k.c.length f,.bool k.w]
def KP.Ow(w:World)(B:Nat)(a:OA)(aP:List (List Int))(P:Nat->Prop):Prop:=(∃g,nZ w B a aP.length aP g/\(∀b,a=some ⟨b,0,none⟩->P b)/\(∀i,i<aP.length->P (g i)))/\(∀q,P q->B<=q/\q<w.1.size)
theorem KP.Ow.of(h:KP.Ow w B a aP P)(hq:P q):B<=q/\q<w.1.size:=h.2 q hq
theorem KP.Ow.sl(h:KP.Ow w B a aP P):wy w w.1.size a aP.length aP:=by obtain⟨⟨g,h,_⟩,_⟩:=h;exact h.sl
theorem KP.Ow.aL(h:KP.Ow w B a aP P)(hs:w.1.size<=w'.1.size)(hk:∀q,P q->w'.1[q]?=w.1[q]?):KP.Ow w' B a aP P:=by
 obtain⟨⟨g,h1,h2,h3⟩,h4⟩:=h;exact⟨⟨g,h1.kept hs (fun b e=>hk b (h2 b e)) (fun i hi=>hk _ (h3 i hi)),h2,h3⟩,fun q hq=>⟨(h4 q hq).1,Nat.lt_of_lt_of_le (h4 q hq).2 hs⟩⟩
theorem KP.Ow.later(h:KP.Ow w B a aP P)(hb:Below w.1.size w w'):KP.Ow w' B a aP P:=h.aL hb.size (fun q hq=>hb.block q (h.of hq).2)
theorem KP.to(w:World)(a:OA)(cap:Nat)(aP:List (List Int))(hn:aP.length<=1048576)(hl:∀zs∈aP,zs.length<=1048576)(hs:wy w w.1.size a aP.length aP):Calls prog 25 #[.slice a aP.length cap] w fun e w'=>
  ∃P,e=.returned (.slice (some ⟨w.1.size,0,none⟩) aP.length aP.length)/\KP.Ow w' w.1.size (some ⟨w.1.size,0,none⟩) aP P/\Below w.1.size w w':=by
 refine(EY w a aP.length cap aP hn hl hs).mono ?_;rintro e w' ⟨g,rfl,b,aK,ho⟩;have hq:nZ w' w.1.size (some ⟨w.1.size,0,none⟩) aP.length aP g:=.inr ⟨w.1.size,rfl,Nat.le_refl _,aK,ho⟩;refine⟨fun q=>q=w.1.size\/∃i,i<aP.length/\g i=q,rfl,⟨⟨g,hq,fun b e=>.inl (by cases e;rfl),fun i hi=>.inr ⟨i,hi,rfl⟩⟩,fun q h=>?_⟩,b⟩;rcases h with rfl|⟨i,hi,rfl⟩
 ·exact⟨Nat.le_refl _,aK⟩
 ·exact⟨hq.low i hi,hq.lt i hi⟩
structure cO.Rd(X:World)(a1:OA)(_:Nat)(a2:OA)(_:Nat)(a3:OA)(_:Nat)(k:C6):Prop where
 p:wy X X.1.size a1 k.f.length k.f
 m:gQ.pK X a2 k.aa
 t:gY.pK X a3 k.c
theorem cO.Rd.later{X Y:World}{c2:Nat}{c3:Nat}{k:C6}(h:cO.Rd X a1 c1 a2 c2 a3 c3 k)(b:Below X.1.size X Y):cO.Rd Y a1 c1 a2 c2 a3 c3 k:=⟨h.p.later b,h.m.later b,h.t.later b⟩
def cO.Ow(w:World)(B:Nat)(a1:OA)(_:Nat)(a2:OA)(_:Nat)(a3:OA)(_:Nat)(k:C6)(P:Nat->Prop):Prop:=(∃P1 P2 P3,KP.Ow w B a1 k.f P1/\gQ.oD w B a2 k.aa P2/\gY.oD w B a3 k.c P3/\(∀q,P1 q->P q)/\(∀q,P2 q->P q)/\(∀q,P3 q->P q)/\(∀q,P1 q->¬P2 q)/\(∀q,P1 q->¬P3 q)/\(∀q,P2 q->¬P3 q))/\(∀q,P q->B<=q/\q<w.1.size)
theorem cO.Ow.of{c2:Nat}{c3:Nat}{k:C6}(h:cO.Ow w B a1 c1 a2 c2 a3 c3 k P)(hq:P q):B<=q/\q<w.1.size:=h.2 q hq
theorem cO.Ow.sl{c2:Nat}{c3:Nat}{k:C6}(h:cO.Ow w B a1 c1 a2 c2 a3 c3 k P):cO.Rd w a1 c1 a2 c2 a3 c3 k:=by obtain⟨⟨_,_,_,h1,h2,h3,_⟩,_⟩:=h;exact⟨h1.sl,h2.sl,h3.sl⟩
theorem cO.Ow.aL{w:World}{B:Nat}{a1:OA}{c1:Nat}{a2:OA}{c2:Nat}{a3:OA}{c3:Nat}{k:C6}{P:Nat->Prop}{w':World}(h:cO.Ow w B a1 c1 a2 c2 a3 c3 k P)(hs:w.1.size<=w'.1.size)(hk:∀q,P q->w'.1[q]?=w.1[q]?):cO.Ow w' B a1 c1 a2 c2 a3 c3 k P:=by
 obtain⟨⟨P1,P2,P3,h1,h2,h3,p1,p2,p3,h4⟩,h5⟩:=h;exact⟨⟨P1,P2,P3,h1.aL hs (fun q hq=>hk q (p1 q hq)),h2.aL hs (fun q hq=>hk q (p2 q hq)),h3.aL hs (fun q hq=>hk q (p3 q hq)),p1,p2,p3,h4⟩,fun q hq=>⟨(h5 q hq).1,Nat.lt_of_lt_of_le (h5 q hq).2 hs⟩⟩
theorem cO.Ow.later{c2:Nat}{c3:Nat}{k:C6}(h:cO.Ow w B a1 c1 a2 c2 a3 c3 k P)(hb:Below w.1.size w w'):cO.Ow w' B a1 c1 a2 c2 a3 c3 k P:=h.aL hb.size (fun q hq=>hb.block q (h.of hq).2)
structure cO.S(k:C6):Prop where
 p:k.f.length<=1048576
 ps:∀zs∈k.f,zs.length<=1048576
 m:k.aa.length<=1048576
 ms:∀m∈k.aa,MT m
 t:k.c.length<=1048576
 ts:∀t∈k.c,KT.S t
end
section
open Go.Proofs.Tryz
theorem YG(v:Value)(w:World):(binOp .neq 20 (.iface 155 v) .nilIface).run prog w=.ok (.bool true) w:=by kernel_rfl
theorem yw(p q:Nat)(n:Int)(y1 y2:Int)(a3:OA)(n3 c3:Nat)(a4:OA)(n4 c4:Nat)(a5:OA)(n5 c5:Nat)(y6:Bool)(old:List Value)(o1:Value)(w:World)(hg:HG w)(ho:old.length=6)(hp:Bx w p old)(hq:Bx w q [o1])(sL:p≠q):
  CallsD prog 62 #[.pointer (some ⟨p,0,none⟩),.pointer (some ⟨q,0,none⟩)] (.panicking [{ v:=.iface 155 (.agg #[.iface 120 (vI n),vI y1,vI y2,.slice a3 n3 c3,.slice a4 n4 c4,.slice a5 n5 c5,.bool y6]),recovered:=false }]) w fun e u' w'=>
   e=.returned (.tuple #[])/\u'=.panicking [{ v:=.iface 155 (.agg #[.iface 120 (vI n),vI y1,vI y2,.slice a3 n3 c3,.slice a4 n4 c4,.slice a5 n5 c5,.bool y6]),recovered:=true }]/\∃X,Below w.1.size w X/\w'=(dU X p 0 [vI y1,vI y2,.slice a3 n3 c3,.slice a4 n4 c4,.slice a5 n5 c5,.bool y6]).setCell ⟨q,0,none⟩ (vI n):=by
 have hN:=YG;have cR:=G5 w n y1 y2 a3 n3 c3 a4 n4 c4 a5 n5 c5 y6 hg;refine callsD_of_wpS func62 rfl fun c₀ cs hu=>?_
 apply wpS_seq;apply wpS_region;simp[wpOpsS,go_sem,recoverD,hu,ntmps62,Exit.thenS];refine wpS_of_wp ?_;go_wp2_with fail;refine cR.mono ?_;clear cR;rintro e X ⟨rfl,bX⟩;have xp:=hp.later bX;have xq:=hq.later bX;obtain⟨v0,r0⟩:∃v,X.cell? ⟨p,0,none⟩=some v:=⟨_,xp.1 0 _ (List.getElem?_eq_getElem (by omega))⟩
 obtain⟨v1,r1⟩:∃v,X.cell? ⟨p,1,none⟩=some v:=⟨_,xp.1 1 _ (List.getElem?_eq_getElem (by omega))⟩
 obtain⟨v2,r2⟩:∃v,X.cell? ⟨p,2,none⟩=some v:=⟨_,xp.1 2 _ (List.getElem?_eq_getElem (by omega))⟩
 obtain⟨v3,r3⟩:∃v,X.cell? ⟨p,3,none⟩=some v:=⟨_,xp.1 3 _ (List.getElem?_eq_getElem (by omega))⟩
 obtain⟨v4,r4⟩:∃v,X.cell? ⟨p,4,none⟩=some v:=⟨_,xp.1 4 _ (List.getElem?_eq_getElem (by omega))⟩
 obtain⟨v5,r5⟩:∃v,X.cell? ⟨p,5,none⟩=some v:=⟨_,xp.1 5 _ (List.getElem?_eq_getElem (by omega))⟩
 have f0:=xp.f6;have s0:=xq.1 0 _ rfl;have g0:=xq.2.1 0;have we:q≠p:=fun e=>sL e.symm
 have BX:Hid (Below w.1.size w X):=bX;clear xp xq bX hp hq hg ho;go_wp2;exact⟨rfl,_,rfl,.tuple #[],by simp[results,results62],rfl,rfl,X,BX.out,rfl⟩
theorem IK(p q:Nat)(w:World):
  CallsD prog 62 #[.pointer (some ⟨p,0,none⟩),.pointer (some ⟨q,0,none⟩)] .returning w fun e u' w'=>e=.returned (.tuple #[])/\u'=.returning/\w'=w:=by
 have hN:∀w:World,(binOp .neq 20 .nilIface .nilIface).run prog w=.ok (.bool false) w:=fun w=>by kernel_rfl
 refine callsD_of_wpS func62 rfl fun c₀ cs hu=>?_
 apply wpS_seq;apply wpS_region;simp[wpOpsS,go_sem,recoverD,hu,ntmps62,Exit.thenS];refine wpS_of_wp ?_;go_wp2
 cases c₀;simp only at hu;subst hu;exact⟨rfl,_,rfl,.tuple #[],by simp[results,results62],rfl,rfl,rfl⟩
def Xg(X:World)(k:C6)(n:Int)(e:Ending)(w':World):Prop:=∃(a1:OA) (c1:Nat) (a2:OA) (c2:Nat) (a3:OA) (c3:Nat) (P:Nat->Prop),e=.returned (.tuple #[.agg #[vI k.v,vI k.q,.slice a1 k.f.length c1,.slice a2 k.aa.length c2,.slice a3 k.c.length c3,.bool k.w],vI n])/\cO.Ow w' X.1.size a1 c1 a2 c2 a3 c3 k P/\Below X.1.size X w'
end
section
open Go.Proofs.Tryz
theorem KP.Ow.low{w:World}{B B':Nat}{a:OA}{aP:List (List Int)}{P:Nat->Prop}(h:KP.Ow w B a aP P)(hb:B'<=B):KP.Ow w B' a aP P:=by
 obtain⟨⟨g,h1,h2,h3⟩,h4⟩:=h;exact⟨⟨g,h1.lower hb,h2,h3⟩,fun q hq=>⟨Nat.le_trans hb (h4 q hq).1,(h4 q hq).2⟩⟩
theorem cO.to(X:World)(a1:OA)(c1:Nat)(a2:OA)(c2:Nat)(a3:OA)(c3:Nat)(k:C6)(ht:cO.S k)(h:cO.Rd X a1 c1 a2 c2 a3 c3 k):Calls prog 6 #[.agg #[vI k.v,vI k.q,.slice a1 k.f.length c1,.slice a2 k.aa.length c2,.slice a3 k.c.length c3,.bool k.w]] X fun e w'=>
  ∃(a1:OA) (c1:Nat) (a2:OA) (c2:Nat) (a3:OA) (c3:Nat) (P:Nat->Prop),e=.returned (.agg #[vI k.v,vI k.q,.slice a1 k.f.length c1,.slice a2 k.aa.length c2,.slice a3 k.c.length c3,.bool k.w])/\cO.Ow w' X.1.size a1 c1 a2 c2 a3 c3 k P/\Below X.1.size X w'/\y7.pK w' a3 k.c:=by
 obtain⟨U0,wz,b0,x0,z0⟩:=jU X (dR a1 c1 a2 c2 a3 c3 k) 26;obtain⟨U1,Cc,b1,x1,-⟩:=jU U0 nJ 32;have z1:U1.1.size=X.1.size+2:=by rw[Cc];simp[z0]
 obtain⟨V0,XI,b2,x2,-⟩:=jU U1 [vI k.v,vI k.q,.slice none 0 0,.slice none 0 0,.slice none 0 0,.bool false] 32;have zU:V0.1.size=X.1.size+3:=by rw[XI];simp[z1]
 rw[z0]at x1;rw[z1]at x2;have bU:Below X.1.size X V0:=au (au b0 b1) b2;have FA:Hid (Bx V0 X.1.size (dR a1 c1 a2 c2 a3 c3 k)):=(x0.later b1).later b2;have FZ:Hid (Bx V0 (X.1.size+1) nJ):=x1.later b2;have Y0:Hid (Bx V0 (X.1.size+2) [vI k.v,vI k.q,.slice none 0 0,.slice none 0 0,.slice none 0 0,.bool false]):=x2;have E0:Hid (Below (X.1.size+2) V0 V0/\Below X.1.size X V0/\V0.1.size<=V0.1.size):=⟨aN,bU,Nat.le_refl _⟩
 have HZ:Hid (V0.1.size=X.1.size+3):=zU;have HR:Hid (cO.Rd X a1 c1 a2 c2 a3 c3 k/\cO.S k):=⟨h,ht⟩
 rw[Cc,wz]at XI;clear b0 x0 z0 b1 x1 z1 b2 x2 zU bU wz Cc h ht;have q:=KP.to V0 a1 c1 k.f HR.out.2.p HR.out.2.ps (HR.out.1.later E0.out.2.1).p;have A0:=(FA.out.under E0.out.1 (by omega)).c3;rw[XI]at A0;go_enter func6,ntmps6;go_wp2_with fail;rw[<-XI];clear XI A0;refine q.mono ?_;clear q;rintro e w1 ⟨P1,rfl,o1,b⟩;obtain⟨V1,lK⟩:∃Y,Y=w1.setCell ⟨X.1.size+2,2,none⟩ (.slice (some ⟨V0.1.size,0,none⟩) k.f.length k.f.length):=⟨_,rfl⟩
 have sV:V1.1.size=w1.1.size:=by rw[lK];simp[World.setCell]
 have kV:∀q,q≠X.1.size+2->V1.1[q]?=w1.1[q]?:=fun q hq=>by rw[lK];exact Below.heap_setCell _ _ _ _ hq
 have lV:X.1.size+3<=V0.1.size:=by have:=E0.out.2.2;have:=HZ.out;omega
 have u:=(Y0.out.later b).1 2 _ rfl;have uf:=(Y0.out.later b).2.1 2
 have E1:Hid (Below (X.1.size+2) V0 V1/\Below X.1.size X V1/\V0.1.size<=V1.1.size):=by
  refine⟨?_,?_,by have:=b.size;have:=E0.out.2.2;omega⟩
  ·rw[lK];exact(E0.out.1.trans (b.mono (by omega))).setCell (p:=⟨X.1.size+2,2,none⟩) aU _
  ·rw[lK];exact(E0.out.2.1.trans (b.mono (by omega))).setCell (p:=⟨X.1.size+2,2,none⟩) (by show X.1.size<=X.1.size+2;omega) _
 have Y1:Hid (Bx V1 (X.1.size+2) [vI k.v,vI k.q,.slice (some ⟨V0.1.size,0,none⟩) k.f.length k.f.length,.slice none 0 0,.slice none 0 0,.bool false]):=by rw[lK];exact(Y0.out.later b).set (i:=2) (by simp) _
 have SI:Hid (KP.Ow V1 V0.1.size (some ⟨V0.1.size,0,none⟩) k.f P1):=o1.aL (Nat.le_of_eq sV.symm) (fun q hq=>kV q (by have:=(o1.of hq).1;have:=HZ.out;have:=E0.out.2.2;omega));have O1:=SI;clear SI;have pn:Hid (V0.1.size<=w1.1.size/\w1.1.size=V1.1.size/\(∀q,P1 q->V0.1.size<=q/\q<w1.1.size)):=⟨b.size,sV.symm,fun q hq=>o1.of hq⟩
 clear o1 b sV kV lV;have q:=wo.to V1 a2 c2 k.aa HR.out.2.m HR.out.2.ms (HR.out.1.later E1.out.2.1).m;have A3:=(FA.out.under E1.out.1 (by omega)).1 3 _ rfl;rw[lK]at A3;go_wp2_with fail;rw[<-lK];clear lK A3 u uf;refine q.mono ?_;clear q;rintro e w2 ⟨P2,rfl,o2,b⟩;obtain⟨V2,u7⟩:∃Y,Y=w2.setCell ⟨X.1.size+2,3,none⟩ (.slice (some ⟨V1.1.size,0,none⟩) k.aa.length k.aa.length):=⟨_,rfl⟩
 have sV:V2.1.size=w2.1.size:=by rw[u7];simp[World.setCell]
 have kV:∀q,q≠X.1.size+2->V2.1[q]?=w2.1[q]?:=fun q hq=>by rw[u7];exact Below.heap_setCell _ _ _ _ hq
 have lV:X.1.size+3<=V1.1.size:=by have:=E1.out.2.2;have:=HZ.out;omega
 have u:=(Y1.out.later b).1 3 _ rfl;have uf:=(Y1.out.later b).2.1 3
 have E2:Hid (Below (X.1.size+2) V0 V2/\Below X.1.size X V2/\V0.1.size<=V2.1.size):=by
  refine⟨?_,?_,by have:=b.size;have:=E1.out.2.2;omega⟩
  ·rw[u7];exact(E1.out.1.trans (b.mono (by omega))).setCell (p:=⟨X.1.size+2,3,none⟩) aU _
  ·rw[u7];exact(E1.out.2.1.trans (b.mono (by omega))).setCell (p:=⟨X.1.size+2,3,none⟩) (by show X.1.size<=X.1.size+2;omega) _
 have Y2:Hid (Bx V2 (X.1.size+2) [vI k.v,vI k.q,.slice (some ⟨V0.1.size,0,none⟩) k.f.length k.f.length,.slice (some ⟨V1.1.size,0,none⟩) k.aa.length k.aa.length,.slice none 0 0,.bool false]):=by rw[u7];exact(Y1.out.later b).set (i:=3) (by simp) _
 have SI:Hid (KP.Ow V2 V0.1.size (some ⟨V0.1.size,0,none⟩) k.f P1):=(O1.out.later b).aL (Nat.le_of_eq sV.symm) (fun q hq=>kV q (by have:=((O1.out.later b).of hq).1;have:=HZ.out;have:=E0.out.2.2;omega));have Xm:Hid (gQ.oD V2 V1.1.size (some ⟨V1.1.size,0,none⟩) k.aa P2):=o2.aL (Nat.le_of_eq sV.symm) (fun q hq=>kV q (by have:=(o2.of hq).1;have:=HZ.out;have:=E1.out.2.2;omega));have O1:=SI;clear SI;have O2:=Xm;clear Xm;have po:Hid (V1.1.size<=w2.1.size/\w2.1.size=V2.1.size/\(∀q,P2 q->V1.1.size<=q/\q<w2.1.size)):=⟨b.size,sV.symm,fun q hq=>o2.of hq⟩
 clear o2 b sV kV lV;have q:=wu.to V2 a3 c3 k.c HR.out.2.t HR.out.2.ts (HR.out.1.later E2.out.2.1).t;have A4:=(FA.out.under E2.out.1 (by omega)).1 4 _ rfl;rw[u7]at A4;go_wp2_with fail;rw[<-u7];clear u7 A4 u uf;refine q.mono ?_;clear q;rintro e w3 ⟨P3,rfl,o3,b⟩;obtain⟨V3,wL⟩:∃Y,Y=w3.setCell ⟨X.1.size+2,4,none⟩ (.slice (some ⟨V2.1.size,0,none⟩) k.c.length k.c.length):=⟨_,rfl⟩
 have sV:V3.1.size=w3.1.size:=by rw[wL];simp[World.setCell]
 have kV:∀q,q≠X.1.size+2->V3.1[q]?=w3.1[q]?:=fun q hq=>by rw[wL];exact Below.heap_setCell _ _ _ _ hq
 have lV:X.1.size+3<=V2.1.size:=by have:=E2.out.2.2;have:=HZ.out;omega
 have u:=(Y2.out.later b).1 4 _ rfl;have uf:=(Y2.out.later b).2.1 4
 have E3:Hid (Below (X.1.size+2) V0 V3/\Below X.1.size X V3/\V0.1.size<=V3.1.size):=by
  refine⟨?_,?_,by have:=b.size;have:=E2.out.2.2;omega⟩
  ·rw[wL];exact(E2.out.1.trans (b.mono (by omega))).setCell (p:=⟨X.1.size+2,4,none⟩) aU _
  ·rw[wL];exact(E2.out.2.1.trans (b.mono (by omega))).setCell (p:=⟨X.1.size+2,4,none⟩) (by show X.1.size<=X.1.size+2;omega) _
 have Y3:Hid (Bx V3 (X.1.size+2) [vI k.v,vI k.q,.slice (some ⟨V0.1.size,0,none⟩) k.f.length k.f.length,.slice (some ⟨V1.1.size,0,none⟩) k.aa.length k.aa.length,.slice (some ⟨V2.1.size,0,none⟩) k.c.length k.c.length,.bool false]):=by rw[wL];exact(Y2.out.later b).set (i:=4) (by simp) _
 have SI:Hid (KP.Ow V3 V0.1.size (some ⟨V0.1.size,0,none⟩) k.f P1):=(O1.out.later b).aL (Nat.le_of_eq sV.symm) (fun q hq=>kV q (by have:=((O1.out.later b).of hq).1;have:=HZ.out;have:=E0.out.2.2;omega));have Xm:Hid (gQ.oD V3 V1.1.size (some ⟨V1.1.size,0,none⟩) k.aa P2):=(O2.out.later b).aL (Nat.le_of_eq sV.symm) (fun q hq=>kV q (by have:=((O2.out.later b).of hq).1;have:=HZ.out;have:=E1.out.2.2;omega));have iz:Hid (y7.oD V3 V2.1.size (some ⟨V2.1.size,0,none⟩) k.c P3):=o3.aL (Nat.le_of_eq sV.symm) (fun q hq=>kV q (by have:=(o3.of hq).1;have:=HZ.out;have:=E2.out.2.2;omega));have O1:=SI;clear SI;have O2:=Xm;clear Xm;have O3:=iz;clear iz;have pr:Hid (V2.1.size<=w3.1.size/\w3.1.size=V3.1.size/\(∀q,P3 q->V2.1.size<=q/\q<w3.1.size)):=⟨b.size,sV.symm,fun q hq=>o3.of hq⟩
 clear o3 b sV kV lV;have A5:=(FA.out.under E3.out.1 (by omega)).1 5 _ rfl;rw[wL]at A5;obtain⟨V4,Ei⟩:∃Y,Y=V3.setCell ⟨X.1.size+2,5,none⟩ (.bool k.w):=⟨_,rfl⟩
 have Y4:Hid (Bx V4 (X.1.size+2) (dR (some ⟨V0.1.size,0,none⟩) k.f.length (some ⟨V1.1.size,0,none⟩) k.aa.length (some ⟨V2.1.size,0,none⟩) k.c.length k)):=by rw[Ei];exact Y3.out.set (i:=5) (by simp) _
 have v5:=Y3.out.1 5 _ rfl;have ov:=Y3.out.2.1 5;rw[wL]at v5 ov Ei;have ZZ:Hid (Bx V4 (X.1.size+1) nJ):=by rw[Ei,<-wL];exact(FZ.out.under E3.out.1 (by omega)).dX (by omega) _
 have s4:V4.1.size=V3.1.size:=by rw[Ei,<-wL];simp[World.setCell]
 have k4:∀q,q≠X.1.size+2->V4.1[q]?=V3.1[q]?:=fun q hq=>by rw[Ei,<-wL];exact Below.heap_setCell _ _ _ _ hq
 have B4:Hid (Below X.1.size X V4):=by rw[Ei,<-wL];exact E3.out.2.1.setCell (p:=⟨X.1.size+2,5,none⟩) (by show X.1.size<=X.1.size+2;omega) _
 have KK:Hid (V4.1.size=V3.1.size/\(∀q,q≠X.1.size+2->V4.1[q]?=V3.1[q]?)):=⟨s4,k4⟩
 clear s4 k4;go_upto_region 8 with fail
 rw[<-Ei];clear Ei wL A5 v5 ov u uf;have y0:=Y4.out.1 0 _ rfl;have z0:=ZZ.out.1 0 _ rfl;have gn:=ZZ.out.2.1 0;have y1:=Y4.out.1 1 _ rfl;have z1:=ZZ.out.1 1 _ rfl;have gv:=ZZ.out.2.1 1;have y2:=Y4.out.1 2 _ rfl;have z2:=ZZ.out.1 2 _ rfl;have gw:=ZZ.out.2.1 2;have y3:=Y4.out.1 3 _ rfl;have z3:=ZZ.out.1 3 _ rfl;have gx:=ZZ.out.2.1 3;have y4:=Y4.out.1 4 _ rfl;have z4:=ZZ.out.1 4 _ rfl;have wj:=ZZ.out.2.1 4;have y5:=Y4.out.1 5 _ rfl;have z5:=ZZ.out.1 5 _ rfl;have wq:=ZZ.out.2.1 5;have BP:=ZZ.out.put (dR (some ⟨V0.1.size,0,none⟩) k.f.length (some ⟨V1.1.size,0,none⟩) k.aa.length (some ⟨V2.1.size,0,none⟩) k.c.length k) rfl;have r0:=BP.1 0 _ rfl;have r1:=BP.1 1 _ rfl;have r2:=BP.1 2 _ rfl;have r3:=BP.1 3 _ rfl;have r4:=BP.1 4 _ rfl;have r5:=BP.1 5 _ rfl;simp only[dU,Nat.zero_add]at r0 r1 r2 r3 r4 r5;have KR:=tx.ay (And.intro r0 (And.intro r1 (And.intro r2 (And.intro r3 (And.intro r4 r5)))));clear BP r0 r1 r2 r3 r4 r5;go_wp2;obtain⟨r0,r1,r2,r3,r4,r5⟩:=KR.out;refine bodyPost_ret (v:=.agg #[vI k.v,vI k.q,.slice (some ⟨V0.1.size,0,none⟩) k.f.length k.f.length,.slice (some ⟨V1.1.size,0,none⟩) k.aa.length k.aa.length,.slice (some ⟨V2.1.size,0,none⟩) k.c.length k.c.length,.bool k.w]) (by simp[results,results6,go_sem,r0,r1,r2,r3,r4,r5]) rfl ?_;obtain⟨s4,k4⟩:=KK.out;obtain⟨n1,n2,n3⟩:=pn.out;obtain⟨m1,m2,m3⟩:=po.out;obtain⟨l1,l2,l3⟩:=pr.out;have hz:=HZ.out
 have hw:∀q,q≠X.1.size+1->q≠X.1.size+2->(dU V4 (X.1.size+1) 0 (dR (some ⟨V0.1.size,0,none⟩) k.f.length (some ⟨V1.1.size,0,none⟩) k.aa.length (some ⟨V2.1.size,0,none⟩) k.c.length k)).1[q]?=V3.1[q]?:=fun q h1 h2=>(aX h1 _ _ _).trans (k4 q h2)
 have Tk:V3.1.size<=(dU V4 (X.1.size+1) 0 (dR (some ⟨V0.1.size,0,none⟩) k.f.length (some ⟨V1.1.size,0,none⟩) k.aa.length (some ⟨V2.1.size,0,none⟩) k.c.length k)).1.size:=by rw[bu];omega
 refine⟨_,_,_,_,_,_,fun q=>P1 q\/P2 q\/P3 q,rfl,⟨⟨P1,P2,P3,?_,?_,?_,fun q h=>.inl h,fun q h=>.inr (.inl h),fun q h=>.inr (.inr h),fun q h h'=>?_,fun q h h'=>?_,fun q h h'=>?_⟩,fun q hq=>?_⟩,bn (by omega) (dR (some ⟨V0.1.size,0,none⟩) k.f.length (some ⟨V1.1.size,0,none⟩) k.aa.length (some ⟨V2.1.size,0,none⟩) k.c.length k) _ _ B4.out,?_⟩
 ·exact(O1.out.aL (w':=dU V4 (X.1.size+1) 0 (dR (some ⟨V0.1.size,0,none⟩) k.f.length (some ⟨V1.1.size,0,none⟩) k.aa.length (some ⟨V2.1.size,0,none⟩) k.c.length k)) Tk (fun q hq=>by have:=n3 q hq;exact hw q (by omega) (by omega))).low (by omega)
 ·exact(O2.out.aL (Y:=dU V4 (X.1.size+1) 0 (dR (some ⟨V0.1.size,0,none⟩) k.f.length (some ⟨V1.1.size,0,none⟩) k.aa.length (some ⟨V2.1.size,0,none⟩) k.c.length k)) Tk (fun q hq=>by have:=m3 q hq;exact hw q (by omega) (by omega))).low (by omega)
 ·exact y7.ow ((O3.out.aL (Y:=dU V4 (X.1.size+1) 0 (dR (some ⟨V0.1.size,0,none⟩) k.f.length (some ⟨V1.1.size,0,none⟩) k.aa.length (some ⟨V2.1.size,0,none⟩) k.c.length k)) Tk (fun q hq=>by have:=l3 q hq;exact hw q (by omega) (by omega))).low (by omega))
 ·have:=n3 q h;have:=m3 q h';omega
 ·have:=n3 q h;have:=l3 q h';omega
 ·have:=m3 q h;have:=l3 q h';omega
 ·show X.1.size<=q/\q<(dU V4 (X.1.size+1) 0 (dR (some ⟨V0.1.size,0,none⟩) k.f.length (some ⟨V1.1.size,0,none⟩) k.aa.length (some ⟨V2.1.size,0,none⟩) k.c.length k)).1.size
  rw[bu];rcases hq with hq|hq|hq
  ·have:=n3 q hq;omega
  ·have:=m3 q hq;omega
  ·have:=l3 q hq;omega
 ·exact(O3.out.aL (Y:=dU V4 (X.1.size+1) 0 (dR (some ⟨V0.1.size,0,none⟩) k.f.length (some ⟨V1.1.size,0,none⟩) k.aa.length (some ⟨V2.1.size,0,none⟩) k.c.length k)) Tk (fun q hq=>by have:=l3 q hq;exact hw q (by omega) (by omega))).sl
theorem cO.eq(X:World)(a1:OA)(c1:Nat)(a2:OA)(c2:Nat)(a3:OA)(c3:Nat)(a1':OA)(c1':Nat)(QB:OA)(c2':Nat)(a3':OA)(c3':Nat)(k:C6)(ht:cO.S k)(h1:cO.Rd X a1 c1 a2 c2 a3 c3 k)(h2:cO.Rd X a1' c1' QB c2' a3' c3' k):Calls prog 8 #[.agg #[vI k.v,vI k.q,.slice a1 k.f.length c1,.slice a2 k.aa.length c2,.slice a3 k.c.length c3,.bool k.w],.agg #[vI k.v,vI k.q,.slice a1' k.f.length c1',.slice QB k.aa.length c2',.slice a3' k.c.length c3',.bool k.w]] X fun e w'=>e=.returned (.bool true)/\Below X.1.size X w':=by
 obtain⟨U0,wz,b0,x0,z0⟩:=jU X (dR a1 c1 a2 c2 a3 c3 k) 32;obtain⟨U,hU,b1,x1,-⟩:=jU U0 (dR a1' c1' QB c2' a3' c3' k) 32;rw[z0]at x1;have bU:Below X.1.size X U:=au b0 b1;have FA:Hid (Bx U X.1.size (dR a1 c1 a2 c2 a3 c3 k)):=x0.later b1;have FB:Hid (Bx U (X.1.size+1) (dR a1' c1' QB c2' a3' c3' k)):=x1;have HR:Hid (cO.Rd U a1 c1 a2 c2 a3 c3 k/\cO.Rd U a1' c1' QB c2' a3' c3' k/\cO.S k/\Below X.1.size X U):=⟨h1.later bU,h2.later bU,ht,bU⟩
 rw[wz]at hU;clear b0 x0 z0 b1 x1 bU wz h1 h2 ht;have d0:(k.v != k.v)=false:=by simp
 have d1:(k.q != k.q)=false:=by simp
 have d5:(k.w != k.w)=false:=by simp
 have p0:=FA.out.c3;have r0:=FB.out.c3;rw[hU]at p0 r0;go_enter func8,ntmps8;go_wp2_with fail;rw[<-hU];clear hU p0 r0;refine(Ee U a1 a1' k.f.length c1 c1' k.f (by have:=HR.out.2.2.1.p;unfold maxLen;omega) (fun z hz=>by have:=HR.out.2.2.1.ps z hz;unfold maxLen;omega) HR.out.1.p HR.out.2.1.p).mono ?_;rintro e w1 ⟨rfl,b1⟩;have B1:=tx.ay b1;clear b1;have p3:=(FA.out.later B1.out).1 3 _ rfl;have r3:=(FB.out.later B1.out).1 3 _ rfl;go_wp2_with fail;refine(wo.eq w1 a2 QB c2 c2' k.aa HR.out.2.2.1.m HR.out.2.2.1.ms (HR.out.1.later B1.out).m (HR.out.2.1.later B1.out).m).mono ?_;rintro e w2 ⟨rfl,b2⟩;have B2:Hid (Below U.1.size U w2):=au B1.out b2;clear b2 p3 r3;have p4:=(FA.out.later B2.out).1 4 _ rfl;have r4:=(FB.out.later B2.out).1 4 _ rfl;go_wp2_with fail;refine(wu.eq w2 a3 a3' c3 c3' k.c HR.out.2.2.1.t HR.out.2.2.1.ts (HR.out.1.later B2.out).t (HR.out.2.1.later B2.out).t).mono ?_;rintro e w3 ⟨rfl,b3⟩;have B3:Hid (Below U.1.size U w3):=au B2.out b3;clear b3 p4 r4;have p5:=(FA.out.later B3.out).1 5 _ rfl;have r5:=(FB.out.later B3.out).1 5 _ rfl;go_wp2;go_ret;exact⟨rfl,au HR.out.2.2.2 B3.out⟩
end
section
open Go.Proofs.Tryz
theorem cO.Ow.low{w:World}{B B':Nat}{a1:OA}{c1:Nat}{a2:OA}{c2:Nat}{a3:OA}{c3:Nat}{k:C6}{P:Nat->Prop}(h:cO.Ow w B a1 c1 a2 c2 a3 c3 k P)(hb:B'<=B):cO.Ow w B' a1 c1 a2 c2 a3 c3 k P:=by
 obtain⟨⟨P1,P2,P3,h1,h2,h3,h4⟩,h5⟩:=h;exact⟨⟨P1,P2,P3,h1.low hb,h2.low hb,h3.low hb,h4⟩,fun q hq=>⟨Nat.le_trans hb (h5 q hq).1,(h5 q hq).2⟩⟩
end
section
open Go.Proofs.Tryz
variable {g:Nat->Nat}{v:Value}{w:World}
def iB{α:Type}(hd:α->List Int)(ln:α->Nat)(r:α)(q cap:Nat):List Value:=(hd r).map (Value.int .i64)++[.slice (some ⟨q,0,none⟩) (ln r) cap]
def zO{α:Type}(hd:α->List Int)(ln:α->Nat)(rs:List α)(g nH:Nat->Nat):List Value:=rs.zipIdx.flatMap fun p=>iB hd ln p.1 (g p.2) (nH p.2)
theorem kI{β:Type}{f:β->List Value}{sz:Nat}:∀{l:List β} (_:∀x∈l,(f x).length=sz){i t:Nat}{x:β},l[i]?=some x->t<sz->(l.flatMap f)[i*sz+t]?=(f x)[t]?
 | [],_,i,t,x,h,_=>by simp at h
 | y::l,hf,0,t,x,h,ht=>by
  simp at h;subst h;rw[List.flatMap_cons,List.getElem?_append_left (by rw[hf y (by simp)];omega)];simp
 | y::l,hf,i+1,t,x,h,ht=>by
  have hl:=hf y (by simp);rw[List.flatMap_cons,List.getElem?_append_right (by rw[hl,Nat.add_mul];omega),hl,show(i+1)*sz+t-sz=i*sz+t by rw[Nat.add_mul];omega];exact kI (fun x hx=>hf x (by simp[hx])) (by simpa using h) ht
theorem OD{α:Type}{hd:α->List Int}{ln:α->Nat}{sz:Nat}(hh:∀r,(hd r).length+1=sz){rs:List α}{nH:Nat->Nat}{i t:Nat}{r:α}(h:rs[i]?=some r)(ht:t<sz):(zO hd ln rs g nH)[i*sz+t]?=(iB hd ln r (g i) (nH i))[t]?:=by
 have h':rs.zipIdx[i]?=some (r,i):=by simp[h]
 exact kI (f:=fun p:α×Nat=>iB hd ln p.1 (g p.2) (nH p.2)) (fun x _=>by simp[iB,hh]) h' ht
theorem Dg{β:Type}{f f':β->List Value}:∀{l:List β},(∀x∈l,f x=f' x)->l.flatMap f=l.flatMap f'
 | [],_=>rfl
 | y::l,h=>by rw[List.flatMap_cons,List.flatMap_cons,h y (by simp),Dg (fun x hx=>h x (by simp[hx]))]
theorem IP{α:Type}{hd:α->List Int}{ln:α->Nat}(rs:List α)(r:α)(g nH:Nat->Nat)(q cap:Nat):zO hd ln (rs++[r]) (fun i=>if i=rs.length then q else g i) (fun i=>if i=rs.length then cap else nH i)=zO hd ln rs g nH++iB hd ln r q cap:=by
 unfold zO;rw[List.zipIdx_append,List.flatMap_append];congr 1
 ·have:∀p∈rs.zipIdx,p.2<rs.length:=fun p hp=>by
   have:=List.snd_lt_of_mem_zipIdx hp;omega
  refine Dg fun p hp=>?_
  have:=this p hp;simp only[if_neg (show p.2≠rs.length by omega)]
 ·simp
structure iJ{α:Type}(T:TypeId)(sz:Nat)(hd:α->List Int)(ln:α->Nat)(At:World->Nat->α->Prop)(w:World)(base:Nat)(v:Value)(rs:List α)(g:Nat->Nat):Prop where
 row:∃nH:Nat->Nat,w.ownsRow base T sz v rs.length (zO hd ln rs g nH)/\∀i r,rs[i]?=some r->ln r<=nH i
 low:∀i,i<rs.length->base<=g i
 lt:∀i,i<rs.length->g i<w.1.size
 ne:∀i,i<rs.length->v.ownBlock≠some (g i)
 sub:∀i r,rs[i]?=some r->At w (g i) r
 inj:∀i j,i<rs.length->j<rs.length->g i=g j->i=j
theorem iJ.nil{α:Type}{T:TypeId}{sz:Nat}{hd:α->List Int}{ln:α->Nat}{At:World->Nat->α->Prop}(w:World)(base:Nat)(g:Nat->Nat):iJ T sz hd ln At w base (.slice none 0 0) [] g:=
 ⟨⟨fun _=>0,⟨by simp[zO],.inl ⟨rfl,rfl⟩⟩,fun i r e=>by simp at e⟩,fun i h=>by simp at h,fun i h=>by simp at h,fun i h=>by simp at h,fun i r e=>by simp at e,fun i j h=>by simp at h⟩
theorem iJ.lies{α:Type}{T:TypeId}{sz:Nat}{hd:α->List Int}{ln:α->Nat}{At:World->Nat->α->Prop}{base:Nat}{rs:List α}(h:iJ T sz hd ln At w base v rs g){q:Nat}(e:v.ownBlock=some q):base<=q/\q<w.1.size:=by
 obtain⟨nH,ho,_⟩:=h.row;exact World.ownsRow.lt ho q e
theorem iJ.aL{α:Type}{T:TypeId}{sz:Nat}{hd:α->List Int}{ln:α->Nat}{At:World->Nat->α->Prop}(K9:∀(w w':World) (b:Nat) (r:α),w'.1[b]?=w.1[b]?->At w b r->At w' b r){w':World}{base:Nat}{rs:List α}(h:iJ T sz hd ln At w base v rs g)(dO:w.1.size<=w'.1.size)(hs:∀q,q<w.1.size->(v.ownBlock=some q\/∃i,i<rs.length/\g i=q)->w'.1[q]?=w.1[q]?):iJ T sz hd ln At w' base v rs g:=by
 obtain⟨nH,ho,hc⟩:=h.row;refine⟨⟨nH,⟨ho.1,ho.2.imp id ?_⟩,hc⟩,h.low,fun i hi=>Nat.lt_of_lt_of_le (h.lt i hi) dO,h.ne,fun i r e=>?_,h.inj⟩
 ·rintro ⟨q,cap,cur,rfl,l,hg,r⟩;exact⟨q,cap,cur,rfl,l,(hs q (World.ownsRow.lt ho q rfl).2 (.inl rfl)).trans hg,r⟩
 ·have hi:=(List.getElem?_eq_some_iff.1 e).1;exact K9 _ _ _ _ (hs _ (h.lt i hi) (.inr ⟨i,hi,rfl⟩)) (h.sub i r e)
theorem iJ.own{α:Type}{T:TypeId}{sz:Nat}{hd:α->List Int}{ln:α->Nat}{At:World->Nat->α->Prop}(hh:∀r,(hd r).length+1=sz){base:Nat}{rs:List α}(h:iJ T sz hd ln At w base v rs g)(eO:rs≠[]):
  ∃b cap,v=.slice (some ⟨b,0,none⟩) rs.length cap/\base<=b/\b<w.1.size/\rs.length<=cap/\Room w b (rs.length*sz)/\fB sz hd ln At w base b rs.length rs g:=by
 obtain⟨nH,ho,hc⟩:=h.row;have tF:0<rs.length:=List.length_pos_iff.2 eO
 have zQ:∃b cap,v=.slice (some ⟨b,0,none⟩) rs.length cap/\rs.length<=cap:=by
  rcases ho.2 with ⟨_,h0⟩|⟨b,cap,cur,rfl,_,_,hl,_⟩
  ·omega
  ·exact⟨b,cap,rfl,hl⟩
 obtain⟨b,cap,rfl,hl⟩:=zQ;have hb:=World.ownsRow.lt ho b rfl;have hlen:∀i r,rs[i]?=some r->i<rs.length:=fun i r e=>(List.getElem?_eq_some_iff.1 e).1
 have bg:∀i r t,rs[i]?=some r->t<sz->w.cell? ⟨b,i*sz+t,none⟩=(iB hd ln r (g i) (nH i))[t]?:=fun i r t e ht=>by
  have:(i+1)*sz<=rs.length*sz:=Nat.mul_le_mul_right sz (hlen i r e);rw[Nat.add_mul]at this;rw[World.ownsRow.cellAt ho _ (by omega)];exact OD hh e ht
 refine⟨b,cap,rfl,hb.1,hb.2,hl,fun j hj=>?_,⟨rfl,fun i r e t z ht=>?_,fun i r e=>?_,h.low,h.lt,fun i hi e=>h.ne i hi (by rw[e];rfl),h.sub,h.inj⟩⟩
 ·have hx:j<(zO hd ln rs g nH).length:=by rw[ho.1];exact hj
  exact⟨_,by rw[World.ownsRow.cellAt ho j hj];exact List.getElem?_eq_getElem hx,World.ownsRow.frozenAt ho j⟩
 ·have Tg:=(List.getElem?_eq_some_iff.1 ht).1;have:=hh r;rw[bg i r t e (by omega),iB,List.getElem?_append_left (by simpa using Tg),List.getElem?_map,ht];rfl
 ·have:=hh r;refine⟨nH i,?_,hc i r e⟩;rw[bg i r (sz-1) e (by omega),iB,List.getElem?_append_right (by simp;omega)];simp[show sz-1-(hd r).length=0 by omega]
theorem iJ.push{α:Type}{T ST:TypeId}{sz BR:Nat}{hd:α->List Int}{ln:α->Nat}{At:World->Nat->α->Prop}(K9:∀(w w':World) (b:Nat) (r:α),w'.1[b]?=w.1[b]?->At w b r->At w' b r)(hh:∀r,(hd r).length+1=sz){P:Program}{i0:TypeInfo}{z:Value}(ht:P.underlying ST=some (.slice T))(hi:P.info? T=some i0)(hz:i0.zero=some z)(hs:i0.size=sz)(UF:i0.bytes=BR)(l8:z.cells.size=sz)(qQ:BR<=1000)
  {W:World}{base e:Nat}{v:Value}{rs:List α}{g:Nat->Nat} (h:iJ T sz hd ln At W base v rs g) (r:α) (q cap:Nat) (hm:rs.length<=100000) (ty:TypeId)
  (he:∀j u,(iB hd ln r q cap)[j]?=some u->W.cell? ⟨e,j,none⟩=some u) (bg:At W q r) (hc:ln r<=cap) (hq:base<=q) (U5:q<W.1.size) (hn:v.ownBlock≠some q) (hf:∀i,i<rs.length->g i≠q) (gU:base<=W.1.size):
  ∃v' W',(Builtin.append_ #[ST,ST] ty #[v,.slice (some ⟨e,0,none⟩) 1 1]).run P W=.ok v' W'/\iJ T sz hd ln At W' base v' (rs++[r]) (fun i=>if i=rs.length then q else g i)/\W.grownBy W' v.ownBlock/\(v'.ownBlock=v.ownBlock\/v'.ownBlock=some W.1.size):=by
 obtain⟨nH,ho,rE⟩:=h.row;have wM:∀(b o j:Nat),(⟨b,o,none⟩:Addr).add j=⟨b,o+j,none⟩:=fun b o j=>by unfold Addr.add;split<;>simp_all
 obtain⟨v',W',kU,ig,hg,UW,fK⟩:=run_append_own_at (P:=P) W base ST ty T i0 z sz BR ht hi hz hs UF l8 (by have:=hh r;omega)
  v rs.length _ ho ⟨e,0,none⟩ 1 1 (iB hd ln r q cap) (by simp[iB,hh]) (fun j u hu=>by rw[wM,Nat.zero_add];exact he j u hu)
  (fun u hu=>by
   simp only[iB,List.mem_append,List.mem_map,List.mem_singleton]at hu
   rcases hu with ⟨x,_,rfl⟩|rfl<;>rfl) (by unfold maxLen;omega) (by
   have:(rs.length+1)*BR<=100001*1000:=Nat.mul_le_mul (by omega) qQ
   omega) gU
 have dX:∀x,x<W.1.size->v.ownBlock≠some x->W'.1[x]?=W.1[x]?:=fun x hx eO=>hg.block x hx (fun e'=>eO e'.symm)
 have YH:∀x,x<W.1.size->v.ownBlock≠some x->v'.ownBlock≠some x:=fun x hx eO=>by
  rcases fK with e'|e'
  ·rw[e'];exact eO
  ·rw[e'];intro Me;cases Me;omega
 have split:∀i y,(rs++[r])[i]?=some y->(i<rs.length/\rs[i]?=some y)\/(i=rs.length/\y=r):=fun i y e=>by
  by_cases hi:i<rs.length
  ·rw[List.getElem?_append_left hi]at e;exact .inl ⟨hi,e⟩
  ·rw[List.getElem?_append_right (by omega)]at e
   have h0:i-rs.length=0:=by
    rcases Nat.eq_zero_or_pos (i-rs.length)with h|h
    ·exact h
    ·rw[List.getElem?_eq_none (by simp;omega)]at e;cases e
   rw[h0]at e;simp at e;exact .inr ⟨by omega,e.symm⟩
 have hlen:(rs++[r]).length=rs.length+1:=by simp
 refine⟨v',W',kU,⟨⟨fun i=>if i=rs.length then cap else nH i,by rw[IP,hlen];exact ig,fun i y e'=>?_⟩,fun i Ci=>?_,fun i Ci=>?_,fun i Ci=>?_,fun i y e'=>?_,fun i j Ci Rp ee=>?_⟩,hg,fK⟩
 ·rcases split i y e' with ⟨Ci,e'⟩|⟨rfl,rfl⟩
  ·show ln y<=if i=rs.length then cap else nH i
   rw[if_neg (by omega)];exact rE i y e'
  ·show ln y<=if rs.length=rs.length then cap else nH rs.length
   rw[if_pos rfl];exact hc
 ·by_cases e':i=rs.length
  ·rw[if_pos e'];exact hq
  ·rw[if_neg e'];exact h.low i (by omega)
 ·by_cases e':i=rs.length
  ·rw[if_pos e'];exact Nat.lt_of_lt_of_le U5 hg.size
  ·rw[if_neg e'];exact Nat.lt_of_lt_of_le (h.lt i (by omega)) hg.size
 ·by_cases e':i=rs.length
  ·rw[if_pos e'];exact YH q U5 hn
  ·rw[if_neg e'];exact YH _ (h.lt i (by omega)) (h.ne i (by omega))
 ·rcases split i y e' with ⟨Ci,e'⟩|⟨rfl,rfl⟩
  ·rw[if_neg (by omega)];exact K9 _ _ _ _ (dX _ (h.lt i Ci) (h.ne i Ci)) (h.sub i y e')
  ·rw[if_pos rfl];exact K9 _ _ _ _ (dX _ U5 hn) bg
 ·by_cases ei:i=rs.length<;>by_cases ek:j=rs.length
  ·omega
  ·simp only[if_pos ei,if_neg ek]at ee;exact absurd ee.symm (hf j (by omega))
  ·simp only[if_neg ei,if_pos ek]at ee;exact absurd ee (hf i (by omega))
  ·simp only[if_neg ei,if_neg ek]at ee;exact h.inj i j (by omega) (by omega) ee
end
section
open Go.Proofs.Tryz
variable {B m q:Nat}{X:World}{a:OA}{g:Nat->Nat->Prop}{v:Value}
def Kd.flat{D V:Type}(K:Kd D V)(ps:List (V×D)):List Value:=ps.flatMap fun p=>K.cells p.1 p.2
theorem Kd.uY{D V:Type}(K:Kd D V)(ps:List (V×D)):(K.flat ps).length=ps.length*K.n:=by
 induction ps with
 | nil=>simp[Kd.flat]
 | cons p ps ih=>
  unfold Kd.flat at ih ⊢;rw[List.flatMap_cons,List.length_append,ih,K.len,List.length_cons,Nat.add_mul];omega
theorem Kd.kI{D V:Type}(K:Kd D V){ps:List (V×D)}{i t:Nat}{p:V×D}(h:ps[i]?=some p)(ht:t<K.n):(K.flat ps)[i*K.n+t]?=(K.cells p.1 p.2)[t]?:=Go.Proofs.YtajmlpgodcfghaaGreatDoor.kI (f:=fun p:V×D=>K.cells p.1 p.2) (fun _ _=>K.len _ _) h ht
theorem Kd.Mg{D V:Type}(K:Kd D V)(ps:List (V×D))(p:V×D):K.flat (ps++[p])=K.flat ps++K.cells p.1 p.2:=by simp[Kd.flat]
structure Kd.Grow{D V:Type}(K:Kd D V)(T:TypeId)(X:World)(B:Nat)(v:Value)(ps:List (V×D))(g:Nat->Nat->Prop):Prop where
 row:X.ownsRow B T K.n v ps.length (K.flat ps)
 sub:∀i p,ps[i]?=some p->K.Ow X B p.1 p.2 (g i)
 ne:∀i q,i<ps.length->g i q->v.ownBlock≠some q
 ap:∀i j q,i<ps.length->j<ps.length->i≠j->g i q->¬g j q
def Kd.kS{D V:Type}(v:Value)(ps:List (V×D))(g:Nat->Nat->Prop)(q:Nat):Prop:=v.ownBlock=some q\/∃i,i<ps.length/\g i q
theorem Kd.Grow.nil{D V:Type}(K:Kd D V)(T:TypeId)(X:World)(B:Nat)(g:Nat->Nat->Prop):K.Grow T X B (.slice none 0 0) [] g:=
 ⟨⟨by simp[Kd.flat],.inl ⟨rfl,rfl⟩⟩,fun i p e=>by simp at e,fun i q h=>by simp at h,fun i j q h=>by simp at h⟩
theorem Kd.Grow.blocks{D V:Type}{K:Kd D V}{T:TypeId}{ps:List (V×D)}(h:K.Grow T X B v ps g)(hq:Kd.kS v ps g q):B<=q/\q<X.1.size:=by
 rcases hq with e|⟨i,hi,hq⟩
 ·exact World.ownsRow.lt h.row q e
 ·exact K.of (h.sub i _ (List.getElem?_eq_getElem hi)) hq
theorem Kd.Grow.aL{D V:Type}{K:Kd D V}{T:TypeId}{X Y:World}{B:Nat}{v:Value}{ps:List (V×D)}{g:Nat->Nat->Prop}(h:K.Grow T X B v ps g)(hs:X.1.size<=Y.1.size)(hk:∀q,Kd.kS v ps g q->Y.1[q]?=X.1[q]?):K.Grow T Y B v ps g:=by
 refine⟨⟨h.row.1,h.row.2.imp id ?_⟩,fun i p e=>K.aL (h.sub i p e) hs (fun q hq=>hk q (.inr ⟨i,(List.getElem?_eq_some_iff.1 e).1,hq⟩)),h.ne,h.ap⟩;rintro ⟨q,cap,cur,rfl,l,hg,r⟩;exact⟨q,cap,cur,rfl,l,(hk q (.inl rfl)).trans hg,r⟩
theorem Kd.Grow.form{D V:Type}{K:Kd D V}{T:TypeId}{ps:List (V×D)}(h:K.Grow T X B v ps g):∃a cap,v=.slice a ps.length cap:=by
 rcases h.row.2 with ⟨rfl,h0⟩|⟨q,cap,cur,rfl,_⟩
 ·exact⟨none,0,by rw[h0]⟩
 ·exact⟨_,_,rfl⟩
theorem Kd.Grow.part{D V:Type}{K:Kd D V}{T:TypeId}{cap:Nat}{ps:List (V×D)}(h:K.Grow T X B (.slice a m cap) ps g){ds:List D}(hd:ps.map (·.2)=ds)(e:ps≠[]):∃b,a=some ⟨b,0,none⟩/\K.Part X B b ds.length ds g/\∀i p,ps[i]?=some p->At X b (i*K.n) (K.cells p.1 p.2):=by
 have tF:0<ps.length:=List.length_pos_iff.2 e;obtain⟨b,aW,ev,hB,aK⟩:=World.ownsRow.form h.row tF;have hl:ds.length=ps.length:=by rw[<-hd];simp
 have eX:=h.row;rw[ev]at eX;have ea:a=some ⟨b,0,none⟩:=by injection ev
 have eb:(Value.slice a m cap).ownBlock=some b:=by rw[ea];rfl
 have bg:∀i p,ps[i]?=some p->At X b (i*K.n) (K.cells p.1 p.2):=fun i p hp t u hu=>by
  have qU:=(List.getElem?_eq_some_iff.1 hp).1;have ht:t<K.n:=by have:=(List.getElem?_eq_some_iff.1 hu).1;rwa[K.len]at this
  have hm:i*K.n+K.n<=ps.length*K.n:=by rw[<-Nat.succ_mul];exact Nat.mul_le_mul_right _ qU
  rw[World.ownsRow.cellAt eX _ (by omega),K.kI hp ht];exact hu
 refine⟨b,ea,⟨fun j hj=>?_,fun i d hi=>?_,fun i q hi hq e'=>?_,fun i j q hi hj=>h.ap i j q (by omega) (by omega)⟩,bg⟩
 ·rw[hl]at hj;have hx:j<(K.flat ps).length:=by rw[K.uY];exact hj
  exact⟨_,by rw[World.ownsRow.cellAt eX j hj];exact List.getElem?_eq_getElem hx,World.ownsRow.frozenAt eX j⟩
 ·have qU:i<ps.length:=by have:=(List.getElem?_eq_some_iff.1 hi).1;omega
  have hp:=List.getElem?_eq_getElem qU
  have lO:(ps[i]).2=d:=by
   rw[<-hd,List.getElem?_map,hp]at hi;simpa using hi
  exact⟨(ps[i]).1,by rw[<-lO];exact bg i _ hp,by rw[<-lO];exact h.sub i _ hp⟩
 ·subst e';exact h.ne i q (by omega) hq eb
theorem Kd.Grow.own{D V:Type}{K:Kd D V}{T:TypeId}{cap:Nat}{ps:List (V×D)}(h:K.Grow T X B (.slice a m cap) ps g){ds:List D}(hd:ps.map (·.2)=ds):K.oD X B a ds (Kd.kS (.slice a m cap) ps g):=by
 refine⟨?_,fun q hq=>h.blocks hq⟩;by_cases e:ps=[]
 ·left;rw[<-hd,e];rfl
 have hl:ds.length=ps.length:=by rw[<-hd];simp
 obtain⟨b,rfl,hp,_⟩:=h.part hd e;exact .inr ⟨b,g,rfl,.inl rfl,hp,fun i q hi hq=>.inr ⟨i,by omega,hq⟩⟩
theorem Kd.Grow.push{D V:Type}{K:Kd D V}{T ST:TypeId}{BR:Nat}{P:Program}{i0:TypeInfo}{z:Value}(ht:P.underlying ST=some (.slice T))(hi:P.info? T=some i0)(hz:i0.zero=some z)(hs:i0.size=K.n)(UF:i0.bytes=BR)(l8:z.cells.size=K.n)(qQ:BR<=1000)(sv:0<K.n)
  {W:World}{B e:Nat}{v:Value}{ps:List (V×D)}{g:Nat->Nat->Prop} (h:K.Grow T W B v ps g) (x:V) (d:D) (Q:Nat->Prop) (hm:ps.length<=1100000) (ty:TypeId)
  (he:∀j u,(K.cells x d)[j]?=some u->W.cell? ⟨e,j,none⟩=some u) (h1:∀u∈K.cells x d,u.oneCell'=true) (ho:K.Ow W B x d Q) (hf:∀q,Q q->¬Kd.kS v ps g q) (hB:B<=W.1.size):
  ∃v' W',(Builtin.append_ #[ST,ST] ty #[v,.slice (some ⟨e,0,none⟩) 1 1]).run P W=.ok v' W'/\K.Grow T W' B v' (ps++[(x,d)]) (fun i=>if i=ps.length then Q else g i)/\W.grownBy W' v.ownBlock/\(v'.ownBlock=v.ownBlock\/v'.ownBlock=some W.1.size):=by
 have wM:∀(b o j:Nat),(⟨b,o,none⟩:Addr).add j=⟨b,o+j,none⟩:=fun b o j=>by unfold Addr.add;split<;>simp_all
 obtain⟨v',W',kU,ig,hg,UW,fK⟩:=run_append_own_at (P:=P) W B ST ty T i0 z K.n BR ht hi hz hs UF l8 sv
  v ps.length _ h.row ⟨e,0,none⟩ 1 1 (K.cells x d) (by rw[K.len];omega) (fun j u hu=>by rw[wM,Nat.zero_add];exact he j u hu) h1 (by unfold maxLen;omega) (by
   have:(ps.length+1)*BR<=1100001*1000:=Nat.mul_le_mul (by omega) qQ
   omega) hB
 have dX:∀q,q<W.1.size->v.ownBlock≠some q->W'.1[q]?=W.1[q]?:=fun q hq eO=>hg.block q hq (fun e'=>eO e'.symm)
 have YH:∀q,q<W.1.size->v.ownBlock≠some q->v'.ownBlock≠some q:=fun q hq eO=>by
  rcases fK with e'|e'
  ·rw[e'];exact eO
  ·rw[e'];intro Me;cases Me;omega
 have hlen:(ps++[(x,d)]).length=ps.length+1:=by simp
 refine⟨v',W',kU,⟨by rw[K.Mg,hlen];exact ig,fun i p e'=>?_,fun i q Ci hq=>?_,fun i j q Ci Rp Ga h1 h2=>?_⟩,hg,fK⟩
 ·by_cases hl:i<ps.length
  ·rw[List.getElem?_append_left hl]at e';simp only[if_neg (show i≠ps.length by omega)];have kN:=h.sub i p e';exact K.aL kN hg.size (fun q hq=>dX q (K.of kN hq).2 (h.ne i q hl hq))
  ·have Zv:i=ps.length:=by have:=(List.getElem?_eq_some_iff.1 e').1;omega
   subst Zv;rw[List.getElem?_append_right aU]at e';simp at e';subst e';simp only[if_pos];exact K.aL ho hg.size (fun q hq=>dX q (K.of ho hq).2 (fun Me=>hf q hq (.inl Me)))
 ·by_cases e1:i=ps.length
  ·simp only[if_pos e1]at hq;exact YH q (K.of ho hq).2 (fun Me=>hf q hq (.inl Me))
  ·simp only[if_neg e1]at hq;have Zv:i<ps.length:=by omega
   exact YH q (h.blocks (.inr ⟨i,Zv,hq⟩)).2 (h.ne i q Zv hq)
 ·by_cases e1:i=ps.length
  ·by_cases e2:j=ps.length
   ·omega
   ·simp only[if_pos e1]at h1;simp only[if_neg e2]at h2;exact hf q h1 (.inr ⟨j,by omega,h2⟩)
  ·by_cases e2:j=ps.length
   ·simp only[if_neg e1]at h1;simp only[if_pos e2]at h2;exact hf q h2 (.inr ⟨i,by omega,h1⟩)
   ·simp only[if_neg e1]at h1;simp only[if_neg e2]at h2;exact h.ap i j q (by omega) (by omega) Ga h1 h2
theorem Kd.zH{D V:Type}{v':Value}{ps:List (V×D)}{p:V×D}{Q:Nat->Prop}{S:Nat}(hl:v'.ownBlock=v.ownBlock\/v'.ownBlock=some S)(h:Kd.kS v' (ps++[p]) (fun i=>if i=ps.length then Q else g i) q):Kd.kS v ps g q\/Q q\/q=S:=by
 rcases h with h|⟨i,hi,h⟩
 ·rcases hl with e|e
  ·rw[e]at h;exact .inl (.inl h)
  ·rw[e]at h;exact .inr (.inr (Option.some.inj h).symm)
 ·by_cases e:i=ps.length
  ·simp only[if_pos e]at h;exact .inr (.inl h)
  ·simp only[if_neg e]at h;simp at hi;exact .inl (.inr ⟨i,by omega,h⟩)
end
section
open Go.Proofs.Tryz
def R4.val(r:R4)(a:OA)(cap:Nat):Value:=.agg #[vI r.kind,vI r.tx,vI r.a,.slice a r.ag.length cap]
def K2.val(k:K2)(a:OA)(cap:Nat):Value:=.agg #[vI k.a,.slice a k.cells.length cap]
def eH(f:Nat->Bool)(n:Nat)(i:Int):Prop:=(i=-1/\∀j,j<n->f j=false)\/∃k:Nat,i=(k:Int)/\k<n/\f k=true/\∀j,j<k->f j=false
theorem iC{f:Nat->Bool}{n:Nat}{i:Int}(h:eH f n i):decide (0<=i)=!((List.range n).all fun j=>!f j):=by
 rcases h with ⟨rfl,h⟩|⟨k,rfl,hk,h,_⟩
 ·have:((List.range n).all fun j=>!f j)=true:=by
   rw[List.all_eq_true];intro j hj;rw[h j (List.mem_range.1 hj)];rfl
  rw[this];rfl
 ·have:((List.range n).all fun j=>!f j)=false:=by
   rw[List.all_eq_false];exact⟨k,List.mem_range.2 hk,by simp[h]⟩
  rw[this];simp
theorem ay{p:Prop}(h:p):Hid p:=h
def Ll(w:World)(n:Nat)(rs:List R4)(f:Nat->Bool):Prop:=
 ∀(X:World) (i:Nat) (a':OA) (aW:Nat),Below w.1.size w X->i<n->Sl X X.1.size a' (atR rs i).ag.length (atR rs i).ag->Calls prog 260 #[(atR rs i).val a' aW] X fun e w'=>e=.returned (.bool (f i))/\Below X.1.size X w'
theorem Vi(w:World)(a:OA)(n cap:Nat)(rs:List R4)(f:Nat->Bool)(hn:n<=maxLen)(hs:Iz w w.1.size a n rs)(hf:Ll w n rs  f):
  Calls prog 272 #[.slice a n cap,.func (.func 260) #[] #[]] w fun e w'=>(∃i:Int,e=.returned (vI i)/\eH f n i)/\Below w.1.size w w':=by
 unfold maxLen at hn;obtain⟨hx,hs⟩:=hs;have HF:=ay hf;clear hf;go_enter func272,ntmps272;go_wp2;go_loopw[8] (fun v wr=>∃j:Nat,j<=n/\v=vI j/\Below w.1.size w wr/\∀i,i<j->f i=false) (fun v _=>n-(intOf v).toNat)
 case atStart=>exact⟨0,Nat.zero_le _,rfl,aN,fun i h=>absurd h (by omega)⟩
 case round=>
  obtain⟨j,hj,rfl,aD,aO⟩:=hrel;by_cases aK:j<n
  ·rcases hs with hs|⟨b,off,rfl,hb,h1⟩
   ·omega
   ·have hr:=(h1 j _ (jy (by omega))).below aD hb;have c0:=hr.c0;have c1:=hr.c1;have c2:=hr.c2;obtain⟨a',aW,c3,gM,kL⟩:=hr.c3;have KA:Hid ((∀i,i<j->f i=false)/\Below w.1.size w wr):=⟨aO,aD⟩
    have hw:=HF.out wr j a' aW aD aK (gM.mono aD.size);simp only[R4.val]at hw;clear h1 hr aO gM aD kL;generalize (atR rs j).ag.length=ln at *
    cases hp:f j with
    | true=>
     rw[hp]at hw;go_wp2_with fail;refine hw.mono ?_;clear hw;rintro e w1 ⟨rfl,b1⟩;go_wp2;go_ret;exact⟨⟨_,rfl,.inr ⟨j,rfl,aK,hp,KA.out.1⟩⟩,KA.out.2.trans (b1.mono KA.out.2.size)⟩
    | false=>
     rw[hp]at hw;go_wp2_with fail;refine hw.mono ?_;clear hw;rintro e w1 ⟨rfl,b1⟩;go_wp2
     exact⟨⟨j+1,by omega,by simp,KA.out.2.trans (b1.mono KA.out.2.size),fun i hi=>by
      by_cases e:i=j
      ·rw[e];exact hp
      ·exact KA.out.1 i (by omega)⟩,by simp[intOf];omega⟩
  ·have:j=n:=by omega
   subst this;have hd:decide ((j:Int)<(j:Int))=false:=by simp
   have KA:Hid (∀i,i<j->f i=false):=aO;clear hs aO;go_wp2;go_ret;exact⟨⟨_,rfl,.inl ⟨rfl,KA.out⟩⟩,aD⟩
theorem Mw(w:World)(a:OA)(n cap:Nat)(rs:List R4)(f:Nat->Bool)(hn:n<=maxLen)(hs:Iz w w.1.size a n rs)(hf:Ll w n rs f):
  Calls prog 262 #[.slice a n cap,.func (.func 260) #[] #[]] w fun e w'=>e=.returned (.bool (!((List.range n).all fun j=>!f j)))/\Below w.1.size w w':=by
 have hi:=Vi w a n cap rs f hn hs hf;clear hs hf;go_enter func262,ntmps262;go_wp2_with fail;refine hi.mono ?_;clear hi;rintro e w1 ⟨⟨i,rfl,tK⟩,b1⟩;have hb:=iC tK;clear tK;generalize hV:(!((List.range n).all fun j=>!f j))=V at hb;go_wp2;go_ret;exact⟨by rw[hV];rfl,b1⟩
def Lj(w:World)(n:Nat)(rs:List K2)(f:Nat->Bool):Prop:=
 ∀(X:World) (i:Nat) (a':OA) (aW:Nat),Below w.1.size w X->i<n->nN X X.1.size a' (dD rs i).cells.length (dD rs i).cells->Calls prog 256 #[(dD rs i).val a' aW] X fun e w'=>e=.returned (.bool (f i))/\Below X.1.size X w'
theorem Vh(w:World)(a:OA)(n cap:Nat)(rs:List K2)(f:Nat->Bool)(hn:n<=maxLen)(hs:yt w w.1.size a n rs)(hf:Lj w n rs  f):
  Calls prog 269 #[.slice a n cap,.func (.func 256) #[] #[]] w fun e w'=>(∃i:Int,e=.returned (vI i)/\eH f n i)/\Below w.1.size w w':=by
 unfold maxLen at hn;obtain⟨hx,hs⟩:=hs;have HF:=ay hf;clear hf;go_enter func269,ntmps269;go_wp2;go_loopw[8] (fun v wr=>∃j:Nat,j<=n/\v=vI j/\Below w.1.size w wr/\∀i,i<j->f i=false) (fun v _=>n-(intOf v).toNat)
 case atStart=>exact⟨0,Nat.zero_le _,rfl,aN,fun i h=>absurd h (by omega)⟩
 case round=>
  obtain⟨j,hj,rfl,aD,aO⟩:=hrel;by_cases aK:j<n
  ·rcases hs with hs|⟨b,off,rfl,hb,h1⟩
   ·omega
   ·have hr:=(h1 j _ (eY (by omega))).below aD hb;have c0:=hr.c0;obtain⟨a',aW,c1,gM,kL⟩:=hr.c1;have KA:Hid ((∀i,i<j->f i=false)/\Below w.1.size w wr):=⟨aO,aD⟩
    have hw:=HF.out wr j a' aW aD aK (gM.mono aD.size);simp only[K2.val]at hw;clear h1 hr aO gM aD kL;generalize (dD rs j).cells.length=ln at *
    cases hp:f j with
    | true=>
     rw[hp]at hw;go_wp2_with fail;refine hw.mono ?_;clear hw;rintro e w1 ⟨rfl,b1⟩;go_wp2;go_ret;exact⟨⟨_,rfl,.inr ⟨j,rfl,aK,hp,KA.out.1⟩⟩,KA.out.2.trans (b1.mono KA.out.2.size)⟩
    | false=>
     rw[hp]at hw;go_wp2_with fail;refine hw.mono ?_;clear hw;rintro e w1 ⟨rfl,b1⟩;go_wp2
     exact⟨⟨j+1,by omega,by simp,KA.out.2.trans (b1.mono KA.out.2.size),fun i hi=>by
      by_cases e:i=j
      ·rw[e];exact hp
      ·exact KA.out.1 i (by omega)⟩,by simp[intOf];omega⟩
  ·have:j=n:=by omega
   subst this;have hd:decide ((j:Int)<(j:Int))=false:=by simp
   have KA:Hid (∀i,i<j->f i=false):=aO;clear hs aO;go_wp2;go_ret;exact⟨⟨_,rfl,.inl ⟨rfl,KA.out⟩⟩,aD⟩
theorem Mv(w:World)(a:OA)(n cap:Nat)(rs:List K2)(f:Nat->Bool)(hn:n<=maxLen)(hs:yt w w.1.size a n rs)(hf:Lj w n rs f):
  Calls prog 259 #[.slice a n cap,.func (.func 256) #[] #[]] w fun e w'=>e=.returned (.bool (!((List.range n).all fun j=>!f j)))/\Below w.1.size w w':=by
 have hi:=Vh w a n cap rs f hn hs hf;clear hs hf;go_enter func259,ntmps259;go_wp2_with fail;refine hi.mono ?_;clear hi;rintro e w1 ⟨⟨i,rfl,tK⟩,b1⟩;have hb:=iC tK;clear tK;generalize hV:(!((List.range n).all fun j=>!f j))=V at hb;go_wp2;go_ret;exact⟨by rw[hV];rfl,b1⟩
def Lm(w:World)(n:Nat)(rs:List Int)(f:Nat->Bool):Prop:=
 ∀(X:World) (i:Nat) ,Below w.1.size w X->i<n->True->Calls prog 263 #[vI (eQ rs i)] X fun e w'=>e=.returned (.bool (f i))/\Below X.1.size X w'
theorem Vj(w:World)(a:OA)(n cap:Nat)(rs:List Int)(f:Nat->Bool)(hn:n<=maxLen)(hs:ll w w.1.size a n rs)(hf:Lm w n rs  f):
  Calls prog 273 #[.slice a n cap,.func (.func 263) #[] #[]] w fun e w'=>(∃i:Int,e=.returned (vI i)/\eH f n i)/\Below w.1.size w w':=by
 unfold maxLen at hn;obtain⟨hx,hs⟩:=hs;have HF:=ay hf;clear hf;go_enter func273,ntmps273;go_wp2;go_loopw[8] (fun v wr=>∃j:Nat,j<=n/\v=vI j/\Below w.1.size w wr/\∀i,i<j->f i=false) (fun v _=>n-(intOf v).toNat)
 case atStart=>exact⟨0,Nat.zero_le _,rfl,aN,fun i h=>absurd h (by omega)⟩
 case round=>
  obtain⟨j,hj,rfl,aD,aO⟩:=hrel;by_cases aK:j<n
  ·rcases hs with hs|⟨b,off,rfl,hb,h1⟩
   ·omega
   ·have c0:=(aD.cell (p:=⟨b,off+j,none⟩) hb).trans (h1 j _ (jf (by omega)));have KA:Hid ((∀i,i<j->f i=false)/\Below w.1.size w wr):=⟨aO,aD⟩
    have hw:=HF.out wr j aD aK trivial;clear h1 aO aD
    cases hp:f j with
    | true=>
     rw[hp]at hw;go_wp2_with fail;refine hw.mono ?_;clear hw;rintro e w1 ⟨rfl,b1⟩;go_wp2;go_ret;exact⟨⟨_,rfl,.inr ⟨j,rfl,aK,hp,KA.out.1⟩⟩,KA.out.2.trans (b1.mono KA.out.2.size)⟩
    | false=>
     rw[hp]at hw;go_wp2_with fail;refine hw.mono ?_;clear hw;rintro e w1 ⟨rfl,b1⟩;go_wp2
     exact⟨⟨j+1,by omega,by simp,KA.out.2.trans (b1.mono KA.out.2.size),fun i hi=>by
      by_cases e:i=j
      ·rw[e];exact hp
      ·exact KA.out.1 i (by omega)⟩,by simp[intOf];omega⟩
  ·have:j=n:=by omega
   subst this;have hd:decide ((j:Int)<(j:Int))=false:=by simp
   have KA:Hid (∀i,i<j->f i=false):=aO;clear hs aO;go_wp2;go_ret;exact⟨⟨_,rfl,.inl ⟨rfl,KA.out⟩⟩,aD⟩
theorem Mx(w:World)(a:OA)(n cap:Nat)(rs:List Int)(f:Nat->Bool)(hn:n<=maxLen)(hs:ll w w.1.size a n rs)(hf:Lm w n rs f):
  Calls prog 266 #[.slice a n cap,.func (.func 263) #[] #[]] w fun e w'=>e=.returned (.bool (!((List.range n).all fun j=>!f j)))/\Below w.1.size w w':=by
 have hi:=Vj w a n cap rs f hn hs hf;clear hs hf;go_enter func266,ntmps266;go_wp2_with fail;refine hi.mono ?_;clear hi;rintro e w1 ⟨⟨i,rfl,tK⟩,b1⟩;have hb:=iC tK;clear tK;generalize hV:(!((List.range n).all fun j=>!f j))=V at hb;go_wp2;go_ret;exact⟨by rw[hV];rfl,b1⟩
end
section
open Go.Proofs.Tryz
variable {P:Program}{z:Value}
theorem DX{α:Type}{cells:α->List Value}{T ST:TypeId}{sz BR:Nat}(hl:∀s,(cells s).length=sz)(h1:∀s,∀u∈cells s,u.oneCell'=true)(dO:0<sz){i0:TypeInfo}(ht:P.underlying ST=some (.slice T))(hi:P.info? T=some i0)(hz:i0.zero=some z)(hs:i0.size=sz)(UF:i0.bytes=BR)(l8:z.cells.size=sz)(qQ:BR<=1000)
  {W:World}{base:Nat}{v:Value} (h:W.ownsRow base T sz v 0 []) (xs:List α) (hx:0<xs.length) (hm:xs.length<=1048576) (ty:TypeId) (b off k:Nat) (src:∀i s,xs[i]?=some s->∀t u,(cells s)[t]?=some u->W.cell? ⟨b,off+i*sz+t,none⟩=some u) (gU:base<=W.1.size):
  ∃q cap W',(Builtin.append_ #[ST,ST] ty #[v,.slice (some ⟨b,off,none⟩) xs.length k]).run P W=.ok (.slice (some ⟨q,0,none⟩) xs.length cap) W'/\base<=q/\q<W'.1.size/\xs.length<=cap/\(∀i s,xs[i]?=some s->∀t u,(cells s)[t]?=some u->W'.cell? ⟨q,i*sz+t,none⟩=some u)/\Room W' q (xs.length*sz)/\W.grownBy W' v.ownBlock/\(v.ownBlock=some q\/q=W.1.size)/\W'.ownsRow base T sz (.slice (some ⟨q,0,none⟩) xs.length cap) xs.length (xs.flatMap cells):=by
 have wM:∀(b o j:Nat),(⟨b,o,none⟩:Addr).add j=⟨b,o+j,none⟩:=fun b o j=>by unfold Addr.add;split<;>simp_all
 have dt:∀l:List α,(l.flatMap cells).length=l.length*sz:=fun l=>by
  induction l with
  | nil=>simp
  | cons y l ih=>rw[List.flatMap_cons,List.length_append,ih,hl,List.length_cons,Nat.add_mul];omega
 obtain⟨v',W',kU,ig,hg,UW,fK⟩:=run_append_own_at (P:=P) W base ST ty T i0 z sz BR ht hi hz hs UF l8 dO
  v 0 [] h ⟨b,off,none⟩ xs.length k (xs.flatMap cells) (dt xs) (fun j u hu=>by
   have hj:j<xs.length*sz:=by rw[<-dt];exact(List.getElem?_eq_some_iff.1 hu).1
   have hi:j/sz<xs.length:=Nat.div_lt_of_lt_mul (by rw[Nat.mul_comm];exact hj);have tH:=List.getElem?_eq_getElem hi;have XZ:j/sz*sz+j%sz=j:=Nat.div_add_mod' j sz;have:=kI (f:=cells) (l:=xs) (fun x _=>hl x) tH (Nat.mod_lt j dO);rw[XZ]at this;rw[wM,<-XZ,<-Nat.add_assoc]
   exact src _ _ tH _ u (by rw[<-this];exact hu))
  (fun u hu=>by obtain⟨s,_,hs⟩:=List.mem_flatMap.1 hu;exact h1 s u hs) (by unfold maxLen;omega) (by
   have:(0+xs.length)*BR<=1048576*1000:=Nat.mul_le_mul (by omega) qQ
   omega) gU
 rw[Nat.zero_add,List.nil_append]at ig
 have zQ:∃q cap,v'=.slice (some ⟨q,0,none⟩) xs.length cap/\xs.length<=cap:=by
  rcases ig.2 with ⟨_,h0⟩|⟨q,cap,cur,rfl,_,_,hl,_⟩
  ·omega
  ·exact⟨q,cap,rfl,hl⟩
 obtain⟨q,cap,rfl,hc⟩:=zQ;have hb:=World.ownsRow.lt ig q rfl;refine⟨q,cap,W',kU,hb.1,hb.2,hc,fun i s e t u hu=>?_,fun j hj=>?_,hg,?_,ig⟩
 ·have hi:=(List.getElem?_eq_some_iff.1 e).1;have ht:=(List.getElem?_eq_some_iff.1 hu).1;rw[hl]at ht;have:(i+1)*sz<=xs.length*sz:=Nat.mul_le_mul_right sz hi;rw[Nat.add_mul]at this;rw[World.ownsRow.cellAt ig _ (by omega),kI (fun x _=>hl x) e ht];exact hu
 ·exact⟨_,by rw[World.ownsRow.cellAt ig j hj];exact List.getElem?_eq_getElem (by rw[dt];exact hj),World.ownsRow.frozenAt ig j⟩
 ·rcases fK with e|e
  ·exact .inl e.symm
  ·exact .inr (Option.some.inj e)
theorem zg:(prog.info? 73).map (fun i=>(i.zero,i.size,i.bytes))=some (some (.agg #[vI 0,vI 0,vI 0,.bool false,vI 0]),5,40):=by kernel_rfl
theorem RG:(prog.info? 2).map (fun i=>(i.zero,i.size,i.bytes))=some (some (vI 0),1,8):=by kernel_rfl
theorem partsOf{t:TypeId}{s b:Nat}(h:(P.info? t).map (fun i=>(i.zero,i.size,i.bytes))=some (some z,s,b)):∃i,P.info? t=some i/\i.zero=some z/\i.size=s/\i.bytes=b:=by
 obtain⟨i,hi,oH⟩:=Option.map_eq_some_iff.1 h;simp only[Prod.mk.injEq]at oH;exact⟨i,hi,oH.1,oH.2.1,oH.2.2⟩
theorem Kv(W:World)(base:Nat)(v:Value)(h:W.ownsRow base 66 2 v 0 [])(xs:List C2)(hx:0<xs.length)(hm:xs.length<=1048576)(ty:TypeId)(b off k:Nat)(src:bK W b off xs)(gU:base<=W.1.size):
  ∃q cap W',(Builtin.append_ #[56,56] ty #[v,.slice (some ⟨b,off,none⟩) xs.length k]).run prog W=.ok (.slice (some ⟨q,0,none⟩) xs.length cap) W'/\base<=q/\q<W'.1.size/\xs.length<=cap/\bK W' q 0 xs/\Room W' q (xs.length*2)/\W.grownBy W' v.ownBlock/\(v.ownBlock=some q\/q=W.1.size):=by
 obtain⟨i0,qR,sD,lL,nL⟩:=partsOf Dj
 obtain⟨q,cap,W',h1,h2,h3,h4,h5,h6,h7,h8,_⟩:=DX (cells:=C2.cells) (fun _=>rfl) (fun s u hu=>by
  simp only[C2.cells,List.mem_cons,List.not_mem_nil,or_false]at hu
  rcases hu with rfl|rfl<;>rfl) (by omega) underlying56 qR sD lL nL rfl (by omega) h xs hx hm ty b off k (fun i s e t u hu=>by
   obtain⟨c0,c1⟩:=src i s e;rcases t with _|_|t
   ·simp[C2.cells]at hu;subst hu;exact c0
   ·simp[C2.cells]at hu;subst hu;exact c1
   ·simp[C2.cells]at hu) gU
 refine⟨q,cap,W',h1,h2,h3,h4,fun i s e=>⟨?_,?_⟩,h6,h7,h8⟩
 ·rw[Nat.zero_add];exact h5 i s e 0 _ rfl
 ·rw[Nat.zero_add];exact h5 i s e 1 _ rfl
def S5.rq(s:S5):List Value:=[vI s.a,vI s.e,vI s.h,.bool s.j,vI s.i]
theorem Kw(W:World)(base:Nat)(v:Value)(h:W.ownsRow base 73 5 v 0 [])(xs:List S5)(hx:0<xs.length)(hm:xs.length<=1048576)(ty:TypeId)(b off k:Nat)(src:aV W b off xs)(gU:base<=W.1.size):
  ∃q cap W',(Builtin.append_ #[51,51] ty #[v,.slice (some ⟨b,off,none⟩) xs.length k]).run prog W=.ok (.slice (some ⟨q,0,none⟩) xs.length cap) W'/\base<=q/\q<W'.1.size/\xs.length<=cap/\aV W' q 0 xs/\Room W' q (xs.length*5)/\W.grownBy W' v.ownBlock/\(v.ownBlock=some q\/q=W.1.size):=by
 obtain⟨i0,qR,sD,lL,nL⟩:=partsOf zg
 obtain⟨q,cap,W',h1,h2,h3,h4,h5,h6,h7,h8,_⟩:=DX (cells:=S5.rq) (fun _=>rfl) (fun s u hu=>by
  simp only[S5.rq,List.mem_cons,List.not_mem_nil,or_false]at hu
  rcases hu with rfl|rfl|rfl|rfl|rfl<;>rfl) (by omega) underlying51 qR sD lL nL rfl (by omega) h xs hx hm ty b off k (fun i s e t u hu=>by
   obtain⟨c0,c1,c2,c3,c4⟩:=src i s e;rcases t with _|_|_|_|_|t
   ·simp[S5.rq]at hu;subst hu;exact c0
   ·simp[S5.rq]at hu;subst hu;exact c1
   ·simp[S5.rq]at hu;subst hu;exact c2
   ·simp[S5.rq]at hu;subst hu;exact c3
   ·simp[S5.rq]at hu;subst hu;exact c4
   ·simp[S5.rq]at hu) gU
 refine⟨q,cap,W',h1,h2,h3,h4,fun i s e=>⟨?_,?_,?_,?_,?_⟩,h6,h7,h8⟩
 ·rw[Nat.zero_add];exact h5 i s e 0 _ rfl
 ·rw[Nat.zero_add];exact h5 i s e 1 _ rfl
 ·rw[Nat.zero_add];exact h5 i s e 2 _ rfl
 ·rw[Nat.zero_add];exact h5 i s e 3 _ rfl
 ·rw[Nat.zero_add];exact h5 i s e 4 _ rfl
theorem aaa(W:World)(base:Nat)(T:TypeId)(sz:Nat):W.ownsRow base T sz (.slice none 0 0) 0 []:=⟨by simp,.inl ⟨rfl,rfl⟩⟩
theorem vH(w:World)(a:OA)(cap:Nat)(xs:List C2)(hx:0<xs.length)(hm:xs.length<=1048576)(hs:nN w w.1.size a xs.length xs):
  Calls prog 172 #[.slice a xs.length cap] w fun e w'=>∃q cp,e=.returned (.slice (some ⟨q,0,none⟩) xs.length cp)/\w.1.size<=q/\q<w'.1.size/\xs.length<=cp/\bK w' q 0 xs/\Room w' q (xs.length*2)/\Below w.1.size w w':=by
 obtain⟨_,hs⟩:=hs;rcases hs with hs|⟨b,off,rfl,hb,h1⟩
 ·omega
 obtain⟨q,cp,W',hr,h2,h3,h4,h5,h6,h7,h8⟩:=Kv w w.1.size (.slice none 0 0) (aaa _ _ _ _) xs hx hm 56 b off cap h1 aU;have K:Hid (w.1.size<=q/\q<W'.1.size/\xs.length<=cp/\bK W' q 0 xs/\Room W' q (xs.length*2)/\Below w.1.size w W'):=⟨h2,h3,h4,h5,h6,aN.grown h7 aU (fun k h=>by cases h)⟩
 clear h1 h2 h3 h4 h5 h6 h7 h8 hx hm;generalize xs.length=n at *;go_enter func172,ntmps172;go_wp2_with (at_builtin;refine dF _ rfl (.const (.slice none 0 0)) (.tmp 3) 56 rfl _ _ _ _ rfl rfl hr ?_);go_ret;exact⟨q,cp,rfl,K.out.1,K.out.2.1,K.out.2.2.1,K.out.2.2.2.1,K.out.2.2.2.2.1,K.out.2.2.2.2.2⟩
theorem Jd(w:World)(a:OA)(cap:Nat)(xs:List C2)(hx:0<xs.length)(hm:xs.length<=1048576)(hs:nN w w.1.size a xs.length xs):
  Calls prog 94 #[.slice a xs.length cap] w fun e w'=>∃q cp,e=.returned (.slice (some ⟨q,0,none⟩) xs.length cp)/\w.1.size<=q/\q<w'.1.size/\xs.length<=cp/\bK w' q 0 xs/\Room w' q (xs.length*2)/\Below w.1.size w w':=by
 obtain⟨_,hs⟩:=hs;rcases hs with hs|⟨b,off,rfl,hb,h1⟩
 ·omega
 have b0:Below w.1.size w (w.alloc (.cells #[] 66)):=aN.alloc aU _;obtain⟨q,cp,W',hr,h2,h3,h4,h5,h6,h7,h8⟩:=Kv (w.alloc (.cells #[] 66)) w.1.size (.slice (some ⟨w.1.size,0,none⟩) 0 0) (World.ownsRow_made w #[] 0 aU (Nat.zero_le _) rfl) xs hx hm 56 b off cap (h1.below b0 hb) b0.size;have K:Hid (w.1.size<=q/\q<W'.1.size/\xs.length<=cp/\bK W' q 0 xs/\Room W' q (xs.length*2)/\Below w.1.size w W'):=⟨h2,h3,h4,h5,h6,b0.grown h7 b0.size (fun k h=>by cases h;exact Nat.le_refl _)⟩
 clear h1 h2 h3 h4 h5 h6 h7 h8 hx hm b0;generalize xs.length=n at *;go_enter func94,ntmps94;go_wp2_with (at_builtin;refine dF _ rfl (.tmp 3) (.tmp 4) 56 rfl _ _ _ _ rfl rfl hr ?_);go_ret;exact⟨q,cp,rfl,K.out.1,K.out.2.1,K.out.2.2.1,K.out.2.2.2.1,K.out.2.2.2.2.1,K.out.2.2.2.2.2⟩
end
section
open Go.Proofs.Tryz
structure TR(s:Nat)(k t r:Int)(u:Value)(X:World):Prop where
 d0:X.cell? ⟨s,0,none⟩=some (vI k)
 d1:X.cell? ⟨s,1,none⟩=some (vI t)
 d2:X.cell? ⟨s,2,none⟩=some (vI r)
 d3:X.cell? ⟨s,3,none⟩=some u
 fd:∀j,X.frozen? ⟨s,j,none⟩=false
 e0:X.cell? ⟨s+1,0,none⟩=some (vI 0)
 e1:X.cell? ⟨s+1,1,none⟩=some (vI 0)
 e2:X.cell? ⟨s+1,2,none⟩=some (vI 0)
 e3:X.cell? ⟨s+1,3,none⟩=some (.slice none 0 0)
 fe:∀j,X.frozen? ⟨s+1,j,none⟩=false
theorem TR.aL{s:Nat}{k t r:Int}{u:Value}{X Y:World}(h:TR s k t r u X)(ea:Y.1[s]?=X.1[s]?)(eb:Y.1[s+1]?=X.1[s+1]?):TR s k t r u Y:=by
 have c:∀{b j:Nat}{u:Value},Y.1[b]?=X.1[b]?->X.cell? ⟨b,j,none⟩=some u->Y.cell? ⟨b,j,none⟩=some u:=fun {b j u} e h=>(World.cell?_of_block (a:=⟨b,j,none⟩) e).trans h
 exact⟨c ea h.d0,c ea h.d1,c ea h.d2,c ea h.d3,fun j=>(World.frozen?_of_block (a:=⟨s,j,none⟩) ea).trans (h.fd j),c eb h.e0,c eb h.e1,c eb h.e2,c eb h.e3,fun j=>(World.frozen?_of_block (a:=⟨s+1,j,none⟩) eb).trans (h.fe j)⟩
theorem AtR.dX{w:World}{q:Nat}{r:R4}(h:AtR w q r){p:Addr}(hp:p.block≠q)(v:Value):AtR (w.setCell p v) q r:=AtR.aj _ _ _ _ (Below.heap_setCell _ _ _ _ (fun e=>hp e.symm)) h
theorem CJ(w:World)(r:R4)(a:OA)(cap:Nat)(hx:0<r.ag.length)(hm:r.ag.length<=1048576)(hs:Sl w w.1.size a r.ag.length r.ag):
  Calls prog 173 #[r.val a cap] w fun e w'=>∃q cp,e=.returned (r.val (some ⟨q,0,none⟩) cp)/\w.1.size<=q/\q<w'.1.size/\r.ag.length<=cp/\AtR w' q r/\Below w.1.size w w':=by
 simp only[R4.val];obtain⟨_,hs⟩:=hs;rcases hs with hs|⟨b,off,rfl,hb,h1⟩
 ·omega
 obtain⟨W,hW⟩:∃W,W=(w.alloc (.cells #[vI r.kind,vI r.tx,vI r.a,.slice (some ⟨b,off,none⟩) r.ag.length cap] 144)).alloc (.cells #[vI 0,vI 0,vI 0,.slice none 0 0] 144):=⟨_,rfl⟩
 have dO:W.1.size=w.1.size+2:=by subst hW;simp
 have bW:Below w.1.size w W:=by subst hW;exact(aN.alloc aU _).alloc (by simp) _
 have tW:TR w.1.size r.kind r.tx r.a (.slice (some ⟨b,off,none⟩) r.ag.length cap) W:=by
  subst hW;refine⟨?_,?_,?_,?_,?_,?_,?_,?_,?_,?_⟩;all_goals first|(intro j;go_simp;done)|(go_simp;done)
 obtain⟨q,cp,W',hr,h2,h3,h4,h5,h6,h7,h8⟩:=Kw W W.1.size (.slice none 0 0) (aaa _ _ _ _) r.ag hx hm 51 b off cap (h1.below bW hb) aU;have b7:Below W.1.size W W':=aN.grown h7 aU (fun k h=>by cases h);have gf:=tW.aL (Y:=W') (b7.block _ (by omega)) (b7.block _ (by omega));have K:Hid (w.1.size+2<=q/\q<W'.1.size/\r.ag.length<=cp/\AtR W' q r/\Below w.1.size w W'):=⟨by omega,h3,h4,⟨h5,h6⟩,bW.trans (b7.mono bW.size)⟩
 obtain⟨d0,d1,d2,d3,fd,e0,e1,e2,e3,fe⟩:=gf;have z3:=tW.d3;have f3:=fd 3;have g0:=fe 0;have g1:=fe 1;have g2:=fe 2;have g3:=fe 3;clear h1 h2 h3 h4 h5 h6 h7 h8 hx hm bW tW b7 dO fd fe;generalize r.ag.length=n at *;subst hW;go_enter func173,ntmps173;go_wp2_with (at_builtin;refine dF _ rfl (.const (.slice none 0 0)) (.tmp 4) 51 rfl _ _ _ _ rfl rfl hr ?_);obtain⟨k1,k2,k3,k4,k5⟩:=K.out;refine bodyPost_ret (v:=.agg #[vI r.kind,vI r.tx,vI r.a,.slice (some ⟨q,0,none⟩) n cp]) (by simp[results,results173,go_sem,e0,e1,e2,e3]) rfl ⟨q,cp,rfl,by omega,?_,k3,?_,?_⟩
 ·simpa[World.setCell]using k2
 ·exact((((k4.dX (by simp;omega) _).dX (by simp;omega) _).dX (by simp;omega) _).dX (by simp;omega) _).dX (by simp;omega) _
 ·exact((((k5.setCell (p:=⟨_,_,none⟩) (by simp) _).setCell (p:=⟨_,_,none⟩) (by simp) _).setCell (p:=⟨_,_,none⟩) (by simp) _).setCell (p:=⟨_,_,none⟩) (by simp) _).setCell (p:=⟨_,_,none⟩) (by simp) _
theorem Ey(w:World)(r:R4)(a:OA)(cap:Nat)(hx:0<r.ag.length)(hm:r.ag.length<=1048576)(hs:Sl w w.1.size a r.ag.length r.ag):
  Calls prog 95 #[r.val a cap] w fun e w'=>∃q cp,e=.returned (r.val (some ⟨q,0,none⟩) cp)/\w.1.size<=q/\q<w'.1.size/\r.ag.length<=cp/\AtR w' q r/\Below w.1.size w w':=by
 simp only[R4.val];obtain⟨_,hs⟩:=hs;rcases hs with hs|⟨b,off,rfl,hb,h1⟩
 ·omega
 obtain⟨W0,dS⟩:∃W0,W0=(w.alloc (.cells #[vI r.kind,vI r.tx,vI r.a,.slice (some ⟨b,off,none⟩) r.ag.length cap] 144)).alloc (.cells #[vI 0,vI 0,vI 0,.slice none 0 0] 144):=⟨_,rfl⟩
 have dO:W0.1.size=w.1.size+2:=by subst dS;simp
 have bW:Below w.1.size w W0:=by subst dS;exact(aN.alloc aU _).alloc (by simp) _
 have tW:TR w.1.size r.kind r.tx r.a (.slice (some ⟨b,off,none⟩) r.ag.length cap) W0:=by
  subst dS;refine⟨?_,?_,?_,?_,?_,?_,?_,?_,?_,?_⟩;all_goals first|(intro j;go_simp;done)|(go_simp;done)
 have b0:Below W0.1.size W0 (W0.alloc (.cells #[] 73)):=aN.alloc aU _;have eX:(W0.alloc (.cells #[] 73)).ownsRow W0.1.size 73 5 (.slice (some ⟨W0.1.size,0,none⟩) 0 0) 0 []:=World.ownsRow_made W0 #[] 0 aU (Nat.zero_le _) rfl;obtain⟨q,cp,W',hr,h2,h3,h4,h5,h6,h7,h8⟩:=Kw (W0.alloc (.cells #[] 73)) W0.1.size _ eX r.ag hx hm 51 b off cap ((h1.below bW hb).below b0 (Nat.lt_of_lt_of_le hb bW.size)) b0.size;have b7:Below W0.1.size W0 W':=b0.grown h7 b0.size (fun k h=>by cases h;exact Nat.le_refl _);have tA:=tW.aL (Y:=W0.alloc (.cells #[] 73)) (b0.block _ (by omega)) (b0.block _ (by omega));have gf:=tW.aL (Y:=W') (b7.block _ (by omega)) (b7.block _ (by omega));have K:Hid (w.1.size+2<=q/\q<W'.1.size/\r.ag.length<=cp/\AtR W' q r/\Below w.1.size w W'):=⟨by omega,h3,h4,⟨h5,h6⟩,bW.trans (b7.mono bW.size)⟩
 obtain⟨d0,d1,d2,d3,fd,e0,e1,e2,e3,fe⟩:=gf;have z3:=tA.d3;have f3:=fd 3;have g0:=fe 0;have g1:=fe 1;have g2:=fe 2;have g3:=fe 3;rw[dO]at hr;clear h1 h2 h3 h4 h5 h6 h7 h8 hx hm bW tW tA b7 b0 eX dO fd fe;generalize r.ag.length=n at *;subst dS;go_enter func95,ntmps95;go_wp2_with (at_builtin;refine dF _ rfl (.tmp 3) (.tmp 5) 51 rfl _ _ _ _ rfl rfl hr ?_);obtain⟨k1,k2,k3,k4,k5⟩:=K.out;refine bodyPost_ret (v:=.agg #[vI r.kind,vI r.tx,vI r.a,.slice (some ⟨q,0,none⟩) n cp]) (by simp[results,results95,go_sem,e0,e1,e2,e3]) rfl ⟨q,cp,rfl,by omega,?_,k3,?_,?_⟩
 ·simpa[World.setCell]using k2
 ·exact((((k4.dX (by simp;omega) _).dX (by simp;omega) _).dX (by simp;omega) _).dX (by simp;omega) _).dX (by simp;omega) _
 ·exact((((k5.setCell (p:=⟨_,_,none⟩) (by simp) _).setCell (p:=⟨_,_,none⟩) (by simp) _).setCell (p:=⟨_,_,none⟩) (by simp) _).setCell (p:=⟨_,_,none⟩) (by simp) _).setCell (p:=⟨_,_,none⟩) (by simp) _
end
section
open Go.Proofs.Tryz
variable {W X:World}{g gk gr:Nat->Nat}{ks:List K2}{p q:Nat}{rs:List R4}{v vd vk vr:Value}{zs:List Int}
def gT{α:Type}(v:Value)(rs:List α)(g:Nat->Nat)(q:Nat):Prop:=v.ownBlock=some q\/∃i,i<rs.length/\g i=q
theorem iJ.blocks{α:Type}{T:TypeId}{sz:Nat}{hd:α->List Int}{ln:α->Nat}{At:World->Nat->α->Prop}{w:World}{base:Nat}{rs:List α}(h:iJ T sz hd ln At w base v rs g)(hq:gT v rs g q):base<=q/\q<w.1.size:=by
 rcases hq with hq|⟨i,hi,rfl⟩
 ·exact h.lies hq
 ·exact⟨h.low i hi,h.lt i hi⟩
theorem xY{α:Type}{v':Value}{rs:List α}{r:α}{S:Nat}(hl:v'.ownBlock=v.ownBlock\/v'.ownBlock=some S){x:Nat}(h:gT v' (rs++[r]) (fun i=>if i=rs.length then q else g i) x):gT v rs g x\/x=q\/x=S:=by
 rcases h with h|⟨i,hi,h⟩
 ·rcases hl with e|e
  ·rw[e]at h;exact .inl (.inl h)
  ·rw[e]at h;exact .inr (.inr (Option.some.inj h).symm)
 ·by_cases e:i=rs.length
  ·simp only[if_pos e]at h;exact .inr (.inl h.symm)
  ·simp only[if_neg e]at h;simp at hi;exact .inl (.inr ⟨i,by omega,h⟩)
structure MR(base p:Nat)(X:World)(vk vr vd:Value)(ks:List K2)(rs:List R4)(zs:List Int)(gk gr:Nat->Nat):Prop where
 gK:iJ 58 2 rF wW mO X base vk ks gk
 gR:iJ 144 4 qP yL AtR X base vr rs gr
 gD:X.ownsRow base 2 1 vd zs.length (zs.map (Value.int .i64))
 kr:∀q,gT vk ks gk q->¬gT vr rs gr q
 kd:∀q,gT vk ks gk q->vd.ownBlock≠some q
 rd:∀q,gT vr rs gr q->vd.ownBlock≠some q
 kp:∀q,gT vk ks gk q->q≠p
 rp:∀q,gT vr rs gr q->q≠p
 dp:vd.ownBlock≠some p
theorem MR.aL{base p:Nat}{X Y:World}{vk vr vd:Value}{ks:List K2}{rs:List R4}{zs:List Int}{gk gr:Nat->Nat}(h:MR base p X vk vr vd ks rs zs gk gr)(hs:X.1.size<=Y.1.size)(hk:∀q,q<X.1.size->base<=q->q≠p->Y.1[q]?=X.1[q]?):MR base p Y vk vr vd ks rs zs gk gr:=by
 refine⟨h.gK.aL mO.aj hs (fun q hq hb=>hk q hq (h.gK.blocks hb).1 (h.kp q hb)),h.gR.aL AtR.aj hs (fun q hq hb=>hk q hq (h.gR.blocks hb).1 (h.rp q hb)),⟨h.gD.1,h.gD.2.imp id ?_⟩,h.kr,h.kd,h.rd,h.kp,h.rp,h.dp⟩;rintro ⟨q,cap,cur,rfl,l,hg,r⟩;exact⟨q,cap,cur,rfl,l,(hk q (World.ownsRow.lt h.gD q rfl).2 l (fun e=>h.dp (by rw[<-e];rfl))).trans hg,r⟩
theorem MR.later{base:Nat}{Y:World}(h:MR base p X vk vr vd ks rs zs gk gr)(hb:Below X.1.size X Y):MR base p Y vk vr vd ks rs zs gk gr:=h.aL hb.size (fun q hq _ _=>hb.block q hq)
theorem MR.set{base o:Nat}{u:Value}(h:MR base p X vk vr vd ks rs zs gk gr):MR base p (X.setCell ⟨p,o,none⟩ u) vk vr vd ks rs zs gk gr:=h.aL (by simp[World.setCell]) (fun q _ _ hp=>Below.heap_setCell _ _ _ _ hp)
theorem MR.TB{base:Nat}(h:MR base p X vk vr vd ks rs zs gk gr)(hb:Below X.1.size X W)(hX:base<=X.1.size)(Tc:p<X.1.size)(k:K2)(q cap e:Nat)(hm:ks.length<=100000)(ty:TypeId)
  (e0:W.cell? ⟨e,0,none⟩=some (vI k.a)) (e1:W.cell? ⟨e,1,none⟩=some (.slice (some ⟨q,0,none⟩) k.cells.length cap)) (bg:mO W q k) (hc:k.cells.length<=cap) (hq:X.1.size<=q) (U5:q<W.1.size):
  ∃v' Y,(Builtin.append_ #[59,59] ty #[vk,.slice (some ⟨e,0,none⟩) 1 1]).run prog W=.ok v' Y/\MR base p Y v' vr vd (ks++[k]) rs zs (fun i=>if i=ks.length then q else gk i) gr/\W.grownBy Y vk.ownBlock/\(∀x,vk.ownBlock=some x->base<=x/\x<X.1.size/\x≠p):=by
 have hW:=h.later hb;obtain⟨i0,qR,sD,lL,nL⟩:=partsOf Dk;have old:∀x,gT vk ks gk x->x<X.1.size:=fun x hx=>(h.gK.blocks hx).2
 obtain⟨v',Y,hr,hg,fI,hl⟩:=iJ.push (hd:=rF) (ln:=wW) (sz:=2) (e:=e) mO.aj (fun _=>rfl) underlying59 qR sD lL nL rfl (by omega) hW.gK k q cap hm ty (fun j u hu=>by
  rcases j with _|_|j
  ·simp[iB,rF]at hu;subst hu;exact e0
  ·simp[iB,rF,wW]at hu;subst hu;exact e1
  ·simp[iB,rF]at hu) bg hc (by omega) U5 (fun e'=>by have:=old q (.inl e');omega) (fun i hi e'=>by have:=old q (.inr ⟨i,hi,e'⟩);omega) (Nat.le_trans hX hb.size)
 have new:∀x,gT v' (ks++[k]) (fun i=>if i=ks.length then q else gk i) x->gT vk ks gk x\/X.1.size<=x:=fun x hx=>by
  rcases xY hl hx with h|h|h
  ·exact .inl h
  ·exact .inr (by omega)
  ·exact .inr (by have:=hb.size;omega)
 have fR:∀x,x<W.1.size->vk.ownBlock≠some x->Y.1[x]?=W.1[x]?:=fun x hx eO=>fI.block x hx (fun e'=>eO e'.symm)
 refine⟨v',Y,hr,⟨hg,hW.gR.aL AtR.aj fI.size (fun x hx dK=>fR x hx (fun e'=>h.kr x (.inl e') dK)),⟨hW.gD.1,hW.gD.2.imp id ?_⟩,fun x hx dK=>?_,fun x hx dK=>?_,h.rd,fun x hx dK=>?_,h.rp,h.dp⟩,fI,fun x hx=>⟨(h.gK.lies hx).1,(h.gK.lies hx).2,h.kp x (.inl hx)⟩⟩
 ·rintro ⟨x,cp,cur,rfl,l,du,r⟩;exact⟨x,cp,cur,rfl,l,(fR x (World.ownsRow.lt hW.gD x rfl).2 (fun e'=>h.kd x (.inl e') rfl)).trans du,r⟩
 ·rcases new x hx with hn|hn
  ·exact h.kr x hn dK
  ·have:=(h.gR.blocks dK).2;omega
 ·rcases new x hx with hn|hn
  ·exact h.kd x hn dK
  ·have:=(World.ownsRow.lt h.gD x dK).2;omega
 ·rcases new x hx with hn|hn
  ·exact h.kp x hn dK
  ·omega
theorem MR.TC{base:Nat}(h:MR base p X vk vr vd ks rs zs gk gr)(hb:Below X.1.size X W)(hX:base<=X.1.size)(Tc:p<X.1.size)(k:R4)(q cap e:Nat)(hm:rs.length<=100000)(ty:TypeId)
  (e0:W.cell? ⟨e,0,none⟩=some (vI k.kind)) (e1:W.cell? ⟨e,1,none⟩=some (vI k.tx)) (e2:W.cell? ⟨e,2,none⟩=some (vI k.a)) (e3:W.cell? ⟨e,3,none⟩=some (.slice (some ⟨q,0,none⟩) k.ag.length cap)) (bg:AtR W q k) (hc:k.ag.length<=cap) (hq:X.1.size<=q) (U5:q<W.1.size):
  ∃v' Y,(Builtin.append_ #[60,60] ty #[vr,.slice (some ⟨e,0,none⟩) 1 1]).run prog W=.ok v' Y/\MR base p Y vk v' vd ks (rs++[k]) zs gk (fun i=>if i=rs.length then q else gr i)/\W.grownBy Y vr.ownBlock/\(∀x,vr.ownBlock=some x->base<=x/\x<X.1.size/\x≠p):=by
 have hW:=h.later hb;obtain⟨i0,qR,sD,lL,nL⟩:=partsOf Dl;have old:∀x,gT vr rs gr x->x<X.1.size:=fun x hx=>(h.gR.blocks hx).2
 obtain⟨v',Y,hr,hg,fI,hl⟩:=iJ.push (hd:=qP) (ln:=yL) (sz:=4) (e:=e) AtR.aj (fun _=>rfl) underlying60 qR sD lL nL rfl (by omega) hW.gR k q cap hm ty (fun j u hu=>by
  rcases j with _|_|_|_|j
  ·simp[iB,qP]at hu;subst hu;exact e0
  ·simp[iB,qP]at hu;subst hu;exact e1
  ·simp[iB,qP]at hu;subst hu;exact e2
  ·simp[iB,qP,yL]at hu;subst hu;exact e3
  ·simp[iB,qP]at hu) bg hc (by omega) U5 (fun e'=>by have:=old q (.inl e');omega) (fun i hi e'=>by have:=old q (.inr ⟨i,hi,e'⟩);omega) (Nat.le_trans hX hb.size)
 have new:∀x,gT v' (rs++[k]) (fun i=>if i=rs.length then q else gr i) x->gT vr rs gr x\/X.1.size<=x:=fun x hx=>by
  rcases xY hl hx with h|h|h
  ·exact .inl h
  ·exact .inr (by omega)
  ·exact .inr (by have:=hb.size;omega)
 have fR:∀x,x<W.1.size->vr.ownBlock≠some x->Y.1[x]?=W.1[x]?:=fun x hx eO=>fI.block x hx (fun e'=>eO e'.symm)
 refine⟨v',Y,hr,⟨hW.gK.aL mO.aj fI.size (fun x hx dK=>fR x hx (fun e'=>h.kr x dK (.inl e'))),hg,⟨hW.gD.1,hW.gD.2.imp id ?_⟩,fun x dK hx=>?_,h.kd,fun x hx dK=>?_,h.kp,fun x hx dK=>?_,h.dp⟩,fI,fun x hx=>⟨(h.gR.lies hx).1,(h.gR.lies hx).2,h.rp x (.inl hx)⟩⟩
 ·rintro ⟨x,cp,cur,rfl,l,du,r⟩;exact⟨x,cp,cur,rfl,l,(fR x (World.ownsRow.lt hW.gD x rfl).2 (fun e'=>h.rd x (.inl e') rfl)).trans du,r⟩
 ·rcases new x hx with hn|hn
  ·exact h.kr x dK hn
  ·have:=(h.gK.blocks dK).2;omega
 ·rcases new x hx with hn|hn
  ·exact h.rd x hn dK
  ·have:=(World.ownsRow.lt h.gD x dK).2;omega
 ·rcases new x hx with hn|hn
  ·exact h.rp x hn dK
  ·omega
theorem MR.om{base:Nat}{v:MV}{m:M4}(h:MR base p X (.slice v.ac m.af.length v.cc) (.slice v.al m.g.length v.cl) (.slice v.ad m.ai.length v.cd) m.af m.g m.ai gk gr):
  OM X base v m (gT (.slice v.ac m.af.length v.cc) m.af gk) (gT (.slice v.al m.g.length v.cl) m.g gr) (fun q=>(Value.slice v.ad m.ai.length v.cd).ownBlock=some q):=by
 refine⟨?_,?_,?_,h.kr,h.kd,h.rd,fun q hq=>(h.gK.blocks hq).1,fun q hq=>(h.gR.blocks hq).1,fun q hq=>(World.ownsRow.lt h.gD q hq).1⟩
 ·by_cases e:m.af=[]
  ·exact .inl e
  ·obtain⟨b,cap,ev,h1,h2,h3,h4,h5⟩:=iJ.own (hd:=rF) (sz:=2) (fun _=>rfl) h.gK e;have ea:v.ac=some ⟨b,0,none⟩:=by injection ev
   exact .inr ⟨b,gk,ea,.inl (by rw[ea];rfl),fun i hi=>.inr ⟨i,hi,rfl⟩,h2,h4,h5.base⟩
 ·by_cases e:m.g=[]
  ·exact .inl e
  ·obtain⟨b,cap,ev,h1,h2,h3,h4,h5⟩:=iJ.own (hd:=qP) (sz:=4) (fun _=>rfl) h.gR e;have ea:v.al=some ⟨b,0,none⟩:=by injection ev
   exact .inr ⟨b,gr,ea,.inl (by rw[ea];rfl),fun i hi=>.inr ⟨i,hi,rfl⟩,h2,h4,h5.base⟩
 ·by_cases e:m.ai=[]
  ·exact .inl e
  ·have tF:0<m.ai.length:=List.length_pos_iff.2 e;obtain⟨b,cap,ev,h1,h2⟩:=World.ownsRow.form h.gD tF;have ea:v.ad=some ⟨b,0,none⟩:=by injection ev
   have ec:v.cd=cap:=by injection ev
   have hg:=h.gD;rw[ea]at hg;refine .inr ⟨b,ea,by rw[ea];rfl,h2,fun i z ez=>?_,fun j hj=>⟨vI (m.ai[j]'hj),?_,World.ownsRow.frozenAt hg j⟩⟩
   ·have hi:=(List.getElem?_eq_some_iff.1 ez).1;rw[Nat.zero_add,World.ownsRow.cellAt hg i (by omega),List.getElem?_map,ez];rfl
   ·rw[World.ownsRow.cellAt hg j (by omega),List.getElem?_map,List.getElem?_eq_getElem hj];rfl
end
section
open Go.Proofs.Tryz
variable {W X:World}{gm gp gt:Nat->Nat->Prop}{ms:List (MV×M4)}{p:Nat}{ps:List ((Nat×Nat)×List Int)}{ts:List (tx.TV×tx.T7)}{vm vp vt:Value}
def iv.Ow(w:World)(B:Nat)(v:Nat×Nat)(zs:List Int)(P:Nat->Prop):Prop:=(P v.1/\dQ w v.1 0 zs/\Room w v.1 zs.length/\zs.length<=v.2)/\(∀q,P q->B<=q/\q<w.1.size)
def BH:Kd (List Int) (Nat×Nat) where
 n:=1
 cells v zs:=[.slice (some ⟨v.1,0,none⟩) zs.length v.2]
 len:=fun _ _=>rfl
 Rd X v zs:=v.1<X.1.size/\dQ X v.1 0 zs
 Ow:=iv.Ow
 later:=fun h b=>⟨Nat.lt_of_lt_of_le h.1 b.size,h.2.aj (b.block _ h.1)⟩
 sl:=fun h=>⟨(h.2 _ h.1.1).2,h.1.2.1⟩
 of:=fun h hq=>h.2 _ hq
 aL:=fun h hs hk=>⟨⟨h.1.1,h.1.2.1.aj (hk _ h.1.1),h.1.2.2.1.aj (hk _ h.1.1),h.1.2.2.2⟩,fun q hq=>⟨(h.2 q hq).1,Nat.lt_of_lt_of_le (h.2 q hq).2 hs⟩⟩
 low:=fun h hb=>⟨h.1,fun q hq=>⟨Nat.le_trans hb (h.2 q hq).1,(h.2 q hq).2⟩⟩
theorem Dw{B:Nat}{a:OA}{m cap:Nat}{g:Nat->Nat->Prop}(h:BH.Grow 102 X B (.slice a m cap) ps g){aP:List (List Int)}(hd:ps.map (·.2)=aP):KP.Ow X B a aP (Kd.kS (.slice a m cap) ps g):=by
 refine⟨?_,fun q hq=>h.blocks hq⟩;have hl:aP.length=ps.length:=by rw[<-hd];simp
 by_cases e:ps=[]
 ·refine⟨fun _=>0,?_,fun b e'=>.inl (by rw[e'];rfl),fun i hi=>by rw[hl,e]at hi;simp at hi⟩;have hz:aP=[]:=by rw[<-hd,e];rfl
  rcases h.row.2 with ⟨e',_⟩|⟨q,aW,cur,e',hB,hg,r⟩
  ·left;exact⟨by injection e',by rw[hz];rfl,hz⟩
  ·right;have ea:a=some ⟨q,0,none⟩:=by injection e'
   refine⟨q,ea,hB,(World.ownsRow.lt h.row q (by rw[e'];rfl)).2,?_⟩;rw[hz];exact lD.nil X B q _
 have tF:0<ps.length:=List.length_pos_iff.2 e;obtain⟨b,aW,ev,hB,aK⟩:=World.ownsRow.form h.row tF;have eX:=h.row;rw[ev]at eX;have ea:a=some ⟨b,0,none⟩:=by injection ev
 have eb:(Value.slice a m cap).ownBlock=some b:=by rw[ea];rfl
 have hx:∀i zs,aP[i]?=some zs->∃hi:i<ps.length,(ps[i]).2=zs:=fun i zs hi=>by
  have qU:i<ps.length:=by have:=(List.getElem?_eq_some_iff.1 hi).1;omega
  refine⟨qU,?_⟩;rw[<-hd,List.getElem?_map,List.getElem?_eq_getElem qU]at hi;simpa using hi
 have hs:∀i (hi:i<ps.length),iv.Ow X B (ps[i]).1 (ps[i]).2 (g i):=fun i hi=>h.sub i _ (List.getElem?_eq_getElem hi)
 have gq:∀i (hi:i<ps.length),(ps[i]?.getD ((0,0),[])).1.1=(ps[i]).1.1:=fun i hi=>by simp[List.getElem?_eq_getElem hi]
 refine⟨fun i=>((ps[i]?.getD ((0,0),[])).1.1),.inr ⟨b,ea,hB,aK,⟨rfl,fun i zs hi=>?_,fun i hi=>?_,fun i hi=>?_,fun i hi=>?_,fun i zs hi=>?_,fun i zs hi=>?_,fun i j hi hj ee=>?_⟩⟩,fun b' e'=>.inl (by rw[e'];rfl),fun i hi=>?_⟩
 ·obtain⟨qU,hz⟩:=hx i zs hi;refine⟨(ps[i]).1.2,?_,?_⟩
  ·rw[gq i qU,<-hz];have hc:=World.ownsRow.cellAt eX i (by show i<ps.length*1;omega);rw[hc];have:=BH.kI (t:=0) (List.getElem?_eq_getElem qU) (by decide);simpa[BH]using this
  ·rw[<-hz];exact(hs i qU).1.2.2.2
 ·have qU:i<ps.length:=by omega
  rw[gq i qU];exact((hs i qU).2 _ (hs i qU).1.1).1
 ·have qU:i<ps.length:=by omega
  rw[gq i qU];exact((hs i qU).2 _ (hs i qU).1.1).2
 ·have qU:i<ps.length:=by omega
  rw[gq i qU];intro e';exact h.ne i b qU (by rw[<-e'];exact(hs i qU).1.1) eb
 ·obtain⟨qU,hz⟩:=hx i zs hi;rw[gq i qU,<-hz];exact(hs i qU).1.2.1
 ·obtain⟨qU,hz⟩:=hx i zs hi;rw[gq i qU,<-hz];exact(hs i qU).1.2.2.1
 ·have qU:i<ps.length:=by omega
  have et:j<ps.length:=by omega
  rw[gq i qU,gq j et]at ee;by_cases Ga:i=j
  ·exact Ga
  ·exact absurd (by rw[ee];exact(hs j et).1.1) (h.ap i j _ qU et Ga (hs i qU).1.1)
 ·have qU:i<ps.length:=by omega
  show Kd.kS _ _ _ ((ps[i]?.getD ((0,0),[])).1.1)
  rw[gq i qU];exact .inr ⟨i,qU,(hs i qU).1.1⟩
structure uL(base p:Nat)(X:World)(vp vm vt:Value)(ps:List ((Nat×Nat)×List Int))(gp:Nat->Nat->Prop)(ms:List (MV×M4))(gm:Nat->Nat->Prop)(ts:List (tx.TV×tx.T7))(gt:Nat->Nat->Prop):Prop where
 P:BH.Grow 102 X base vp ps gp
 M:gQ.Grow 62 X base vm ms gm
 T:gY.Grow 53 X base vt ts gt
 pm:∀q,Kd.kS vp ps gp q->¬Kd.kS vm ms gm q
 pt:∀q,Kd.kS vp ps gp q->¬Kd.kS vt ts gt q
 mt:∀q,Kd.kS vm ms gm q->¬Kd.kS vt ts gt q
 pp:∀q,Kd.kS vp ps gp q->q≠p
 mp:∀q,Kd.kS vm ms gm q->q≠p
 tp:∀q,Kd.kS vt ts gt q->q≠p
theorem uL.aL{base p:Nat}{X Y:World}{vp vm vt:Value}{ps:List ((Nat×Nat)×List Int)}{gp:Nat->Nat->Prop}{ms:List (MV×M4)}{gm:Nat->Nat->Prop}{ts:List (tx.TV×tx.T7)}{gt:Nat->Nat->Prop}(h:uL base p X vp vm vt ps gp ms gm ts gt)(hs:X.1.size<=Y.1.size)(hk:∀q,q<X.1.size->base<=q->q≠p->Y.1[q]?=X.1[q]?):uL base p Y vp vm vt ps gp ms gm ts gt:=
 ⟨h.P.aL hs (fun q hq=>hk q (h.P.blocks hq).2 (h.P.blocks hq).1 (h.pp q hq)),h.M.aL hs (fun q hq=>hk q (h.M.blocks hq).2 (h.M.blocks hq).1 (h.mp q hq)),h.T.aL hs (fun q hq=>hk q (h.T.blocks hq).2 (h.T.blocks hq).1 (h.tp q hq)),h.pm,h.pt,h.mt,h.pp,h.mp,h.tp⟩
theorem uL.later{base:Nat}{Y:World}(h:uL base p X vp vm vt ps gp ms gm ts gt)(hb:Below X.1.size X Y):uL base p Y vp vm vt ps gp ms gm ts gt:=h.aL hb.size (fun q hq _ _=>hb.block q hq)
theorem uL.set{base o:Nat}{u:Value}(h:uL base p X vp vm vt ps gp ms gm ts gt):uL base p (X.setCell ⟨p,o,none⟩ u) vp vm vt ps gp ms gm ts gt:=h.aL (by simp[World.setCell]) (fun q _ _ hp=>Below.heap_setCell _ _ _ _ hp)
def jJ:Nat->Nat->Prop:=fun _ _=>False
theorem sj{D V:Type}{q:Nat}(h:Kd.kS (D:=D) (V:=V) (.slice none 0 0) [] jJ q):False:=by
 rcases h with h|⟨i,hi,_⟩
 ·cases h
 ·simp at hi
theorem uL.nil(base p:Nat)(X:World):uL base p X (.slice none 0 0) (.slice none 0 0) (.slice none 0 0) [] jJ [] jJ [] jJ:=
 ⟨Kd.Grow.nil _ _ _ _ _,Kd.Grow.nil _ _ _ _ _,Kd.Grow.nil _ _ _ _ _,fun _ h=>(sj h).elim,fun _ h=>(sj h).elim,fun _ h=>(sj h).elim,fun _ h=>(sj h).elim,fun _ h=>(sj h).elim,fun _ h=>(sj h).elim⟩
theorem uL.ow{base:Nat}{a1:OA}{c1:Nat}{a2:OA}{c2:Nat}{a3:OA}{c3:Nat}{k:C6}(h:uL base p X (.slice a1 k.f.length c1) (.slice a2 k.aa.length c2) (.slice a3 k.c.length c3) ps gp ms gm ts gt)(e1:ps.map (·.2)=k.f)(e2:ms.map (·.2)=k.aa)(e3:ts.map (·.2)=k.c):
  cO.Ow X base a1 c1 a2 c2 a3 c3 k (fun q=>Kd.kS (.slice a1 k.f.length c1) ps gp q\/Kd.kS (.slice a2 k.aa.length c2) ms gm q\/Kd.kS (.slice a3 k.c.length c3) ts gt q):=
 ⟨⟨_,_,_,Dw h.P e1,h.M.own e2,h.T.own e3,fun _ hq=>.inl hq,fun _ hq=>.inr (.inl hq),fun _ hq=>.inr (.inr hq),h.pm,h.pt,h.mt⟩,fun q hq=>by rcases hq with hq|hq|hq;exact h.P.blocks hq;exact h.M.blocks hq;exact h.T.blocks hq⟩
theorem MC:(prog.info? 102).map (fun i=>(i.zero,i.size,i.bytes))=some (some (.agg #[.slice none 0 0]),1,24):=by kernel_rfl
theorem Gn:(prog.info? 62).map (fun i=>(i.zero,i.size,i.bytes))=some (some (.agg #[.bool false,.slice none 0 0,.slice none 0 0,.slice none 0 0]),4,80):=by kernel_rfl
theorem Vk:(prog.info? 53).map (fun i=>(i.zero,i.size,i.bytes))=some (some (.agg #[vI 0,vI 0,vI 0,vI 0,.slice none 0 0,.slice none 0 0,vI 0]),7,88):=by kernel_rfl
theorem uL.LG{base:Nat}(h:uL base p X vp vm vt ps gp ms gm ts gt)(hb:Below X.1.size X W)(hX:base<=X.1.size)(Tc:p<X.1.size)(x:Nat×Nat)(d:List Int)(Q:Nat->Prop)(e:Nat)(hm:ps.length<=1000)(ty:TypeId)
  (he:∀j u,(BH.cells x d)[j]?=some u->W.cell? ⟨e,j,none⟩=some u) (ho:BH.Ow W X.1.size x d Q):
  ∃v' Y,(Builtin.append_ #[28,28] ty #[vp,.slice (some ⟨e,0,none⟩) 1 1]).run prog W=.ok v' Y/\uL base p Y v' vm vt (ps++[(x,d)]) (fun i=>if i=ps.length then Q else gp i) ms gm ts gt/\W.grownBy Y vp.ownBlock/\(∀y,vp.ownBlock=some y->base<=y/\y<X.1.size/\y≠p):=by
 have hW:=h.later hb;obtain⟨i0,qR,sD,lL,nL⟩:=partsOf MC;have old:∀y,Kd.kS vp ps gp y->y<X.1.size:=fun y hy=>(h.P.blocks hy).2
 obtain⟨v',Y,hr,hg,fI,hl⟩:=Kd.Grow.push (K:=BH) (e:=e) underlying28 qR sD lL nL rfl (by omega) (by decide) hW.P x d Q (by omega) ty he (by intro u hu;simp only[BH,List.mem_cons,List.not_mem_nil,or_false]at hu;subst hu;rfl) (BH.low ho hX) (fun y hy gJ=>by have:=(BH.of ho hy).1;have:=old y gJ;omega) (Nat.le_trans hX hb.size)
 have new:∀y,Kd.kS v' (ps++[(x,d)]) (fun i=>if i=ps.length then Q else gp i) y->Kd.kS vp ps gp y\/X.1.size<=y:=fun y hy=>by
  rcases Kd.zH hl hy with h'|h'|h'
  ·exact .inl h'
  ·exact .inr (BH.of ho h').1
  ·exact .inr (by have:=hb.size;omega)
 have dX:∀y,y<W.1.size->vp.ownBlock≠some y->Y.1[y]?=W.1[y]?:=fun y hy eO=>fI.block y hy (fun e'=>eO e'.symm)
 exact⟨v',Y,hr,⟨hg,hW.M.aL fI.size (fun y hy=>dX y (hW.M.blocks hy).2 (fun e'=>h.pm y (.inl e') hy)),hW.T.aL fI.size (fun y hy=>dX y (hW.T.blocks hy).2 (fun e'=>h.pt y (.inl e') hy)),fun y hy hz=>by rcases new y hy with hn|hn;exact h.pm y hn hz;have:=(h.M.blocks hz).2;omega,fun y hy hz=>by rcases new y hy with hn|hn;exact h.pt y hn hz;have:=(h.T.blocks hz).2;omega,h.mt,fun y hy=>by rcases new y hy with hn|hn;exact h.pp y hn;omega,h.mp,h.tp⟩,fI,fun y hy=>⟨(h.P.blocks (.inl hy)).1,(h.P.blocks (.inl hy)).2,h.pp y (.inl hy)⟩⟩
theorem uL.LF{base:Nat}(h:uL base p X vp vm vt ps gp ms gm ts gt)(hb:Below X.1.size X W)(hX:base<=X.1.size)(Tc:p<X.1.size)(x:MV)(d:M4)(Q:Nat->Prop)(e:Nat)(hm:ms.length<=1000)(ty:TypeId)
  (he:∀j u,(gQ.cells x d)[j]?=some u->W.cell? ⟨e,j,none⟩=some u) (ho:gQ.Ow W X.1.size x d Q):
  ∃v' Y,(Builtin.append_ #[29,29] ty #[vm,.slice (some ⟨e,0,none⟩) 1 1]).run prog W=.ok v' Y/\uL base p Y vp v' vt ps gp (ms++[(x,d)]) (fun i=>if i=ms.length then Q else gm i) ts gt/\W.grownBy Y vm.ownBlock/\(∀y,vm.ownBlock=some y->base<=y/\y<X.1.size/\y≠p):=by
 have hW:=h.later hb;obtain⟨i0,qR,sD,lL,nL⟩:=partsOf Gn;have old:∀y,Kd.kS vm ms gm y->y<X.1.size:=fun y hy=>(h.M.blocks hy).2
 obtain⟨v',Y,hr,hg,fI,hl⟩:=Kd.Grow.push (K:=gQ) (e:=e) underlying29 qR sD lL nL rfl (by omega) (by decide) hW.M x d Q (by omega) ty he (by intro u hu;simp only[gQ,List.mem_cons,List.not_mem_nil,or_false]at hu;rcases hu with rfl|rfl|rfl|rfl<;>rfl) (gQ.low ho hX) (fun y hy gJ=>by have:=(gQ.of ho hy).1;have:=old y gJ;omega) (Nat.le_trans hX hb.size)
 have new:∀y,Kd.kS v' (ms++[(x,d)]) (fun i=>if i=ms.length then Q else gm i) y->Kd.kS vm ms gm y\/X.1.size<=y:=fun y hy=>by
  rcases Kd.zH hl hy with h'|h'|h'
  ·exact .inl h'
  ·exact .inr (gQ.of ho h').1
  ·exact .inr (by have:=hb.size;omega)
 have dX:∀y,y<W.1.size->vm.ownBlock≠some y->Y.1[y]?=W.1[y]?:=fun y hy eO=>fI.block y hy (fun e'=>eO e'.symm)
 exact⟨v',Y,hr,⟨hW.P.aL fI.size (fun y hy=>dX y (hW.P.blocks hy).2 (fun e'=>h.pm y hy (.inl e'))),hg,hW.T.aL fI.size (fun y hy=>dX y (hW.T.blocks hy).2 (fun e'=>h.mt y (.inl e') hy)),fun y hy hz=>by rcases new y hz with hn|hn;exact h.pm y hy hn;have:=(h.P.blocks hy).2;omega,h.pt,fun y hy hz=>by rcases new y hy with hn|hn;exact h.mt y hn hz;have:=(h.T.blocks hz).2;omega,h.pp,fun y hy=>by rcases new y hy with hn|hn;exact h.mp y hn;omega,h.tp⟩,fI,fun y hy=>⟨(h.M.blocks (.inl hy)).1,(h.M.blocks (.inl hy)).2,h.mp y (.inl hy)⟩⟩
theorem uL.LH{base:Nat}(h:uL base p X vp vm vt ps gp ms gm ts gt)(hb:Below X.1.size X W)(hX:base<=X.1.size)(Tc:p<X.1.size)(x:tx.TV)(d:tx.T7)(Q:Nat->Prop)(e:Nat)(hm:ts.length<=1000)(ty:TypeId)
  (he:∀j u,(gY.cells x d)[j]?=some u->W.cell? ⟨e,j,none⟩=some u) (ho:gY.Ow W X.1.size x d Q):
  ∃v' Y,(Builtin.append_ #[30,30] ty #[vt,.slice (some ⟨e,0,none⟩) 1 1]).run prog W=.ok v' Y/\uL base p Y vp vm v' ps gp ms gm (ts++[(x,d)]) (fun i=>if i=ts.length then Q else gt i)/\W.grownBy Y vt.ownBlock/\(∀y,vt.ownBlock=some y->base<=y/\y<X.1.size/\y≠p):=by
 have hW:=h.later hb;obtain⟨i0,qR,sD,lL,nL⟩:=partsOf Vk;have old:∀y,Kd.kS vt ts gt y->y<X.1.size:=fun y hy=>(h.T.blocks hy).2
 obtain⟨v',Y,hr,hg,fI,hl⟩:=Kd.Grow.push (K:=gY) (e:=e) underlying30 qR sD lL nL rfl (by omega) (by decide) hW.T x d Q (by omega) ty he (by intro u hu;simp only[gY,List.mem_cons,List.not_mem_nil,or_false]at hu;rcases hu with rfl|rfl|rfl|rfl|rfl|rfl|rfl<;>rfl) (gY.low ho hX) (fun y hy gJ=>by have:=(gY.of ho hy).1;have:=old y gJ;omega) (Nat.le_trans hX hb.size)
 have new:∀y,Kd.kS v' (ts++[(x,d)]) (fun i=>if i=ts.length then Q else gt i) y->Kd.kS vt ts gt y\/X.1.size<=y:=fun y hy=>by
  rcases Kd.zH hl hy with h'|h'|h'
  ·exact .inl h'
  ·exact .inr (gY.of ho h').1
  ·exact .inr (by have:=hb.size;omega)
 have dX:∀y,y<W.1.size->vt.ownBlock≠some y->Y.1[y]?=W.1[y]?:=fun y hy eO=>fI.block y hy (fun e'=>eO e'.symm)
 exact⟨v',Y,hr,⟨hW.P.aL fI.size (fun y hy=>dX y (hW.P.blocks hy).2 (fun e'=>h.pt y hy (.inl e'))),hW.M.aL fI.size (fun y hy=>dX y (hW.M.blocks hy).2 (fun e'=>h.mt y hy (.inl e'))),hg,h.pm,fun y hy hz=>by rcases new y hz with hn|hn;exact h.pt y hy hn;have:=(h.P.blocks hy).2;omega,fun y hy hz=>by rcases new y hz with hn|hn;exact h.mt y hy hn;have:=(h.M.blocks hy).2;omega,h.pp,h.mp,fun y hy=>by rcases new y hy with hn|hn;exact h.tp y hn;omega⟩,fI,fun y hy=>⟨(h.T.blocks (.inl hy)).1,(h.T.blocks (.inl hy)).2,h.tp y (.inl hy)⟩⟩
end
section
open Go.Proofs.Tryz
theorem vT(w:World)(a:OA)(n cap:Nat)(l:Nat)(hn:n<=maxLen)(hl:l<=1048576):Calls prog 86 #[.slice a n cap,vI (l:Int)] w fun e w'=>e=.returned (vI (if n<=l then((l-n:Nat):Int)else -1))/\w'=w:=by
 unfold maxLen at hn;by_cases h:n<=l
 ·rw[if_pos h];have d0:decide ((l:Int)-(n:Int)<0)=false:=by simp;omega
  go_enter func86,ntmps86;go_wp2;go_ret;have e:((l-n:Nat):Int)=(l:Int)-(n:Int):=by omega
  exact⟨by rw[e];rfl,rfl⟩
 ·rw[if_neg h];have d0:decide ((l:Int)-(n:Int)<0)=true:=by simp;omega
  go_enter func86,ntmps86;go_wp2;go_ret;exact⟨rfl,rfl⟩
theorem Hy(w:World)(a:OA)(n cap:Nat)(l:Nat)(hn:n<=maxLen)(hl:l<=1048576):Calls prog 42 #[.agg #[.slice a n cap],vI (l:Int)] w fun e w'=>e=.returned (vI (if n<=l then((l-n:Nat):Int)else -1))/\Below w.1.size w w':=by
 by_cases h:n<=l
 ·rw[if_pos h];go_enter func42,ntmps42;go_wp2_with fail;have hz:=vT (w.alloc (.cells #[.slice a n cap] 89)) a n cap l hn hl;rw[if_pos h]at hz;refine hz.mono ?_;rintro e w1 ⟨rfl,rfl⟩;have d0:decide (((l-n:Nat):Int)<0)=false:=by simp
  go_wp2;go_ret;exact⟨rfl,aN.alloc aU _⟩
 ·rw[if_neg h];go_enter func42,ntmps42;go_wp2_with fail;have hz:=vT (w.alloc (.cells #[.slice a n cap] 89)) a n cap l hn hl;rw[if_neg h]at hz;refine hz.mono ?_;rintro e w1 ⟨rfl,rfl⟩;go_wp2;go_ret;exact⟨rfl,aN.alloc aU _⟩
def WX(n:Nat)(aP:List (List Int)):Int:=if n+lens aP<=1048576 then((1048576-(n+lens aP):Nat):Int)else -1
theorem ER(w:World)(a:OA)(n cap:Nat)(aP:List (List Int))(hn:n<=maxLen)(hs:wy w w.1.size a n aP)(hl:∀zs∈aP,zs.length<=maxLen):
  Calls prog 11 #[.slice a n cap,vI 1048576] w fun e w'=>e=.returned (vI (WX n aP))/\Below w.1.size w w':=by
 obtain⟨hx,hs⟩:=hs;have BK:=hn;unfold maxLen at BK;by_cases h0:n<=1048576
 ·have d0:decide ((1048576:Int)-(n:Int)<0)=false:=by simp;omega
  go_enter func11,ntmps11;go_wp2;go_loopw[1,5] (fun v1 v5 wr=>∃j:Nat,j<=n/\v5=vI j/\n+lens (aP.take j)<=1048576/\v1=vI ((1048576-(n+lens (aP.take j)):Nat):Int)/\Below w.1.size w wr) (fun _ v5 _=>n-(intOf v5).toNat)
  case atStart=>exact⟨0,Nat.zero_le _,rfl,by simpa[lens]using h0,by simp[lens];omega,aN⟩
  case round=>
   obtain⟨j,hj,rfl,hle,rfl,aD⟩:=hrel;have KL:Hid (n+lens (aP.take j)<=1048576/\aP.length=n/\(∀zs∈aP,zs.length<=maxLen)):=⟨hle,hx,hl⟩
   by_cases aK:j<n
   ·rcases hs with hs|⟨b,off,rfl,hb,h1⟩
    ·omega
    ·obtain⟨a',aW,hc,_,_⟩:=h1 j _ (gB (by omega));have c:=(aD.cell (p:=⟨b,off+j,none⟩) hb).trans hc;have hz:=Hy wr a' (dY aP j).length aW (1048576-(n+lens (aP.take j))) (hl _ (List.mem_of_getElem? (gB (by omega)))) (by omega);have DV:Hid (lens (aP.take (j+1))=lens (aP.take j)+(dY aP j).length):=lens_take_succ (by omega);have QV:Hid (lens (aP.take (j+1))<=lens aP):=lens_take_le _ _;have KB:Hid (Below w.1.size w wr):=aD;generalize Zq:lens (aP.take j)=LL at *;generalize (dY aP j).length=m at *;clear h1 hc aD hl hx hle;by_cases vo:m<=1048576-(n+LL)
     ·rw[if_pos vo]at hz;have d1:decide (((1048576-(n+LL)-m:Nat):Int)<0)=false:=by simp
      go_wp2_with fail;refine hz.mono ?_;clear hz;rintro e w1 ⟨rfl,b1⟩;go_wp2;have h1:=KL.out.1;refine⟨⟨j+1,by omega,by simp,by rw[DV.out];omega,by rw[DV.out];congr 2;omega,KB.out.trans (b1.mono KB.out.size)⟩,by simp[intOf];omega⟩
     ·rw[if_neg vo]at hz;go_wp2_with fail;refine hz.mono ?_;clear hz;rintro e w1 ⟨rfl,b1⟩;go_wp2;go_ret;have h2:=DV.out;have h3:=QV.out;refine⟨by rw[WX,if_neg (by omega)];rfl,KB.out.trans (b1.mono KB.out.size)⟩
   ·have:j=n:=by omega
    subst this;have hd:decide ((j:Int)<(j:Int))=false:=by simp
    have ht:aP.take j=aP:=List.take_of_length_le (by omega);rw[ht]at hle ⊢;clear hs hl KL ht;go_wp2;go_ret;exact⟨by rw[WX,if_pos hle];rfl,aD⟩
 ·have d0:decide ((1048576:Int)-(n:Int)<0)=true:=by simp;omega
  go_enter func11,ntmps11;go_wp2;go_ret;exact⟨by rw[WX,if_neg (by omega)];rfl,aN⟩
end
section
open Go.Proofs.Tryz
def zm(k:C6):Nat:=(k.f.length+lens k.f)+(k.aa.length+wo.nM k.aa)+(k.c.length+wu.nM k.c)
structure cO.L(k:C6):Prop where
 p:k.f.length<=maxLen
 ps:∀zs∈k.f,zs.length<=maxLen
 m:k.aa.length<=maxLen
 ms:∀m∈k.aa,ML m
 t:k.c.length<=maxLen
 ts:∀t∈k.c,tx.TL t
theorem EO{α:Type}(f:α->Nat){x:α}:∀{l:List α},x∈l->f x<=(l.map f).sum
 | y::l,h=>by
  simp only[List.map_cons,List.sum_cons];rcases List.mem_cons.1 h with rfl|h
  ·omega
  ·have:=EO f h;omega
theorem cO.S.of{k:C6}(h:zm k<=1048576):cO.S k:=by
 unfold zm at h;refine⟨by omega,fun zs hz=>?_,by omega,fun m hm=>MT.YT ?_,by omega,fun t ht=>?_⟩
 ·have:=Px hz;omega
 ·have:=EO (fun m=>JX m) hm;unfold wo.nM at h;omega
 ·have h1:=EO (fun t=>tx.uJ t) ht;unfold wu.nM at h;have h2:tx.uJ t=t.b.length+t.ag.length:=rfl;exact⟨by omega,by omega⟩
theorem cO.sz(X:World)(a1:OA)(c1:Nat)(a2:OA)(c2:Nat)(a3:OA)(c3:Nat)(k:C6)(hl:cO.L k)(h:cO.Rd X a1 c1 a2 c2 a3 c3 k):Calls prog 4 #[.agg #[vI k.v,vI k.q,.slice a1 k.f.length c1,.slice a2 k.aa.length c2,.slice a3 k.c.length c3,.bool k.w],vI 1048576] X fun e w'=>e=.returned (vI (gH 1048576 (zm k)))/\Below X.1.size X w':=by
 obtain⟨U,hU⟩:∃Y,Y=X.alloc (.cells #[vI k.v,vI k.q,.slice a1 k.f.length c1,.slice a2 k.aa.length c2,.slice a3 k.c.length c3,.bool k.w] 26):=⟨_,rfl⟩
 have b0:Below X.1.size X U:=by rw[hU];exact aN.alloc aU _
 have FA:Hid (Bx U X.1.size (dR a1 c1 a2 c2 a3 c3 k)):=by rw[hU];exact Bx.made X (dR a1 c1 a2 c2 a3 c3 k) _
 have HR:Hid (cO.Rd U a1 c1 a2 c2 a3 c3 k/\cO.L k/\Below X.1.size X U):=⟨h.later b0,hl,b0⟩
 have lL:=ER U a1 k.f.length c1 k.f hl.p (h.later b0).p hl.ps;have e1:WX k.f.length k.f=gH 1048576 (k.f.length+lens k.f):=by unfold WX gH;rfl
 rw[e1]at lL;have HS:Hid (zm k=(k.f.length+lens k.f)+(k.aa.length+wo.nM k.aa)+(k.c.length+wu.nM k.c)):=rfl;have HM:Hid (∀(w:World) (l:Nat),Below U.1.size U w->l<=1048576->Calls prog 12 #[.slice a2 k.aa.length c2,vI (l:Int)] w fun e w'=>e=.returned (vI (gH l (k.aa.length+wo.nM k.aa)))/\Below w.1.size w w'):=fun w l hb I7=>wo.sz w a2 c2 k.aa l I7 hl.m hl.ms ((h.later b0).later hb).m
 have HT:Hid (∀(w:World) (l:Nat),Below U.1.size U w->l<=1048576->Calls prog 13 #[.slice a3 k.c.length c3,vI (l:Int)] w fun e w'=>e=.returned (vI (gH l (k.c.length+wu.nM k.c)))/\Below w.1.size w w'):=fun w l hb I7=>wu.sz w a3 c3 k.c l I7 hl.t hl.ts ((h.later b0).later hb).t
 rw[HS.out];generalize k.f.length+lens k.f=n1 at *;generalize k.aa.length+wo.nM k.aa=n2 at *;generalize k.c.length+wu.nM k.c=n3 at *;have p2:=FA.out.1 2 _ rfl;rw[hU]at p2;clear b0 hl h e1 HS;go_enter func4,ntmps4;go_wp2_with fail;rw[<-hU];clear hU p2;refine lL.mono ?_;clear lL;rintro e w1 ⟨rfl,b1⟩;have B1:=tx.ay b1;clear b1;by_cases g1:n1<=1048576
 ·rw[cz g1];have d1:decide (((1048576-n1:Nat):Int)<0)=false:=by simp
  have p3:=(FA.out.later B1.out).1 3 _ rfl;have hz:=HM.out w1 (1048576-n1) B1.out (by omega);go_wp2_with fail;refine hz.mono ?_;clear hz p3;rintro e w2 ⟨rfl,b2⟩;have B2:Hid (Below U.1.size U w2):=au B1.out b2;clear b2;by_cases g2:n2<=1048576-n1
  ·rw[cz g2];have d2:decide (((1048576-n1-n2:Nat):Int)<0)=false:=by simp
   have p4:=(FA.out.later B2.out).1 4 _ rfl;have hz:=HT.out w2 (1048576-n1-n2) B2.out (by omega);go_wp2_with fail;refine hz.mono ?_;clear hz p4;rintro e w3 ⟨rfl,b3⟩;have B3:Hid (Below U.1.size U w3):=au B2.out b3;clear b3;by_cases g3:n3<=1048576-n1-n2
   ·rw[cz g3];have d3:decide (((1048576-n1-n2-n3:Nat):Int)<0)=false:=by simp
    go_wp2;go_ret;exact⟨by rw[cz (by omega),show 1048576-(n1+n2+n3)=1048576-n1-n2-n3 by omega];rfl,au HR.out.2.2 B3.out⟩
   ·rw[bL g3];go_wp2;go_ret;exact⟨by rw[bL (by omega)];rfl,au HR.out.2.2 B3.out⟩
  ·rw[bL g2];go_wp2;go_ret;exact⟨by rw[bL (by omega)];rfl,au HR.out.2.2 B2.out⟩
 ·rw[bL g1];go_wp2;go_ret;exact⟨by rw[bL (by omega)];rfl,au HR.out.2.2 B1.out⟩
end
section
open Go.Proofs.Tryz
variable {f:Nat->Bool}{j k:Nat}{zs:List Int}
theorem Qm(w:World)(x:Int):Calls prog 91 #[vI x] w fun e w'=>e=.returned (.bool (bH 1 1000000 x))/\Below w.1.size w w':=by
 go_enter func91,ntmps91;go_wp2_with (go_at_call 15;refine(fF _ _ _ _).mono ?_;rintro e w' ⟨rfl,rfl⟩);go_ret;exact⟨rfl,aN⟩
def yF(zs:List Int)(i:Nat):Bool:=bH 1 1000000 (eQ zs i)&&(decide (i=0)||decide (eQ zs (i-1)<eQ zs i))
def Cm(zs:List Int):Bool:=(List.range zs.length).all (yF zs)
theorem mX(h:(List.range k).all f=true)(h':f k=true):(List.range (k+1)).all f=true:=by
 rw[List.range_succ,List.all_append,h];simp[h']
theorem oU{n:Nat}(hk:k<n)(h:f k=false):(List.range n).all f=false:=by
 rw[List.all_eq_false];exact⟨k,List.mem_range.2 hk,by simp[h]⟩
theorem Ve(h:bH 1 1000000 (eQ zs k)=false):yF zs k=false:=by simp[yF,h]
theorem Vf(h:eQ zs (j+1)<=eQ zs j):yF zs (j+1)=false:=by simp[yF];intro _;omega
theorem Pj(h:bH 1 1000000 (eQ zs 0)=true):yF zs 0=true:=by simp[yF,h]
theorem RB(h:bH 1 1000000 (eQ zs (j+1))=true)(h':¬eQ zs (j+1)<=eQ zs j):yF zs (j+1)=true:=by simp[yF,h];omega
theorem Gs(w:World)(a:OA)(n cap:Nat)(zs:List Int)(hn:n<=maxLen)(hs:ll w w.1.size a n zs):
  Calls prog 136 #[.slice a n cap] w fun e w'=>e=.returned (.bool (Cm zs))/\Below w.1.size w w':=by
 unfold maxLen at hn;obtain⟨hx,hs⟩:=hs;go_enter func136,ntmps136;go_wp2;go_loopw[3] (fun i wr=>∃k:Nat,k<=n/\i=vI k/\Below w.1.size w wr/\(List.range k).all (yF zs)=true) (fun i _=>n-(intOf i).toNat)
 case atStart=>exact⟨0,Nat.zero_le _,rfl,aN,rfl⟩
 case round=>
  obtain⟨k,hk,rfl,aD,aO⟩:=hrel;have K:Hid (Below w.1.size w wr/\(List.range k).all (yF zs)=true/\zs.length=n):=⟨aD,aO,hx⟩
  by_cases aK:k<n
  ·rcases hs with hs|⟨b,off,rfl,hb,h1⟩
   ·omega
   have Cf:b<wr.1.size:=Nat.lt_of_lt_of_le hb aD.size;have t1:=(h1.below aD hb) k _ (jf (by omega));have c0:=@cell_regrown wr ⟨b,off+k,none⟩ (vI (eQ zs k)) t1;have cQ:∀d os,Calls prog 91 #[vI (eQ zs k)] (grow (redrawn wr d) os) fun e eU=>e=.returned (.bool (bH 1 1000000 (eQ zs k)))/\∃p:Regrown,eU=grow (redrawn wr p.d) p.os:=fun d os=>Calls.regrown_of (Qm _ (eQ zs k))
   cases jG:bH 1 1000000 (eQ zs k)with
   | false=>
    rw[jG]at cQ;clear t1 aD aO h1 hx;go_wp2_with fail;refine gP ?_;repeat (go_big_quiet_step (exact cQ _ _))
    refine iW fun dq aZ=>?_
    have bq:=below_regrown wr dq aZ;go_wp2;go_ret;exact⟨by rw[Cm,K.out.2.2,oU aK (Ve jG)];rfl,K.out.1.trans (bq.mono K.out.1.size)⟩
   | true=>
    rw[jG]at cQ;rcases k with _|j
    ·simp only[Nat.add_zero]at c0;clear t1 aD aO h1 hx;go_wp2_with fail;refine gP ?_;repeat (go_big_quiet_step (exact cQ _ _))
     refine iW fun dq aZ=>?_
     have bq:=below_regrown wr dq aZ;go_wp2;exact⟨⟨1,by omega,by simp,K.out.1.trans (bq.mono K.out.1.size),mX K.out.2.1 (Pj jG)⟩,by simp[intOf];omega⟩
    ·have t2:=(h1.below aD hb) j _ (jf (by omega));have e1:=@cell_regrown wr ⟨b,off+j,none⟩ (vI (eQ zs j)) t2;have hj:(j:Int)<(n:Int):=by omega
     by_cases hq:eQ zs (j+1)<=eQ zs j
     ·clear t1 t2 aD aO h1 hx;go_wp2_with fail;refine gP ?_;repeat (go_big_quiet_step (exact cQ _ _))
      refine iW fun dq aZ=>?_
      have bq:=below_regrown wr dq aZ;go_wp2;go_ret;exact⟨by rw[Cm,K.out.2.2,oU aK (Vf hq)];rfl,K.out.1.trans (bq.mono K.out.1.size)⟩
     ·have Rw:decide (eQ zs (j+1)<=eQ zs j)=false:=by simp;omega
      clear t1 t2 aD aO h1 hx;go_wp2_with fail;refine gP ?_;repeat (go_big_quiet_step (exact cQ _ _))
      refine iW fun dq aZ=>?_
      have bq:=below_regrown wr dq aZ;go_wp2;exact⟨⟨j+1+1,by omega,by simp,K.out.1.trans (bq.mono K.out.1.size),mX K.out.2.1 (RB jG (Int.not_le.2 hq))⟩,by simp[intOf];omega⟩
  ·have:k=n:=by omega
   subst this;have hd:decide (k<k)=false:=by simp
   go_wp2;go_ret;exact⟨by rw[Cm,hx,aO];rfl,aD⟩
end
section
open Go.Proofs.Tryz
theorem wrap_i64_small(n:Nat)(h:n<4294967296):IntKind.i64.wrap (n:Int)=(n:Int):=by
 simp[IntKind.wrap,IntKind.bits,IntKind.signed];omega
theorem Du(a:Nat)(ha:a<4294967296):(BitVec.ofInt 64 (a:Int)).toNat=a:=by
 rw[BitVec.ofInt_natCast,BitVec.toNat_ofNat];exact Nat.mod_eq_of_lt (by omega)
theorem yl(a b:Nat)(ha:a<4294967296)(hb:b<4294967296):bits .and .i64 (a:Int) (b:Int)=((a &&& b:Nat):Int):=by
 have hx:a &&& b<2 ^ 32:=Nat.and_lt_two_pow _ (by omega);show IntKind.i64.wrap ((BitVec.ofInt 64 (a:Int) &&& BitVec.ofInt 64 (b:Int)).toNat:Int)=_
 rw[BitVec.toNat_and,Du a ha,Du b hb,wrap_i64_small _ (by omega)]
theorem and_2(x:Int)(h1:0<=x)(h2:x<=4000003):bits .and .i64 x 2=x/2%2*2:=by
 obtain⟨n,rfl⟩:=Int.eq_ofNat_of_zero_le h1;have h:=yl n 2 (by omega) (by omega);rw[show n &&& 2=n/2%2*2 from nat_bit 1 n]at h;simpa using h
theorem and_1(x:Int)(h1:0<=x)(h2:x<=4000003):bits .and .i64 x 1=x%2:=by
 obtain⟨n,rfl⟩:=Int.eq_ofNat_of_zero_le h1;have h:=yl n 1 (by omega) (by omega);rw[nat_mask1 n]at h;simpa using h
def fM(h:Int):Bool:=decide (h/2%2=1)
def jH(h:Int):Bool:=decide (h%2=1)
theorem Sn(h:Int):(h/2%2*2 != 0)=fM h:=by
 unfold fM;rw[Bool.eq_iff_iff];simp;omega
theorem MF(h:Int):(h%2 != 0)=jH h:=by
 unfold jH;rw[Bool.eq_iff_iff];simp;omega
theorem LK{a b:Bool}(h:a=b):Ending.returned (.bool a)=.returned (.bool b):=by rw[h]
end
section
open Go.Proofs.Tryz
theorem Ac(h:Int)(w:World)(h1:0<=h)(h2:h<=4000003):
  Calls prog 194 #[vI h] w fun e w'=>e=.returned (.bool true)/\w'=w:=by
 go_enter func194,ntmps194;go_wp2;go_ret;exact⟨by simp[*],rfl⟩
theorem Cq(h:Int)(w:World)(hh:h<0\/4000003<h):
  Calls prog 194 #[vI h] w fun e w'=>e=.returned (.bool false)/\w'=w:=by
 rcases hh with hh|hh
 all_goals
  go_enter func194,ntmps194;go_wp2;go_ret;exact⟨by simp;try omega,rfl⟩
theorem Bq(h:Int)(w:World)(h1:0<=h)(h2:h<=4000003):
  Calls prog 54 #[vI h] w fun e w'=>e=.returned (.bool true)/\w'=w:=by
 go_enter func54,ntmps54;go_wp2;go_ret;exact⟨by simp[*],rfl⟩
theorem CO(h:Int)(w:World)(hh:h<0\/4000003<h):
  Calls prog 54 #[vI h] w fun e w'=>e=.returned (.bool false)/\w'=w:=by
 rcases hh with hh|hh
 all_goals
  go_enter func54,ntmps54;go_wp2;go_ret;exact⟨by simp;try omega,rfl⟩
theorem Eu(h:Int)(w:World)(h1:0<=h)(h2:h<=4000003):
  Calls prog 115 #[vI h] w fun e w'=>e=.returned (.bool (fM h))/\w'=w:=by
 ·have b2:=and_2 h h1 h2;go_enter func115,ntmps115;go_wp2;go_ret;exact⟨LK (Sn h),rfl⟩
theorem Gi(h:Int)(w:World)(hh:h<0\/4000003<h):
  Calls prog 115 #[vI h] w fun e w'=>e=.returned (.bool false)/\w'=w:=by
 rcases hh with hh|hh
 ·have d:decide (0<=h)=false:=by simp;omega
  go_enter func115,ntmps115;go_wp2;go_ret;exact⟨rfl,rfl⟩
 ·have d:decide (h<=4000003)=false:=by simp;omega
  go_enter func115,ntmps115;go_wp2;go_ret;exact⟨rfl,rfl⟩
theorem EN(h:Int)(w:World)(h1:0<=h)(h2:h<=4000003):
  Calls prog 51 #[vI h] w fun e w'=>e=.returned (.bool (fM h))/\w'=w:=by
 ·go_enter func51,ntmps51;go_wp2;go_ret;exact⟨rfl,rfl⟩
theorem Hu(h:Int)(w:World)(hh:h<0\/4000003<h):
  Calls prog 51 #[vI h] w fun e w'=>e=.returned (.bool false)/\w'=w:=by
 rcases hh with hh|hh
 ·have d:decide (0<=h)=false:=by simp;omega
  go_enter func51,ntmps51;go_wp2;go_ret;exact⟨rfl,rfl⟩
 ·have d:decide (h<=4000003)=false:=by simp;omega
  go_enter func51,ntmps51;go_wp2;go_ret;exact⟨rfl,rfl⟩
theorem Ab(h:Int)(w:World):Calls prog 194 #[vI h] w fun e w'=>e=.returned (.bool (bH 0 4000003 h))/\w'=w:=by
 by_cases hh:0<=h/\h<=4000003
 ·rw[jV hh.1 hh.2];exact Ac h w hh.1 hh.2
 ·have e:bH 0 4000003 h=false:=by simp[bH];omega
  rw[e];exact Cq h w (by omega)
theorem qi(h:Int)(w:World):Calls prog 115 #[vI h] w fun e w'=>e=.returned (.bool (bH 0 4000003 h&&fM h))/\w'=w:=by
 by_cases hh:0<=h/\h<=4000003
 ·rw[jV hh.1 hh.2,Bool.true_and];exact Eu h w hh.1 hh.2
 ·have e:bH 0 4000003 h=false:=by simp[bH];omega
  rw[e,Bool.false_and];exact Gi h w (by omega)
theorem Bp(h:Int)(w:World):Calls prog 54 #[vI h] w fun e w'=>e=.returned (.bool (bH 0 4000003 h))/\w'=w:=by
 by_cases hh:0<=h/\h<=4000003
 ·rw[jV hh.1 hh.2];exact Bq h w hh.1 hh.2
 ·have e:bH 0 4000003 h=false:=by simp[bH];omega
  rw[e];exact CO h w (by omega)
theorem vS(h:Int)(w:World):Calls prog 51 #[vI h] w fun e w'=>e=.returned (.bool (bH 0 4000003 h&&fM h))/\w'=w:=by
 by_cases hh:0<=h/\h<=4000003
 ·rw[jV hh.1 hh.2,Bool.true_and];exact EN h w hh.1 hh.2
 ·have e:bH 0 4000003 h=false:=by simp[bH];omega
  rw[e,Bool.false_and];exact Hu h w (by omega)
end
section
open Go.Proofs.Tryz
variable {xs:List C2}
def jI(c:C2):Bool:=bH 0 4000003 c.head&&bH (-1000000000) 1000000000 c.h&&(fM c.head||decide (c.h=0))
def eG(xs:List C2):Bool:=decide (xs.length=6)&&xs.all jI
theorem De(h:∀i,i<xs.length->jI (at2 xs i)=true):xs.all jI=true:=by
 rw[List.all_eq_true];intro s hs;obtain⟨i,hi,rfl⟩:=List.getElem_of_mem hs;have:=h i hi;rw[at2,List.getElem?_eq_getElem hi]at this;simpa using this
theorem Df{i:Nat}(hi:i<xs.length)(h:jI (at2 xs i)=false):xs.all jI=false:=by
 rw[List.all_eq_false];refine⟨xs[i],List.getElem_mem hi,?_⟩;rw[at2,List.getElem?_eq_getElem hi]at h;simpa using h
theorem Jc(w:World)(s:C2):Calls prog 155 #[.agg #[vI s.head,vI s.h]] w fun e w'=>e=.returned (.bool (jI s))/\Below w.1.size w w':=by
 obtain⟨h,v⟩:=s;unfold jI;go_enter func155,ntmps155
 cases g1:bH 0 4000003 h<;>cases g2:bH (-1000000000) 1000000000 v<;>cases g3:fM h;all_goals go_wp2_with (first|(go_at_call 194;refine(Ab _ _).mono ?_;rw[g1];rintro e w' ⟨rfl,rfl⟩)|(go_at_call 195;refine(wU _ _).mono ?_;rw[g2];rintro e w' ⟨rfl,rfl⟩)|(go_at_call 115;refine(qi _ _).mono ?_;rw[g1,g3];rintro e w' ⟨rfl,rfl⟩))
 all_goals (go_ret;refine⟨dW ?_,aN.alloc aU _⟩;simp)
theorem DK(w:World)(s:C2):Calls prog 154 #[.agg #[vI s.head,vI s.h]] w fun e w'=>e=.returned (.bool (!jI s))/\Below w.1.size w w':=by
 go_enter func154,ntmps154;go_wp2_with fail;refine(Jc _ s).mono ?_;rintro e w1 ⟨rfl,b1⟩;go_wp2;go_ret;exact⟨rfl,(aN.alloc aU _).trans (b1.mono (by simp))⟩
theorem yJ(w:World)(b off cap n:Nat)(xs:List C2)(hx:xs.length=n)(hn:n<=maxLen)(h1:bK w b off xs)(hb:b<w.1.size):
  Calls prog 196 #[.slice (some ⟨b,off,none⟩) n cap,.func (.func 154) #[] #[]] w fun e w'=>∃i:Int,e=.returned (vI i)/\(0<=i↔xs.all jI=false)/\Below w.1.size w w':=by
 unfold maxLen at hn;go_enter func196,ntmps196;go_wp2;go_loopw[8] (fun i wr=>∃k:Nat,k<=n/\i=vI k/\Below w.1.size w wr/\∀i,i<k->jI (at2 xs i)=true) (fun i _=>n-(intOf i).toNat)
 case atStart=>exact⟨0,Nat.zero_le _,rfl,aN,fun i h=>absurd h (by omega)⟩
 case round=>
  obtain⟨k,hk,rfl,aD,aO⟩:=hrel;have K:Hid (Below w.1.size w wr/\(∀i,i<k->jI (at2 xs i)=true)/\xs.length=n):=⟨aD,aO,hx⟩
  by_cases aK:k<n
  ·obtain⟨c0,c1⟩:=(h1.get (i:=k) (by omega)).below aD hb;clear aD aO h1 hx
   cases hr:jI (at2 xs k)with
   | true=>
    go_wp2_with fail;refine(DK _ (at2 xs k)).mono ?_;rw[hr];rintro e w1 ⟨rfl,b1⟩;go_wp2;refine⟨⟨k+1,by omega,by simp,K.out.1.trans (b1.mono K.out.1.size),fun i hi=>?_⟩,by simp[intOf];omega⟩;by_cases e:i=k
    ·rw[e];exact hr
    ·exact K.out.2.1 i (by omega)
   | false=>
    go_wp2_with fail;refine(DK _ (at2 xs k)).mono ?_;rw[hr];rintro e w1 ⟨rfl,b1⟩;go_wp2;go_ret;exact⟨(k:Int),rfl,by simp[Df (xs:=xs) (i:=k) (by rw[K.out.2.2];exact aK) hr],K.out.1.trans (b1.mono K.out.1.size)⟩
  ·have:k=n:=by omega
   subst this;have hd:decide (k<k)=false:=by simp
   go_wp2;go_ret;exact⟨-1,rfl,by simp[De (xs:=xs) (by rw[hx];exact aO)],aD⟩
theorem uh(w:World)(b off cap n:Nat)(xs:List C2)(hx:xs.length=n)(hn:n<=maxLen)(h1:bK w b off xs)(hb:b<w.1.size):
  Calls prog 156 #[.slice (some ⟨b,off,none⟩) n cap,.func (.func 154) #[] #[]] w fun e w'=>e=.returned (.bool (!xs.all jI))/\Below w.1.size w w':=by
 go_enter func156,ntmps156;go_wp2_with fail;refine(yJ w b off cap n xs hx hn h1 hb).mono ?_;rintro e w1 ⟨i,rfl,hi,b1⟩;have HI:Hid (0<=i↔xs.all jI=false):=hi;clear hi;go_wp2;go_ret;refine⟨dW ?_,b1⟩;rw[decide_eq_true_eq,HI.out,Bool.not_eq_true']
theorem lW(w:World)(a:OA)(n cap:Nat)(xs:List C2)(hn:n<=maxLen)(hs:nN w w.1.size a n xs):
  Calls prog 114 #[.slice a n cap] w fun e w'=>e=.returned (.bool (eG xs))/\Below w.1.size w w':=by
 obtain⟨hx,hs⟩:=hs;unfold eG;rw[hx];by_cases h6:n=6
 ·subst h6;rcases hs with hs|⟨b,off,rfl,hb,h1⟩
  ·omega
  ·go_enter func114,ntmps114;go_wp2_with fail;refine(uh w b off cap 6 xs hx hn h1 hb).mono ?_;rintro e w1 ⟨rfl,b1⟩;go_wp2;go_ret;exact⟨dW (by simp),b1⟩
 ·have q:((n:Int)==6)=false:=by simp;omega
  go_enter func114,ntmps114;go_wp2;go_ret;exact⟨dW (by simp[h6]),aN⟩
theorem yU(w:World)(b off cap:Nat)(xs:List C2)(hx:xs.length=6)(h1:bK w b off xs)(hb:b<w.1.size):
  Calls prog 50 #[.slice (some ⟨b,off,none⟩) 6 cap] w fun e w'=>e=.returned (.bool (xs.all jI))/\Below w.1.size w w':=by
 go_enter func50,ntmps50;go_wp2;go_loopw[3] (fun i wr=>∃k:Nat,k<=6/\i=vI k/\Below w.1.size w wr/\∀i,i<k->jI (at2 xs i)=true) (fun i _=>6-(intOf i).toNat)
 case atStart=>exact⟨0,Nat.zero_le _,rfl,aN,fun i h=>absurd h (by omega)⟩
 case round=>
  obtain⟨k,hk,rfl,aD,aO⟩:=hrel;have K:Hid (Below w.1.size w wr/\(∀i,i<k->jI (at2 xs i)=true)/\xs.length=6):=⟨aD,aO,hx⟩
  by_cases aK:k<6
  ·obtain⟨c0,c1⟩:=(h1.get (i:=k) (by omega)).below aD hb;clear aD aO h1 hx;generalize hC:at2 xs k=C at c0 c1;obtain⟨h,v⟩:=C;have KC:Hid (at2 xs k=⟨h,v⟩):=hC;have Cj:(k:Int)<6:=by omega
   clear hC
   cases g1:bH 0 4000003 h<;>cases g2:bH (-1000000000) 1000000000 v<;>cases g3:fM h
   all_goals
    have HB:Hid (jI (at2 xs k)=(bH 0 4000003 h&&bH (-1000000000) 1000000000 v&&(fM h||decide (v=0)))):=by unfold Hid;rw[KC.out];rfl
    rw[g1,g2,g3]at HB;go_wp2_with (first|(go_at_call 54;refine(Bp _ _).mono ?_;rw[g1];rintro e w' ⟨rfl,rfl⟩)|(go_at_call 96;refine(xN _ _).mono ?_;rw[g2];rintro e w' ⟨rfl,rfl⟩)|(go_at_call 51;refine(vS _ _).mono ?_;rw[g1,g3];rintro e w' ⟨rfl,rfl⟩))
   all_goals first
    | (go_ret
       exact⟨by rw[Df (xs:=xs) (i:=k) (by rw[K.out.2.2];exact aK) (by rw[HB.out];simp;try simpa using ‹(v != 0)=true›)];rfl,(K.out.1.alloc K.out.1.size _)⟩)
    | (refine⟨⟨k+1,by omega,by simp,K.out.1.alloc K.out.1.size _,fun i hi=>?_⟩,by simp[intOf];omega⟩
       by_cases e:i=k
       ·rw[e,HB.out];simp;try simpa using ‹(v != 0)=false›
       ·exact K.out.2.1 i (by omega))
  ·have:k=6:=by omega
   subst this;go_wp2;go_ret;exact⟨by rw[De (xs:=xs) (by rw[hx];exact aO)];rfl,aD⟩
theorem qK(w:World)(a:OA)(n cap:Nat)(xs:List C2)(hn:n<=maxLen)(hs:nN w w.1.size a n xs):
  Calls prog 50 #[.slice a n cap] w fun e w'=>e=.returned (.bool (eG xs))/\Below w.1.size w w':=by
 obtain⟨hx,hs⟩:=hs;unfold eG;rw[hx];unfold maxLen at hn;by_cases h6:n=6
 ·subst h6;rcases hs with hs|⟨b,off,rfl,hb,h1⟩
  ·omega
  ·exact yU w b off cap xs hx h1 hb
 ·have q:((n:Int)==6)=false:=by simp;omega
  go_enter func50,ntmps50;go_wp2;go_ret;exact⟨dW (by simp[h6]),aN⟩
end
section
open Go.Proofs.Tryz
variable {f:Nat->Bool}{i j k:Nat}{xs:List S5}
def fJ(xs:List S5)(i:Nat):S5:=xs[i]?.getD ⟨0,0,0,false,0⟩
def lZ(xs:List S5)(i:Nat):Bool:=bf (fJ xs i)&&(decide (i=0)||decide ((fJ xs (i-1)).e<(fJ xs i).e))
def Ex(xs:List S5)(i:Nat):Bool:=lZ xs i&&(decide (i=0)||decide ((fJ xs i).a=(fJ xs 0).a))
def tQ(xs:List S5):Bool:=(List.range xs.length).all (lZ xs)
def QN(xs:List S5):Bool:=(List.range xs.length).all (Ex xs)
def vL(r:Int)(xs:List S5):Bool:=xs.all (fun s=>decide (s.a=r))
theorem uN(h:(List.range k).all f=true)(h':f k=true):(List.range (k+1)).all f=true:=by
 rw[List.range_succ,List.all_append,h];simp[h']
theorem oI{n:Nat}(hk:k<n)(h:f k=false):(List.range n).all f=false:=by
 rw[List.all_eq_false];exact⟨k,by simpa using hk,by simp[h]⟩
theorem Uh(h:i<xs.length):xs[i]?=some (fJ xs i):=by
 simp[fJ,List.getElem?_eq_getElem h]
theorem aV.get{w:World}{b off:Nat}(h:aV w b off xs)(hi:i<xs.length):aR w b (off+i*5) (fJ xs i):=h i _ (Uh hi)
theorem Bb(h:bf (fJ xs k)=false):lZ xs k=false:=by simp[lZ,h]
theorem DF(h:(fJ xs (j+1)).e<=(fJ xs j).e):lZ xs (j+1)=false:=by simp[lZ];intro _;omega
theorem Bc(h:bf (fJ xs 0)=true):lZ xs 0=true:=by simp[lZ,h]
theorem DC(h:bf (fJ xs (j+1))=true)(h':(fJ xs j).e<(fJ xs (j+1)).e):lZ xs (j+1)=true:=by simp[lZ,h,h']
theorem Gr(w:World)(b off cap n:Nat)(xs:List S5)(hx:xs.length=n)(hn:n<=maxLen)(h1:aV w b off xs)(hb:b<w.1.size):
  Calls prog 179 #[.slice (some ⟨b,off,none⟩) n cap] w fun e w'=>e=.returned (.bool (QN xs))/\Below w.1.size w w':=by
 unfold maxLen at hn;go_enter func179,ntmps179;go_wp2;go_loopw[3] (fun i wr=>∃k:Nat,k<=n/\i=vI k/\Below w.1.size w wr/\(List.range k).all (Ex xs)=true) (fun i _=>n-(intOf i).toNat)
 case atStart=>exact⟨0,Nat.zero_le _,rfl,aN,rfl⟩
 case round=>
  obtain⟨k,hk,rfl,aD,aO⟩:=hrel;have K:Hid (Below w.1.size w wr/\(List.range k).all (Ex xs)=true/\xs.length=n):=⟨aD,aO,hx⟩
  by_cases aK:k<n
  ·have t1:=((h1.get (i:=k) (by omega)).below aD hb).iA;have c0:=fun d os=>(t1 d os).c0
   have c1:=fun d os=>(t1 d os).c1
   have c2:=fun d os=>(t1 d os).c2
   have c3:=fun d os=>(t1 d os).c3
   have c4:=fun d os=>(t1 d os).c4
   have cQ:∀d os,Calls prog 58 #[.agg #[vI (fJ xs k).a,vI (fJ xs k).e,vI (fJ xs k).h,.bool (fJ xs k).j,vI (fJ xs k).i]] (grow (redrawn wr d) os) fun e eU=>e=.returned (.bool (bf (fJ xs k)))/\∃p:Regrown,eU=grow (redrawn wr p.d) p.os:=fun d os=>Calls.regrown_of (pF _ (fJ xs k))
   cases jG:bf (fJ xs k)with
   | false=>
    rw[jG]at cQ;clear t1 aD aO h1 hx;go_wp2_with fail;refine gP ?_;repeat (go_big_quiet_step (exact cQ _ _))
    refine iW fun dq aZ=>?_
    have bq:=below_regrown wr dq aZ;go_wp2;go_ret;exact⟨by rw[QN,K.out.2.2,oI aK (by simp[Ex,Bb jG])];rfl,K.out.1.trans (bq.mono K.out.1.size)⟩
   | true=>
    rw[jG]at cQ;rcases k with _|j
    ·simp only[Nat.zero_mul,Nat.add_zero]at c0 c1 c2 c3 c4;clear t1 aD aO h1 hx;go_wp2_with fail;refine gP ?_;repeat (go_big_quiet_step (exact cQ _ _))
     refine iW fun dq aZ=>?_
     have bq:=below_regrown wr dq aZ;go_wp2;exact⟨⟨1,by omega,by simp,K.out.1.trans (bq.mono K.out.1.size),uN K.out.2.1 (by simp[Ex,Bc jG])⟩,by simp[intOf];omega⟩
    ·have t2:=((h1.get (i:=j) (by omega)).below aD hb).iA;have t3:=((h1.get (i:=0) (by omega)).below aD hb).iA;have e1:=fun d os=>(t2 d os).c1
     have f0:=fun d os=>(t3 d os).c0
     simp only[Nat.zero_mul,Nat.add_zero]at f0;have hj:(j:Int)<(n:Int):=by omega
     have vn:(0:Int)<(n:Int):=by omega
     by_cases hs:(fJ xs (j+1)).e<=(fJ xs j).e
     ·clear t1 t2 t3 aD aO h1 hx;go_wp2_with fail;refine gP ?_;repeat (go_big_quiet_step (exact cQ _ _))
      refine iW fun dq aZ=>?_
      have bq:=below_regrown wr dq aZ;go_wp2;go_ret;exact⟨by rw[QN,K.out.2.2,oI aK (by simp[Ex,DF hs])];rfl,K.out.1.trans (bq.mono K.out.1.size)⟩
     ·have z8:decide ((fJ xs (j+1)).e<=(fJ xs j).e)=false:=by simp;omega
      by_cases hr:(fJ xs (j+1)).a=(fJ xs 0).a
      ·clear t1 t2 t3 aD aO h1 hx;have wJ:((fJ xs (j+1)).a==(fJ xs 0).a)=true:=by simp[hr]
       have HR:Hid ((fJ xs (j+1)).a=(fJ xs 0).a):=hr;clear hr;go_wp2_with fail;refine gP ?_;repeat (go_big_quiet_step (exact cQ _ _))
       refine iW fun dq aZ=>?_
       have bq:=below_regrown wr dq aZ;go_wp2;exact⟨⟨j+1+1,by omega,by simp,K.out.1.trans (bq.mono K.out.1.size),uN K.out.2.1 (by simp[Ex,DC jG hs,HR.out])⟩,by simp[intOf];omega⟩
      ·clear t1 t2 t3 aD aO h1 hx;have wJ:((fJ xs (j+1)).a==(fJ xs 0).a)=false:=by simp[hr]
       have HR:Hid (¬(fJ xs (j+1)).a=(fJ xs 0).a):=hr;clear hr;go_wp2_with fail;refine gP ?_;repeat (go_big_quiet_step (exact cQ _ _))
       refine iW fun dq aZ=>?_
       have bq:=below_regrown wr dq aZ;go_wp2;go_ret;exact⟨by rw[QN,K.out.2.2,oI aK (by simp[Ex,HR.out])];rfl,K.out.1.trans (bq.mono K.out.1.size)⟩
  ·have:k=n:=by omega
   subst this;have hd:decide (k<k)=false:=by simp
   go_wp2;go_ret;exact⟨by rw[QN,hx,aO];rfl,aD⟩
theorem CK(w:World)(b off cap n:Nat)(xs:List S5)(hx:xs.length=n)(hn:n<=maxLen)(h1:aV w b off xs)(hb:b<w.1.size):
  Calls prog 271 #[.slice (some ⟨b,off,none⟩) n cap] w fun e w'=>e=.returned (.bool (tQ xs))/\Below w.1.size w w':=by
 unfold maxLen at hn;go_enter func271,ntmps271;go_wp2;go_loopw[7] (fun i wr=>∃k:Nat,k<=n/\i=vI k/\Below w.1.size w wr/\(List.range k).all (lZ xs)=true) (fun i _=>n-(intOf i).toNat)
 case atStart=>exact⟨0,Nat.zero_le _,rfl,aN,rfl⟩
 case round=>
  obtain⟨k,hk,rfl,aD,aO⟩:=hrel;have K:Hid (Below w.1.size w wr/\(List.range k).all (lZ xs)=true/\xs.length=n):=⟨aD,aO,hx⟩
  by_cases aK:k<n
  ·obtain⟨c0,c1,c2,c3,c4⟩:=(h1.get (i:=k) (by omega)).below aD hb;have Td:∀j,k=j+1->wr.cell? ⟨b,off+j*5+1,none⟩=some (vI (fJ xs j).e):=fun j e=>((h1.get (i:=j) (by omega)).below aD hb).c1
   have KP:Hid (∀j,k=j+1->wr.cell? ⟨b,off+j*5+1,none⟩=some (vI (fJ xs j).e)):=Td;have rI:b<wr.1.size:=Nat.lt_of_lt_of_le hb aD.size;clear Td aD aO h1 hx;have tz:aR (wr.alloc (.cells #[vI (fJ xs k).a,vI (fJ xs k).e,vI (fJ xs k).h,.bool (fJ xs k).j,vI (fJ xs k).i] 73)) wr.1.size 0 (fJ xs k):=⟨by go_simp,by go_simp,by go_simp,by go_simp,by go_simp⟩
   have TZ:Hid (aR (wr.alloc (.cells #[vI (fJ xs k).a,vI (fJ xs k).e,vI (fJ xs k).h,.bool (fJ xs k).j,vI (fJ xs k).i] 73)) wr.1.size 0 (fJ xs k)):=tz;clear tz;rcases k with _|j
   ·simp only[Nat.zero_mul,Nat.add_zero]at c0 c1 c2 c3 c4;go_wp2_with fail;generalize hW:wr.alloc (.cells #[vI (fJ xs 0).a,vI (fJ xs 0).e,vI (fJ xs 0).h,.bool (fJ xs 0).j,vI (fJ xs 0).i] 73)=W at TZ ⊢;have bW:Below wr.1.size wr W:=by subst hW;exact aN.alloc aU _
    have t1:=TZ.out.iA;have d0:=fun d os=>(t1 d os).c0
    have d1:=fun d os=>(t1 d os).c1
    have d2:=fun d os=>(t1 d os).c2
    have d3:=fun d os=>(t1 d os).c3
    have d4:=fun d os=>(t1 d os).c4
    simp only[Nat.zero_add]at d1 d2 d3 d4;have cQ:∀d os,Calls prog 165 #[.agg #[vI (fJ xs 0).a,vI (fJ xs 0).e,vI (fJ xs 0).h,.bool (fJ xs 0).j,vI (fJ xs 0).i]] (grow (redrawn W d) os) fun e eU=>e=.returned (.bool (bf (fJ xs 0)))/\∃p:Regrown,eU=grow (redrawn W p.d) p.os:=fun d os=>Calls.regrown_of (sG _ (fJ xs 0))
    clear hW c0 c1 c2 c3 c4 t1
    cases jG:bf (fJ xs 0)with
    | false=>
     rw[jG]at cQ;refine gP ?_;repeat (go_big_quiet_step (exact cQ _ _))
     refine iW fun dq aZ=>?_
     have bq:=below_regrown W dq aZ;go_wp2;go_ret;exact⟨by rw[tQ,K.out.2.2,oI aK (Bb jG)];rfl,K.out.1.trans ((bW.trans (bq.mono bW.size)).mono K.out.1.size)⟩
    | true=>
     rw[jG]at cQ;refine gP ?_;repeat (go_big_quiet_step (exact cQ _ _))
     refine iW fun dq aZ=>?_
     have bq:=below_regrown W dq aZ;go_wp2;exact⟨⟨1,by omega,by simp,K.out.1.trans ((bW.trans (bq.mono bW.size)).mono K.out.1.size),uN K.out.2.1 (Bc jG)⟩,by simp[intOf];omega⟩
   ·have hj:(j:Int)<(n:Int):=by omega
    have hp:=KP.out j rfl;go_wp2_with fail;generalize hW:wr.alloc (.cells #[vI (fJ xs (j+1)).a,vI (fJ xs (j+1)).e,vI (fJ xs (j+1)).h,.bool (fJ xs (j+1)).j,vI (fJ xs (j+1)).i] 73)=W at TZ ⊢;have bW:Below wr.1.size wr W:=by subst hW;exact aN.alloc aU _
    have t1:=TZ.out.iA;have d0:=fun d os=>(t1 d os).c0
    have d1:=fun d os=>(t1 d os).c1
    have d2:=fun d os=>(t1 d os).c2
    have d3:=fun d os=>(t1 d os).c3
    have d4:=fun d os=>(t1 d os).c4
    simp only[Nat.zero_add]at d1 d2 d3 d4;have p1:=cell_regrown ((bW.cell (p:=⟨b,off+j*5+1,none⟩) rI).trans hp);have cQ:∀d os,Calls prog 165 #[.agg #[vI (fJ xs (j+1)).a,vI (fJ xs (j+1)).e,vI (fJ xs (j+1)).h,.bool (fJ xs (j+1)).j,vI (fJ xs (j+1)).i]] (grow (redrawn W d) os) fun e eU=>e=.returned (.bool (bf (fJ xs (j+1))))/\∃p:Regrown,eU=grow (redrawn W p.d) p.os:=fun d os=>Calls.regrown_of (sG _ (fJ xs (j+1)))
    clear hW c0 c1 c2 c3 c4 t1 hp
    cases jG:bf (fJ xs (j+1))with
    | false=>
     rw[jG]at cQ;refine gP ?_;repeat (go_big_quiet_step (exact cQ _ _))
     refine iW fun dq aZ=>?_
     have bq:=below_regrown W dq aZ;go_wp2;go_ret;exact⟨by rw[tQ,K.out.2.2,oI aK (Bb jG)];rfl,K.out.1.trans ((bW.trans (bq.mono bW.size)).mono K.out.1.size)⟩
    | true=>
     rw[jG]at cQ;by_cases hs:(fJ xs (j+1)).e<=(fJ xs j).e
     ·skip
      refine gP ?_;repeat (go_big_quiet_step (exact cQ _ _))
      refine iW fun dq aZ=>?_
      have bq:=below_regrown W dq aZ;go_wp2;go_ret;exact⟨by rw[tQ,K.out.2.2,oI aK (DF hs)];rfl,K.out.1.trans ((bW.trans (bq.mono bW.size)).mono K.out.1.size)⟩
     ·have z8:decide ((fJ xs (j+1)).e<=(fJ xs j).e)=false:=by simp;omega
      refine gP ?_;repeat (go_big_quiet_step (exact cQ _ _))
      refine iW fun dq aZ=>?_
      have bq:=below_regrown W dq aZ;go_wp2;exact⟨⟨j+1+1,by omega,by simp,K.out.1.trans ((bW.trans (bq.mono bW.size)).mono K.out.1.size),uN K.out.2.1 (DC jG (by omega))⟩,by simp[intOf];omega⟩
  ·have:k=n:=by omega
   subst this;have hd:decide (k<k)=false:=by simp
   go_wp2;go_ret;exact⟨by rw[tQ,hx,aO];rfl,aD⟩
end
section
open Go.Proofs.Tryz
variable {r:Int}{xs:List S5}
theorem elsewhere(w:World)(g:Nat)(r:Int)(s:S5)(hg:w.cell? ⟨g,2,none⟩=some (vI r))(WL:g<w.1.size):
  Calls prog 270 #[.agg #[vI s.a,vI s.e,vI s.h,.bool s.j,vI s.i],.pointer (some ⟨g,0,none⟩)] w fun e w'=>e=.returned (.bool (!decide (s.a=r)))/\Below w.1.size w w':=by
 go_enter func270,ntmps270;go_wp2;go_ret;exact⟨dW (by simp),aN.alloc aU _⟩
theorem G9(h:∀i,i<xs.length->(fJ xs i).a=r):vL r xs=true:=by
 rw[vL,List.all_eq_true];intro s hs;obtain⟨i,hi,rfl⟩:=List.getElem_of_mem hs;have:=h i hi;rw[fJ,List.getElem?_eq_getElem hi]at this;simpa using this
theorem Ha{i:Nat}(hi:i<xs.length)(h:¬(fJ xs i).a=r):vL r xs=false:=by
 rw[vL,List.all_eq_false];refine⟨xs[i],List.getElem_mem hi,?_⟩;rw[fJ,List.getElem?_eq_getElem hi]at h;simpa using h
theorem Af(w:World)(g:Nat)(r:Int)(b off cap n:Nat)(xs:List S5)(hx:xs.length=n)(hn:n<=maxLen)(h1:aV w b off xs)(hb:b<w.1.size)(hg:w.cell? ⟨g,2,none⟩=some (vI r))(WL:g<w.1.size):
  Calls prog 255 #[.slice (some ⟨b,off,none⟩) n cap,.func (.func 270) #[] #[.pointer (some ⟨g,0,none⟩)]] w fun e w'=>∃i:Int,e=.returned (vI i)/\(0<=i↔vL r xs=false)/\Below w.1.size w w':=by
 unfold maxLen at hn;go_enter func255,ntmps255;go_wp2;go_loopw[8] (fun i wr=>∃k:Nat,k<=n/\i=vI k/\Below w.1.size w wr/\∀i,i<k->(fJ xs i).a=r) (fun i _=>n-(intOf i).toNat)
 case atStart=>exact⟨0,Nat.zero_le _,rfl,aN,fun i h=>absurd h (by omega)⟩
 case round=>
  obtain⟨k,hk,rfl,aD,aO⟩:=hrel;have K:Hid (Below w.1.size w wr/\(∀i,i<k->(fJ xs i).a=r)/\xs.length=n):=⟨aD,aO,hx⟩
  by_cases aK:k<n
  ·obtain⟨c0,c1,c2,c3,c4⟩:=(h1.get (i:=k) (by omega)).below aD hb;have mc:=(aD.cell (p:=⟨g,2,none⟩) WL).trans hg;clear aD aO h1 hx;by_cases hr:(fJ xs k).a=r
   ·have hd:(!decide ((fJ xs k).a=r))=false:=by simp[hr]
    have HR:Hid ((fJ xs k).a=r):=hr;clear hr;go_wp2_with fail;refine(elsewhere _ g r (fJ xs k) mc (Nat.lt_of_lt_of_le WL K.out.1.size)).mono ?_;rw[hd];rintro e w1 ⟨rfl,b1⟩;clear hd;go_wp2;refine⟨⟨k+1,by omega,by simp,K.out.1.trans (b1.mono K.out.1.size),fun i hi=>?_⟩,by simp[intOf];omega⟩;by_cases e:i=k
    ·rw[e];exact HR.out
    ·exact K.out.2.1 i (by omega)
   ·have hd:(!decide ((fJ xs k).a=r))=true:=by simp[hr]
    go_wp2_with fail;refine(elsewhere _ g r (fJ xs k) mc (Nat.lt_of_lt_of_le WL K.out.1.size)).mono ?_;rw[hd];rintro e w1 ⟨rfl,b1⟩;clear hd;go_wp2;go_ret;exact⟨(k:Int),rfl,by simp[Ha (xs:=xs) (i:=k) (by rw[K.out.2.2];exact aK) hr],K.out.1.trans (b1.mono K.out.1.size)⟩
  ·have:k=n:=by omega
   subst this;have hd:decide (k<k)=false:=by simp
   go_wp2;go_ret;exact⟨-1,rfl,by simp[G9 (r:=r) (xs:=xs) (by rw[hx];exact aO)],aD⟩
theorem uT(w:World)(g:Nat)(r:Int)(b off cap n:Nat)(xs:List S5)(hx:xs.length=n)(hn:n<=maxLen)(h1:aV w b off xs)(hb:b<w.1.size)(hg:w.cell? ⟨g,2,none⟩=some (vI r))(WL:g<w.1.size):
  Calls prog 236 #[.slice (some ⟨b,off,none⟩) n cap,.func (.func 270) #[] #[.pointer (some ⟨g,0,none⟩)]] w fun e w'=>e=.returned (.bool (!vL r xs))/\Below w.1.size w w':=by
 go_enter func236,ntmps236;go_wp2_with fail;refine(Af w g r b off cap n xs hx hn h1 hb hg WL).mono ?_;rintro e w1 ⟨i,rfl,hi,b1⟩;go_wp2;go_ret;refine⟨dW ?_,b1⟩;simp
theorem Ql(w:World)(x:Int):Calls prog 91 #[vI x] w fun e w'=>e=.returned (.bool (bH 1 1000000 x))/\w'=w:=by
 go_enter func91,ntmps91;go_wp2_with (go_at_call 15;refine(fF _ _ _ _).mono ?_;rintro e w' ⟨rfl,rfl⟩);go_ret;exact⟨rfl,rfl⟩
theorem jM(w:World)(x:Int):Calls prog 207 #[vI x] w fun e w'=>e=.returned (.bool (bH 1 1000000 x))/\w'=w:=by
 go_enter func207,ntmps207;go_wp2;all_goals (go_ret;refine⟨dW ?_,rfl⟩;simp[dI];try omega)
def oz(k t r:Int)(xs:List S5):Bool:=bH 1 3 k&&bH 1 1000000 t&&bH 0 5 r&&decide (1<=xs.length)&&decide (xs.length<=12)&&tQ xs&&vL r xs
def ma(k t r:Int)(xs:List S5):Bool:=bH 1 3 k&&bH 1 1000000 t&&bH 0 5 r&&decide (1<=xs.length)&&decide (xs.length<=12)&&QN xs&&decide ((fJ xs 0).a=r)
theorem Qk(k t r:Int)(xs:List S5):ma k t r xs=oz k t r xs:=by
 unfold ma oz;by_cases h:1<=xs.length
 ·have:(QN xs&&decide ((fJ xs 0).a=r))=(tQ xs&&vL r xs):=by
   rw[Bool.eq_iff_iff];simp only[Bool.and_eq_true,decide_eq_true_eq,QN,tQ,List.all_eq_true,List.mem_range,Ex,Bool.or_eq_true];constructor
   ·rintro ⟨h1,h2⟩;refine⟨fun i hi=>(h1 i hi).1,G9 fun i hi=>?_⟩;rcases(h1 i hi).2 with e|e
    ·rw[e];exact h2
    ·rw[e];exact h2
   ·rintro ⟨h1,h2⟩
    have ha:∀i,i<xs.length->(fJ xs i).a=r:=fun i hi=>by
     by_cases e:(fJ xs i).a=r
     ·exact e
     ·rw[Ha hi e]at h2;cases h2
    exact⟨fun i hi=>⟨h1 i hi,.inr (by rw[ha i hi,ha 0 (by omega)])⟩,ha 0 (by omega)⟩
  simp only[Bool.and_assoc,this]
 ·simp[h]
theorem vR(w:World)(k t r:Int)(b off cap n:Nat)(xs:List S5)(hx:xs.length=n)(hn:n<=maxLen)(h1:aV w b off xs)(hb:b<w.1.size):
  Calls prog 137 #[.agg #[vI k,vI t,vI r,.slice (some ⟨b,off,none⟩) n cap]] w fun e w'=>e=.returned (.bool (ma k t r xs))/\Below w.1.size w w':=by
 go_enter func137,ntmps137;go_wp2_with fail;have e0:(w.alloc (.cells #[vI k,vI t,vI r,.slice (some ⟨b,off,none⟩) n cap] 144)).cell? ⟨w.1.size,0,none⟩=some (vI k):=by go_simp
 have e1:(w.alloc (.cells #[vI k,vI t,vI r,.slice (some ⟨b,off,none⟩) n cap] 144)).cell? ⟨w.1.size,1,none⟩=some (vI t):=by go_simp
 have e2:(w.alloc (.cells #[vI k,vI t,vI r,.slice (some ⟨b,off,none⟩) n cap] 144)).cell? ⟨w.1.size,2,none⟩=some (vI r):=by go_simp
 have e3:(w.alloc (.cells #[vI k,vI t,vI r,.slice (some ⟨b,off,none⟩) n cap] 144)).cell? ⟨w.1.size,3,none⟩=some (.slice (some ⟨b,off,none⟩) n cap):=by go_simp
 generalize hW:w.alloc (.cells #[vI k,vI t,vI r,.slice (some ⟨b,off,none⟩) n cap] 144)=W at e0 e1 e2 e3 ⊢;have bW:Below w.1.size w W:=by subst hW;exact aN.alloc aU _
 clear hW;have Uu:=h1.below bW hb;have gJ:b<W.1.size:=Nat.lt_of_lt_of_le hb bW.size;have d0:=cell_regrown e0;have d1:=cell_regrown e1;have d2:=cell_regrown e2;have d3:=cell_regrown e3;have cK:∀d os,Calls prog 15 #[vI k,vI 1,vI 3] (grow (redrawn W d) os) fun e eU=>e=.returned (.bool (bH 1 3 k))/\∃p:Regrown,eU=grow (redrawn W p.d) p.os:=fun d os=>Calls.regrown_of ((fF _ _ _ _).mono fun _ _ ⟨h,h'⟩=>⟨h,by rw[h'];exact aN⟩)
 have cT:∀d os,Calls prog 91 #[vI t] (grow (redrawn W d) os) fun e eU=>e=.returned (.bool (bH 1 1000000 t))/\∃p:Regrown,eU=grow (redrawn W p.d) p.os:=fun d os=>Calls.regrown_of ((Ql _ _).mono fun _ _ ⟨h,h'⟩=>⟨h,by rw[h'];exact aN⟩)
 have cR:∀d os,Calls prog 98 #[vI r] (grow (redrawn W d) os) fun e eU=>e=.returned (.bool (bH 0 5 r))/\∃p:Regrown,eU=grow (redrawn W p.d) p.os:=fun d os=>Calls.regrown_of ((nA _ _).mono fun _ _ ⟨h,h'⟩=>⟨h,by rw[h'];exact aN⟩)
 have cS:∀d os,Calls prog 179 #[.slice (some ⟨b,off,none⟩) n cap] (grow (redrawn W d) os) fun e eU=>e=.returned (.bool (QN xs))/\∃p:Regrown,eU=grow (redrawn W p.d) p.os:=fun d os=>Calls.regrown_of (Gr _ b off cap n xs hx hn (Uu.below (below_regrown W d os) gJ) (Nat.lt_of_lt_of_le gJ (below_regrown W d os).size))
 have BK:n<=9223372036854775807:=hn;clear e0 e1 e2 e3
 cases g1:bH 1 3 k with
 | false=>
  rw[g1]at cK;refine gP ?_;repeat (go_big_quiet_step (first|(go_at_call 15;exact cK _ _)|(go_at_call 91;exact cT _ _)|(go_at_call 98;exact cR _ _)|(go_at_call 179;exact cS _ _)))
  refine iW fun dq aZ=>?_
  have bq:=below_regrown W dq aZ;go_wp2;go_ret;exact⟨by rw[ma,g1];rfl,bW.trans (bq.mono bW.size)⟩
 | true=>
  rw[g1]at cK
  cases g2:bH 1 1000000 t with
  | false=>
   rw[g2]at cT;refine gP ?_;repeat (go_big_quiet_step (first|(go_at_call 15;exact cK _ _)|(go_at_call 91;exact cT _ _)|(go_at_call 98;exact cR _ _)|(go_at_call 179;exact cS _ _)))
   refine iW fun dq aZ=>?_
   have bq:=below_regrown W dq aZ;go_wp2;go_ret;exact⟨by rw[ma,g1,g2];rfl,bW.trans (bq.mono bW.size)⟩
  | true=>
   rw[g2]at cT
   cases g3:bH 0 5 r with
   | false=>
    rw[g3]at cR;refine gP ?_;repeat (go_big_quiet_step (first|(go_at_call 15;exact cK _ _)|(go_at_call 91;exact cT _ _)|(go_at_call 98;exact cR _ _)|(go_at_call 179;exact cS _ _)))
    refine iW fun dq aZ=>?_
    have bq:=below_regrown W dq aZ;go_wp2;go_ret;exact⟨by rw[ma,g1,g2,g3];rfl,bW.trans (bq.mono bW.size)⟩
   | true=>
    rw[g3]at cR;by_cases g4:1<=n
    ·have z:=(Uu.get (i:=0) (by omega)).c0;simp only[Nat.zero_mul,Nat.add_zero]at z;have dz:=cell_regrown z;have HX:Hid (xs.length=n):=hx;have g4':(1:Int)<=(n:Int):=by omega
     have pZ:(0:Int)<(n:Int):=by omega
     clear z hx h1 Uu;by_cases g5:n<=12
     ·have p7:(n:Int)<=12:=by omega
      cases g6:QN xs with
      | false=>
       rw[g6]at cS;refine gP ?_;repeat (go_big_quiet_step (first|(go_at_call 15;exact cK _ _)|(go_at_call 91;exact cT _ _)|(go_at_call 98;exact cR _ _)|(go_at_call 179;exact cS _ _)))
       refine iW fun dq aZ=>?_
       have bq:=below_regrown W dq aZ;go_wp2;go_ret;exact⟨by rw[ma,g1,g2,g3,HX.out,decide_eq_true g4,decide_eq_true g5,g6];rfl,bW.trans (bq.mono bW.size)⟩
      | true=>
       rw[g6]at cS;by_cases g7:(fJ xs 0).a=r
       ·have qe:((fJ xs 0).a==r)=true:=by simp[g7]
        have H7:Hid ((fJ xs 0).a=r):=g7;clear g7;refine gP ?_;repeat (go_big_quiet_step (first|(go_at_call 15;exact cK _ _)|(go_at_call 91;exact cT _ _)|(go_at_call 98;exact cR _ _)|(go_at_call 179;exact cS _ _)))
        refine iW fun dq aZ=>?_
        have bq:=below_regrown W dq aZ;go_wp2;go_ret;exact⟨by rw[ma,g1,g2,g3,HX.out,decide_eq_true g4,decide_eq_true g5,g6,decide_eq_true H7.out];rfl,bW.trans (bq.mono bW.size)⟩
       ·have qe:((fJ xs 0).a==r)=false:=by simp[g7]
        refine gP ?_;repeat (go_big_quiet_step (first|(go_at_call 15;exact cK _ _)|(go_at_call 91;exact cT _ _)|(go_at_call 98;exact cR _ _)|(go_at_call 179;exact cS _ _)))
        refine iW fun dq aZ=>?_
        have bq:=below_regrown W dq aZ;go_wp2;go_ret;exact⟨by rw[ma,g1,g2,g3,HX.out,decide_eq_true g4,decide_eq_true g5,g6,decide_eq_false g7];rfl,bW.trans (bq.mono bW.size)⟩
     ·have p7:decide ((n:Int)<=12)=false:=by simp;omega
      refine gP ?_;repeat (go_big_quiet_step (first|(go_at_call 15;exact cK _ _)|(go_at_call 91;exact cT _ _)|(go_at_call 98;exact cR _ _)|(go_at_call 179;exact cS _ _)))
      refine iW fun dq aZ=>?_
      have bq:=below_regrown W dq aZ;go_wp2;go_ret;exact⟨by rw[ma,g1,g2,g3,HX.out,decide_eq_true g4,decide_eq_false (show ¬n<=12 by omega)];rfl,bW.trans (bq.mono bW.size)⟩
    ·have g4':decide (1<=(n:Int))=false:=by simp;omega
     have HX:Hid (xs.length=n):=hx;clear hx h1 Uu;refine gP ?_;repeat (go_big_quiet_step (first|(go_at_call 15;exact cK _ _)|(go_at_call 91;exact cT _ _)|(go_at_call 98;exact cR _ _)|(go_at_call 179;exact cS _ _)))
     refine iW fun dq aZ=>?_
     have bq:=below_regrown W dq aZ;go_wp2;go_ret;exact⟨by rw[ma,g1,g2,g3,HX.out,decide_eq_false (show ¬1<=n by omega)];rfl,bW.trans (bq.mono bW.size)⟩
theorem vQ(w:World)(k t r:Int)(a:OA)(cap:Nat):
  Calls prog 137 #[.agg #[vI k,vI t,vI r,.slice a 0 cap]] w fun e w'=>e=.returned (.bool (ma k t r []))/\Below w.1.size w w':=by
 go_enter func137,ntmps137;go_wp2_with fail;have e0:(w.alloc (.cells #[vI k,vI t,vI r,.slice a 0 cap] 144)).cell? ⟨w.1.size,0,none⟩=some (vI k):=by go_simp
 have e1:(w.alloc (.cells #[vI k,vI t,vI r,.slice a 0 cap] 144)).cell? ⟨w.1.size,1,none⟩=some (vI t):=by go_simp
 have e2:(w.alloc (.cells #[vI k,vI t,vI r,.slice a 0 cap] 144)).cell? ⟨w.1.size,2,none⟩=some (vI r):=by go_simp
 have e3:(w.alloc (.cells #[vI k,vI t,vI r,.slice a 0 cap] 144)).cell? ⟨w.1.size,3,none⟩=some (.slice a 0 cap):=by go_simp
 generalize hW:w.alloc (.cells #[vI k,vI t,vI r,.slice a 0 cap] 144)=W at e0 e1 e2 e3 ⊢;have bW:Below w.1.size w W:=by subst hW;exact aN.alloc aU _
 clear hW;have d0:=cell_regrown e0;have d1:=cell_regrown e1;have d2:=cell_regrown e2;have d3:=cell_regrown e3;have cK:∀d os,Calls prog 15 #[vI k,vI 1,vI 3] (grow (redrawn W d) os) fun e eU=>e=.returned (.bool (bH 1 3 k))/\∃p:Regrown,eU=grow (redrawn W p.d) p.os:=fun d os=>Calls.regrown_of ((fF _ _ _ _).mono fun _ _ ⟨h,h'⟩=>⟨h,by rw[h'];exact aN⟩)
 have cT:∀d os,Calls prog 91 #[vI t] (grow (redrawn W d) os) fun e eU=>e=.returned (.bool (bH 1 1000000 t))/\∃p:Regrown,eU=grow (redrawn W p.d) p.os:=fun d os=>Calls.regrown_of ((Ql _ _).mono fun _ _ ⟨h,h'⟩=>⟨h,by rw[h'];exact aN⟩)
 have cR:∀d os,Calls prog 98 #[vI r] (grow (redrawn W d) os) fun e eU=>e=.returned (.bool (bH 0 5 r))/\∃p:Regrown,eU=grow (redrawn W p.d) p.os:=fun d os=>Calls.regrown_of ((nA _ _).mono fun _ _ ⟨h,h'⟩=>⟨h,by rw[h'];exact aN⟩)
 clear e0 e1 e2 e3
 cases g1:bH 1 3 k with
 | false=>
  rw[g1]at cK;refine gP ?_;repeat (go_big_quiet_step (first|(go_at_call 15;exact cK _ _)|(go_at_call 91;exact cT _ _)|(go_at_call 98;exact cR _ _)))
  refine iW fun dq aZ=>?_
  have bq:=below_regrown W dq aZ;go_wp2;go_ret;exact⟨by rw[ma,g1];rfl,bW.trans (bq.mono bW.size)⟩
 | true=>
  rw[g1]at cK
  cases g2:bH 1 1000000 t with
  | false=>
   rw[g2]at cT;refine gP ?_;repeat (go_big_quiet_step (first|(go_at_call 15;exact cK _ _)|(go_at_call 91;exact cT _ _)|(go_at_call 98;exact cR _ _)))
   refine iW fun dq aZ=>?_
   have bq:=below_regrown W dq aZ;go_wp2;go_ret;exact⟨by rw[ma,g1,g2];rfl,bW.trans (bq.mono bW.size)⟩
  | true=>
   rw[g2]at cT
   cases g3:bH 0 5 r with
   | false=>
    rw[g3]at cR;refine gP ?_;repeat (go_big_quiet_step (first|(go_at_call 15;exact cK _ _)|(go_at_call 91;exact cT _ _)|(go_at_call 98;exact cR _ _)))
    refine iW fun dq aZ=>?_
    have bq:=below_regrown W dq aZ;go_wp2;go_ret;exact⟨by rw[ma,g1,g2,g3];rfl,bW.trans (bq.mono bW.size)⟩
   | true=>
    rw[g3]at cR;refine gP ?_;repeat (go_big_quiet_step (first|(go_at_call 15;exact cK _ _)|(go_at_call 91;exact cT _ _)|(go_at_call 98;exact cR _ _)))
    refine iW fun dq aZ=>?_
    have bq:=below_regrown W dq aZ;go_wp2;go_ret;exact⟨by rw[ma,g1,g2,g3];rfl,bW.trans (bq.mono bW.size)⟩
theorem xL(w:World)(k t r:Int)(a:OA)(n cap:Nat)(xs:List S5)(hn:n<=maxLen)(hs:Sl w w.1.size a n xs):
  Calls prog 137 #[.agg #[vI k,vI t,vI r,.slice a n cap]] w fun e w'=>e=.returned (.bool (oz k t r xs))/\Below w.1.size w w':=by
 obtain⟨h1,h2⟩:=hs;rw[<-Qk];rcases h2 with rfl|⟨b,off,rfl,hb,hx⟩
 ·rw[List.eq_nil_of_length_eq_zero h1];exact vQ w k t r a cap
 ·exact vR w k t r b off cap n xs h1 hn hx hb
end
end Go.Proofs.YtajmlpgodcfghaaGreatDoor
