import Derived.Test.YtajmlpgodcfghaaGreatDoorJ3Alloc
set_option maxHeartbeats 16000000
set_option maxRecDepth 100000
namespace Go.Proofs.YtajmlpgodcfghaaGreatDoor
open Go.RowKit
open Go.Sort (grow)
namespace tx
open Go.Proofs.Tryz
variable {W W' w:World}{b o q:Nat}{s:S5}{v:Value}{xs:List S5}
theorem uY{α:Type}{cells:α->List Value}{sz:Nat}(hl:∀s,(cells s).length=sz)(l:List α):(l.flatMap cells).length=l.length*sz:=by
 induction l with
 | nil=>simp
 | cons y l ih=>rw[List.flatMap_cons,List.length_append,ih,hl,List.length_cons,Nat.add_mul];omega
theorem LJ{α:Type}{cells:α->List Value}{T ST:TypeId}{sz BR:Nat}(hl:∀s,(cells s).length=sz)(h1:∀s,∀u∈cells s,u.oneCell'=true)(dO:0<sz){P:Program}{i0:TypeInfo}{z:Value}(ht:P.underlying ST=some (.slice T))(hi:P.info? T=some i0)(hz:i0.zero=some z)(hs:i0.size=sz)(UF:i0.bytes=BR)(l8:z.cells.size=sz)(qQ:BR<=1000)
  {W:World}{base:Nat}{v:Value}{xs:List α} (h:W.ownsRow base T sz v xs.length (xs.flatMap cells)) (ys:List α) (hm:xs.length+ys.length<=1048576) (ty:TypeId) (b off k:Nat) (src:∀i s,ys[i]?=some s->∀t u,(cells s)[t]?=some u->W.cell? ⟨b,off+i*sz+t,none⟩=some u) (gU:base<=W.1.size):
  ∃v' W',(Builtin.append_ #[ST,ST] ty #[v,.slice (some ⟨b,off,none⟩) ys.length k]).run P W=.ok v' W'/\W'.ownsRow base T sz v' (xs++ys).length ((xs++ys).flatMap cells)/\W.grownBy W' v.ownBlock/\(v'.ownBlock=v.ownBlock\/v'.ownBlock=some W.1.size):=by
 have wM:∀(b o j:Nat),(⟨b,o,none⟩:Addr).add j=⟨b,o+j,none⟩:=fun b o j=>by unfold Addr.add;split<;>simp_all
 obtain⟨v',W',kU,ig,hg,UW,fK⟩:=run_append_own_at (P:=P) W base ST ty T i0 z sz BR ht hi hz hs UF l8 dO
  v xs.length _ h ⟨b,off,none⟩ ys.length k (ys.flatMap cells) (uY hl ys) (fun j u hu=>by
   have hj:j<ys.length*sz:=by rw[<-uY hl];exact(List.getElem?_eq_some_iff.1 hu).1
   have hi:j/sz<ys.length:=Nat.div_lt_of_lt_mul (by rw[Nat.mul_comm];exact hj);have tH:=List.getElem?_eq_getElem hi;have XZ:j/sz*sz+j%sz=j:=Nat.div_add_mod' j sz;have:=kI (f:=cells) (l:=ys) (fun x _=>hl x) tH (Nat.mod_lt j dO);rw[XZ]at this;rw[wM,<-XZ,<-Nat.add_assoc]
   exact src _ _ tH _ u (by rw[<-this];exact hu))
  (fun u hu=>by obtain⟨s,_,hs⟩:=List.mem_flatMap.1 hu;exact h1 s u hs) (by unfold maxLen;omega) (by
   have:(xs.length+ys.length)*BR<=1048576*1000:=Nat.mul_le_mul hm qQ
   omega) gU
 rw[<-List.flatMap_append,<-List.length_append]at ig;exact⟨v',W',kU,ig,hg,fK⟩
theorem VV:∀s:S5,∀u∈S5.cells s,u.oneCell'=true:=fun s u hu=>by
 simp only[S5.cells,List.mem_cons,List.not_mem_nil,or_false]at hu;rcases hu with rfl|rfl|rfl|rfl|rfl<;>rfl
theorem RV:∀s:N5,∀u∈s.cells,u.oneCell'=true:=fun s u hu=>by
 simp only[N5.cells,List.mem_cons,List.not_mem_nil,or_false]at hu;rcases hu with rfl|rfl|rfl|rfl|rfl<;>rfl
theorem aR.D8(h:aR w b o s):∀t u,(S5.cells s)[t]?=some u->w.cell? ⟨b,o+t,none⟩=some u:=fun t u hu=>by
 rcases t with _|_|_|_|_|t
 ·simp[S5.cells]at hu;subst hu;exact h.c0
 ·simp[S5.cells]at hu;subst hu;exact h.c1
 ·simp[S5.cells]at hu;subst hu;exact h.c2
 ·simp[S5.cells]at hu;subst hu;exact h.c3
 ·simp[S5.cells]at hu;subst hu;exact h.c4
 ·simp[S5.cells]at hu
theorem aJ.D8{s:N5}(h:aJ w b o s):∀t u,s.cells[t]?=some u->w.cell? ⟨b,o+t,none⟩=some u:=fun t u hu=>by
 rcases t with _|_|_|_|_|t
 ·simp[N5.cells]at hu;subst hu;exact h.c0
 ·simp[N5.cells]at hu;subst hu;exact h.c1
 ·simp[N5.cells]at hu;subst hu;exact h.c2
 ·simp[N5.cells]at hu;subst hu;exact h.c3
 ·simp[N5.cells]at hu;subst hu;exact h.c4
 ·simp[N5.cells]at hu
def fC(W:World)(base:Nat)(v:Value)(xs:List S5):Prop:=W.ownsRow base 73 5 v xs.length (xs.flatMap S5.cells)
def fA(W:World)(base:Nat)(v:Value)(xs:List N5):Prop:=W.ownsRow base 70 5 v xs.length (xs.flatMap N5.cells)
theorem uD{base:Nat}(h:fC W base v xs)(ys:List S5)(hm:xs.length+ys.length<=1048576)(ty:TypeId)(b off k:Nat)(src:aV W b off ys)(gU:base<=W.1.size):
  ∃v' W',(Builtin.append_ #[51,51] ty #[v,.slice (some ⟨b,off,none⟩) ys.length k]).run prog W=.ok v' W'/\fC W' base v' (xs++ys)/\W.grownBy W' v.ownBlock/\(v'.ownBlock=v.ownBlock\/v'.ownBlock=some W.1.size):=by
 obtain⟨i0,qR,sD,lL,nL⟩:=partsOf zg;exact LJ (cells:=S5.cells) (fun _=>rfl) VV (by omega) underlying51 qR sD lL nL rfl (by omega) h ys hm ty b off k (fun i s e t u hu=>(src i s e).D8 t u hu) gU
theorem uC{base:Nat}{xs:List N5}(h:fA W base v xs)(ys:List N5)(hm:xs.length+ys.length<=1048576)(ty:TypeId)(b off k:Nat)(src:dm W b off ys)(gU:base<=W.1.size):
  ∃v' W',(Builtin.append_ #[50,50] ty #[v,.slice (some ⟨b,off,none⟩) ys.length k]).run prog W=.ok v' W'/\fA W' base v' (xs++ys)/\W.grownBy W' v.ownBlock/\(v'.ownBlock=v.ownBlock\/v'.ownBlock=some W.1.size):=by
 obtain⟨i0,qR,sD,lL,nL⟩:=partsOf Gp;exact LJ (cells:=N5.cells) (fun _=>rfl) RV (by omega) underlying50 qR sD lL nL rfl (by omega) h ys hm ty b off k (fun i s e t u hu=>(src i s e).D8 t u hu) gU
theorem fC.nil(W:World)(base:Nat):fC W base (.slice none 0 0) []:=⟨rfl,.inl ⟨rfl,rfl⟩⟩
theorem fA.nil(W:World)(base:Nat):fA W base (.slice none 0 0) []:=⟨rfl,.inl ⟨rfl,rfl⟩⟩
theorem fC.lt{base:Nat}(h:fC W base v xs)(e:v.ownBlock=some q):base<=q/\q<W.1.size:=World.ownsRow.lt h q e
theorem fA.lt{base:Nat}{xs:List N5}(h:fA W base v xs)(e:v.ownBlock=some q):base<=q/\q<W.1.size:=World.ownsRow.lt h q e
theorem Bf{base:Nat}{T:TypeId}{sz n:Nat}{vs:List Value}(h:W.ownsRow base T sz v n vs)(hk:∀q,v.ownBlock=some q->W'.1[q]?=W.1[q]?):W'.ownsRow base T sz v n vs:=by
 refine⟨h.1,h.2.imp id ?_⟩;rintro ⟨q,cap,cur,rfl,l,hg,r⟩;exact⟨q,cap,cur,rfl,l,(hk q rfl).trans hg,r⟩
theorem fC.aL{base:Nat}(h:fC W base v xs)(hk:∀q,base<=q->q<W.1.size->v.ownBlock=some q->W'.1[q]?=W.1[q]?):fC W' base v xs:=Bf h (fun q e=>hk q (h.lt e).1 (h.lt e).2 e)
theorem fA.aL{base:Nat}{xs:List N5}(h:fA W base v xs)(hk:∀q,base<=q->q<W.1.size->v.ownBlock=some q->W'.1[q]?=W.1[q]?):fA W' base v xs:=Bf h (fun q e=>hk q (h.lt e).1 (h.lt e).2 e)
theorem fC.later{base:Nat}(h:fC W base v xs)(hb:Below W.1.size W W'):fC W' base v xs:=h.aL (fun q _ hq _=>hb.block q hq)
theorem fA.later{base:Nat}{xs:List N5}(h:fA W base v xs)(hb:Below W.1.size W W'):fA W' base v xs:=h.aL (fun q _ hq _=>hb.block q hq)
theorem fC.form{base:Nat}(h:fC W base v xs):∃a c,v=.slice a xs.length c/\mP W (fun q=>v.ownBlock=some q) a xs:=by
 rcases h.2 with ⟨rfl,h0⟩|⟨q,cap,cur,rfl,hb,hg,hl,_⟩
 ·exact⟨none,0,by rw[h0],.inl (List.eq_nil_of_length_eq_zero h0)⟩
 ·refine⟨some ⟨q,0,none⟩,cap,rfl,.inr ⟨q,rfl,rfl,(World.ownsRow.lt h q rfl).2,P5 h,PZ h⟩⟩
theorem fA.form{base:Nat}{xs:List N5}(h:fA W base v xs):∃a c,v=.slice a xs.length c/\qG W (fun q=>v.ownBlock=some q) a xs:=by
 rcases h.2 with ⟨rfl,h0⟩|⟨q,cap,cur,rfl,hb,hg,hl,_⟩
 ·exact⟨none,0,by rw[h0],.inl (List.eq_nil_of_length_eq_zero h0)⟩
 ·refine⟨some ⟨q,0,none⟩,cap,rfl,.inr ⟨q,rfl,rfl,(World.ownsRow.lt h q rfl).2,M0 h,JG h⟩⟩
theorem fC.made(W:World):fC (W.alloc (.cells #[] 73)) W.1.size (.slice (some ⟨W.1.size,0,none⟩) 0 0) []:=World.ownsRow_made W #[] 0 aU (Nat.zero_le _) rfl
theorem fA.made(W:World):fA (W.alloc (.cells #[] 70)) W.1.size (.slice (some ⟨W.1.size,0,none⟩) 0 0) []:=World.ownsRow_made W #[] 0 aU (Nat.zero_le _) rfl
theorem aR.box(W:World)(s:S5)(T:TypeId):aR (W.alloc (.cells #[vI s.a,vI s.e,vI s.h,.bool s.j,vI s.i] T)) W.1.size 0 s:=⟨by go_simp,by go_simp,by go_simp,by go_simp,by go_simp⟩
theorem aJ.box(W:World)(s:N5)(T:TypeId):aJ (W.alloc (.cells #[vI s.a,vI s.e,vI s.i,vI s.h,.bool s.j] T)) W.1.size 0 s:=⟨by go_simp,by go_simp,by go_simp,by go_simp,by go_simp⟩
theorem aR.one(h:aR W b o s):aV W b o [s]:=fun i x e=>by
 rcases i with _|i
 ·simp at e;subst e;simpa using h
 ·simp at e
theorem aJ.one{s:N5}(h:aJ W b o s):dm W b o [s]:=fun i x e=>by
 rcases i with _|i
 ·simp at e;subst e;simpa using h
 ·simp at e
end tx
namespace tx
open Go.Proofs.Tryz
variable {W:World}{v:Value}
def Xn(w:World)(t:T7)(e:Ending)(w':World):Prop:=∃(a4:OA) (c4:Nat) (h4:OA) (d4:Nat) (PR PS:Nat->Prop),e=.returned ((TV.mk a4 c4 h4 d4).val t)/\OT w' w.1.size ⟨a4,c4,h4,d4⟩ t PR PS/\Below w.1.size w w'
theorem xx{base:Nat}{xs:List N5}(h:fA W base v xs)(ys:List N5)(hm:xs.length+ys.length<=1048576)(ty:TypeId)(a:OA)(k:Nat)(src:jP W W.1.size a ys.length ys)(gU:base<=W.1.size):
  ∃a' c' W',(Builtin.append_ #[50,50] ty #[v,.slice a ys.length k]).run prog W=.ok (.slice a' (xs++ys).length c') W'/\fA W' base (.slice a' (xs++ys).length c') (xs++ys)/\W.grownBy W' v.ownBlock/\((Value.slice a' (xs++ys).length c').ownBlock=v.ownBlock\/(Value.slice a' (xs++ys).length c').ownBlock=some W.1.size):=by
 by_cases e:ys=[]
 ·subst e;obtain⟨i0,qR,sD,lL,nL⟩:=partsOf Gp;obtain⟨a0,c0,rfl,-⟩:=h.form
  have hle:xs.length<=c0:=by
   rcases h.2 with ⟨h0,h1⟩|⟨q',aW,cur,h0,_,_,hc,_⟩
   ·rw[h1];exact Nat.zero_le _
   ·cases h0;exact hc
  simp only[List.append_nil];refine⟨a0,c0,W,?_,h,⟨rfl,rfl,rfl,Nat.le_refl _,fun _ _ _=>rfl⟩,.inl rfl⟩;refine run_append_nothing W 50 50 ty 70 i0 underlying50 qR a0 xs.length c0 hle (.slice a 0 k) ?_
  cases a with
  | none=>exact Src.ofNil W underlying50 k
  | some x=>exact Src.ofSlice W underlying50 x 0 k [] (by simp) (fun j u hu=>by simp at hu) (fun u hu=>by cases hu)
 ·have tF:0<ys.length:=List.length_pos_iff.2 e;obtain⟨_,src⟩:=src;rcases src with src|⟨b,off,rfl,hb,hx⟩
  ·omega
  obtain⟨v',W',h1,h2,h3,h4⟩:=uC h ys hm ty b off k hx gU;obtain⟨a',c',rfl,-⟩:=h2.form;exact⟨a',c',W',h1,h2,h3,h4⟩
theorem Ot{base:Nat}(h:fA W base v [])(ys:List N5)(hm:ys.length<=1048576)(ty:TypeId)(a:OA)(k:Nat)(src:jP W W.1.size a ys.length ys)(gU:base<=W.1.size):
  ∃a' c' W',(Builtin.append_ #[50,50] ty #[v,.slice a ys.length k]).run prog W=.ok (.slice a' ys.length c') W'/\fA W' base (.slice a' ys.length c') ys/\W.grownBy W' v.ownBlock:=
 let ⟨a',c',W',h1,h2,h3,_⟩:=xx h ys (by simpa using hm) ty a k src gU
 ⟨a',c',W',h1,h2,h3⟩
theorem xC{base:Nat}{xs:List S5}(h:fC W base v xs)(ys:List S5)(hm:xs.length+ys.length<=1048576)(ty:TypeId)(a:OA)(k:Nat)(src:Sl W W.1.size a ys.length ys)(gU:base<=W.1.size):
  ∃a' c' W',(Builtin.append_ #[51,51] ty #[v,.slice a ys.length k]).run prog W=.ok (.slice a' (xs++ys).length c') W'/\fC W' base (.slice a' (xs++ys).length c') (xs++ys)/\W.grownBy W' v.ownBlock/\((Value.slice a' (xs++ys).length c').ownBlock=v.ownBlock\/(Value.slice a' (xs++ys).length c').ownBlock=some W.1.size):=by
 by_cases e:ys=[]
 ·subst e;obtain⟨i0,qR,sD,lL,nL⟩:=partsOf zg;obtain⟨a0,c0,rfl,-⟩:=h.form
  have hle:xs.length<=c0:=by
   rcases h.2 with ⟨h0,h1⟩|⟨q',aW,cur,h0,_,_,hc,_⟩
   ·rw[h1];exact Nat.zero_le _
   ·cases h0;exact hc
  simp only[List.append_nil];refine⟨a0,c0,W,?_,h,⟨rfl,rfl,rfl,Nat.le_refl _,fun _ _ _=>rfl⟩,.inl rfl⟩;refine run_append_nothing W 51 51 ty 73 i0 underlying51 qR a0 xs.length c0 hle (.slice a 0 k) ?_
  cases a with
  | none=>exact Src.ofNil W underlying51 k
  | some x=>exact Src.ofSlice W underlying51 x 0 k [] (by simp) (fun j u hu=>by simp at hu) (fun u hu=>by cases hu)
 ·have tF:0<ys.length:=List.length_pos_iff.2 e;obtain⟨_,src⟩:=src;rcases src with src|⟨b,off,rfl,hb,hx⟩
  ·omega
  obtain⟨v',W',h1,h2,h3,h4⟩:=uD h ys hm ty b off k hx gU;obtain⟨a',c',rfl,-⟩:=h2.form;exact⟨a',c',W',h1,h2,h3,h4⟩
theorem Ou{base:Nat}(h:fC W base v [])(ys:List S5)(hm:ys.length<=1048576)(ty:TypeId)(a:OA)(k:Nat)(src:Sl W W.1.size a ys.length ys)(gU:base<=W.1.size):
  ∃a' c' W',(Builtin.append_ #[51,51] ty #[v,.slice a ys.length k]).run prog W=.ok (.slice a' ys.length c') W'/\fC W' base (.slice a' ys.length c') ys/\W.grownBy W' v.ownBlock:=
 let ⟨a',c',W',h1,h2,h3,_⟩:=xC h ys (by simpa using hm) ty a k src gU
 ⟨a',c',W',h1,h2,h3⟩
end tx
namespace tx
open Go.Proofs.Tryz
theorem sH(w:World)(v:TV)(t:T7)(hr:t.b.length<=1048576)(Tf:t.ag.length<=1048576)(h:kR w v t):
  Calls prog 110 #[v.val t] w (Xn w t):=by
 obtain⟨ar,cr,ah,ch⟩:=v;simp only[TV.val];obtain⟨W1,gZ⟩:∃W1,W1=w.alloc (.cells #[vI t.id,vI t.l,vI t.o,vI t.u,.slice ar t.b.length cr,.slice ah t.ag.length ch,vI t.az] 53):=⟨_,rfl⟩
 have z1:W1.1.size=w.1.size+1:=by rw[gZ];simp
 have x1:BT W1 w.1.size ⟨ar,cr,ah,ch⟩ t:=by rw[gZ];exact BT.box w ⟨ar,cr,ah,ch⟩ t _
 have b1:Below w.1.size w W1:=by rw[gZ];exact aN.alloc aU _
 obtain⟨W,hW⟩:∃W2,W2=W1.alloc (.cells #[vI 0,vI 0,vI 0,vI 0,.slice none 0 0,.slice none 0 0,vI 0] 53):=⟨_,rfl⟩
 have b2:Below W1.1.size W1 W:=by rw[hW];exact aN.alloc aU _
 have yR:BT W (w.1.size+1) ⟨none,0,none,0⟩ ⟨0,0,0,0,[],[],0⟩:=by rw[hW,<-z1];exact BT.zero W1 _
 have sW:W.1.size=w.1.size+2:=by rw[hW];simp[z1]
 have yA:BT W w.1.size ⟨ar,cr,ah,ch⟩ t:=x1.later b2;have bW:Below w.1.size w W:=b1.trans (b2.mono b1.size);have tZ:Below W.1.size W W:=aN;obtain⟨a1,c1,Y1,kK,jB,F3⟩:=Ot (fA.nil W W.1.size) t.b hr 50 ar cr ((h.later (bW.trans (tZ.mono bW.size))).r) tZ.size;have pR:Below W.1.size W Y1:=tZ.grown F3 tZ.size (fun q e=>by cases e);have Nt:BT Y1 w.1.size ⟨ar,cr,ah,ch⟩ t:=yA.later pR;have TH:=yR.later pR;have QT:BT (Y1.setCell ⟨w.1.size,4,none⟩ (.slice a1 t.b.length c1)) w.1.size ⟨a1,c1,ah,ch⟩ t:=Nt.JS a1 c1 t.b;have TI:=TH.dX (p:=⟨w.1.size,4,none⟩) (by dsimp only;omega) (.slice a1 t.b.length c1);have Kz:Below w.1.size w (Y1.setCell ⟨w.1.size,4,none⟩ (.slice a1 t.b.length c1)):=(bW.trans (pR.mono bW.size)).setCell (p:=⟨w.1.size,4,none⟩) aU _;have Bd:fA (Y1.setCell ⟨w.1.size,4,none⟩ (.slice a1 t.b.length c1)) W.1.size (.slice a1 t.b.length c1) t.b:=jB.aL (fun q hq _ _=>Below.heap_setCell _ _ _ _ (by show q≠w.1.size;omega));have WZ:(Y1.setCell ⟨w.1.size,4,none⟩ (.slice a1 t.b.length c1)).1.size=Y1.1.size:=by simp[World.setCell]
 have Ij:Below (Y1.setCell ⟨w.1.size,4,none⟩ (.slice a1 t.b.length c1)).1.size (Y1.setCell ⟨w.1.size,4,none⟩ (.slice a1 t.b.length c1)) (Y1.setCell ⟨w.1.size,4,none⟩ (.slice a1 t.b.length c1)):=aN;obtain⟨a2,c2,Y2,oC,rX,F4⟩:=Ou (fC.nil (Y1.setCell ⟨w.1.size,4,none⟩ (.slice a1 t.b.length c1)) (Y1.setCell ⟨w.1.size,4,none⟩ (.slice a1 t.b.length c1)).1.size) t.ag Tf 51 ah ch ((h.later (Kz.trans (Ij.mono Kz.size))).s) Ij.size;have qM:Below (Y1.setCell ⟨w.1.size,4,none⟩ (.slice a1 t.b.length c1)).1.size (Y1.setCell ⟨w.1.size,4,none⟩ (.slice a1 t.b.length c1)) Y2:=Ij.grown F4 Ij.size (fun q e=>by cases e);have NB:BT Y2 w.1.size ⟨a1,c1,ah,ch⟩ t:=QT.later qM;have TJ:=TI.later qM;have gg:BT (Y2.setCell ⟨w.1.size,5,none⟩ (.slice a2 t.ag.length c2)) w.1.size ⟨a1,c1,a2,c2⟩ t:=NB.Bl a2 c2 t.ag;have TK:=TJ.dX (p:=⟨w.1.size,5,none⟩) (by dsimp only;omega) (.slice a2 t.ag.length c2);have nG:Below w.1.size w (Y2.setCell ⟨w.1.size,5,none⟩ (.slice a2 t.ag.length c2)):=(Kz.trans (qM.mono Kz.size)).setCell (p:=⟨w.1.size,5,none⟩) aU _;have l7:fA (Y2.setCell ⟨w.1.size,5,none⟩ (.slice a2 t.ag.length c2)) W.1.size (.slice a1 t.b.length c1) t.b:=(Bd.later qM).aL (fun q hq _ _=>Below.heap_setCell _ _ _ _ (by show q≠w.1.size;omega));have Im:W.1.size<=(Y1.setCell ⟨w.1.size,4,none⟩ (.slice a1 t.b.length c1)).1.size:=by rw[WZ];exact pR.size
 have nW:fC (Y2.setCell ⟨w.1.size,5,none⟩ (.slice a2 t.ag.length c2)) (Y1.setCell ⟨w.1.size,4,none⟩ (.slice a1 t.b.length c1)).1.size (.slice a2 t.ag.length c2) t.ag:=rX.aL (fun q hq _ _=>Below.heap_setCell _ _ _ _ (by show q≠w.1.size;omega));have jq:=TK.put ⟨a1,c1,a2,c2⟩ t;have p4:=yA.c4;have k4:=Nt.c4;have Fu:=Nt.fz 4;have p5:=(QT.later Ij).c5;have k5:=NB.c5;have Tq:=NB.fz 5;dsimp only at p4 k4 p5 k5;obtain⟨o0,o1,o2,o3,o4,o5,o6,-,-⟩:=gg;have KR:=TK;have OZ:∀q,(Value.slice a1 t.b.length c1).ownBlock=some q->W.1.size<=q/\q<(Y1.setCell ⟨w.1.size,4,none⟩ (.slice a1 t.b.length c1)).1.size:=fun q e=>Bd.lt e
 have KO:OT (Y2.setCell ⟨w.1.size,5,none⟩ (.slice a2 t.ag.length c2)) w.1.size ⟨a1,c1,a2,c2⟩ t (fun q=>(Value.slice a1 t.b.length c1).ownBlock=some q) (fun q=>(Value.slice a2 t.ag.length c2).ownBlock=some q):=by
  obtain⟨_,_,e1,o1⟩:=l7.form;obtain⟨_,_,e2,o2⟩:=nW.form
  cases e1;cases e2;exact⟨o1,o2,fun q h1 h2=>by have:=(OZ q h1).2;have:=(nW.lt h2).1;omega,fun q h1=>⟨by have:=(l7.lt h1).1;omega,(l7.lt h1).2⟩,fun q h1=>⟨by have:=(nW.lt h1).1;omega,(nW.lt h1).2⟩⟩
 have KH:Hid (OT (Y2.setCell ⟨w.1.size,5,none⟩ (.slice a2 t.ag.length c2)) w.1.size ⟨a1,c1,a2,c2⟩ t (fun q=>(Value.slice a1 t.b.length c1).ownBlock=some q) (fun q=>(Value.slice a2 t.ag.length c2).ownBlock=some q)/\Below w.1.size w (Y2.setCell ⟨w.1.size,5,none⟩ (.slice a2 t.ag.length c2))/\(∀q,nC (fun q=>(Value.slice a1 t.b.length c1).ownBlock=some q) (fun q=>(Value.slice a2 t.ag.length c2).ownBlock=some q) q->w.1.size+2<=q)):=⟨KO,nG,fun q hq=>by
  rcases hq with hq|hq
  ·have:=(l7.lt hq).1;omega
  ·have:=(nW.lt hq).1;omega⟩
 simp only[iw]at jq;obtain⟨u0,u1,u2,u3,u4,u5,u6,-,-⟩:=jq;have KX:Hid (((Y2.setCell ⟨w.1.size,5,none⟩ (.slice a2 t.ag.length c2)).cell? ⟨w.1.size,0,none⟩=some (vI t.id)/\(Y2.setCell ⟨w.1.size,5,none⟩ (.slice a2 t.ag.length c2)).cell? ⟨w.1.size,1,none⟩=some (vI t.l)/\(Y2.setCell ⟨w.1.size,5,none⟩ (.slice a2 t.ag.length c2)).cell? ⟨w.1.size,2,none⟩=some (vI t.o)/\(Y2.setCell ⟨w.1.size,5,none⟩ (.slice a2 t.ag.length c2)).cell? ⟨w.1.size,3,none⟩=some (vI t.u)/\(Y2.setCell ⟨w.1.size,5,none⟩ (.slice a2 t.ag.length c2)).cell? ⟨w.1.size,4,none⟩=some (.slice a1 t.b.length c1)/\(Y2.setCell ⟨w.1.size,5,none⟩ (.slice a2 t.ag.length c2)).cell? ⟨w.1.size,5,none⟩=some (.slice a2 t.ag.length c2)/\(Y2.setCell ⟨w.1.size,5,none⟩ (.slice a2 t.ag.length c2)).cell? ⟨w.1.size,6,none⟩=some (vI t.az))/\BT (Y2.setCell ⟨w.1.size,5,none⟩ (.slice a2 t.ag.length c2)) (w.1.size+1) ⟨none,0,none,0⟩ ⟨0,0,0,0,[],[],0⟩):=⟨⟨o0,o1,o2,o3,o4,o5,o6⟩,KR⟩
 have KU:=ay (And.intro u0 (And.intro u1 (And.intro u2 (And.intro u3 (And.intro u4 (And.intro u5 u6))))));have K1:=ay (And.intro k4 (And.intro Fu p5));have K2:=ay (And.intro k5 Tq);have R1:=ay kK;have R2:=ay oC;rw[gZ]at hW;have ZK:W.1.size=w.1.size+1+1:=by omega
 clear sW;clear gZ x1 b1 b2 z1 yA yR bW tZ pR jB F3 Nt TH QT TI Kz Bd Ij rX F4 qM NB TJ nG l7 nW Im OZ h KO KR o0 o1 o2 o3 o4 o5 o6 u0 u1 u2 u3 u4 u5 u6 k4 Fu p5 k5 Tq kK oC;go_enter func110,ntmps110;have r1:=R1.out;have r2:=R2.out;skip;skip;rw[hW]at r1;obtain⟨k4,Fu,p5⟩:=K1.out;obtain⟨k5,Tq⟩:=K2.out;obtain⟨⟨o0,o1,o2,o3,o4,o5,o6⟩,⟨r0,r1',r2',r3,r4,r5,r6,fr,-⟩⟩:=KX.out;have f0:=fr 0;have f1:=fr 1;have f2:=fr 2;have f3:=fr 3;have f4:=fr 4;have f5:=fr 5;have f6:=fr 6;clear fr K1 K2 KX R1 R2 hW p4 WZ ZK;go_wp2_with (first|(at_builtin;refine dF _ rfl (.const (.slice none 0 0)) (.tmp 4) 50 rfl _ _ _ _ rfl rfl r1 ?_)|(at_builtin;refine dF _ rfl (.const (.slice none 0 0)) (.tmp 8) 51 rfl _ _ _ _ rfl rfl r2 ?_));obtain⟨u0,u1,u2,u3,u4,u5,u6⟩:=KU.out;refine bodyPost_ret (v:=.agg #[vI t.id,vI t.l,vI t.o,vI t.u,.slice a1 t.b.length c1,.slice a2 t.ag.length c2,vI t.az]) (by simp[results,results110,go_sem,u0,u1,u2,u3,u4,u5,u6]) rfl ?_;obtain⟨ot,bX,q2⟩:=KH.out;refine⟨a1,c1,a2,c2,fun q=>(Value.slice a1 t.b.length c1).ownBlock=some q,fun q=>(Value.slice a2 t.ag.length c2).ownBlock=some q,rfl,?_,?_⟩
 ·exact ot.aL (by simp[World.setCell]) (fun q _ hq=>fq (s:=w.1.size+1) (v:=⟨a1,c1,a2,c2⟩) (t:=t) (by have:=q2 q hq;omega))
 ·exact bS (s:=w.1.size+1) (v:=⟨a1,c1,a2,c2⟩) (t:=t) bX (by omega)
end tx
section
open Go.Proofs.Tryz
theorem Ma(w:World)(b off cap:Nat)(zs:List Int)(hb:b<w.1.size)(hs:dQ w b off zs)(hn:zs.length<=1000):
  Calls prog 124 #[.slice (some ⟨b,off,none⟩) zs.length cap] w fun e w'=>∃q cp,e=.returned (.slice (some ⟨q,0,none⟩) zs.length cp)/\ON w' w.1.size (.slice (some ⟨q,0,none⟩) zs.length cp) zs/\Below w.1.size w w':=by
 have bA:Below w.1.size w (w.alloc (.cells #[] 2)):=aN.alloc aU _;obtain⟨v',W',hr,ho,hg,hl⟩:=Dv (w.alloc (.cells #[] 2)) w.1.size _ [] zs b off cap 54 (ON.empty w) (hs.below bA hb) (by simp;omega) bA.size;rw[List.nil_append]at ho;have lu:Below w.1.size w W':=bA.grown hg bA.size (fun k h=>by cases h;exact Nat.le_refl _)
 obtain⟨g,cp,rfl⟩:∃g cp,v'=.slice (some ⟨g,0,none⟩) zs.length cp:=by
  rcases ho.form with ⟨rfl,_⟩|⟨g,cp,e,_⟩
  ·rcases hl with h|h<;>cases h
  ·exact⟨g,cp,e⟩
 have HK:Hid (ON W' w.1.size (.slice (some ⟨g,0,none⟩) zs.length cp) zs/\Below w.1.size w W'):=⟨ho,lu⟩
 clear ho hg hl lu bA hs;have heq:(binOp .eql 54 (.slice (some ⟨b,off,none⟩) zs.length cap) (.slice none 0 0)).run prog w=.ok (.bool false) w:=Go.Lib.run_eql_slice_nil w 54 2 (some ⟨b,off,none⟩) zs.length cap 0 0 underlying54;go_enter func124,ntmps124;go_wp2_with (at_builtin;refine dF _ rfl (.tmp 5) (.tmp 6) 54 rfl _ _ _ _ rfl rfl hr ?_);go_ret;exact⟨g,cp,rfl,HK.out.1,HK.out.2⟩
theorem nz(w:World)(a1:OA)(c1:Nat)(a2:OA)(c2:Nat)(a3:OA)(c3:Nat)(k:C6)(hk:aF k=true)(h:cO.Rd w a1 c1 a2 c2 a3 c3 k):
  Calls prog 72 #[.agg #[vI k.v,vI k.q,.slice a1 k.f.length c1,.slice a2 k.aa.length c2,.slice a3 k.c.length c3,.bool k.w]] w (SE w k):=by
 have H:Hid (QU k/\cO.Rd w a1 c1 a2 c2 a3 c3 k):=⟨QU.of hk,h⟩
 clear hk h;obtain⟨W0,dS⟩:∃X,X=((w.alloc (.cells #[vI k.v,vI k.q,.slice a1 k.f.length c1,.slice a2 k.aa.length c2,.slice a3 k.c.length c3,.bool k.w] 32)).alloc (.cells #[vI 0,vI 0,.slice none 0 0,.slice none 0 0,.slice none 0 0,.bool false] 32)).alloc (.cells #[vI k.v,vI k.q,.slice none 0 0,.slice none 0 0,.slice none 0 0,.bool k.w] 32):=⟨_,rfl⟩
 have S0:Hid (CZ w (dR a1 c1 a2 c2 a3 c3 k) nJ k W0 (.slice none 0 0) (.slice none 0 0) (.slice none 0 0) [] jJ [] jJ [] jJ):=by
  obtain⟨U1,Cc,b1,x1,z1⟩:=jU w (dR a1 c1 a2 c2 a3 c3 k) 32;obtain⟨U2,OI,b2,x2,z2⟩:=jU U1 nJ 32;have x3:Bx W0 U2.1.size [vI k.v,vI k.q,.slice none 0 0,.slice none 0 0,.slice none 0 0,.bool k.w]:=by rw[dS,OI,Cc];exact Bx.made _ [vI k.v,vI k.q,.slice none 0 0,.slice none 0 0,.slice none 0 0,.bool k.w] _
  have b3:Below U2.1.size U2 W0:=by rw[dS,OI,Cc];exact aN.alloc aU _
  rw[show U2.1.size=w.1.size+2 by omega]at x3;rw[show U1.1.size=w.1.size+1 by omega]at x2;exact⟨(x1.later b2).later b3,x2.later b3,x3,uL.nil _ _ _,au (au b1 b2) b3⟩
 have p2:=S0.out.arg.1 2 _ rfl;rw[dS]at p2;go_enter func72,ntmps72;go_wp2;rw[<-dS];rw[<-dS]at p2;clear dS p2;go_loopw[21] (fun v wr=>∃(j:Nat) (bP:OA) (dP:Nat) (ps:List ((Nat×Nat)×List Int)) (gp:Nat->Nat->Prop),j<=k.f.length/\v=vI j/\ps.map (·.2)=k.f.take j/\CZ w (dR a1 c1 a2 c2 a3 c3 k) nJ k wr (.slice bP j dP) (.slice none 0 0) (.slice none 0 0) ps gp [] jJ [] jJ) (fun v _=>k.f.length-(intOf v).toNat)
 case atStart=>exact⟨0,none,0,[],jJ,Nat.zero_le _,rfl,by simp,S0.out⟩
 case round=>
  obtain⟨j,bP,dP,ps,gp,hj,rfl,oO,eZ⟩:=hrel;have mh:k.f.length<=1000:=by have:=H.out.1.p;omega
  have p2:=eZ.arg.1 2 _ rfl;have p3:=eZ.arg.1 3 _ rfl;have p4:=eZ.arg.1 4 _ rfl;by_cases aK:j<k.f.length
  ·skip
   have bg:=gB aK;have Gc:ps.length=j:=by have:=congrArg List.length oO;simpa[Nat.min_eq_left hj]using this
   have fG:=H.out.2.later eZ.yu;obtain⟨_,gM⟩:=fG.p;rcases gM with h0|⟨b,off,rfl,hb,gM⟩
   ·omega
   obtain⟨z0,z1,e0,⟨_,l8⟩,kL⟩:=gM j _ bg;obtain⟨lL,Io⟩:=H.out.1.ps _ (List.mem_of_getElem? bg);rcases l8 with h0|⟨zb,zo,rfl,WV,YB⟩
   ·omega
   have QE:=e0;clear gM fG;obtain⟨X0,OL,bX,xX,-⟩:=jU wr [.slice (some ⟨zb,zo,none⟩) (dY k.f j).length z1] 102;have jh:=Ma X0.drew zb zo z1 (dY k.f j) (by have:=bX.size;show zb<X0.1.size;omega) (YB.below (bX.drew) WV) (by omega);have HS:=ay eZ;have HX:Hid (Below wr.1.size wr X0/\wr.1.size+1<=X0.1.size):=⟨bX,by rw[OL];simp⟩
   have HB:=ay xX;have HM:Hid (ps.map (·.2)=k.f.take j/\ps.length=j/\k.f[j]?=some (dY k.f j)):=⟨oO,Gc,bg⟩
   clear eZ bX xX oO Gc bg YB WV kL;go_wp2_with fail;rw[<-OL];clear OL;refine bO 9 (fun X:World=>Bx X (w.1.size+2) [vI k.v,vI k.q,(.slice bP j dP),(.slice none 0 0),(.slice none 0 0),.bool k.w]/\Bx X wr.1.size [.slice (some ⟨zb,zo,none⟩) (dY k.f j).length z1]) (by kernel_rfl) ?_;have dZ:(fun X:World=>Bx X (w.1.size+2) [vI k.v,vI k.q,(.slice bP j dP),(.slice none 0 0),(.slice none 0 0),.bool k.w]/\Bx X wr.1.size [.slice (some ⟨zb,zo,none⟩) (dY k.f j).length z1]) X0.drew:=⟨(HS.out.own.later HX.out.1).later aN.drew,(HB.out).later aN.drew⟩
   have HD:Hid (Below wr.1.size wr X0.drew/\X0.1.size<=X0.drew.1.size):=⟨au HX.out.1 aN.drew,Nat.le_refl _⟩
   have lP:wr.1.size<X0.drew.1.size:=dZ.2.2.2;generalize X0.drew=XD at *;refine eP 0 ?_ rfl ?_ dZ ?_;rotate_left
   ·(intro w aH;go_simp;first|done|with_reducible rfl)
   simp only[Act.put];refine eP 1 ?_ rfl ?_ dZ ?_;rotate_left
   ·(intro w aH;have q:=aH.1.1 2 _ rfl;go_simp;first|done|with_reducible rfl|exact q)
   simp only[Act.put];refine eP 2 ?_ rfl ?_ dZ ?_;rotate_left
   ·(intro w aH;go_simp;first|done|with_reducible rfl)
   simp only[Act.put];refine eP 3 ?_ rfl ?_ dZ ?_;rotate_left
   ·(intro w aH;have q:=aH.2.1 0 _ rfl;go_simp;first|done|with_reducible rfl|exact q)
   simp only[Act.put];refine ed 4 rfl (fun K hK=>?_);go_simp;refine jh.mono ?_;clear jh;rintro e X2 ⟨q,cp,rfl,ho,b2⟩;have hO:BH.Ow X2 wr.1.size (q,cp) (dY k.f j) (fun x=>x=q):=BH.low ho.kp HD.out.1.size;have Q:=fun x:Nat=>x=q
   have nG:Below wr.1.size wr X2:=au HD.out.1 b2;have gF:(fun X:World=>Bx X (w.1.size+2) [vI k.v,vI k.q,(.slice bP j dP),(.slice none 0 0),(.slice none 0 0),.bool k.w]/\Bx X wr.1.size [.slice (some ⟨zb,zo,none⟩) (dY k.f j).length z1]) X2:=⟨dZ.1.later b2,dZ.2.later b2⟩
   obtain⟨X3,nK,b3,x3,-⟩:=jU X2 [(.slice (some ⟨q,0,none⟩) (dY k.f j).length cp)] 102;have jX:(fun X:World=>Bx X (w.1.size+2) [vI k.v,vI k.q,(.slice bP j dP),(.slice none 0 0),(.slice none 0 0),.bool k.w]/\Bx X wr.1.size [.slice (some ⟨zb,zo,none⟩) (dY k.f j).length z1]) X3:=⟨gF.1.later b3,gF.2.later b3⟩
   obtain⟨v',Y,hr,rE,kM,iq,dO,a',c',rfl⟩:=HS.out.LG (au nG b3) (q,cp) (dY k.f j) (fun x=>x=q) X2.1.size (by rw[HM.out.2.1];omega) 28 x3.1 (BH.aL hO b3.size (fun q hq=>b3.block q (BH.of hO hq).2));have oF:(fun X:World=>Bx X (w.1.size+2) [vI k.v,vI k.q,(.slice bP j dP),(.slice none 0 0),(.slice none 0 0),.bool k.w]/\Bx X wr.1.size [.slice (some ⟨zb,zo,none⟩) (dY k.f j).length z1]) Y:=⟨kM,jX.2.aj (iq _ (.inr ⟨by have:=HD.out.1.size;omega,jX.2.2.2⟩)) dO⟩
   have HE:Hid ((ps++[((q,cp),dY k.f j)]).map (·.2)=k.f.take (j+1)):=by unfold Hid;rw[List.map_append,HM.out.1];exact mM HM.out.2.2
   rw[HM.out.2.1]at hr rE;have KE:=ay rE;refine hK.out _ _ (fun _=>gF) ?_;clear hK K b2 nG b3 x3 rE kM iq dO hO dZ;refine eP 5 ?_ rfl ?_ gF ?_;rotate_left
   ·(intro w aH;go_simp;first|done|with_reducible rfl)
   simp only[Act.put];refine ed 6 rfl (fun K hK=>?_);go_simp;rw[<-nK];refine hK.out _ _ (fun _=>jX) ?_;clear hK K gF;refine ed 7 rfl (fun K hK=>?_);refine bJ _ rfl (.tmp 26) (.tmp 31) 28 rfl _ _ _ _ (by first|rfl|simp[Act.eval,Act.put]) (by first|rfl|simp[Act.eval,Act.put]) hr ?_;refine hK.out _ _ (fun _=>oF) ?_;clear hK K hr jX nK;simp only[Act.put];refine ed 8 rfl (fun K hK=>?_);go_simp;refine hK.out _ _ (fun _=>oF) ?_;clear hK K;refine ed 9 rfl (fun K hK=>?_);have o2:=oF.1.1 2 _ rfl;have Zo:=oF.1.2.1 2;go_simp;refine hK.out _ _ (fun h=>absurd rfl h) ?_;clear hK K;refine cZ (by kernel_rfl) ?_ _;go_wp2;exact⟨⟨j+1,a',c',_,_,by omega,by simp,HE.out,KE.out⟩,by simp[intOf];omega⟩
  ·obtain rfl:k.f.length=j:=by omega
   have hd:decide ((k.f.length:Int)<(k.f.length:Int))=false:=by simp
   rw[List.take_length]at oO;have EP:Hid (ps.map (·.2)=k.f):=oO;have S1:=ay eZ;clear oO eZ hj aK mh;go_wp2;clear p2 p3 p4;generalize wr=WP at *;go_loopw[38] (fun v wr=>∃(j:Nat) (bM:OA) (dM:Nat) (ms:List ((MV)×M4)) (gm:Nat->Nat->Prop),j<=k.aa.length/\v=vI j/\ms.map (·.2)=k.aa.take j/\CZ w (dR a1 c1 a2 c2 a3 c3 k) nJ k wr (.slice bP k.f.length dP) (.slice bM j dM) (.slice none 0 0) ps gp ms gm [] jJ) (fun v _=>k.aa.length-(intOf v).toNat)
   case atStart=>exact⟨0,none,0,[],jJ,Nat.zero_le _,rfl,by simp,S1.out⟩
   case round=>
    obtain⟨j,bM,dM,ms,gm,hj,rfl,oO,eZ⟩:=hrel;have mh:k.aa.length<=1000:=by have:=H.out.1.m;omega
    have p2:=eZ.arg.1 2 _ rfl;have p3:=eZ.arg.1 3 _ rfl;have p4:=eZ.arg.1 4 _ rfl;by_cases aK:j<k.aa.length
    ·skip
     have bg:=iP aK;have Gc:ms.length=j:=by have:=congrArg List.length oO;simpa[Nat.min_eq_left hj]using this
     have fG:=H.out.2.later eZ.yu;rcases fG.m with h0|⟨b,off,rfl,hb,rH⟩
     ·rw[h0]at aK;simp at aK
     obtain⟨⟨m0,m1,m2,m3,m4,m5⟩,lS,Li⟩:=rH j _ bg;have QE:wr.cell? ⟨b,off+j*4,none⟩=some (.bool (aT k.aa j).x):=lS 0 _ rfl;have Ur:wr.cell? ⟨b,off+j*4+1,none⟩=some (.slice m0 (aT k.aa j).af.length m1):=lS 1 _ rfl;have Us:wr.cell? ⟨b,off+j*4+2,none⟩=some (.slice m2 (aT k.aa j).g.length m3):=lS 2 _ rfl;have Ut:wr.cell? ⟨b,off+j*4+3,none⟩=some (.slice m4 (aT k.aa j).ai.length m5):=lS 3 _ rfl;clear rH fG lS;obtain⟨X0,OL,bX,xX,-⟩:=jU wr [.bool (aT k.aa j).x,.slice m0 (aT k.aa j).af.length m1,.slice m2 (aT k.aa j).g.length m3,.slice m4 (aT k.aa j).ai.length m5] 62;have jh:=A9 X0 ⟨m0,m1,m2,m3,m4,m5⟩ (aT k.aa j) (H.out.1.ms _ (List.mem_of_getElem? bg)) (qY.later Li bX);simp only[MV.val]at jh;have HS:=ay eZ;have HX:Hid (Below wr.1.size wr X0/\wr.1.size+1<=X0.1.size):=⟨bX,by rw[OL];simp⟩
     have HB:=ay xX;have HM:Hid (ms.map (·.2)=k.aa.take j/\ms.length=j/\k.aa[j]?=some (aT k.aa j)):=⟨oO,Gc,bg⟩
     clear eZ bX xX oO Gc bg Li;go_wp2_with fail;rw[<-OL];clear OL;refine jh.mono ?_;clear jh;rintro e w2 ⟨⟨u0,u1,u2,u3,u4,u5⟩,pp,gk,gr,rfl,mQ,b2⟩;obtain⟨X1,kx,b3,xM,-⟩:=jU w2 [.slice u2 (aT k.aa j).g.length u3,.bool (aT k.aa j).x,.slice u0 (aT k.aa j).af.length u1,.slice u4 (aT k.aa j).ai.length u5] 176;obtain⟨Q,hQ⟩:=MR.ow mQ;have kl:gQ.Ow X1 wr.1.size ⟨u0,u1,u2,u3,u4,u5⟩ (aT k.aa j) Q:=gQ.aL (gQ.low hQ (by have:=HX.out.2;omega)) b3.size (fun q hq=>b3.block q (gQ.of hQ hq).2);have Kz:Below wr.1.size wr X1:=au (au HX.out.1 b2) b3;have nj:wr.1.size<w2.1.size:=by have:=HX.out.2;have:=b2.size;omega
     have ao:Hid (Below wr.1.size wr X1/\gQ.Ow X1 wr.1.size ⟨u0,u1,u2,u3,u4,u5⟩ (aT k.aa j) Q):=⟨Kz,kl⟩
     have HB1:Hid (Bx X1 w2.1.size [.slice u2 (aT k.aa j).g.length u3,.bool (aT k.aa j).x,.slice u0 (aT k.aa j).af.length u1,.slice u4 (aT k.aa j).ai.length u5]):=xM;have jh:=Mi X1.drew w2.1.size (aT k.aa j).x u2 (aT k.aa j).g.length u3 u0 (aT k.aa j).af.length u1 u4 (aT k.aa j).ai.length u5 (xM.1 0 _ rfl) (xM.1 1 _ rfl) (xM.1 2 _ rfl) (xM.1 3 _ rfl) xM.2.2;clear mQ b2 b3 xM hQ kl Kz;go_wp2_with fail;rw[<-kx];clear kx;refine bO 6 (fun X:World=>Bx X (w.1.size+2) [vI k.v,vI k.q,(.slice bP k.f.length dP),(.slice bM j dM),(.slice none 0 0),.bool k.w]/\Bx X w2.1.size [.slice u2 (aT k.aa j).g.length u3,.bool (aT k.aa j).x,.slice u0 (aT k.aa j).af.length u1,.slice u4 (aT k.aa j).ai.length u5]) (by kernel_rfl) ?_;have dZ:(fun X:World=>Bx X (w.1.size+2) [vI k.v,vI k.q,(.slice bP k.f.length dP),(.slice bM j dM),(.slice none 0 0),.bool k.w]/\Bx X w2.1.size [.slice u2 (aT k.aa j).g.length u3,.bool (aT k.aa j).x,.slice u0 (aT k.aa j).af.length u1,.slice u4 (aT k.aa j).ai.length u5]) X1.drew:=⟨(HS.out.own.later ao.out.1).later aN.drew,(HB1.out).later aN.drew⟩
     have HD:Hid (Below wr.1.size wr X1.drew/\X1.1.size<=X1.drew.1.size):=⟨au ao.out.1 aN.drew,Nat.le_refl _⟩
     have HQ:Hid (gQ.Ow X1.drew wr.1.size ⟨u0,u1,u2,u3,u4,u5⟩ (aT k.aa j) Q):=gQ.aL ao.out.2 aU (fun q _=>rfl);have lP:w2.1.size<X1.drew.1.size:=dZ.2.2.2;generalize X1.drew=XD at *;refine eP 0 ?_ rfl ?_ dZ ?_;rotate_left
     ·(intro w aH;go_simp;first|done|with_reducible rfl)
     simp only[Act.put];refine eP 1 ?_ rfl ?_ dZ ?_;rotate_left
     ·(intro w aH;have q:=aH.1.1 3 _ rfl;go_simp;first|done|with_reducible rfl|exact q)
     simp only[Act.put];refine ed 2 rfl (fun K hK=>?_);go_simp;refine jh.mono ?_;clear jh;rintro e X2 ⟨rfl,b2⟩;have hO:gQ.Ow X2 wr.1.size ⟨u0,u1,u2,u3,u4,u5⟩ (aT k.aa j) Q:=gQ.aL HQ.out b2.size (fun q hq=>b2.block q (gQ.of HQ.out hq).2);have nG:Below wr.1.size wr X2:=au HD.out.1 b2;have gF:(fun X:World=>Bx X (w.1.size+2) [vI k.v,vI k.q,(.slice bP k.f.length dP),(.slice bM j dM),(.slice none 0 0),.bool k.w]/\Bx X w2.1.size [.slice u2 (aT k.aa j).g.length u3,.bool (aT k.aa j).x,.slice u0 (aT k.aa j).af.length u1,.slice u4 (aT k.aa j).ai.length u5]) X2:=⟨dZ.1.later b2,dZ.2.later b2⟩
     obtain⟨X3,nK,b3,x3,-⟩:=jU X2 [(.bool (aT k.aa j).x),(.slice u0 (aT k.aa j).af.length u1),(.slice u2 (aT k.aa j).g.length u3),(.slice u4 (aT k.aa j).ai.length u5)] 62;have jX:(fun X:World=>Bx X (w.1.size+2) [vI k.v,vI k.q,(.slice bP k.f.length dP),(.slice bM j dM),(.slice none 0 0),.bool k.w]/\Bx X w2.1.size [.slice u2 (aT k.aa j).g.length u3,.bool (aT k.aa j).x,.slice u0 (aT k.aa j).af.length u1,.slice u4 (aT k.aa j).ai.length u5]) X3:=⟨gF.1.later b3,gF.2.later b3⟩
     obtain⟨v',Y,hr,rE,kM,iq,dO,a',c',rfl⟩:=HS.out.LF (au nG b3) (⟨u0,u1,u2,u3,u4,u5⟩:MV) (aT k.aa j) Q X2.1.size (by rw[HM.out.2.1];omega) 29 x3.1 (gQ.aL hO b3.size (fun q hq=>b3.block q (gQ.of hO hq).2));have oF:(fun X:World=>Bx X (w.1.size+2) [vI k.v,vI k.q,(.slice bP k.f.length dP),(.slice bM j dM),(.slice none 0 0),.bool k.w]/\Bx X w2.1.size [.slice u2 (aT k.aa j).g.length u3,.bool (aT k.aa j).x,.slice u0 (aT k.aa j).af.length u1,.slice u4 (aT k.aa j).ai.length u5]) Y:=⟨kM,jX.2.aj (iq _ (.inr ⟨by have:=HD.out.1.size;omega,jX.2.2.2⟩)) dO⟩
     have HE:Hid ((ms++[((⟨u0,u1,u2,u3,u4,u5⟩:MV),aT k.aa j)]).map (·.2)=k.aa.take (j+1)):=by unfold Hid;rw[List.map_append,HM.out.1];exact mM HM.out.2.2
     rw[HM.out.2.1]at hr rE;have KE:=ay rE;refine hK.out _ _ (fun _=>gF) ?_;clear hK K b2 nG b3 x3 rE kM iq dO hO dZ;refine ed 3 rfl (fun K hK=>?_);go_simp;rw[<-nK];refine hK.out _ _ (fun _=>jX) ?_;clear hK K gF;refine ed 4 rfl (fun K hK=>?_);refine bJ _ rfl (.tmp 45) (.tmp 47) 29 rfl _ _ _ _ (by first|rfl|simp[Act.eval,Act.put]) (by first|rfl|simp[Act.eval,Act.put]) hr ?_;refine hK.out _ _ (fun _=>oF) ?_;clear hK K hr jX nK;simp only[Act.put];refine ed 5 rfl (fun K hK=>?_);go_simp;refine hK.out _ _ (fun _=>oF) ?_;clear hK K;refine ed 6 rfl (fun K hK=>?_);have o3:=oF.1.1 3 _ rfl;have pS:=oF.1.2.1 3;go_simp;refine hK.out _ _ (fun h=>absurd rfl h) ?_;clear hK K;refine cZ (by kernel_rfl) ?_ _;go_wp2;exact⟨⟨j+1,a',c',_,_,by omega,by simp,HE.out,KE.out⟩,by simp[intOf];omega⟩
    ·obtain rfl:k.aa.length=j:=by omega
     have hd:decide ((k.aa.length:Int)<(k.aa.length:Int))=false:=by simp
     rw[List.take_length]at oO;have EM:Hid (ms.map (·.2)=k.aa):=oO;have S1:=ay eZ;clear oO eZ hj aK mh;go_wp2;clear p2 p3 p4;generalize wr=WM at *;go_loopw[54] (fun v wr=>∃(j:Nat) (bT:OA) (dT:Nat) (ts:List ((tx.TV)×tx.T7)) (gt:Nat->Nat->Prop),j<=k.c.length/\v=vI j/\ts.map (·.2)=k.c.take j/\CZ w (dR a1 c1 a2 c2 a3 c3 k) nJ k wr (.slice bP k.f.length dP) (.slice bM k.aa.length dM) (.slice bT j dT) ps gp ms gm ts gt) (fun v _=>k.c.length-(intOf v).toNat)
     case atStart=>exact⟨0,none,0,[],jJ,Nat.zero_le _,rfl,by simp,S1.out⟩
     case round=>
      obtain⟨j,bT,dT,ts,gt,hj,rfl,oO,eZ⟩:=hrel;have mh:k.c.length<=1000:=by have:=H.out.1.t;omega
      have p2:=eZ.arg.1 2 _ rfl;have p3:=eZ.arg.1 3 _ rfl;have p4:=eZ.arg.1 4 _ rfl;by_cases aK:j<k.c.length
      ·skip
       have bg:=ib aK;have Gc:ts.length=j:=by have:=congrArg List.length oO;simpa[Nat.min_eq_left hj]using this
       have fG:=H.out.2.later eZ.yu;rcases fG.t with h0|⟨b,off,rfl,hb,rH⟩
       ·rw[h0]at aK;simp at aK
       obtain⟨⟨t0,t1,t2,t3⟩,lS,Li⟩:=rH j _ bg;have QE:wr.cell? ⟨b,off+j*7,none⟩=some (vI (aS k.c j).id):=lS 0 _ rfl;have Ur:wr.cell? ⟨b,off+j*7+1,none⟩=some (vI (aS k.c j).l):=lS 1 _ rfl;have Us:wr.cell? ⟨b,off+j*7+2,none⟩=some (vI (aS k.c j).o):=lS 2 _ rfl;have Ut:wr.cell? ⟨b,off+j*7+3,none⟩=some (vI (aS k.c j).u):=lS 3 _ rfl;have cw:wr.cell? ⟨b,off+j*7+4,none⟩=some (.slice t0 (aS k.c j).b.length t1):=lS 4 _ rfl;have cy:wr.cell? ⟨b,off+j*7+5,none⟩=some (.slice t2 (aS k.c j).ag.length t3):=lS 5 _ rfl;have cD:wr.cell? ⟨b,off+j*7+6,none⟩=some (vI (aS k.c j).az):=lS 6 _ rfl;clear rH fG lS;obtain⟨X0,OL,bX,xX,-⟩:=jU wr (tx.nO t0 t1 t2 t3 (aS k.c j)) 53;obtain⟨l1,l2⟩:=H.out.1.ts _ (List.mem_of_getElem? bg);have j1:Below wr.1.size wr X0.drew:=bX.drew;have jh:=tx.sH X0.drew ⟨t0,t1,t2,t3⟩ (aS k.c j) (by omega) (by omega) (tx.kR.later Li j1);simp only[tx.TV.val]at jh;have HS:=ay eZ;have HX:Hid (Below wr.1.size wr X0/\wr.1.size+1<=X0.1.size):=⟨bX,by rw[OL];simp⟩
       have HB:=ay xX;have HM:Hid (ts.map (·.2)=k.c.take j/\ts.length=j/\k.c[j]?=some (aS k.c j)):=⟨oO,Gc,bg⟩
       clear eZ bX xX oO Gc bg Li j1 l1 l2;go_wp2_with fail;rw[<-OL];clear OL;refine bO 7 (fun X:World=>Bx X (w.1.size+2) [vI k.v,vI k.q,(.slice bP k.f.length dP),(.slice bM k.aa.length dM),(.slice bT j dT),.bool k.w]/\Bx X wr.1.size (tx.nO t0 t1 t2 t3 (aS k.c j))) (by kernel_rfl) ?_;have dZ:(fun X:World=>Bx X (w.1.size+2) [vI k.v,vI k.q,(.slice bP k.f.length dP),(.slice bM k.aa.length dM),(.slice bT j dT),.bool k.w]/\Bx X wr.1.size (tx.nO t0 t1 t2 t3 (aS k.c j))) X0.drew:=⟨(HS.out.own.later HX.out.1).later aN.drew,(HB.out).later aN.drew⟩
       have HD:Hid (Below wr.1.size wr X0.drew/\X0.1.size<=X0.drew.1.size):=⟨au HX.out.1 aN.drew,Nat.le_refl _⟩
       have lP:wr.1.size<X0.drew.1.size:=dZ.2.2.2;generalize X0.drew=XD at *;refine eP 0 ?_ rfl ?_ dZ ?_;rotate_left
       ·(intro w aH;go_simp;first|done|with_reducible rfl)
       simp only[Act.put];refine eP 1 ?_ rfl ?_ dZ ?_;rotate_left
       ·(intro w aH;have q:=aH.1.1 4 _ rfl;go_simp;first|done|with_reducible rfl|exact q)
       simp only[Act.put];refine eP 2 ?_ rfl ?_ dZ ?_;rotate_left
       ·(intro w aH;have q0:=aH.2.1 0 _ rfl;have q1:=aH.2.1 1 _ rfl;have q2:=aH.2.1 2 _ rfl;have q3:=aH.2.1 3 _ rfl;have q4:=aH.2.1 4 _ rfl;have q5:=aH.2.1 5 _ rfl;have q6:=aH.2.1 6 _ rfl;go_simp;first|done|rfl)
       simp only[Act.put];refine ed 3 rfl (fun K hK=>?_);go_simp;refine jh.mono ?_;clear jh;rintro e X2 ⟨u0,u1,u2,u3,PR,PS,rfl,ho,b2⟩;simp only[tx.TV.val];have hO:gY.Ow X2 wr.1.size ⟨u0,u1,u2,u3⟩ (aS k.c j) (tx.nC PR PS):=gY.low (KT.ow ho) HD.out.1.size;have nG:Below wr.1.size wr X2:=au HD.out.1 b2;have gF:(fun X:World=>Bx X (w.1.size+2) [vI k.v,vI k.q,(.slice bP k.f.length dP),(.slice bM k.aa.length dM),(.slice bT j dT),.bool k.w]/\Bx X wr.1.size (tx.nO t0 t1 t2 t3 (aS k.c j))) X2:=⟨dZ.1.later b2,dZ.2.later b2⟩
       obtain⟨X3,nK,b3,x3,-⟩:=jU X2 [(vI (aS k.c j).id),(vI (aS k.c j).l),(vI (aS k.c j).o),(vI (aS k.c j).u),(.slice u0 (aS k.c j).b.length u1),(.slice u2 (aS k.c j).ag.length u3),(vI (aS k.c j).az)] 53;have jX:(fun X:World=>Bx X (w.1.size+2) [vI k.v,vI k.q,(.slice bP k.f.length dP),(.slice bM k.aa.length dM),(.slice bT j dT),.bool k.w]/\Bx X wr.1.size (tx.nO t0 t1 t2 t3 (aS k.c j))) X3:=⟨gF.1.later b3,gF.2.later b3⟩
       obtain⟨v',Y,hr,rE,kM,iq,dO,a',c',rfl⟩:=HS.out.LH (au nG b3) (⟨u0,u1,u2,u3⟩:tx.TV) (aS k.c j) (tx.nC PR PS) X2.1.size (by rw[HM.out.2.1];omega) 30 x3.1 (gY.aL hO b3.size (fun q hq=>b3.block q (gY.of hO hq).2));have oF:(fun X:World=>Bx X (w.1.size+2) [vI k.v,vI k.q,(.slice bP k.f.length dP),(.slice bM k.aa.length dM),(.slice bT j dT),.bool k.w]/\Bx X wr.1.size (tx.nO t0 t1 t2 t3 (aS k.c j))) Y:=⟨kM,jX.2.aj (iq _ (.inr ⟨by have:=HD.out.1.size;omega,jX.2.2.2⟩)) dO⟩
       have HE:Hid ((ts++[((⟨u0,u1,u2,u3⟩:tx.TV),aS k.c j)]).map (·.2)=k.c.take (j+1)):=by unfold Hid;rw[List.map_append,HM.out.1];exact mM HM.out.2.2
       rw[HM.out.2.1]at hr rE;have KE:=ay rE;refine hK.out _ _ (fun _=>gF) ?_;clear hK K b2 nG b3 x3 rE kM iq dO hO dZ;refine ed 4 rfl (fun K hK=>?_);go_simp;rw[<-nK];refine hK.out _ _ (fun _=>jX) ?_;clear hK K gF;refine ed 5 rfl (fun K hK=>?_);refine bJ _ rfl (.tmp 59) (.tmp 62) 30 rfl _ _ _ _ (by first|rfl|simp[Act.eval,Act.put]) (by first|rfl|simp[Act.eval,Act.put]) hr ?_;refine hK.out _ _ (fun _=>oF) ?_;clear hK K hr jX nK;simp only[Act.put];refine ed 6 rfl (fun K hK=>?_);go_simp;refine hK.out _ _ (fun _=>oF) ?_;clear hK K;refine ed 7 rfl (fun K hK=>?_);have o4:=oF.1.1 4 _ rfl;have pT:=oF.1.2.1 4;go_simp;refine hK.out _ _ (fun h=>absurd rfl h) ?_;clear hK K;refine cZ (by kernel_rfl) ?_ _;go_wp2;exact⟨⟨j+1,a',c',_,_,by omega,by simp,HE.out,KE.out⟩,by simp[intOf];omega⟩
      ·obtain rfl:k.c.length=j:=by omega
       have hd:decide ((k.c.length:Int)<(k.c.length:Int))=false:=by simp
       rw[List.take_length]at oO;have ET:Hid (ts.map (·.2)=k.c):=oO;have S1:=ay eZ;clear oO eZ hj aK mh;have o0:=S1.out.own.c6;have r0:=S1.out.res.c6;have f0:=S1.out.res.f6;go_wp2;refine bodyPost_ret (v:=.agg #[vI k.v,vI k.q,.slice bP k.f.length dP,.slice bM k.aa.length dM,.slice bT k.c.length dT,.bool k.w]) (by simp[results,results72,go_sem,r0]) rfl ?_;refine⟨bP,dP,bM,dM,bT,dT,ps,gp,ms,gm,ts,gt,rfl,?_,EP.out,EM.out,ET.out,?_⟩
       ·exact S1.out.rows.aL (Y:=dU wr (w.1.size+1) 0 (dR bP dP bM dM bT dT k)) (by rw[bu];exact Nat.le_refl _) (fun q _ hb _=>aX (by omega) _ _ _)
       ·exact bn (w:=w) (by omega) (dR bP dP bM dM bT dT k) wr 0 S1.out.yu
end
namespace tx
open Go.Proofs.Tryz
def eH(f:Nat->Bool)(n:Nat)(i:Int):Prop:=(i=-1/\∀j,j<n->f j=false)\/∃k:Nat,i=(k:Int)/\k<n/\f k=true/\∀j,j<k->f j=false
theorem iC{f:Nat->Bool}{n:Nat}{i:Int}(h:eH f n i):decide (0<=i)=!((List.range n).all fun j=>!f j):=by
 rcases h with ⟨rfl,h⟩|⟨k,rfl,hk,hf,_⟩
 ·have:((List.range n).all fun j=>!f j)=true:=by rw[List.all_eq_true];intro j hj;simp[h j (List.mem_range.1 hj)]
  rw[this];rfl
 ·have:((List.range n).all fun j=>!f j)=false:=by rw[List.all_eq_false];exact⟨k,List.mem_range.2 hk,by simp[hf]⟩
  rw[this];simp
theorem jM(w:World)(x:Int):Calls prog 207 #[vI x] w fun e w'=>e=.returned (.bool (bH 1 1000000 x))/\w'=w:=by
 go_enter func207,ntmps207;go_wp2;all_goals (go_ret;refine⟨dW ?_,rfl⟩;simp[dI];try omega)
theorem iM(w:World)(x:Int):Calls prog 208 #[vI x] w fun e w'=>e=.returned (.bool (bH 0 7 x))/\w'=w:=by
 go_enter func208,ntmps208;go_wp2;all_goals (go_ret;refine⟨dW ?_,rfl⟩;simp[dI];try omega)
theorem mF(w:World)(x:Int):Calls prog 209 #[vI x] w fun e w'=>e=.returned (.bool (bH 1 9 x))/\w'=w:=by
 go_enter func209,ntmps209;go_wp2;all_goals (go_ret;refine⟨dW ?_,rfl⟩;simp[dI];try omega)
theorem oW(w:World)(x:Int):Calls prog 210 #[vI x] w fun e w'=>e=.returned (.bool (bH 0 1000 x))/\w'=w:=by
 go_enter func210,ntmps210;go_wp2;all_goals (go_ret;refine⟨dW ?_,rfl⟩;simp[dI];try omega)
theorem kX(w:World)(x:Int):Calls prog 185 #[vI x] w fun e w'=>e=.returned (.bool (bH 0 1000000 x))/\w'=w:=by
 go_enter func185,ntmps185;go_wp2;all_goals (go_ret;refine⟨dW ?_,rfl⟩;simp[dI];try omega)
theorem Gj(w:World)(x:Int):Calls prog 228 #[vI x] w fun e w'=>e=.returned (.bool (bH 0 1000000 x))/\w'=w:=by
 go_enter func228,ntmps228;go_wp2;all_goals (go_ret;refine⟨dW ?_,rfl⟩;simp[dI];try omega)
theorem Ae(w:World)(s:N5):Calls prog 200 #[.agg #[vI s.a,vI s.e,vI s.i,vI s.h,.bool s.j]] w fun e w'=>e=.returned (.bool (bI s))/\Below w.1.size w w':=by
 obtain⟨r,l,v,u,x⟩:=s;go_enter func200,ntmps200
 cases h1:bH 0 5 r<;>cases h2:bH 0 5 l<;>cases h3:bH 0 1000000 v;all_goals go_wp2_with (first|(go_at_call 228;refine(Gj _ _).mono ?_;rintro e w' ⟨rfl,rfl⟩)|(go_at_call 213;refine(il _ _).mono ?_;rintro e w' ⟨rfl,rfl⟩)|(go_at_call 161;refine(rO _ _).mono ?_;rintro e w' ⟨rfl,rfl⟩)|(go_at_call 195;refine(wU _ _).mono ?_;rintro e w' ⟨rfl,rfl⟩))
 all_goals (go_ret;refine⟨dW ?_,aN.alloc aU _⟩;simp only[bI,h1,h2,h3,Bool.and_true,Bool.and_false,Bool.false_and,Bool.true_and];try simp[dI];try omega)
def rk(r s:Int):Int:=r*6+s
theorem GZ(w:World)(r s:Int)(h1:bH 0 5 r=true)(h2:bH 0 5 s=true):Calls prog 254 #[.agg #[vI r,vI s]] w fun e w'=>e=.returned (vI (rk r s))/\Below w.1.size w w':=by
 rw[dI]at h1 h2;have e1:IntKind.i64.wrap (r*6)=r*6:=by simp[IntKind.wrap,IntKind.bits,IntKind.signed];omega
 have e2:IntKind.i64.wrap (r*6+s)=r*6+s:=by simp[IntKind.wrap,IntKind.bits,IntKind.signed];omega
 go_enter func254,ntmps254;go_wp2;go_ret;exact⟨by simp[rk],aN.alloc aU _⟩
theorem nR{r s q t:Int}(h1:bH 0 5 s=true)(h2:bH 0 5 t=true):jk r s q t=decide (rk r s<rk q t):=by
 rw[dI]at h1 h2;have hk:∀a b,rk a b=a*6+b:=fun _ _=>rfl
 have hd:(r<q\/r=q/\s<t)↔rk r s<rk q t:=by
  rw[hk,hk];constructor
  ·rintro (h|⟨h,h'⟩)<;>omega
  ·intro h;by_cases hr:r<q
   ·exact .inl hr
   ·exact .inr ⟨by omega,by omega⟩
 rw[Bool.eq_iff_iff];simp[jk,hd]
theorem gI(w:World)(s:N5):Calls prog 203 #[.agg #[vI s.a,vI s.e,vI s.i,vI s.h,.bool s.j]] w fun e w'=>e=.returned (.agg #[vI s.a,vI s.e])/\Below w.1.size w w':=by
 obtain⟨f0,f1,f2,f3,f4⟩:=s;go_enter func203,ntmps203;go_wp2;refine bodyPost_ret (v:=.agg #[vI f0,vI f1]) (by simp[results,results203,go_sem]) rfl ⟨rfl,?_⟩;exact(aN.alloc aU _).alloc (by simp) _
theorem qy(w:World)(s:N5)(h1:bH 0 5 s.a=true)(h2:bH 0 5 s.e=true):Calls prog 234 #[.agg #[vI s.a,vI s.e,vI s.i,vI s.h,.bool s.j]] w fun e w'=>e=.returned (vI (rk s.a s.e))/\Below w.1.size w w':=by
 have b0:Below w.1.size w (w.alloc (.cells #[vI s.a,vI s.e,vI s.i,vI s.h,.bool s.j] 70)):=aN.alloc aU _;have c1:=gI (w.alloc (.cells #[vI s.a,vI s.e,vI s.i,vI s.h,.bool s.j] 70)) s
 have hm:∀w:World,(method 452 70 (.agg #[vI s.a,vI s.e,vI s.i,vI s.h,.bool s.j]) "loop.example/g00153/impl.cell").run prog w=.ok (203,.agg #[vI s.a,vI s.e,vI s.i,vI s.h,.bool s.j]) w:=fun _=>by kernel_rfl
 go_enter func234,ntmps234;go_wp2_with (first|(go_at_call 203;refine c1.mono ?_;rintro e w1 ⟨rfl,b1⟩)|(go_at_call 254;refine(GZ _ _ _ h1 h2).mono ?_;rintro e w2 ⟨rfl,b2⟩));go_ret;exact⟨rfl,b0.trans ((b1.trans (b2.mono b1.size)).mono b0.size)⟩
theorem fH(w:World)(s:S5):Calls prog 168 #[.agg #[vI s.a,vI s.e,vI s.h,.bool s.j,vI s.i]] w fun e w'=>e=.returned (.agg #[vI s.a,vI s.e])/\Below w.1.size w w':=by
 obtain⟨f0,f1,f2,f3,f4⟩:=s;go_enter func168,ntmps168;go_wp2;refine bodyPost_ret (v:=.agg #[vI f0,vI f1]) (by simp[results,results168,go_sem]) rfl ⟨rfl,?_⟩;exact(aN.alloc aU _).alloc (by simp) _
theorem qC(w:World)(s:S5)(h1:bH 0 5 s.a=true)(h2:bH 0 5 s.e=true):Calls prog 238 #[.agg #[vI s.a,vI s.e,vI s.h,.bool s.j,vI s.i]] w fun e w'=>e=.returned (vI (rk s.a s.e))/\Below w.1.size w w':=by
 have b0:Below w.1.size w (w.alloc (.cells #[vI s.a,vI s.e,vI s.h,.bool s.j,vI s.i] 73)):=aN.alloc aU _;have c1:=fH (w.alloc (.cells #[vI s.a,vI s.e,vI s.h,.bool s.j,vI s.i] 73)) s
 have hm:∀w:World,(method 452 73 (.agg #[vI s.a,vI s.e,vI s.h,.bool s.j,vI s.i]) "loop.example/g00153/impl.cell").run prog w=.ok (168,.agg #[vI s.a,vI s.e,vI s.h,.bool s.j,vI s.i]) w:=fun _=>by kernel_rfl
 go_enter func238,ntmps238;go_wp2_with (first|(go_at_call 168;refine c1.mono ?_;rintro e w1 ⟨rfl,b1⟩)|(go_at_call 254;refine(GZ _ _ _ h1 h2).mono ?_;rintro e w2 ⟨rfl,b2⟩));go_ret;exact⟨rfl,b0.trans ((b1.trans (b2.mono b1.size)).mono b0.size)⟩
end tx
namespace tx
open Go.Proofs.Tryz
theorem gL{s:N5}(h:bI s=true):bH 0 5 s.a=true/\bH 0 5 s.e=true:=by simp only[bI,Bool.and_eq_true]at h;exact⟨h.1.1.1,h.1.1.2⟩
theorem GM(w:World)(s:N5)(g:Nat)(hg:w.cell? ⟨g,0,none⟩=some (.func (.func 200) #[] #[]))(hl:g<w.1.size):Calls prog 231 #[.agg #[vI s.a,vI s.e,vI s.i,vI s.h,.bool s.j],.pointer (some ⟨g,0,none⟩)] w fun e w'=>e=.returned (.bool (!bI s))/\Below w.1.size w w':=by
 obtain⟨W,hW⟩:∃W,W=w.alloc (.cells #[vI s.a,vI s.e,vI s.i,vI s.h,.bool s.j] 70):=⟨_,rfl⟩
 have b0:Below w.1.size w W:=by rw[hW];exact aN.alloc aU _
 have d:=(b0.cell (p:=⟨g,0,none⟩) hl).trans hg;have c1:=Ae W s;have KB:Hid (Below w.1.size w W):=b0;clear hg hl b0;rw[hW]at d;go_enter func231,ntmps231;go_wp2_with fail;rw[<-hW];refine c1.mono ?_;clear c1 hW d;rintro e w1 ⟨rfl,b1⟩;go_wp2;go_ret;exact⟨rfl,KB.out.trans (b1.mono KB.out.size)⟩
theorem YP(w:World)(a:OA)(cap:Nat)(xs:List N5)(g:Nat)(hn:xs.length<=maxLen)(hs:jP w w.1.size a xs.length xs)(hg:w.cell? ⟨g,0,none⟩=some (.func (.func 200) #[] #[]))(wH:g<w.1.size):
  Calls prog 253 #[.slice a xs.length cap,.func (.func 231) #[] #[.pointer (some ⟨g,0,none⟩)]] w fun e w'=>(∃i:Int,e=.returned (vI i)/\eH (fun i=>!bI (aG xs i)) xs.length i)/\Below w.1.size w w':=by
 unfold maxLen at hn;obtain⟨hx,hs⟩:=hs;clear hx;obtain⟨f,hf⟩:∃f:Nat->Bool,f=fun i=>!bI (aG xs i):=⟨_,rfl⟩
 have HF:Hid (∀(X:World) (i:Nat),Below w.1.size w X->Calls prog 231 #[.agg #[vI (aG xs i).a,vI (aG xs i).e,vI (aG xs i).i,vI (aG xs i).h,.bool (aG xs i).j],.pointer (some ⟨g,0,none⟩)] X fun e w'=>e=.returned (.bool (f i))/\Below X.1.size X w'):=fun X i hX=>by
  rw[hf];exact GM X (aG xs i) g ((hX.cell (p:=⟨g,0,none⟩) wH).trans hg) (Nat.lt_of_lt_of_le wH hX.size)
 rw[<-hf];clear hf hg;obtain⟨n,hN⟩:∃n,n=xs.length:=⟨_,rfl⟩
 rw[<-hN]at hn hs ⊢;have HN:Hid (n=xs.length):=hN;clear hN;go_enter func253,ntmps253;go_wp2;go_loopw[8] (fun v wr=>∃j:Nat,j<=n/\v=vI j/\Below w.1.size w wr/\∀i,i<j->f i=false) (fun v _=>n-(intOf v).toNat)
 case atStart=>exact⟨0,Nat.zero_le _,rfl,aN,fun i h=>absurd h (by omega)⟩
 case round=>
  obtain⟨j,hj,rfl,aD,aO⟩:=hrel;by_cases aK:j<n
  ·rcases hs with hs|⟨b,off,rfl,hb,h1⟩
   ·omega
   ·obtain⟨c0,c1,c2,c3,c4⟩:=(h1.below aD hb) j _ (fP (by rw[<-HN.out];exact aK));have KA:Hid ((∀i,i<j->f i=false)/\Below w.1.size w wr):=⟨aO,aD⟩
    have hw:=HF.out wr j aD;clear h1 aO aD
    cases hp:f j with
    | true=>
     rw[hp]at hw;go_wp2_with fail;refine hw.mono ?_;clear hw;rintro e w1 ⟨rfl,b1⟩;go_wp2;go_ret;exact⟨⟨_,rfl,.inr ⟨j,rfl,aK,hp,KA.out.1⟩⟩,KA.out.2.trans (b1.mono KA.out.2.size)⟩
    | false=>
     rw[hp]at hw;go_wp2_with fail;refine hw.mono ?_;clear hw;rintro e w1 ⟨rfl,b1⟩;go_wp2
     exact⟨⟨j+1,by omega,by simp,KA.out.2.trans (b1.mono KA.out.2.size),fun i hi=>by
      by_cases e:i=j
      ·rw[e];exact hp
      ·exact KA.out.1 i (by omega)⟩,by simp[intOf];omega⟩
  ·have:j=n:=by omega
   subst this;have hd:decide ((j:Int)<(j:Int))=false:=by simp
   have KA:Hid (∀i,i<j->f i=false):=aO;clear hs aO;go_wp2;go_ret;exact⟨⟨_,rfl,.inl ⟨rfl,KA.out⟩⟩,aD⟩
theorem YO(w:World)(a:OA)(cap:Nat)(xs:List N5)(g:Nat)(hn:xs.length<=maxLen)(hs:jP w w.1.size a xs.length xs)(hg:w.cell? ⟨g,0,none⟩=some (.func (.func 200) #[] #[]))(wH:g<w.1.size):
  Calls prog 232 #[.slice a xs.length cap,.func (.func 231) #[] #[.pointer (some ⟨g,0,none⟩)]] w fun e w'=>e=.returned (.bool (!((List.range xs.length).all fun i=>bI (aG xs i))))/\Below w.1.size w w':=by
 have c1:=YP w a cap xs g hn hs hg wH
 have HE:Hid (∀i:Int,eH (fun i=>!bI (aG xs i)) xs.length i->decide (0<=i)=!((List.range xs.length).all fun i=>bI (aG xs i))):=fun i h=>by
  rw[iC h];simp
 clear hn hs hg wH;go_enter func232,ntmps232;go_wp2_with fail;refine c1.mono ?_;clear c1;rintro e w1 ⟨⟨i,rfl,hi⟩,b1⟩;have KE:Hid (decide (0<=i)=!((List.range xs.length).all fun i=>bI (aG xs i))):=HE.out i hi;clear hi HE;go_wp2;go_ret;exact⟨by rw[<-KE.out];rfl,b1⟩
def xh(xs:List N5)(i:Nat):Bool:=decide (i=0)||decide (rk (aG xs (i-1)).a (aG xs (i-1)).e<rk (aG xs i).a (aG xs i).e)
theorem GJ(w:World)(a:OA)(cap:Nat)(xs:List N5)(hn:xs.length<=maxLen)(hs:jP w w.1.size a xs.length xs)(jG:∀i,i<xs.length->bI (aG xs i)=true):
  Calls prog 233 #[.slice a xs.length cap,.func (.func 234) #[] #[]] w fun e w'=>e=.returned (.bool ((List.range xs.length).all (xh xs)))/\Below w.1.size w w':=by
 unfold maxLen at hn;obtain⟨_,hs⟩:=hs;have HO:=ay jG;clear jG;obtain⟨n,hN⟩:∃n,n=xs.length:=⟨_,rfl⟩
 have HN:Hid (n=xs.length):=hN;rw[<-hN]at hn hs ⊢;clear hN;go_enter func233,ntmps233;go_wp2;go_loopw[5] (fun v wr=>∃j:Nat,(j<=n\/n=0/\j=1)/\0<j/\v=vI j/\Below w.1.size w wr/\(List.range j).all (xh xs)=true) (fun v _=>n-(intOf v).toNat)
 case atStart=>exact⟨1,by omega,by omega,rfl,aN,by simp[xh]⟩
 case round=>
  obtain⟨j,hj,WO,rfl,aD,aO⟩:=hrel;by_cases aK:j<n
  ·rcases hs with hs|⟨b,off,rfl,hb,h1⟩
   ·omega
   obtain⟨i,rfl⟩:∃i,j=i+1:=⟨j-1,by omega⟩
   obtain⟨t0,t1,t2,t3,t4⟩:=(h1.below aD hb) (i+1) _ (fP (by rw[<-HN.out];exact aK));obtain⟨u0,u1,u2,u3,u4⟩:=(h1.below aD hb) i _ (fP (by rw[<-HN.out];omega));have Cf:b<wr.1.size:=Nat.lt_of_lt_of_le hb aD.size;have lift:∀{o:Nat}{u:Value},wr.cell? ⟨b,o,none⟩=some u->∀d os,(grow (redrawn wr d) os).cell? ⟨b,o,none⟩=some u:=fun {o u} h d os=>((below_regrown wr d os).cell (p:=⟨b,o,none⟩) Cf).trans h
   have x0:=lift t0;have x1:=lift t1;have x2:=lift t2;have x3:=lift t3;have x4:=lift t4;have y0:=lift u0;have y1:=lift u1;have y2:=lift u2;have y3:=lift u3;have y4:=lift u4;have k1:=gL (HO.out (i+1) (by rw[<-HN.out];exact aK));have k2:=gL (HO.out i (by rw[<-HN.out];omega));have cA:∀d os,Calls prog 234 #[.agg #[vI (aG xs (i+1)).a,vI (aG xs (i+1)).e,vI (aG xs (i+1)).i,vI (aG xs (i+1)).h,.bool (aG xs (i+1)).j]] (grow (redrawn wr d) os) fun e eU=>e=.returned (vI (rk (aG xs (i+1)).a (aG xs (i+1)).e))/\∃p:Regrown,eU=grow (redrawn wr p.d) p.os:=fun d os=>Calls.regrown_of (qy _ _ k1.1 k1.2)
   have cB:∀d os,Calls prog 234 #[.agg #[vI (aG xs i).a,vI (aG xs i).e,vI (aG xs i).i,vI (aG xs i).h,.bool (aG xs i).j]] (grow (redrawn wr d) os) fun e eU=>e=.returned (vI (rk (aG xs i).a (aG xs i).e))/\∃p:Regrown,eU=grow (redrawn wr p.d) p.os:=fun d os=>Calls.regrown_of (qy _ _ k2.1 k2.2)
   have K:Hid (Below w.1.size w wr/\(List.range (i+1)).all (xh xs)=true):=⟨aD,aO⟩
   have hi:(i:Int)<(n:Int):=by omega
   clear lift t0 t1 t2 t3 t4 u0 u1 u2 u3 u4 k1 k2 h1 aD aO;have U:Hid (xh xs (i+1)=decide (rk (aG xs i).a (aG xs i).e<rk (aG xs (i+1)).a (aG xs (i+1)).e)):=by unfold Hid;simp[xh]
   have HL:Hid (i+1<n):=aK;have sc:((i+1:Nat):Int)<(n:Int):=by omega
   clear aK;generalize rk (aG xs (i+1)).a (aG xs (i+1)).e=x at *;generalize rk (aG xs i).a (aG xs i).e=y at *;generalize (aG xs (i+1)).a=a0 at *;generalize (aG xs (i+1)).e=a1 at *;generalize (aG xs (i+1)).h=a2 at *;generalize (aG xs (i+1)).j=a3 at *;generalize (aG xs (i+1)).i=a4 at *;generalize (aG xs i).a=e0 at *;generalize (aG xs i).e=e1 at *;generalize (aG xs i).h=e2 at *;generalize (aG xs i).j=e3 at *;generalize (aG xs i).i=e4 at *;by_cases hq:x<=y
   ·have KU:Hid (xh xs (i+1)=false):=by unfold Hid;rw[U.out];simp;omega
    have dq:decide (x<=y)=true:=by simpa using hq
    clear hq U;go_wp2_with fail;refine gP ?_;repeat (go_big_quiet_step (first|(go_at_call_of 234 (Value.agg #[vI a0,vI a1,vI a4,vI a2,.bool a3]);exact cA _ _)|(go_at_call_of 234 (Value.agg #[vI e0,vI e1,vI e4,vI e2,.bool e3]);exact cB _ _)))
    refine wpQuiet_nil ?_;intro _ wP;obtain⟨⟨jZ,aZ⟩,kW⟩:=wP;subst kW;have bq:=below_regrown wr jZ aZ;go_wp2;go_ret;exact⟨by rw[mq HL.out KU.out];rfl,K.out.1.trans (bq.mono K.out.1.size)⟩
   ·have KU:Hid (xh xs (i+1)=true):=by unfold Hid;rw[U.out];simp;omega
    have dq:decide (x<=y)=false:=by simpa using hq
    clear hq U;go_wp2_with fail;refine gP ?_;repeat (go_big_quiet_step (first|(go_at_call_of 234 (Value.agg #[vI a0,vI a1,vI a4,vI a2,.bool a3]);exact cA _ _)|(go_at_call_of 234 (Value.agg #[vI e0,vI e1,vI e4,vI e2,.bool e3]);exact cB _ _)))
    refine wpQuiet_nil ?_;intro _ wP;obtain⟨⟨jZ,aZ⟩,kW⟩:=wP;subst kW;have bq:=below_regrown wr jZ aZ;go_wp2;exact⟨⟨i+1+1,.inl HL.out,by omega,by simp,K.out.1.trans (bq.mono K.out.1.size),mr K.out.2 KU.out⟩,by have:=HL.out;simp[intOf];omega⟩
  ·have hd:decide ((j:Int)<(n:Int))=false:=by simp;omega
   have KA:Hid ((List.range n).all (xh xs)=true):=by
    unfold Hid;rw[List.all_eq_true]at aO ⊢;exact fun x hx=>aO x (List.mem_range.2 (by have:=List.mem_range.1 hx;omega))
   clear hs aO;go_wp2;go_ret;exact⟨by rw[KA.out];rfl,aD⟩
theorem GH{xs:List N5}:(List.range xs.length).all (qx xs)=((List.range xs.length).all (fun i=>bI (aG xs i))&&(List.range xs.length).all (xh xs)):=by
 rw[Bool.eq_iff_iff,Bool.and_eq_true,List.all_eq_true,List.all_eq_true,List.all_eq_true];constructor
 ·intro h
  have h1:∀i,i<xs.length->bI (aG xs i)=true:=fun i hi=>by
   have:=h i (List.mem_range.2 hi);simp only[qx,Bool.and_eq_true]at this;exact this.1
  refine⟨fun i hi=>h1 i (List.mem_range.1 hi),fun i hi=>?_⟩;have Ci:=List.mem_range.1 hi;have:=h i hi;simp only[qx,Bool.and_eq_true,Bool.or_eq_true,decide_eq_true_eq]at this;simp only[xh,Bool.or_eq_true,decide_eq_true_eq];by_cases e:i=0
  ·exact .inl e
  ·rcases this.2 with e'|e'
   ·exact .inl e'
   ·rw[nR (gL (h1 (i-1) (by omega))).2 (gL (h1 i Ci)).2]at e';exact .inr (by simpa using e')
 ·rintro ⟨h1,h2⟩ i hi;have Ci:=List.mem_range.1 hi;have g1:=h1 i hi;have g2:=h2 i hi;simp only[xh,Bool.or_eq_true,decide_eq_true_eq]at g2;simp only[qx,Bool.and_eq_true,Bool.or_eq_true,decide_eq_true_eq];refine⟨g1,?_⟩;by_cases e:i=0
  ·exact .inl e
  ·rcases g2 with e'|e'
   ·exact .inl e'
   ·refine .inr ?_;rw[nR (gL (h1 (i-1) (List.mem_range.2 (by omega)))).2 (gL g1).2];simpa using e'
theorem Jt(w:World)(a:OA)(cap:Nat)(xs:List N5)(hn:xs.length<=maxLen)(hs:jP w w.1.size a xs.length xs):
  Calls prog 211 #[.slice a xs.length cap,.func (.func 200) #[] #[]] w fun e w'=>e=.returned (.bool (decide (xs.length<=12)&&(List.range xs.length).all (qx xs)))/\Below w.1.size w w':=by
 obtain⟨W,hW⟩:∃W,W=w.alloc (.cells #[.func (.func 200) #[] #[]] 110):=⟨_,rfl⟩
 have b0:Below w.1.size w W:=by rw[hW];exact aN.alloc aU _
 have g0:W.cell? ⟨w.1.size,0,none⟩=some (.func (.func 200) #[] #[]):=by rw[hW];go_simp
 have s0:w.1.size<W.1.size:=by rw[hW];simp
 have c1:=YO W a cap xs w.1.size hn (hs.later b0) g0 s0;have H:Hid (jP w w.1.size a xs.length xs/\xs.length<=maxLen/\Below w.1.size w W):=⟨hs,hn,b0⟩
 have HA:=ay (@GH xs);clear hs b0 g0 s0;unfold maxLen at hn;by_cases uI:xs.length<=12
 case neg=>
  have d12:decide ((xs.length:Int)<=12)=false:=by simp;omega
  have KN:Hid (decide (xs.length<=12)=false):=by unfold Hid;simp;omega
  rw[hW]at H;clear c1 hW uI;go_enter func211,ntmps211;go_wp2;go_ret;exact⟨by rw[KN.out];rfl,H.out.2.2⟩
 have d12:decide ((xs.length:Int)<=12)=true:=by simp;omega
 have KN:Hid (decide (xs.length<=12)=true):=by unfold Hid;simp;omega
 cases za:(List.range xs.length).all (fun i=>bI (aG xs i))with
 | false=>
  rw[za]at c1;clear uI;go_enter func211,ntmps211;go_wp2_with fail;rw[<-hW];clear hW;refine c1.mono ?_;clear c1;rintro e w1 ⟨rfl,b1⟩;go_wp2;go_ret;exact⟨by rw[KN.out,HA.out,za];rfl,H.out.2.2.trans (b1.mono H.out.2.2.size)⟩
 | true=>
  rw[za]at c1;have HO:Hid (∀i,i<xs.length->bI (aG xs i)=true):=fun i hi=>List.all_eq_true.1 za i (List.mem_range.2 hi)
  clear uI;go_enter func211,ntmps211;go_wp2_with fail;rw[<-hW];clear hW;refine c1.mono ?_;clear c1;rintro e w1 ⟨rfl,b1⟩;have bw:Below w.1.size w w1:=H.out.2.2.trans (b1.mono H.out.2.2.size);have c2:=GJ w1 a cap xs H.out.2.1 (H.out.1.later bw) HO.out;have KB:Hid (Below w.1.size w w1):=bw;clear b1 bw;go_wp2_with fail;refine c2.mono ?_;clear c2;rintro e w2 ⟨rfl,b2⟩;go_wp2;go_ret;exact⟨by rw[KN.out,HA.out,za];rfl,KB.out.trans (b2.mono KB.out.size)⟩
theorem fU{s:S5}(h:bf s=true):bH 0 5 s.a=true/\bH 0 5 s.e=true:=by simp only[bf,Bool.and_eq_true]at h;exact⟨h.1.1.1,h.1.1.2⟩
theorem Hq(w:World)(s:S5)(g:Nat)(hg:w.cell? ⟨g,0,none⟩=some (.func (.func 165) #[] #[]))(hl:g<w.1.size):Calls prog 235 #[.agg #[vI s.a,vI s.e,vI s.h,.bool s.j,vI s.i],.pointer (some ⟨g,0,none⟩)] w fun e w'=>e=.returned (.bool (!bf s))/\Below w.1.size w w':=by
 obtain⟨W,hW⟩:∃W,W=w.alloc (.cells #[vI s.a,vI s.e,vI s.h,.bool s.j,vI s.i] 73):=⟨_,rfl⟩
 have b0:Below w.1.size w W:=by rw[hW];exact aN.alloc aU _
 have d:=(b0.cell (p:=⟨g,0,none⟩) hl).trans hg;have c1:=sG W s;have KB:Hid (Below w.1.size w W):=b0;clear hg hl b0;rw[hW]at d;go_enter func235,ntmps235;go_wp2_with fail;rw[<-hW];refine c1.mono ?_;clear c1 hW d;rintro e w1 ⟨rfl,b1⟩;go_wp2;go_ret;exact⟨rfl,KB.out.trans (b1.mono KB.out.size)⟩
theorem YX(w:World)(a:OA)(cap:Nat)(xs:List S5)(g:Nat)(hn:xs.length<=maxLen)(hs:Sl w w.1.size a xs.length xs)(hg:w.cell? ⟨g,0,none⟩=some (.func (.func 165) #[] #[]))(wH:g<w.1.size):
  Calls prog 255 #[.slice a xs.length cap,.func (.func 235) #[] #[.pointer (some ⟨g,0,none⟩)]] w fun e w'=>(∃i:Int,e=.returned (vI i)/\eH (fun i=>!bf (aB xs i)) xs.length i)/\Below w.1.size w w':=by
 unfold maxLen at hn;obtain⟨hx,hs⟩:=hs;clear hx;obtain⟨f,hf⟩:∃f:Nat->Bool,f=fun i=>!bf (aB xs i):=⟨_,rfl⟩
 have HF:Hid (∀(X:World) (i:Nat),Below w.1.size w X->Calls prog 235 #[.agg #[vI (aB xs i).a,vI (aB xs i).e,vI (aB xs i).h,.bool (aB xs i).j,vI (aB xs i).i],.pointer (some ⟨g,0,none⟩)] X fun e w'=>e=.returned (.bool (f i))/\Below X.1.size X w'):=fun X i hX=>by
  rw[hf];exact Hq X (aB xs i) g ((hX.cell (p:=⟨g,0,none⟩) wH).trans hg) (Nat.lt_of_lt_of_le wH hX.size)
 rw[<-hf];clear hf hg;obtain⟨n,hN⟩:∃n,n=xs.length:=⟨_,rfl⟩
 rw[<-hN]at hn hs ⊢;have HN:Hid (n=xs.length):=hN;clear hN;go_enter func255,ntmps255;go_wp2;go_loopw[8] (fun v wr=>∃j:Nat,j<=n/\v=vI j/\Below w.1.size w wr/\∀i,i<j->f i=false) (fun v _=>n-(intOf v).toNat)
 case atStart=>exact⟨0,Nat.zero_le _,rfl,aN,fun i h=>absurd h (by omega)⟩
 case round=>
  obtain⟨j,hj,rfl,aD,aO⟩:=hrel;by_cases aK:j<n
  ·rcases hs with hs|⟨b,off,rfl,hb,h1⟩
   ·omega
   ·obtain⟨c0,c1,c2,c3,c4⟩:=(h1.below aD hb) j _ (eT (by rw[<-HN.out];exact aK));have KA:Hid ((∀i,i<j->f i=false)/\Below w.1.size w wr):=⟨aO,aD⟩
    have hw:=HF.out wr j aD;clear h1 aO aD
    cases hp:f j with
    | true=>
     rw[hp]at hw;go_wp2_with fail;refine hw.mono ?_;clear hw;rintro e w1 ⟨rfl,b1⟩;go_wp2;go_ret;exact⟨⟨_,rfl,.inr ⟨j,rfl,aK,hp,KA.out.1⟩⟩,KA.out.2.trans (b1.mono KA.out.2.size)⟩
    | false=>
     rw[hp]at hw;go_wp2_with fail;refine hw.mono ?_;clear hw;rintro e w1 ⟨rfl,b1⟩;go_wp2
     exact⟨⟨j+1,by omega,by simp,KA.out.2.trans (b1.mono KA.out.2.size),fun i hi=>by
      by_cases e:i=j
      ·rw[e];exact hp
      ·exact KA.out.1 i (by omega)⟩,by simp[intOf];omega⟩
  ·have:j=n:=by omega
   subst this;have hd:decide ((j:Int)<(j:Int))=false:=by simp
   have KA:Hid (∀i,i<j->f i=false):=aO;clear hs aO;go_wp2;go_ret;exact⟨⟨_,rfl,.inl ⟨rfl,KA.out⟩⟩,aD⟩
theorem YW(w:World)(a:OA)(cap:Nat)(xs:List S5)(g:Nat)(hn:xs.length<=maxLen)(hs:Sl w w.1.size a xs.length xs)(hg:w.cell? ⟨g,0,none⟩=some (.func (.func 165) #[] #[]))(wH:g<w.1.size):
  Calls prog 236 #[.slice a xs.length cap,.func (.func 235) #[] #[.pointer (some ⟨g,0,none⟩)]] w fun e w'=>e=.returned (.bool (!((List.range xs.length).all fun i=>bf (aB xs i))))/\Below w.1.size w w':=by
 have c1:=YX w a cap xs g hn hs hg wH
 have HE:Hid (∀i:Int,eH (fun i=>!bf (aB xs i)) xs.length i->decide (0<=i)=!((List.range xs.length).all fun i=>bf (aB xs i))):=fun i h=>by
  rw[iC h];simp
 clear hn hs hg wH;go_enter func236,ntmps236;go_wp2_with fail;refine c1.mono ?_;clear c1;rintro e w1 ⟨⟨i,rfl,hi⟩,b1⟩;have KE:Hid (decide (0<=i)=!((List.range xs.length).all fun i=>bf (aB xs i))):=HE.out i hi;clear hi HE;go_wp2;go_ret;exact⟨by rw[<-KE.out];rfl,b1⟩
def xE(xs:List S5)(i:Nat):Bool:=decide (i=0)||decide (rk (aB xs (i-1)).a (aB xs (i-1)).e<rk (aB xs i).a (aB xs i).e)
theorem Hg(w:World)(a:OA)(cap:Nat)(xs:List S5)(hn:xs.length<=maxLen)(hs:Sl w w.1.size a xs.length xs)(jG:∀i,i<xs.length->bf (aB xs i)=true):
  Calls prog 237 #[.slice a xs.length cap,.func (.func 238) #[] #[]] w fun e w'=>e=.returned (.bool ((List.range xs.length).all (xE xs)))/\Below w.1.size w w':=by
 unfold maxLen at hn;obtain⟨_,hs⟩:=hs;have HO:=ay jG;clear jG;obtain⟨n,hN⟩:∃n,n=xs.length:=⟨_,rfl⟩
 have HN:Hid (n=xs.length):=hN;rw[<-hN]at hn hs ⊢;clear hN;go_enter func237,ntmps237;go_wp2;go_loopw[5] (fun v wr=>∃j:Nat,(j<=n\/n=0/\j=1)/\0<j/\v=vI j/\Below w.1.size w wr/\(List.range j).all (xE xs)=true) (fun v _=>n-(intOf v).toNat)
 case atStart=>exact⟨1,by omega,by omega,rfl,aN,by simp[xE]⟩
 case round=>
  obtain⟨j,hj,WO,rfl,aD,aO⟩:=hrel;by_cases aK:j<n
  ·rcases hs with hs|⟨b,off,rfl,hb,h1⟩
   ·omega
   obtain⟨i,rfl⟩:∃i,j=i+1:=⟨j-1,by omega⟩
   obtain⟨t0,t1,t2,t3,t4⟩:=(h1.below aD hb) (i+1) _ (eT (by rw[<-HN.out];exact aK));obtain⟨u0,u1,u2,u3,u4⟩:=(h1.below aD hb) i _ (eT (by rw[<-HN.out];omega));have Cf:b<wr.1.size:=Nat.lt_of_lt_of_le hb aD.size;have lift:∀{o:Nat}{u:Value},wr.cell? ⟨b,o,none⟩=some u->∀d os,(grow (redrawn wr d) os).cell? ⟨b,o,none⟩=some u:=fun {o u} h d os=>((below_regrown wr d os).cell (p:=⟨b,o,none⟩) Cf).trans h
   have x0:=lift t0;have x1:=lift t1;have x2:=lift t2;have x3:=lift t3;have x4:=lift t4;have y0:=lift u0;have y1:=lift u1;have y2:=lift u2;have y3:=lift u3;have y4:=lift u4;have k1:=fU (HO.out (i+1) (by rw[<-HN.out];exact aK));have k2:=fU (HO.out i (by rw[<-HN.out];omega));have cA:∀d os,Calls prog 238 #[.agg #[vI (aB xs (i+1)).a,vI (aB xs (i+1)).e,vI (aB xs (i+1)).h,.bool (aB xs (i+1)).j,vI (aB xs (i+1)).i]] (grow (redrawn wr d) os) fun e eU=>e=.returned (vI (rk (aB xs (i+1)).a (aB xs (i+1)).e))/\∃p:Regrown,eU=grow (redrawn wr p.d) p.os:=fun d os=>Calls.regrown_of (qC _ _ k1.1 k1.2)
   have cB:∀d os,Calls prog 238 #[.agg #[vI (aB xs i).a,vI (aB xs i).e,vI (aB xs i).h,.bool (aB xs i).j,vI (aB xs i).i]] (grow (redrawn wr d) os) fun e eU=>e=.returned (vI (rk (aB xs i).a (aB xs i).e))/\∃p:Regrown,eU=grow (redrawn wr p.d) p.os:=fun d os=>Calls.regrown_of (qC _ _ k2.1 k2.2)
   have K:Hid (Below w.1.size w wr/\(List.range (i+1)).all (xE xs)=true):=⟨aD,aO⟩
   have hi:(i:Int)<(n:Int):=by omega
   clear lift t0 t1 t2 t3 t4 u0 u1 u2 u3 u4 k1 k2 h1 aD aO;have U:Hid (xE xs (i+1)=decide (rk (aB xs i).a (aB xs i).e<rk (aB xs (i+1)).a (aB xs (i+1)).e)):=by unfold Hid;simp[xE]
   have HL:Hid (i+1<n):=aK;have sc:((i+1:Nat):Int)<(n:Int):=by omega
   clear aK;generalize rk (aB xs (i+1)).a (aB xs (i+1)).e=x at *;generalize rk (aB xs i).a (aB xs i).e=y at *;generalize (aB xs (i+1)).a=a0 at *;generalize (aB xs (i+1)).e=a1 at *;generalize (aB xs (i+1)).h=a2 at *;generalize (aB xs (i+1)).j=a3 at *;generalize (aB xs (i+1)).i=a4 at *;generalize (aB xs i).a=e0 at *;generalize (aB xs i).e=e1 at *;generalize (aB xs i).h=e2 at *;generalize (aB xs i).j=e3 at *;generalize (aB xs i).i=e4 at *;by_cases hq:x<=y
   ·have KU:Hid (xE xs (i+1)=false):=by unfold Hid;rw[U.out];simp;omega
    have dq:decide (x<=y)=true:=by simpa using hq
    clear hq U;go_wp2_with fail;refine gP ?_;repeat (go_big_quiet_step (first|(go_at_call_of 238 (Value.agg #[vI a0,vI a1,vI a2,.bool a3,vI a4]);exact cA _ _)|(go_at_call_of 238 (Value.agg #[vI e0,vI e1,vI e2,.bool e3,vI e4]);exact cB _ _)))
    refine wpQuiet_nil ?_;intro _ wP;obtain⟨⟨jZ,aZ⟩,kW⟩:=wP;subst kW;have bq:=below_regrown wr jZ aZ;go_wp2;go_ret;exact⟨by rw[mq HL.out KU.out];rfl,K.out.1.trans (bq.mono K.out.1.size)⟩
   ·have KU:Hid (xE xs (i+1)=true):=by unfold Hid;rw[U.out];simp;omega
    have dq:decide (x<=y)=false:=by simpa using hq
    clear hq U;go_wp2_with fail;refine gP ?_;repeat (go_big_quiet_step (first|(go_at_call_of 238 (Value.agg #[vI a0,vI a1,vI a2,.bool a3,vI a4]);exact cA _ _)|(go_at_call_of 238 (Value.agg #[vI e0,vI e1,vI e2,.bool e3,vI e4]);exact cB _ _)))
    refine wpQuiet_nil ?_;intro _ wP;obtain⟨⟨jZ,aZ⟩,kW⟩:=wP;subst kW;have bq:=below_regrown wr jZ aZ;go_wp2;exact⟨⟨i+1+1,.inl HL.out,by omega,by simp,K.out.1.trans (bq.mono K.out.1.size),mr K.out.2 KU.out⟩,by have:=HL.out;simp[intOf];omega⟩
  ·have hd:decide ((j:Int)<(n:Int))=false:=by simp;omega
   have KA:Hid ((List.range n).all (xE xs)=true):=by
    unfold Hid;rw[List.all_eq_true]at aO ⊢;exact fun x hx=>aO x (List.mem_range.2 (by have:=List.mem_range.1 hx;omega))
   clear hs aO;go_wp2;go_ret;exact⟨by rw[KA.out];rfl,aD⟩
theorem Hd{xs:List S5}:(List.range xs.length).all (qB xs)=((List.range xs.length).all (fun i=>bf (aB xs i))&&(List.range xs.length).all (xE xs)):=by
 rw[Bool.eq_iff_iff,Bool.and_eq_true,List.all_eq_true,List.all_eq_true,List.all_eq_true];constructor
 ·intro h
  have h1:∀i,i<xs.length->bf (aB xs i)=true:=fun i hi=>by
   have:=h i (List.mem_range.2 hi);simp only[qB,Bool.and_eq_true]at this;exact this.1
  refine⟨fun i hi=>h1 i (List.mem_range.1 hi),fun i hi=>?_⟩;have Ci:=List.mem_range.1 hi;have:=h i hi;simp only[qB,Bool.and_eq_true,Bool.or_eq_true,decide_eq_true_eq]at this;simp only[xE,Bool.or_eq_true,decide_eq_true_eq];by_cases e:i=0
  ·exact .inl e
  ·rcases this.2 with e'|e'
   ·exact .inl e'
   ·rw[nR (fU (h1 (i-1) (by omega))).2 (fU (h1 i Ci)).2]at e';exact .inr (by simpa using e')
 ·rintro ⟨h1,h2⟩ i hi;have Ci:=List.mem_range.1 hi;have g1:=h1 i hi;have g2:=h2 i hi;simp only[xE,Bool.or_eq_true,decide_eq_true_eq]at g2;simp only[qB,Bool.and_eq_true,Bool.or_eq_true,decide_eq_true_eq];refine⟨g1,?_⟩;by_cases e:i=0
  ·exact .inl e
  ·rcases g2 with e'|e'
   ·exact .inl e'
   ·refine .inr ?_;rw[nR (fU (h1 (i-1) (List.mem_range.2 (by omega)))).2 (fU g1).2];simpa using e'
theorem JL(w:World)(a:OA)(cap:Nat)(xs:List S5)(hn:xs.length<=maxLen)(hs:Sl w w.1.size a xs.length xs):
  Calls prog 212 #[.slice a xs.length cap,.func (.func 165) #[] #[]] w fun e w'=>e=.returned (.bool (decide (xs.length<=12)&&(List.range xs.length).all (qB xs)))/\Below w.1.size w w':=by
 obtain⟨W,hW⟩:∃W,W=w.alloc (.cells #[.func (.func 165) #[] #[]] 112):=⟨_,rfl⟩
 have b0:Below w.1.size w W:=by rw[hW];exact aN.alloc aU _
 have g0:W.cell? ⟨w.1.size,0,none⟩=some (.func (.func 165) #[] #[]):=by rw[hW];go_simp
 have s0:w.1.size<W.1.size:=by rw[hW];simp
 have c1:=YW W a cap xs w.1.size hn (hs.later b0) g0 s0;have H:Hid (Sl w w.1.size a xs.length xs/\xs.length<=maxLen/\Below w.1.size w W):=⟨hs,hn,b0⟩
 have HA:=ay (@Hd xs);clear hs b0 g0 s0;unfold maxLen at hn;by_cases uI:xs.length<=12
 case neg=>
  have d12:decide ((xs.length:Int)<=12)=false:=by simp;omega
  have KN:Hid (decide (xs.length<=12)=false):=by unfold Hid;simp;omega
  rw[hW]at H;clear c1 hW uI;go_enter func212,ntmps212;go_wp2;go_ret;exact⟨by rw[KN.out];rfl,H.out.2.2⟩
 have d12:decide ((xs.length:Int)<=12)=true:=by simp;omega
 have KN:Hid (decide (xs.length<=12)=true):=by unfold Hid;simp;omega
 cases za:(List.range xs.length).all (fun i=>bf (aB xs i))with
 | false=>
  rw[za]at c1;clear uI;go_enter func212,ntmps212;go_wp2_with fail;rw[<-hW];clear hW;refine c1.mono ?_;clear c1;rintro e w1 ⟨rfl,b1⟩;go_wp2;go_ret;exact⟨by rw[KN.out,HA.out,za];rfl,H.out.2.2.trans (b1.mono H.out.2.2.size)⟩
 | true=>
  rw[za]at c1;have HO:Hid (∀i,i<xs.length->bf (aB xs i)=true):=fun i hi=>List.all_eq_true.1 za i (List.mem_range.2 hi)
  clear uI;go_enter func212,ntmps212;go_wp2_with fail;rw[<-hW];clear hW;refine c1.mono ?_;clear c1;rintro e w1 ⟨rfl,b1⟩;have bw:Below w.1.size w w1:=H.out.2.2.trans (b1.mono H.out.2.2.size);have c2:=Hg w1 a cap xs H.out.2.1 (H.out.1.later bw) HO.out;have KB:Hid (Below w.1.size w w1):=bw;clear b1 bw;go_wp2_with fail;refine c2.mono ?_;clear c2;rintro e w2 ⟨rfl,b2⟩;go_wp2;go_ret;exact⟨by rw[KN.out,HA.out,za];rfl,KB.out.trans (b2.mono KB.out.size)⟩
end tx
namespace tx
open Go.Proofs.Tryz
theorem qf(w:World)(v:TV)(t:T7)(hl:TL t)(hs:kR w v t):
  Calls prog 164 #[v.val t] w fun e w'=>e=.returned (.bool (ky t))/\Below w.1.size w w':=by
 obtain⟨ar,cr,ah,ch⟩:=v;simp only[TV.val];obtain⟨W,hW⟩:∃W,W=w.alloc (.cells #[vI t.id,vI t.l,vI t.o,vI t.u,.slice ar t.b.length cr,.slice ah t.ag.length ch,vI t.az] 53):=⟨_,rfl⟩
 have b0:Below w.1.size w W:=by rw[hW];exact aN.alloc aU _
 have x0:BT W w.1.size ⟨ar,cr,ah,ch⟩ t:=by rw[hW];exact BT.box w ⟨ar,cr,ah,ch⟩ t _
 have H:Hid (kR W ⟨ar,cr,ah,ch⟩ t/\BT W w.1.size ⟨ar,cr,ah,ch⟩ t/\TL t):=⟨hs.later b0,x0,hl⟩
 have BW:Hid (Below w.1.size w W):=b0;clear hs b0 x0 hl;by_cases g0:bH 1 1000000 t.id=true
 case neg=>
  have d0:bH 1 1000000 t.id=false:=by simpa using g0
  have hb:ky t=false:=by simp[ky,nP,d0]
  rw[hb];rw[hW]at BW;clear H hW;go_enter func164,ntmps164;go_wp2_with (first|(go_at_call 207;refine(jM _ _).mono ?_;rintro e w' ⟨rfl,rfl⟩)|(go_at_call 208;refine(iM _ _).mono ?_;rintro e w' ⟨rfl,rfl⟩)|(go_at_call 209;refine(mF _ _).mono ?_;rintro e w' ⟨rfl,rfl⟩)|(go_at_call 210;refine(oW _ _).mono ?_;rintro e w' ⟨rfl,rfl⟩)|(go_at_call 185;refine(kX _ _).mono ?_;rintro e w' ⟨rfl,rfl⟩));go_ret;exact⟨rfl,BW.out⟩
 by_cases g1:bH 0 7 t.l=true
 case neg=>
  have d1:bH 0 7 t.l=false:=by simpa using g1
  have hb:ky t=false:=by simp[ky,nP,d1]
  rw[hb];rw[hW]at BW;clear H hW;go_enter func164,ntmps164;go_wp2_with (first|(go_at_call 207;refine(jM _ _).mono ?_;rintro e w' ⟨rfl,rfl⟩)|(go_at_call 208;refine(iM _ _).mono ?_;rintro e w' ⟨rfl,rfl⟩)|(go_at_call 209;refine(mF _ _).mono ?_;rintro e w' ⟨rfl,rfl⟩)|(go_at_call 210;refine(oW _ _).mono ?_;rintro e w' ⟨rfl,rfl⟩)|(go_at_call 185;refine(kX _ _).mono ?_;rintro e w' ⟨rfl,rfl⟩));go_ret;exact⟨rfl,BW.out⟩
 by_cases g2:bH 1 9 t.o=true
 case neg=>
  have d2:bH 1 9 t.o=false:=by simpa using g2
  have hb:ky t=false:=by simp[ky,nP,d2]
  rw[hb];rw[hW]at BW;clear H hW;go_enter func164,ntmps164;go_wp2_with (first|(go_at_call 207;refine(jM _ _).mono ?_;rintro e w' ⟨rfl,rfl⟩)|(go_at_call 208;refine(iM _ _).mono ?_;rintro e w' ⟨rfl,rfl⟩)|(go_at_call 209;refine(mF _ _).mono ?_;rintro e w' ⟨rfl,rfl⟩)|(go_at_call 210;refine(oW _ _).mono ?_;rintro e w' ⟨rfl,rfl⟩)|(go_at_call 185;refine(kX _ _).mono ?_;rintro e w' ⟨rfl,rfl⟩));go_ret;exact⟨rfl,BW.out⟩
 by_cases g3:bH 0 1000 t.u=true
 case neg=>
  have d3:bH 0 1000 t.u=false:=by simpa using g3
  have hb:ky t=false:=by simp[ky,nP,d3]
  rw[hb];rw[hW]at BW;clear H hW;go_enter func164,ntmps164;go_wp2_with (first|(go_at_call 207;refine(jM _ _).mono ?_;rintro e w' ⟨rfl,rfl⟩)|(go_at_call 208;refine(iM _ _).mono ?_;rintro e w' ⟨rfl,rfl⟩)|(go_at_call 209;refine(mF _ _).mono ?_;rintro e w' ⟨rfl,rfl⟩)|(go_at_call 210;refine(oW _ _).mono ?_;rintro e w' ⟨rfl,rfl⟩)|(go_at_call 185;refine(kX _ _).mono ?_;rintro e w' ⟨rfl,rfl⟩));go_ret;exact⟨rfl,BW.out⟩
 by_cases g4:bH 0 1000000 t.az=true
 case neg=>
  have d4:bH 0 1000000 t.az=false:=by simpa using g4
  have hb:ky t=false:=by simp[ky,nP,d4]
  rw[hb];rw[hW]at BW;clear H hW;go_enter func164,ntmps164;go_wp2_with (first|(go_at_call 207;refine(jM _ _).mono ?_;rintro e w' ⟨rfl,rfl⟩)|(go_at_call 208;refine(iM _ _).mono ?_;rintro e w' ⟨rfl,rfl⟩)|(go_at_call 209;refine(mF _ _).mono ?_;rintro e w' ⟨rfl,rfl⟩)|(go_at_call 210;refine(oW _ _).mono ?_;rintro e w' ⟨rfl,rfl⟩)|(go_at_call 185;refine(kX _ _).mono ?_;rintro e w' ⟨rfl,rfl⟩));go_ret;exact⟨rfl,BW.out⟩
 have HM:Hid (ky t=((decide (t.b.length<=12)&&(List.range t.b.length).all (qx t.b))&&(decide (t.ag.length<=12)&&(List.range t.ag.length).all (qB t.ag)))):=by
  unfold Hid;simp only[ky,nP,g0,g1,g2,g3,g4,Bool.true_and]
  cases decide (t.b.length<=12)<;>cases decide (t.ag.length<=12)<;>simp
 have c1:=Jt W ar cr t.b H.out.2.2.r H.out.1.r;generalize hR:(decide (t.b.length<=12)&&(List.range t.b.length).all (qx t.b))=R at *;go_enter func164,ntmps164;go_wp2_with (first|(go_at_call 207;refine(jM _ _).mono ?_;rintro e w' ⟨rfl,rfl⟩)|(go_at_call 208;refine(iM _ _).mono ?_;rintro e w' ⟨rfl,rfl⟩)|(go_at_call 209;refine(mF _ _).mono ?_;rintro e w' ⟨rfl,rfl⟩)|(go_at_call 210;refine(oW _ _).mono ?_;rintro e w' ⟨rfl,rfl⟩)|(go_at_call 185;refine(kX _ _).mono ?_;rintro e w' ⟨rfl,rfl⟩)|fail);rw[<-hW];clear hW g0 g1 g2 g3 g4;refine c1.mono ?_;clear c1;rintro e w1 ⟨rfl,b1⟩;have a5:=(H.out.2.1.later b1).c5;have KB:Hid (Below w.1.size w w1):=BW.out.trans (b1.mono BW.out.size);have c2:=JL w1 ah ch t.ag H.out.2.2.s (H.out.1.later b1).s;clear b1
 cases R with
 | false=>
  clear c2;go_wp2;go_ret;exact⟨by rw[HM.out];rfl,KB.out⟩
 | true=>
  go_wp2_with fail;refine c2.mono ?_;clear c2;rintro e w2 ⟨rfl,b2⟩;go_wp2;go_ret;exact⟨by rw[HM.out];rfl,KB.out.trans (b2.mono KB.out.size)⟩
end tx
section
open Go.Proofs.Tryz
variable {P:Program}{Q:Exit->Act->World->Prop}{Z:Nat->Bool}{a:Act}{f i j:Nat}{md:Region.Mode}{o oj:Oper}{ops:Array Oper}{rs:List Nat}{v:Value}{w:World}
def qJ(n:Nat)(Z:Nat->Bool)(L:Array Bool):Bool:=(List.range n).any fun z=>Z z&&L.getD z false
theorem mG{n:Nat}{L:Array Bool}(hz:Z i=false):qJ n Z (L.setIfInBounds i true)=qJ n Z L:=by
 unfold qJ;congr 1;funext z;by_cases e:i=z
 ·subst e;simp[hz]
 ·rw[getD_set_ne false e]
def BC(P:Program)(md:Region.Mode)(ops:Array Oper)(Q:Exit->Act->World->Prop)(S:World->Prop)(Z:Nat->Bool):Nat->Array Bool->Act->World->Prop
 | 0,L,a,w=>Region.ready md ops L=[]/\Q .normal a w
 | f+1,L,a,w=>(Region.ready md ops L=[]->Q .normal a w)/\∀i∈Region.ready md ops L,wpOp P ops Q i (fun a' w'=>(qJ ops.size Z (L.setIfInBounds i true)=false->S w')/\BC P md ops Q S Z f (L.setIfInBounds i true) a' w') a w
theorem J8{S:World->Prop}:∀(f:Nat) (L:Array Bool) (a:Act) (w:World),BC P md ops Q S Z f L a w->wpAny P md ops Q f L a w:=by
 intro f
 induction f with
 | zero=>exact fun _ _ _ h=>h
 | succ f ih=>exact fun L a w h=>⟨h.1,fun i hi=>wpOp_mono (fun a' w' k=>ih _ a' w' k.2) (h.2 i hi)⟩
def Bz(md:Region.Mode)(ops:Array Oper)(s i:Nat):Bool:=match ops[s]? with
 | some o=>o.after.any fun e=>Region.binds md e&&e.on==i
 | none=>false
theorem AZ{L:Array Bool}(hr:i∈Region.ready md ops L)(aO:∀e∈oj.after,Region.binds md e=true->L.getD e.on false=true)(hj:ops[j]?=some oj)(hw:Bz md ops j i=true):False:=by
 simp only[Bz,hj,Array.any_eq_true,Bool.and_eq_true,beq_iff_eq]at hw;obtain⟨k,hk,hb,he⟩:=hw;have h1:=aO _ (Array.getElem_mem hk) hb;have h0:=(mem_ready.1 hr).1;rw[he]at h1;rcases Nat.lt_or_ge i L.size with h|h
 ·simp[h]at h0 h1;rw[h0]at h1;cases h1
 ·simp[Array.getElem?_eq_none h]at h1
def waitAll(md:Region.Mode)(ops:Array Oper)(Z:Nat->Bool)(i:Nat):Bool:=(List.range ops.size).all fun z=>!Z z||Bz md ops z i
theorem EZ(h:waitAll md ops Z i=true){z:Nat}(ho:ops[z]?=some o)(hz:Z z=true):Bz md ops z i=true:=by
 have aK:z<ops.size:=by
  rcases Nat.lt_or_ge z ops.size with h|h
  ·exact h
  ·rw[Array.getElem?_eq_none h]at ho;cases ho
 have:=List.all_eq_true.1 h z (List.mem_range.2 aK);simpa[hz]using this
theorem PQ{L:Array Bool}(hr:i∈Region.ready md ops L)(aO:∀e∈oj.after,Region.binds md e=true->L.getD e.on false=true)(BL:ops[j]?=some oj):∀x∈oj.after,Region.binds md x=true->x.on≠i:=fun x hx hb he=>AZ hr aO BL (by
 simp only[Bz,BL,Array.any_eq_true,Bool.and_eq_true,beq_iff_eq];obtain⟨k,hk,rfl⟩:=Array.getElem_of_mem hx
 exact⟨k,hk,hb,he⟩)
theorem Nq{S:World->Prop}(ho:ops[i]?=some o)(Pf:Z i=false)(hw:waitAll md ops Z i=true)(Gf:∀(j:Nat) (o:Oper) cs b,ops[j]?=some o->o.op≠.select cs b)(hQ:∀c a w,Q (.panic c) (a.put o.dst v) w->Q (.panic c) a w):
  ∀(f:Nat) (L:Array Bool) (a:Act) (w:World),qJ ops.size Z L=false->
   (∀j oj,ops[j]?=some oj->j≠i->L.getD j true=false->(∀e∈oj.after,Region.binds md e=true->e.on≠i)->o.apart ops oj=true)->
   i∈Region.ready md ops L->YieldsIf P ops S o v a->S w->BC P md ops Q S Z f (L.setIfInBounds i true) (a.put o.dst v) w->BC P md ops Q S Z (f+1) L a w:=by
 intro f
 induction f with
 | zero=>
  intro L a w hL _ hr hy hS H;refine⟨fun h=>absurd hr (by rw[h];simp),fun j hj=>?_⟩;by_cases e:j=i
  ·rw[e];exact hy.wpOp ho hS ⟨fun _=>hS,H⟩
  ·have:=ready_mono hj e;rw[H.1]at this
   cases this
 | succ f ih=>
  intro L a w hL yj hr hy hS H;refine⟨fun h=>absurd hr (by rw[h];simp),fun j hj=>?_⟩;by_cases e:j=i
  ·rw[e];exact hy.wpOp ho hS ⟨fun _=>hS,H⟩
  ·obtain⟨Ti,oj,BL,aO⟩:=mem_ready.1 hj
   have Zx:Z j=false:=by
    cases hz:Z j with
    | false=>rfl
    | true=>exact(AZ hr aO BL (EZ hw BL hz)).elim
   have step:=wpOp_putIf BL (yj j oj BL e Ti (PQ hr aO BL)) (fun cs b=>Gf i o cs b ho) (fun cs b=>Gf j oj cs b BL) hQ hy (H.2 j (ready_mono hj e));refine wpOp_mono (fun a' w' k=>?_) step;have XG:S w':=k.2.1 (by rw[mG Zx,mG Pf];exact hL);refine⟨fun _=>XG,ih _ a' w' (by rw[mG Zx];exact hL) (fun x ox hx Yu Tm Yv=>yj x ox hx Yu ?_ Yv) (ready_mono hr (Ne.symm e)) k.1 XG ?_⟩
   ·by_cases h:j=x
    ·rw[<-h];exact Ti
    ·rw[getD_set_ne true h]at Tm;exact Tm
   ·rw[Array.setIfInBounds_comm _ _ e];exact k.2.2
theorem Qv{S:World->Prop}(ho:ops[i]?=some o)(Pf:Z i=false)(Gf:∀(j:Nat) (o:Oper) cs b,ops[j]?=some o->o.op≠.select cs b)(hQ:∀c a w,Q (.panic c) (a.put o.dst v) w->Q (.panic c) a w):
  ∀(f:Nat) (L:Array Bool) (a:Act) (w:World),
   (∀j oj,ops[j]?=some oj->j≠i->L.getD j true=false->(∀e∈oj.after,Region.binds md e=true->e.on≠i)->o.apart ops oj=true)->
   i∈Region.ready md ops L->YieldsIf P ops (fun _=>True) o v a->(qJ ops.size Z L=false->S w)->BC P md ops Q S Z f (L.setIfInBounds i true) (a.put o.dst v) w->BC P md ops Q S Z (f+1) L a w:=by
 intro f
 induction f with
 | zero=>
  intro L a w _ hr hy hS H;refine⟨fun h=>absurd hr (by rw[h];simp),fun j hj=>?_⟩;by_cases e:j=i
  ·rw[e];exact hy.wpOp ho trivial ⟨fun h=>hS (by rw[<-mG Pf];exact h),H⟩
  ·have:=ready_mono hj e;rw[H.1]at this
   cases this
 | succ f ih=>
  intro L a w yj hr hy hS H;refine⟨fun h=>absurd hr (by rw[h];simp),fun j hj=>?_⟩;by_cases e:j=i
  ·rw[e];exact hy.wpOp ho trivial ⟨fun h=>hS (by rw[<-mG Pf];exact h),H⟩
  ·obtain⟨Ti,oj,BL,aO⟩:=mem_ready.1 hj;have step:=wpOp_putIf BL (yj j oj BL e Ti (PQ hr aO BL)) (fun cs b=>Gf i o cs b ho) (fun cs b=>Gf j oj cs b BL) hQ hy (H.2 j (ready_mono hj e));refine wpOp_mono (fun a' w' k=>?_) step;have XG:qJ ops.size Z (L.setIfInBounds j true)=false->S w':=fun h=>k.2.1 (by rw[Array.setIfInBounds_comm _ _ (Ne.symm e),mG Pf];exact h)
   refine⟨XG,ih _ a' w' (fun x ox hx Yu Tm Yv=>yj x ox hx Yu ?_ Yv) (ready_mono hr (Ne.symm e)) k.1 XG ?_⟩
   ·by_cases h:j=x
    ·rw[<-h];exact Ti
    ·rw[getD_set_ne true h]at Tm;exact Tm
   ·rw[Array.setIfInBounds_comm _ _ e];exact k.2.2
theorem Qw{S:World->Prop}{L:Array Bool}(ho:ops[i]?=some o)(hc:(!Z i&&!qJ ops.size Z L&&waitAll md ops Z i&&Region.noSelect ops&&Region.free md ops L i&&(Region.ready md ops L).contains i)=true)
  (hQ:∀c a w,Q (.panic c) (a.put o.dst v) w->Q (.panic c) a w) (hy:YieldsIf P ops S o v a) (hS:S w) (h:BC P md ops Q S Z f (L.setIfInBounds i true) (a.put o.dst v) w):BC P md ops Q S Z (f+1) L a w:=by
 simp only[Bool.and_eq_true,Bool.not_eq_true']at hc;obtain⟨⟨⟨⟨⟨h0,hl⟩,h1⟩,h2⟩,h3⟩,h4⟩:=hc;exact Nq ho h0 h1 (Region.noSelect_spec h2) hQ f L a w hl (Region.free_spec ho h3) (by simpa using h4) hy hS h
theorem sK{S:World->Prop}{L:Array Bool}(ho:ops[i]?=some o)(hc:(!Z i&&Region.noSelect ops&&Region.free md ops L i&&(Region.ready md ops L).contains i)=true)
  (hQ:∀c a w,Q (.panic c) (a.put o.dst v) w->Q (.panic c) a w) (hy:YieldsIf P ops (fun _=>True) o v a) (hS:S w) (h:BC P md ops Q S Z f (L.setIfInBounds i true) (a.put o.dst v) w):BC P md ops Q S Z (f+1) L a w:=by
 simp only[Bool.and_eq_true,Bool.not_eq_true']at hc;obtain⟨⟨⟨h0,h2⟩,h3⟩,h4⟩:=hc;exact Qv ho h0 (Region.noSelect_spec h2) hQ f L a w (Region.free_spec ho h3) (by simpa using h4) hy (fun _=>hS) h
def sM(P:Program)(md:Region.Mode)(ops:Array Oper)(Q:Exit->Act->World->Prop)(S:World->Prop)(Z:Nat->Bool)(f:Nat)(L:Array Bool)(a:Act)(w:World)(rs:List Nat):Prop:=
 ∀i∈rs,wpOp P ops Q i (fun a' w'=>(qJ ops.size Z (L.setIfInBounds i true)=false->S w')/\BC P md ops Q S Z f (L.setIfInBounds i true) a' w') a w
theorem sM.nil{S:World->Prop}{L:Array Bool}:sM P md ops Q S Z f L a w []:=fun _ h=>by cases h
theorem sM.cons{S:World->Prop}{L:Array Bool}(ho:ops[i]?=some o)
  (h:∀K':Act->World->Prop,Shut (∀a w,(qJ ops.size Z (L.setIfInBounds i true)=false->S w)->BC P md ops Q S Z f (L.setIfInBounds i true) a w->K' a w)->if Region.wanted o (yielded ops a.tmps)=true then Oper.wp P o a w K' Q else K' (a.put o.dst undef) w)
  (hs:sM P md ops Q S Z f L a w rs):sM P md ops Q S Z f L a w (i::rs):=fun j hj=>by
 rcases List.mem_cons.1 hj with rfl|hj
 ·exact wpOp_step ho (fun K' hK=>h K' (fun a w hS hW=>hK a w ⟨hS,hW⟩))
 ·exact hs j hj
theorem sJ{S:World->Prop}{L:Array Bool}(hr:Region.ready md ops L=rs)(eO:rs≠[])(h:sM P md ops Q S Z f L a w rs):BC P md ops Q S Z (f+1) L a w:=
 ⟨fun h0=>absurd (hr.symm.trans h0) eO,fun i hi=>h i (by rw[<-hr];exact hi)⟩
theorem df{S:World->Prop}{L:Array Bool}(hr:Region.ready md ops L=[])(h:Q .normal a w)(f:Nat):BC P md ops Q S Z f L a w:=by
 cases f with
 | zero=>exact⟨hr,h⟩
 | succ f=>exact⟨fun _=>h,fun i hi=>by rw[hr]at hi;cases hi⟩
theorem aY{id:Nat}(Z:Nat->Bool)(S:World->Prop)(hm:P.follows .mixedOrders=true)(h:BC P .any ops Q S Z ops.size (Array.replicate ops.size false) a w.drew):(Code.region id ops true).wp P Q a w:=
 wp_region_any hm (J8 _ _ _ _ h)
theorem iZ{S:World->Prop}(i:Nat)(v:Value){L:Array Bool}(ho:ops[i]?=some o)(hy:∀w,S w->(execOp a.eval o).run P w=.ok (.value v) w)(hS:S w)(h:BC P md ops Q S Z f (L.setIfInBounds i true) (a.put o.dst v) w)(hc:(!Z i&&!qJ ops.size Z L&&waitAll md ops Z i&&Region.noSelect ops&&Region.free md ops L i&&(Region.ready md ops L).contains i)=true:=by kernel_rfl)(hQ:∀c a w,Q (.panic c) (a.put o.dst v) w->Q (.panic c) a w:=by exact fun _ _ _ h=>h)(hw:Region.wanted o (yielded ops a.tmps)=true:=by rfl):BC P md ops Q S Z (f+1) L a w:=Qw ho hc hQ (Or.inl ⟨hw,hy⟩) hS h
theorem TF{S:World->Prop}(i:Nat)(v:Value){L:Array Bool}(ho:ops[i]?=some o)(hy:∀w,True->(execOp a.eval o).run P w=.ok (.value v) w)(hS:S w)(h:BC P md ops Q S Z f (L.setIfInBounds i true) (a.put o.dst v) w)(hc:(!Z i&&Region.noSelect ops&&Region.free md ops L i&&(Region.ready md ops L).contains i)=true:=by kernel_rfl)(hQ:∀c a w,Q (.panic c) (a.put o.dst v) w->Q (.panic c) a w:=by exact fun _ _ _ h=>h)(hw:Region.wanted o (yielded ops a.tmps)=true:=by rfl):BC P md ops Q S Z (f+1) L a w:=sK ho hc hQ (Or.inl ⟨hw,hy⟩) hS h
theorem dJ{S:World->Prop}(i:Nat){L:Array Bool}(ho:ops[i]?=some o)(h:∀K':Act->World->Prop,Shut (∀a w,(qJ ops.size Z (L.setIfInBounds i true)=false->S w)->BC P md ops Q S Z f (L.setIfInBounds i true) a w->K' a w)->if Region.wanted o (yielded ops a.tmps)=true then Oper.wp P o a w K' Q else K' (a.put o.dst undef) w)(hr:Region.ready md ops L=[i]:=by kernel_rfl):BC P md ops Q S Z (f+1) L a w:=sJ hr (by simp) (sM.cons ho h sM.nil)
theorem cu{S:World->Prop}(i:Nat){L:Array Bool}(ho:ops[i]?=some o)(hS:S w)(h:BC P md ops Q S Z f (L.setIfInBounds i true) (a.put o.dst v) w)(hy:∀w,True->(execOp a.eval o).run P w=.ok (.value v) w:=by(intro w _;go_simp;first|done|with_reducible rfl|(rw[if_pos (by omega)])|(rw[if_pos (by omega)];go_simp)))(hc:(!Z i&&Region.noSelect ops&&Region.free md ops L i&&(Region.ready md ops L).contains i)=true:=by kernel_rfl)(hQ:∀c a w,Q (.panic c) (a.put o.dst v) w->Q (.panic c) a w:=by exact fun _ _ _ h=>h)(hw:Region.wanted o (yielded ops a.tmps)=true:=by rfl):BC P md ops Q S Z (f+1) L a w:=sK ho hc hQ (Or.inl ⟨hw,hy⟩) hS h
end
section
open Go.Proofs.Tryz
theorem PM(w:World)(s:tx.N5)(g n:Nat)(hg:w.cell? ⟨g,0,none⟩=some (vI (n:Int)))(wH:g<w.1.size):Calls prog 267 #[.agg #[vI s.a,vI s.e,vI s.i,vI s.h,.bool s.j],.pointer (some ⟨g,0,none⟩)] w fun e w'=>e=.returned (.bool (decide ((n:Int)<=s.a)))/\Below w.1.size w w':=by
 obtain⟨wr,hW⟩:∃Y,Y=w.alloc (.cells #[vI s.a,vI s.e,vI s.i,vI s.h,.bool s.j] 70):=⟨_,rfl⟩
 have b0:Below w.1.size w wr:=by rw[hW];exact aN.alloc aU _
 have FX:Hid (Bx wr w.1.size [vI s.a,vI s.e,vI s.i,vI s.h,.bool s.j]):=by rw[hW];exact Bx.made w [vI s.a,vI s.e,vI s.i,vI s.h,.bool s.j] _
 have hm:∀w:World,(method 452 70 (.agg #[vI s.a,vI s.e,vI s.i,vI s.h,.bool s.j]) "loop.example/g00153/impl.cell").run prog w=.ok (203,.agg #[vI s.a,vI s.e,vI s.i,vI s.h,.bool s.j]) w:=fun _=>by kernel_rfl
 have Zu:∀X:World,(Instr.field 126 (.agg #[vI s.a,vI s.e]) 0).run prog X=.ok (vI s.a) X:=fun _=>by kernel_rfl
 have SF:Hid (∀X,Below wr.1.size wr X->(fun X:World=>Bx X w.1.size [vI s.a,vI s.e,vI s.i,vI s.h,.bool s.j]/\X.cell? ⟨g,0,none⟩=some (vI (n:Int))) X):=fun X hX=>⟨FX.out.later hX,((au b0 hX).cell (p:=⟨g,0,none⟩) wH).trans hg⟩
 have KB:=ay b0;clear b0 hg wH;go_enter func267,ntmps267;go_wp2_with fail;rw[<-hW];clear hW;have bd:Below wr.1.size wr wr.drew:=aN.drew;have hS:=SF.out _ bd;refine aY (fun z=>z==6) (fun X:World=>Bx X w.1.size [vI s.a,vI s.e,vI s.i,vI s.h,.bool s.j]/\X.cell? ⟨g,0,none⟩=some (vI (n:Int))) (by kernel_rfl) ?_;generalize wr.drew=Wd at *;refine iZ 0 ?_ rfl ?_ hS ?_;rotate_left
 ·(intro X aH;have c0:=aH.1.1 0 _ rfl;have c1:=aH.1.1 1 _ rfl;have c2:=aH.1.1 2 _ rfl;have c3:=aH.1.1 3 _ rfl;have c4:=aH.1.1 4 _ rfl;go_simp;first|done|with_reducible rfl)
 simp only[Act.put];refine iZ 4 ?_ rfl ?_ hS ?_;rotate_left
 ·(intro X aH;have c5:=aH.2;go_simp;first|done|with_reducible rfl)
 simp only[Act.put];refine cu 1 rfl hS ?_;simp only[Act.put];refine dJ 2 rfl (fun K hK=>?_);go_simp;refine(tx.gI Wd s).mono ?_;rintro e X2 ⟨rfl,b2⟩;have bX:=au bd b2;refine hK.out _ _ (fun _=>SF.out _ bX) ?_;clear hK K;have hS:=SF.out _ bX;refine cu 3 rfl hS ?_;simp only[Act.put];refine cu 5 rfl hS ?_;simp only[Act.put];refine dJ 6 rfl (fun K hK=>?_);go_simp;refine hK.out _ _ (fun h=>absurd (show false=true from h.symm.trans (by kernel_rfl)) (by decide)) ?_;clear hK K;refine df (by kernel_rfl) ?_ _;go_wp2;go_ret;exact⟨rfl,au KB.out bX⟩
theorem GI(w:World)(a:OA)(cap:Nat)(xs:List tx.N5)(g n:Nat)(hn:xs.length<=maxLen)(hs:tx.jP w w.1.size a xs.length xs)(hg:w.cell? ⟨g,0,none⟩=some (vI (n:Int)))(wH:g<w.1.size):
  Calls prog 253 #[.slice a xs.length cap,.func (.func 267) #[] #[.pointer (some ⟨g,0,none⟩)]] w fun e w'=>(∃i:Int,e=.returned (vI i)/\eH (fun i=>decide ((n:Int)<=(tx.aG xs i).a)) xs.length i)/\Below w.1.size w w':=by
 unfold maxLen at hn;obtain⟨_,hs⟩:=hs;obtain⟨f,hf⟩:∃f:Nat->Bool,f=fun i=>decide ((n:Int)<=(tx.aG xs i).a):=⟨_,rfl⟩
 have HF:Hid (∀(X:World) (i:Nat),Below w.1.size w X->Calls prog 267 #[.agg #[vI (tx.aG xs i).a,vI (tx.aG xs i).e,vI (tx.aG xs i).i,vI (tx.aG xs i).h,.bool (tx.aG xs i).j],.pointer (some ⟨g,0,none⟩)] X fun e w'=>e=.returned (.bool (f i))/\Below X.1.size X w'):=fun X i hX=>by
  rw[hf];exact PM X (tx.aG xs i) g n ((hX.cell (p:=⟨g,0,none⟩) wH).trans hg) (Nat.lt_of_lt_of_le wH hX.size)
 rw[<-hf];clear hf hg;go_enter func253,ntmps253;go_wp2;go_loopw[8] (fun v wr=>∃j:Nat,j<=xs.length/\v=vI j/\Below w.1.size w wr/\∀i,i<j->f i=false) (fun v _=>xs.length-(intOf v).toNat)
 case atStart=>exact⟨0,Nat.zero_le _,rfl,aN,fun i h=>absurd h (by omega)⟩
 case round=>
  obtain⟨j,hj,rfl,aD,aO⟩:=hrel;by_cases aK:j<xs.length
  ·rcases hs with hs|⟨b,off,rfl,hb,h1⟩
   ·omega
   ·obtain⟨c0,c1,c2,c3,c4⟩:=(h1.below aD hb) j _ (tx.fP aK);have KA:Hid ((∀i,i<j->f i=false)/\Below w.1.size w wr):=⟨aO,aD⟩
    have hw:=HF.out wr j aD;have jn:(j:Int)<(xs.length:Int):=by omega
    clear h1 aO aD
    cases hp:f j with
    | true=>
     rw[hp]at hw;go_wp2_with fail;refine hw.mono ?_;clear hw;rintro e w1 ⟨rfl,b1⟩;go_wp2;go_ret;exact⟨⟨_,rfl,.inr ⟨j,rfl,aK,hp,KA.out.1⟩⟩,KA.out.2.trans (b1.mono KA.out.2.size)⟩
    | false=>
     rw[hp]at hw;go_wp2_with fail;refine hw.mono ?_;clear hw;rintro e w1 ⟨rfl,b1⟩;go_wp2
     exact⟨⟨j+1,by omega,by simp,KA.out.2.trans (b1.mono KA.out.2.size),fun i hi=>by
      by_cases e:i=j
      ·rw[e];exact hp
      ·exact KA.out.1 i (by omega)⟩,by simp[intOf];omega⟩
  ·obtain rfl:j=xs.length:=by omega
   have hd:decide ((xs.length:Int)<(xs.length:Int))=false:=by simp
   have KA:Hid ((∀i,i<xs.length->f i=false)/\Below w.1.size w wr):=⟨aO,aD⟩
   clear hs aO aD;go_wp2;go_ret;exact⟨⟨_,rfl,.inl ⟨rfl,KA.out.1⟩⟩,KA.out.2⟩
theorem PT(w:World)(a:OA)(cap:Nat)(xs:List tx.N5)(n:Nat)(hn:xs.length<=maxLen)(hs:tx.jP w w.1.size a xs.length xs):
  Calls prog 247 #[.slice a xs.length cap,vI (n:Int)] w fun e w'=>e=.returned (.bool (lY n xs))/\Below w.1.size w w':=by
 obtain⟨W,hW⟩:∃Y,Y=w.alloc (.cells #[vI (n:Int)] 3):=⟨_,rfl⟩
 have b0:Below w.1.size w W:=by rw[hW];exact aN.alloc aU _
 have g0:W.cell? ⟨w.1.size,0,none⟩=some (vI (n:Int)):=by rw[hW];go_simp
 have gl:w.1.size<W.1.size:=by rw[hW];simp
 have c1:=GI W a cap xs w.1.size n hn ((hs.below b0).mono b0.size) g0 gl
 have HE:Hid (∀i:Int,eH (fun i=>decide ((n:Int)<=(tx.aG xs i).a)) xs.length i->(!decide (0<=i))=lY n xs):=fun i h=>by
  rw[iC h,lY];simp only[Bool.not_not];congr 1;funext j;rw[Bool.eq_iff_iff];simp
 have KB:=ay b0;clear b0 g0 gl hs hn
 have XQ:Calls prog 232 #[.slice a xs.length cap,.func (.func 267) #[] #[.pointer (some ⟨w.1.size,0,none⟩)]] W fun e w'=>e=.returned (.bool (!lY n xs))/\Below W.1.size W w':=by
  clear hW KB;go_enter func232,ntmps232;go_wp2_with fail;refine c1.mono ?_;clear c1;rintro e w1 ⟨⟨i,rfl,hi⟩,b1⟩;have KE:=ay (HE.out i hi);have K1:=ay b1;clear hi HE b1;go_wp2;go_ret;exact⟨by rw[<-KE.out];simp,K1.out⟩
 clear c1 HE;go_enter func247,ntmps247;go_wp2_with fail;rw[<-hW];clear hW;refine XQ.mono ?_;clear XQ;rintro e w1 ⟨rfl,b1⟩;have K1:=ay b1;clear b1;go_wp2;go_ret;exact⟨by simp,au KB.out K1.out⟩
theorem Qd(w:World)(s:S5)(g n:Nat)(hg:w.cell? ⟨g,0,none⟩=some (vI (n:Int)))(wH:g<w.1.size):Calls prog 268 #[.agg #[vI s.a,vI s.e,vI s.h,.bool s.j,vI s.i],.pointer (some ⟨g,0,none⟩)] w fun e w'=>e=.returned (.bool (decide ((n:Int)<=s.a)))/\Below w.1.size w w':=by
 obtain⟨wr,hW⟩:∃Y,Y=w.alloc (.cells #[vI s.a,vI s.e,vI s.h,.bool s.j,vI s.i] 73):=⟨_,rfl⟩
 have b0:Below w.1.size w wr:=by rw[hW];exact aN.alloc aU _
 have FX:Hid (Bx wr w.1.size [vI s.a,vI s.e,vI s.h,.bool s.j,vI s.i]):=by rw[hW];exact Bx.made w [vI s.a,vI s.e,vI s.h,.bool s.j,vI s.i] _
 have hm:∀w:World,(method 452 73 (.agg #[vI s.a,vI s.e,vI s.h,.bool s.j,vI s.i]) "loop.example/g00153/impl.cell").run prog w=.ok (168,.agg #[vI s.a,vI s.e,vI s.h,.bool s.j,vI s.i]) w:=fun _=>by kernel_rfl
 have Zu:∀X:World,(Instr.field 126 (.agg #[vI s.a,vI s.e]) 0).run prog X=.ok (vI s.a) X:=fun _=>by kernel_rfl
 have SF:Hid (∀X,Below wr.1.size wr X->(fun X:World=>Bx X w.1.size [vI s.a,vI s.e,vI s.h,.bool s.j,vI s.i]/\X.cell? ⟨g,0,none⟩=some (vI (n:Int))) X):=fun X hX=>⟨FX.out.later hX,((au b0 hX).cell (p:=⟨g,0,none⟩) wH).trans hg⟩
 have KB:=ay b0;clear b0 hg wH;go_enter func268,ntmps268;go_wp2_with fail;rw[<-hW];clear hW;have bd:Below wr.1.size wr wr.drew:=aN.drew;have hS:=SF.out _ bd;refine aY (fun z=>z==6) (fun X:World=>Bx X w.1.size [vI s.a,vI s.e,vI s.h,.bool s.j,vI s.i]/\X.cell? ⟨g,0,none⟩=some (vI (n:Int))) (by kernel_rfl) ?_;generalize wr.drew=Wd at *;refine iZ 0 ?_ rfl ?_ hS ?_;rotate_left
 ·(intro X aH;have c0:=aH.1.1 0 _ rfl;have c1:=aH.1.1 1 _ rfl;have c2:=aH.1.1 2 _ rfl;have c3:=aH.1.1 3 _ rfl;have c4:=aH.1.1 4 _ rfl;go_simp;first|done|with_reducible rfl)
 simp only[Act.put];refine iZ 4 ?_ rfl ?_ hS ?_;rotate_left
 ·(intro X aH;have c5:=aH.2;go_simp;first|done|with_reducible rfl)
 simp only[Act.put];refine cu 1 rfl hS ?_;simp only[Act.put];refine dJ 2 rfl (fun K hK=>?_);go_simp;refine(tx.fH Wd s).mono ?_;rintro e X2 ⟨rfl,b2⟩;have bX:=au bd b2;refine hK.out _ _ (fun _=>SF.out _ bX) ?_;clear hK K;have hS:=SF.out _ bX;refine cu 3 rfl hS ?_;simp only[Act.put];refine cu 5 rfl hS ?_;simp only[Act.put];refine dJ 6 rfl (fun K hK=>?_);go_simp;refine hK.out _ _ (fun h=>absurd (show false=true from h.symm.trans (by kernel_rfl)) (by decide)) ?_;clear hK K;refine df (by kernel_rfl) ?_ _;go_wp2;go_ret;exact⟨rfl,au KB.out bX⟩
theorem He(w:World)(a:OA)(cap:Nat)(xs:List S5)(g n:Nat)(hn:xs.length<=maxLen)(hs:tx.Sl w w.1.size a xs.length xs)(hg:w.cell? ⟨g,0,none⟩=some (vI (n:Int)))(wH:g<w.1.size):
  Calls prog 255 #[.slice a xs.length cap,.func (.func 268) #[] #[.pointer (some ⟨g,0,none⟩)]] w fun e w'=>(∃i:Int,e=.returned (vI i)/\eH (fun i=>decide ((n:Int)<=(tx.aB xs i).a)) xs.length i)/\Below w.1.size w w':=by
 unfold maxLen at hn;obtain⟨_,hs⟩:=hs;obtain⟨f,hf⟩:∃f:Nat->Bool,f=fun i=>decide ((n:Int)<=(tx.aB xs i).a):=⟨_,rfl⟩
 have HF:Hid (∀(X:World) (i:Nat),Below w.1.size w X->Calls prog 268 #[.agg #[vI (tx.aB xs i).a,vI (tx.aB xs i).e,vI (tx.aB xs i).h,.bool (tx.aB xs i).j,vI (tx.aB xs i).i],.pointer (some ⟨g,0,none⟩)] X fun e w'=>e=.returned (.bool (f i))/\Below X.1.size X w'):=fun X i hX=>by
  rw[hf];exact Qd X (tx.aB xs i) g n ((hX.cell (p:=⟨g,0,none⟩) wH).trans hg) (Nat.lt_of_lt_of_le wH hX.size)
 rw[<-hf];clear hf hg;go_enter func255,ntmps255;go_wp2;go_loopw[8] (fun v wr=>∃j:Nat,j<=xs.length/\v=vI j/\Below w.1.size w wr/\∀i,i<j->f i=false) (fun v _=>xs.length-(intOf v).toNat)
 case atStart=>exact⟨0,Nat.zero_le _,rfl,aN,fun i h=>absurd h (by omega)⟩
 case round=>
  obtain⟨j,hj,rfl,aD,aO⟩:=hrel;by_cases aK:j<xs.length
  ·rcases hs with hs|⟨b,off,rfl,hb,h1⟩
   ·omega
   ·obtain⟨c0,c1,c2,c3,c4⟩:=(h1.below aD hb) j _ (tx.eT aK);have KA:Hid ((∀i,i<j->f i=false)/\Below w.1.size w wr):=⟨aO,aD⟩
    have hw:=HF.out wr j aD;have jn:(j:Int)<(xs.length:Int):=by omega
    clear h1 aO aD
    cases hp:f j with
    | true=>
     rw[hp]at hw;go_wp2_with fail;refine hw.mono ?_;clear hw;rintro e w1 ⟨rfl,b1⟩;go_wp2;go_ret;exact⟨⟨_,rfl,.inr ⟨j,rfl,aK,hp,KA.out.1⟩⟩,KA.out.2.trans (b1.mono KA.out.2.size)⟩
    | false=>
     rw[hp]at hw;go_wp2_with fail;refine hw.mono ?_;clear hw;rintro e w1 ⟨rfl,b1⟩;go_wp2
     exact⟨⟨j+1,by omega,by simp,KA.out.2.trans (b1.mono KA.out.2.size),fun i hi=>by
      by_cases e:i=j
      ·rw[e];exact hp
      ·exact KA.out.1 i (by omega)⟩,by simp[intOf];omega⟩
  ·obtain rfl:j=xs.length:=by omega
   have hd:decide ((xs.length:Int)<(xs.length:Int))=false:=by simp
   have KA:Hid ((∀i,i<xs.length->f i=false)/\Below w.1.size w wr):=⟨aO,aD⟩
   clear hs aO aD;go_wp2;go_ret;exact⟨⟨_,rfl,.inl ⟨rfl,KA.out.1⟩⟩,KA.out.2⟩
theorem Qf(w:World)(a:OA)(cap:Nat)(xs:List S5)(n:Nat)(hn:xs.length<=maxLen)(hs:tx.Sl w w.1.size a xs.length xs):
  Calls prog 248 #[.slice a xs.length cap,vI (n:Int)] w fun e w'=>e=.returned (.bool (pE n xs))/\Below w.1.size w w':=by
 obtain⟨W,hW⟩:∃Y,Y=w.alloc (.cells #[vI (n:Int)] 3):=⟨_,rfl⟩
 have b0:Below w.1.size w W:=by rw[hW];exact aN.alloc aU _
 have g0:W.cell? ⟨w.1.size,0,none⟩=some (vI (n:Int)):=by rw[hW];go_simp
 have gl:w.1.size<W.1.size:=by rw[hW];simp
 have c1:=He W a cap xs w.1.size n hn ((hs.below b0).mono b0.size) g0 gl
 have HE:Hid (∀i:Int,eH (fun i=>decide ((n:Int)<=(tx.aB xs i).a)) xs.length i->(!decide (0<=i))=pE n xs):=fun i h=>by
  rw[iC h,pE];simp only[Bool.not_not];congr 1;funext j;rw[Bool.eq_iff_iff];simp
 have KB:=ay b0;clear b0 g0 gl hs hn
 have XQ:Calls prog 236 #[.slice a xs.length cap,.func (.func 268) #[] #[.pointer (some ⟨w.1.size,0,none⟩)]] W fun e w'=>e=.returned (.bool (!pE n xs))/\Below W.1.size W w':=by
  clear hW KB;go_enter func236,ntmps236;go_wp2_with fail;refine c1.mono ?_;clear c1;rintro e w1 ⟨⟨i,rfl,hi⟩,b1⟩;have KE:=ay (HE.out i hi);have K1:=ay b1;clear hi HE b1;go_wp2;go_ret;exact⟨by rw[<-KE.out];simp,K1.out⟩
 clear c1 HE;go_enter func248,ntmps248;go_wp2_with fail;rw[<-hW];clear hW;refine XQ.mono ?_;clear XQ;rintro e w1 ⟨rfl,b1⟩;have K1:=ay b1;clear b1;go_wp2;go_ret;exact⟨by simp,au KB.out K1.out⟩
end
section
open Go.Proofs.Tryz
def oo(k:C6)(t:tx.T7):Bool:=tx.ky t&&decide (t.l<(k.aa.length:Int))&&decide (t.az<=k.q)&&lY k.f.length t.b&&pE k.f.length t.ag
theorem J4(w:World)(t0:OA)(t1:Nat)(t2:OA)(t3:Nat)(t:tx.T7)(a1:OA)(c1:Nat)(a2:OA)(c2:Nat)(a3:OA)(c3:Nat)(k:C6)(hl:tx.TL t)(h:tx.kR w ⟨t0,t1,t2,t3⟩ t):Calls prog 223 #[.agg #[vI t.id,vI t.l,vI t.o,vI t.u,.slice t0 t.b.length t1,.slice t2 t.ag.length t3,vI t.az],.agg #[vI k.v,vI k.q,.slice a1 k.f.length c1,.slice a2 k.aa.length c2,.slice a3 k.c.length c3,.bool k.w]] w fun e w'=>e=.returned (.bool (oo k t))/\Below w.1.size w w':=by
 obtain⟨U0,wz,b0,x0,z0⟩:=jU w (tx.nO t0 t1 t2 t3 t) 53;obtain⟨U,hU,b1,x1,-⟩:=jU U0 (dR a1 c1 a2 c2 a3 c3 k) 32;rw[z0]at x1;have bU:Below w.1.size w U:=au b0 b1;have FA:Hid (Bx U w.1.size (tx.nO t0 t1 t2 t3 t)):=x0.later b1;have FB:Hid (Bx U (w.1.size+1) (dR a1 c1 a2 c2 a3 c3 k)):=x1;have HR:Hid (tx.kR U ⟨t0,t1,t2,t3⟩ t/\tx.TL t/\Below w.1.size w U):=⟨h.later bU,hl,bU⟩
 have hc:=tx.qf U ⟨t0,t1,t2,t3⟩ t hl (h.later bU);simp only[tx.TV.val]at hc;rw[wz]at hU;clear b0 x0 z0 b1 x1 bU wz h hl;go_enter func223,ntmps223;go_wp2_with fail;rw[<-hU];clear hU;refine hc.mono ?_;clear hc;rintro e w1 ⟨rfl,b1⟩;have B1:=ay b1;clear b1
 cases hB:tx.ky t with
 | false=>
  have hb:Hid (oo k t=false):=by unfold Hid;simp[oo,hB]
  go_wp2;go_ret;exact⟨by rw[hb.out];rfl,au HR.out.2.2 B1.out⟩
 | true=>
 have q1:=(FA.out.later B1.out).1 1 _ rfl;have q6:=(FA.out.later B1.out).1 6 _ rfl;have q4:=(FA.out.later B1.out).1 4 _ rfl;have r1:=(FB.out.later B1.out).1 1 _ rfl;have r2:=(FB.out.later B1.out).1 2 _ rfl;have r3:=(FB.out.later B1.out).1 3 _ rfl;by_cases gh:t.l<(k.aa.length:Int)
 case neg=>
  have dh:decide ((k.aa.length:Int)<=t.l)=true:=by simp<;>omega
  have hb:Hid (oo k t=false):=by unfold Hid;simp[oo,gh]
  go_wp2;go_ret;exact⟨by rw[hb.out];rfl,au HR.out.2.2 B1.out⟩
 have dh:decide ((k.aa.length:Int)<=t.l)=false:=by simp<;>omega
 by_cases gs:t.az<=k.q
 case neg=>
  have ds:decide (k.q<t.az)=true:=by simp<;>omega
  have hb:Hid (oo k t=false):=by unfold Hid;simp[oo,gs]
  go_wp2;go_ret;exact⟨by rw[hb.out];rfl,au HR.out.2.2 B1.out⟩
 have ds:decide (k.q<t.az)=false:=by simp<;>omega
 have HY:Hid (oo k t=(lY k.f.length t.b&&pE k.f.length t.ag)):=by unfold Hid;simp[oo,hB,gh,gs]
 have hc:=PT w1 t0 t1 t.b k.f.length HR.out.2.1.r (HR.out.1.later B1.out).r;clear gh gs;go_wp2_with fail;refine hc.mono ?_;clear hc q1 q6 q4 r1 r2 r3 dh ds;rintro e w2 ⟨rfl,b2⟩;have B2:Hid (Below U.1.size U w2):=au B1.out b2;clear b2
 cases hR:lY k.f.length t.b with
 | false=>
  have hb:Hid (oo k t=false):=by unfold Hid;rw[HY.out,hR];rfl
  go_wp2;go_ret;exact⟨by rw[hb.out];rfl,au HR.out.2.2 B2.out⟩
 | true=>
 have q5:=(FA.out.later B2.out).1 5 _ rfl;have r2:=(FB.out.later B2.out).1 2 _ rfl;have hc:=Qf w2 t2 t3 t.ag k.f.length HR.out.2.1.s (HR.out.1.later B2.out).s;have HZ:Hid (oo k t=pE k.f.length t.ag):=by unfold Hid;rw[HY.out,hR];rfl
 go_wp2_with fail;refine hc.mono ?_;clear hc q5 r2;rintro e w3 ⟨rfl,b3⟩;have B3:Hid (Below U.1.size U w3):=au B2.out b3;clear b3;go_wp2;go_ret;exact⟨by rw[HZ.out];simp,au HR.out.2.2 B3.out⟩
theorem Sj(w:World)(g:Nat)(t0:OA)(t1:Nat)(t2:OA)(t3:Nat)(t:tx.T7)(a1:OA)(c1:Nat)(a2:OA)(c2:Nat)(a3:OA)(c3:Nat)(k:C6)(hl:tx.TL t)(h:tx.kR w ⟨t0,t1,t2,t3⟩ t)(hg:Bx w g (dR a1 c1 a2 c2 a3 c3 k)):Calls prog 222 #[.agg #[vI t.id,vI t.l,vI t.o,vI t.u,.slice t0 t.b.length t1,.slice t2 t.ag.length t3,vI t.az],.pointer (some ⟨g,0,none⟩)] w fun e w'=>e=.returned (.bool (!oo k t))/\Below w.1.size w w':=by
 obtain⟨U,hU⟩:∃Y,Y=w.alloc (.cells #[vI t.id,vI t.l,vI t.o,vI t.u,.slice t0 t.b.length t1,.slice t2 t.ag.length t3,vI t.az] 53):=⟨_,rfl⟩
 have b0:Below w.1.size w U:=by rw[hU];exact aN.alloc aU _
 have hc:=J4 U t0 t1 t2 t3 t a1 c1 a2 c2 a3 c3 k hl (h.later b0);have hx:=hg.later b0;have p0:=hx.c6;have KB:=ay b0;rw[hU]at p0;clear b0 hx hg h hl;go_enter func222,ntmps222;go_wp2_with fail;rw[<-hU];clear hU p0;refine hc.mono ?_;clear hc;rintro e w1 ⟨rfl,b1⟩;have B1:=ay b1;clear b1;go_wp2;go_ret;exact⟨rfl,au KB.out B1.out⟩
theorem Gh(w:World)(t0:OA)(t1:Nat)(t2:OA)(t3:Nat)(t:tx.T7):Calls prog 225 #[.agg #[vI t.id,vI t.l,vI t.o,vI t.u,.slice t0 t.b.length t1,.slice t2 t.ag.length t3,vI t.az]] w fun e w'=>e=.returned (vI t.id)/\Below w.1.size w w':=by
 go_enter func225,ntmps225;go_wp2;go_ret;exact⟨rfl,aN.alloc aU _⟩
def Ig(ts:List tx.T7)(i:Nat):Bool:=decide (i=0)||decide ((aS ts (i-1)).id<(aS ts i).id)
theorem kG{A X Y:World}(h:Below A.1.size A X)(b:Below X.1.size X Y):Below A.1.size A Y:=au h b
theorem JK(w:World)(a:OA)(cap:Nat)(ts:List tx.T7)(hn:ts.length<=maxLen)(hs:gY.pK w a ts):
  Calls prog 224 #[.slice a ts.length cap,.func (.func 225) #[] #[]] w fun e w'=>e=.returned (.bool ((List.range ts.length).all (Ig ts)))/\Below w.1.size w w':=by
 unfold maxLen at hn;go_enter func224,ntmps224;go_wp2;go_loopw[5] (fun i wr=>∃j:Nat,(j+1<=ts.length\/j=0)/\i=vI (((j+1:Nat)):Int)/\Below w.1.size w wr/\(List.range (j+1)).all (Ig ts)=true) (fun i _=>ts.length-(intOf i).toNat)
 case atStart=>exact⟨0,.inr rfl,rfl,aN,by simp[Ig]⟩
 case round=>
  obtain⟨j,hj,rfl,aD,aO⟩:=hrel;have K:Hid (Below w.1.size w wr/\(List.range (j+1)).all (Ig ts)=true):=⟨aD,aO⟩
  by_cases aK:j+1<ts.length
  ·rcases hs with hs|⟨b,off,rfl,hb,h1⟩
   ·rw[hs]at aK;simp at aK
   obtain⟨⟨ZL,ZM,ZN,ZO⟩,hx,_⟩:=h1 (j+1) _ (ib aK);obtain⟨⟨y0',y1',y2',ZQ⟩,hy,_⟩:=h1 j _ (ib (by omega));have x0:∀dd os,(grow (redrawn wr dd) os).cell? ⟨b,off+(j+1)*7,none⟩=some (vI (aS ts (j+1)).id):=fun dd os=>((kG K.out.1 (below_regrown wr dd os)).cell (p:=⟨b,off+(j+1)*7,none⟩) hb).trans (hx 0 _ rfl)
   have x1:∀dd os,(grow (redrawn wr dd) os).cell? ⟨b,off+(j+1)*7+1,none⟩=some (vI (aS ts (j+1)).l):=fun dd os=>((kG K.out.1 (below_regrown wr dd os)).cell (p:=⟨b,off+(j+1)*7+1,none⟩) hb).trans (hx 1 _ rfl)
   have x2:∀dd os,(grow (redrawn wr dd) os).cell? ⟨b,off+(j+1)*7+2,none⟩=some (vI (aS ts (j+1)).o):=fun dd os=>((kG K.out.1 (below_regrown wr dd os)).cell (p:=⟨b,off+(j+1)*7+2,none⟩) hb).trans (hx 2 _ rfl)
   have x3:∀dd os,(grow (redrawn wr dd) os).cell? ⟨b,off+(j+1)*7+3,none⟩=some (vI (aS ts (j+1)).u):=fun dd os=>((kG K.out.1 (below_regrown wr dd os)).cell (p:=⟨b,off+(j+1)*7+3,none⟩) hb).trans (hx 3 _ rfl)
   have x4:∀dd os,(grow (redrawn wr dd) os).cell? ⟨b,off+(j+1)*7+4,none⟩=some (.slice ZL (aS ts (j+1)).b.length ZM):=fun dd os=>((kG K.out.1 (below_regrown wr dd os)).cell (p:=⟨b,off+(j+1)*7+4,none⟩) hb).trans (hx 4 _ rfl)
   have x5:∀dd os,(grow (redrawn wr dd) os).cell? ⟨b,off+(j+1)*7+5,none⟩=some (.slice ZN (aS ts (j+1)).ag.length ZO):=fun dd os=>((kG K.out.1 (below_regrown wr dd os)).cell (p:=⟨b,off+(j+1)*7+5,none⟩) hb).trans (hx 5 _ rfl)
   have x6:∀dd os,(grow (redrawn wr dd) os).cell? ⟨b,off+(j+1)*7+6,none⟩=some (vI (aS ts (j+1)).az):=fun dd os=>((kG K.out.1 (below_regrown wr dd os)).cell (p:=⟨b,off+(j+1)*7+6,none⟩) hb).trans (hx 6 _ rfl)
   have y0:∀dd os,(grow (redrawn wr dd) os).cell? ⟨b,off+j*7,none⟩=some (vI (aS ts j).id):=fun dd os=>((kG K.out.1 (below_regrown wr dd os)).cell (p:=⟨b,off+j*7,none⟩) hb).trans (hy 0 _ rfl)
   have y1:∀dd os,(grow (redrawn wr dd) os).cell? ⟨b,off+j*7+1,none⟩=some (vI (aS ts j).l):=fun dd os=>((kG K.out.1 (below_regrown wr dd os)).cell (p:=⟨b,off+j*7+1,none⟩) hb).trans (hy 1 _ rfl)
   have y2:∀dd os,(grow (redrawn wr dd) os).cell? ⟨b,off+j*7+2,none⟩=some (vI (aS ts j).o):=fun dd os=>((kG K.out.1 (below_regrown wr dd os)).cell (p:=⟨b,off+j*7+2,none⟩) hb).trans (hy 2 _ rfl)
   have y3:∀dd os,(grow (redrawn wr dd) os).cell? ⟨b,off+j*7+3,none⟩=some (vI (aS ts j).u):=fun dd os=>((kG K.out.1 (below_regrown wr dd os)).cell (p:=⟨b,off+j*7+3,none⟩) hb).trans (hy 3 _ rfl)
   have y4:∀dd os,(grow (redrawn wr dd) os).cell? ⟨b,off+j*7+4,none⟩=some (.slice y0' (aS ts j).b.length y1'):=fun dd os=>((kG K.out.1 (below_regrown wr dd os)).cell (p:=⟨b,off+j*7+4,none⟩) hb).trans (hy 4 _ rfl)
   have y5:∀dd os,(grow (redrawn wr dd) os).cell? ⟨b,off+j*7+5,none⟩=some (.slice y2' (aS ts j).ag.length ZQ):=fun dd os=>((kG K.out.1 (below_regrown wr dd os)).cell (p:=⟨b,off+j*7+5,none⟩) hb).trans (hy 5 _ rfl)
   have y6:∀dd os,(grow (redrawn wr dd) os).cell? ⟨b,off+j*7+6,none⟩=some (vI (aS ts j).az):=fun dd os=>((kG K.out.1 (below_regrown wr dd os)).cell (p:=⟨b,off+j*7+6,none⟩) hb).trans (hy 6 _ rfl)
   have cQ:∀d os,Calls prog 225 #[.agg #[vI (aS ts (j+1)).id,vI (aS ts (j+1)).l,vI (aS ts (j+1)).o,vI (aS ts (j+1)).u,.slice ZL (aS ts (j+1)).b.length ZM,.slice ZN (aS ts (j+1)).ag.length ZO,vI (aS ts (j+1)).az]] (grow (redrawn wr d) os) fun e eU=>e=.returned (vI (aS ts (j+1)).id)/\∃p:Regrown,eU=grow (redrawn wr p.d) p.os:=fun d os=>Calls.regrown_of (Gh _ _ _ _ _ _)
   have cR:∀d os,Calls prog 225 #[.agg #[vI (aS ts j).id,vI (aS ts j).l,vI (aS ts j).o,vI (aS ts j).u,.slice y0' (aS ts j).b.length y1',.slice y2' (aS ts j).ag.length ZQ,vI (aS ts j).az]] (grow (redrawn wr d) os) fun e eU=>e=.returned (vI (aS ts j).id)/\∃p:Regrown,eU=grow (redrawn wr p.d) p.os:=fun d os=>Calls.regrown_of (Gh _ _ _ _ _ _)
   have WO:(j:Int)<(ts.length:Int):=by omega
   have mn:((j+1:Nat):Int)<(ts.length:Int):=by omega
   have HL:Hid (j+1<ts.length):=aK;have U:Hid (Ig ts (j+1)=decide ((aS ts j).id<(aS ts (j+1)).id)):=by unfold Hid;simp[Ig]
   clear hx hy aD aO h1 aK;generalize aS ts (j+1)=Ie at *;generalize aS ts j=Ic at *;by_cases hq:Ie.id<=Ic.id
   ·have Ja:decide (Ie.id<=Ic.id)=true:=by simp[hq]
    have hU:Ig ts (j+1)=false:=by rw[U.out];simp;omega
    clear hq;go_wp2_with fail;refine gP ?_;repeat (go_big_quiet_step (first|(go_at_call_of 225 (Value.agg #[vI Ie.id,vI Ie.l,vI Ie.o,vI Ie.u,.slice ZL Ie.b.length ZM,.slice ZN Ie.ag.length ZO,vI Ie.az]);exact cQ _ _)|(go_at_call_of 225 (Value.agg #[vI Ic.id,vI Ic.l,vI Ic.o,vI Ic.u,.slice y0' Ic.b.length y1',.slice y2' Ic.ag.length ZQ,vI Ic.az]);exact cR _ _)))
    refine iW fun dq aZ=>?_
    have bq:=below_regrown wr dq aZ;go_wp2;go_ret;exact⟨by rw[iN (f:=Ig ts) HL.out hU];rfl,K.out.1.trans (bq.mono K.out.1.size)⟩
   ·have Ja:decide (Ie.id<=Ic.id)=false:=by simp;omega
    have hU:Ig ts (j+1)=true:=by rw[U.out];simp;omega
    clear hq;go_wp2_with fail;refine gP ?_;repeat (go_big_quiet_step (first|(go_at_call_of 225 (Value.agg #[vI Ie.id,vI Ie.l,vI Ie.o,vI Ie.u,.slice ZL Ie.b.length ZM,.slice ZN Ie.ag.length ZO,vI Ie.az]);exact cQ _ _)|(go_at_call_of 225 (Value.agg #[vI Ic.id,vI Ic.l,vI Ic.o,vI Ic.u,.slice y0' Ic.b.length y1',.slice y2' Ic.ag.length ZQ,vI Ic.az]);exact cR _ _)))
    refine iW fun dq aZ=>?_
    have bq:=below_regrown wr dq aZ;go_wp2;exact⟨⟨j+1,.inl (by have:=HL.out;omega),by simp,K.out.1.trans (bq.mono K.out.1.size),kF (f:=Ig ts) K.out.2 hU⟩,by have:=HL.out;simp[intOf];omega⟩
  ·have hd:decide (((j+1:Nat):Int)<(ts.length:Int))=false:=by simp;omega
   have hA:(List.range ts.length).all (Ig ts)=true:=by
    by_cases h0:ts.length=0
    ·rw[h0];rfl
    ·have:ts.length=j+1:=by omega
     rw[this];exact aO
   have HA:=ay hA;clear hs aO hA;go_wp2;go_ret;exact⟨by rw[HA.out];rfl,aD⟩
def Tp(w:World)(xs:List tx.T7)(g:Nat)(f:Nat->Bool):Prop:=
 ∀(X:World) (i:Nat) (t0:OA) (t1:Nat) (t2:OA) (t3:Nat),Below w.1.size w X->i<xs.length->gY.Rd X ⟨t0,t1,t2,t3⟩ (aS xs i)->Calls prog 222 #[.agg #[vI (aS xs i).id,vI (aS xs i).l,vI (aS xs i).o,vI (aS xs i).u,.slice t0 (aS xs i).b.length t1,.slice t2 (aS xs i).ag.length t3,vI (aS xs i).az],.pointer (some ⟨g,0,none⟩)] X fun e w'=>e=.returned (.bool (f i))/\Below X.1.size X w'
theorem fN(w:World)(a:OA)(cap:Nat)(xs:List tx.T7)(g:Nat)(f:Nat->Bool)(hn:xs.length<=maxLen)(hs:gY.pK w a xs)(hf:Tp w xs g f):
  Calls prog 249 #[.slice a xs.length cap,.func (.func 222) #[] #[.pointer (some ⟨g,0,none⟩)]] w fun e w'=>(∃i:Int,e=.returned (vI i)/\eH f xs.length i)/\Below w.1.size w w':=by
 unfold maxLen at hn;have HF:=ay hf;clear hf;go_enter func249,ntmps249;go_wp2;go_loopw[8] (fun v wr=>∃j:Nat,j<=xs.length/\v=vI j/\Below w.1.size w wr/\∀i,i<j->f i=false) (fun v _=>xs.length-(intOf v).toNat)
 case atStart=>exact⟨0,Nat.zero_le _,rfl,aN,fun i h=>absurd h (by omega)⟩
 case round=>
  obtain⟨j,hj,rfl,aD,aO⟩:=hrel;by_cases aK:j<xs.length
  ·rcases hs with hs|⟨b,off,rfl,hb,h1⟩
   ·rw[hs]at aK;simp at aK
   obtain⟨⟨t0,t1,t2,t3⟩,bg,fG⟩:=h1 j _ (ib aK);have e0:wr.cell? ⟨b,off+j*7,none⟩=some (vI (aS xs j).id):=(aD.cell (p:=⟨b,off+j*7,none⟩) hb).trans (bg 0 _ rfl);have e1:wr.cell? ⟨b,off+j*7+1,none⟩=some (vI (aS xs j).l):=(aD.cell (p:=⟨b,off+j*7+1,none⟩) hb).trans (bg 1 _ rfl);have e2:wr.cell? ⟨b,off+j*7+2,none⟩=some (vI (aS xs j).o):=(aD.cell (p:=⟨b,off+j*7+2,none⟩) hb).trans (bg 2 _ rfl);have e3:wr.cell? ⟨b,off+j*7+3,none⟩=some (vI (aS xs j).u):=(aD.cell (p:=⟨b,off+j*7+3,none⟩) hb).trans (bg 3 _ rfl);have e4:wr.cell? ⟨b,off+j*7+4,none⟩=some (.slice t0 (aS xs j).b.length t1):=(aD.cell (p:=⟨b,off+j*7+4,none⟩) hb).trans (bg 4 _ rfl);have e5:wr.cell? ⟨b,off+j*7+5,none⟩=some (.slice t2 (aS xs j).ag.length t3):=(aD.cell (p:=⟨b,off+j*7+5,none⟩) hb).trans (bg 5 _ rfl);have e6:wr.cell? ⟨b,off+j*7+6,none⟩=some (vI (aS xs j).az):=(aD.cell (p:=⟨b,off+j*7+6,none⟩) hb).trans (bg 6 _ rfl);have hw:=HF.out wr j t0 t1 t2 t3 aD aK (gY.later fG aD);have KA:Hid ((∀i,i<j->f i=false)/\Below w.1.size w wr):=⟨aO,aD⟩
   have jn:(j:Int)<(xs.length:Int):=by omega
   clear h1 bg fG aO aD
   cases hp:f j with
   | true=>
    rw[hp]at hw;go_wp2_with fail;refine hw.mono ?_;clear hw;rintro e w1 ⟨rfl,b1⟩;go_wp2;go_ret;exact⟨⟨_,rfl,.inr ⟨j,rfl,aK,hp,KA.out.1⟩⟩,KA.out.2.trans (b1.mono KA.out.2.size)⟩
   | false=>
    rw[hp]at hw;go_wp2_with fail;refine hw.mono ?_;clear hw;rintro e w1 ⟨rfl,b1⟩;go_wp2
    exact⟨⟨j+1,by omega,by simp,KA.out.2.trans (b1.mono KA.out.2.size),fun i hi=>by
     by_cases e:i=j
     ·rw[e];exact hp
     ·exact KA.out.1 i (by omega)⟩,by simp[intOf];omega⟩
  ·obtain rfl:j=xs.length:=by omega
   have hd:decide ((xs.length:Int)<(xs.length:Int))=false:=by simp
   have KA:Hid ((∀i,i<xs.length->f i=false)/\Below w.1.size w wr):=⟨aO,aD⟩
   clear aO aD hs;go_wp2;go_ret;exact⟨⟨_,rfl,.inl ⟨rfl,KA.out.1⟩⟩,KA.out.2⟩
theorem Pm(w:World)(a:OA)(cap:Nat)(xs:List tx.T7)(g:Nat)(f:Nat->Bool)(hn:xs.length<=maxLen)(hs:gY.pK w a xs)(hf:Tp w xs g f):
  Calls prog 226 #[.slice a xs.length cap,.func (.func 222) #[] #[.pointer (some ⟨g,0,none⟩)]] w fun e w'=>e=.returned (.bool (!((List.range xs.length).all fun j=>!f j)))/\Below w.1.size w w':=by
 have hc:=fN w a cap xs g f hn hs hf;clear hs hf;go_enter func226,ntmps226;go_wp2_with fail;refine hc.mono ?_;clear hc;rintro e w1 ⟨⟨i,rfl,hi⟩,b1⟩;have h:=iC hi;have KB:=ay b1;clear b1 hi;go_wp2;go_ret;exact⟨by rw[<-h];rfl,KB.out⟩
theorem LP(k:C6):si k=((List.range k.c.length).all (Ig k.c)&&(List.range k.c.length).all (fun i=>oo k (aS k.c i))):=by
 unfold si;rw[<-DW];apply all_congr;intro i _;unfold nY Ig oo
 cases tx.ky (aS k.c i)<;>cases decide (i=0)<;>cases decide ((aS k.c (i-1)).id<(aS k.c i).id)<;>simp
theorem J5(w:World)(a1:OA)(c1:Nat)(a2:OA)(c2:Nat)(a3:OA)(c3:Nat)(k:C6)(hl:cO.L k)(h:cO.Rd w a1 c1 a2 c2 a3 c3 k):Calls prog 189 #[.agg #[vI k.v,vI k.q,.slice a1 k.f.length c1,.slice a2 k.aa.length c2,.slice a3 k.c.length c3,.bool k.w]] w fun e w'=>e=.returned (.bool (decide (k.c.length<=60)&&si k))/\Below w.1.size w w':=by
 obtain⟨U,hU⟩:∃Y,Y=w.alloc (.cells #[vI k.v,vI k.q,.slice a1 k.f.length c1,.slice a2 k.aa.length c2,.slice a3 k.c.length c3,.bool k.w] 32):=⟨_,rfl⟩
 have b0:Below w.1.size w U:=by rw[hU];exact aN.alloc aU _
 have FA:Hid (Bx U w.1.size (dR a1 c1 a2 c2 a3 c3 k)):=by rw[hU];exact Bx.made w (dR a1 c1 a2 c2 a3 c3 k) _
 have HR:Hid (cO.Rd U a1 c1 a2 c2 a3 c3 k/\cO.L k):=⟨h.later b0,hl⟩
 have BW:Hid (Below w.1.size w U):=b0;have lt:=hl.t;unfold maxLen at lt;have p4:=FA.out.1 4 _ rfl;rw[hU]at p4;clear b0 h hl;by_cases g5:k.c.length<=60
 case neg=>
  have d5:decide ((k.c.length:Int)<=60)=false:=by simp<;>omega
  have hb:(decide (k.c.length<=60)&&si k)=false:=by simp[g5]
  rw[hb];rw[hU]at BW;clear FA HR hU hb;go_enter func189,ntmps189;go_wp2;go_ret;exact⟨rfl,BW.out⟩
 have d5:decide ((k.c.length:Int)<=60)=true:=by simp<;>omega
 have HB:Hid ((decide (k.c.length<=60)&&si k)=((List.range k.c.length).all (Ig k.c)&&(List.range k.c.length).all (fun i=>oo k (aS k.c i)))):=by unfold Hid;rw[<-LP];simp[g5]
 have hc:=JK U a3 c3 k.c HR.out.2.t HR.out.1.t;go_enter func189,ntmps189;go_wp2_with fail;rw[<-hU];clear hU p4;refine hc.mono ?_;clear hc;rintro e w1 ⟨rfl,b1⟩;have B1:=ay b1;clear b1
 cases hR:(List.range k.c.length).all (Ig k.c)with
 | false=>
  go_wp2;go_ret;exact⟨by rw[HB.out,hR];rfl,au BW.out B1.out⟩
 | true=>
 have p4:=(FA.out.later B1.out).1 4 _ rfl;have hc:=Pm w1 a3 c3 k.c w.1.size (fun i=>!oo k (aS k.c i)) HR.out.2.t (HR.out.1.later B1.out).t (fun X i t0 t1 t2 t3 hb hi hr=>Sj X w.1.size t0 t1 t2 t3 (aS k.c i) a1 c1 a2 c2 a3 c3 k (HR.out.2.ts _ (List.mem_of_getElem? (ib hi))) hr (FA.out.later (au B1.out hb)));have he:(!((List.range k.c.length).all fun j=>!(fun i=>!oo k (aS k.c i)) j))=!((List.range k.c.length).all fun i=>oo k (aS k.c i)):=by simp
 rw[he]at hc;clear he;have HZ:Hid ((decide (k.c.length<=60)&&si k)=(List.range k.c.length).all (fun i=>oo k (aS k.c i))):=by unfold Hid;rw[HB.out,hR];rfl
 generalize ((List.range k.c.length).all fun i=>oo k (aS k.c i))=BB at *;go_wp2_with fail;refine hc.mono ?_;clear hc p4;rintro e w2 ⟨rfl,b2⟩;have B2:Hid (Below U.1.size U w2):=au B1.out b2;clear b2;go_wp2;go_ret;exact⟨by rw[HZ.out];simp,au BW.out B2.out⟩
end
section
open Go.Proofs.Tryz
def RF(w:World)(n:Nat)(rs:List K2)(g:Nat)(f:Nat->Bool):Prop:=
 ∀(X:World) (i:Nat) (a':OA) (aW:Nat),Below w.1.size w X->i<n->nN X X.1.size a' (dD rs i).cells.length (dD rs i).cells->Calls prog 312 #[(dD rs i).val a' aW,.pointer (some ⟨g,0,none⟩)] X fun e w'=>e=.returned (.bool (f i))/\Below X.1.size X w'
theorem Vg(w:World)(a:OA)(n cap:Nat)(rs:List K2)(g:Nat)(f:Nat->Bool)(hn:n<=maxLen)(hs:yt w w.1.size a n rs)(hf:RF w n rs g f):
  Calls prog 269 #[.slice a n cap,.func (.func 312) #[] #[.pointer (some ⟨g,0,none⟩)]] w fun e w'=>(∃i:Int,e=.returned (vI i)/\eH f n i)/\Below w.1.size w w':=by
 unfold maxLen at hn;obtain⟨hx,hs⟩:=hs;have HF:=ay hf;clear hf;go_enter func269,ntmps269;go_wp2;go_loopw[8] (fun v wr=>∃j:Nat,j<=n/\v=vI j/\Below w.1.size w wr/\∀i,i<j->f i=false) (fun v _=>n-(intOf v).toNat)
 case atStart=>exact⟨0,Nat.zero_le _,rfl,aN,fun i h=>absurd h (by omega)⟩
 case round=>
  obtain⟨j,hj,rfl,aD,aO⟩:=hrel;by_cases aK:j<n
  ·rcases hs with hs|⟨b,off,rfl,hb,h1⟩
   ·omega
   ·have hr:=(h1 j _ (eY (by omega))).below aD hb;have c0:=hr.c0;obtain⟨a',aW,c1,gM,kL⟩:=hr.c1;have KA:Hid ((∀i,i<j->f i=false)/\Below w.1.size w wr):=⟨aO,aD⟩
    have hw:=HF.out wr j a' aW aD aK (gM.mono aD.size);simp only[K2.val]at hw;clear h1 hr aO gM aD kL;generalize (dD rs j).cells.length=ln at *
    cases hp:f j with
    | true=>
     rw[hp]at hw;go_wp2_with fail;refine hw.mono ?_;clear hw;rintro e w1 ⟨rfl,b1⟩;go_wp2;go_ret;exact⟨⟨_,rfl,.inr ⟨j,rfl,aK,hp,KA.out.1⟩⟩,KA.out.2.trans (b1.mono KA.out.2.size)⟩
    | false=>
     rw[hp]at hw;go_wp2_with fail;refine hw.mono ?_;clear hw;rintro e w1 ⟨rfl,b1⟩;go_wp2
     exact⟨⟨j+1,by omega,by simp,KA.out.2.trans (b1.mono KA.out.2.size),fun i hi=>by
      by_cases e:i=j
      ·rw[e];exact hp
      ·exact KA.out.1 i (by omega)⟩,by simp[intOf];omega⟩
  ·have:j=n:=by omega
   subst this;have hd:decide ((j:Int)<(j:Int))=false:=by simp
   have KA:Hid (∀i,i<j->f i=false):=aO;clear hs aO;go_wp2;go_ret;exact⟨⟨_,rfl,.inl ⟨rfl,KA.out⟩⟩,aD⟩
theorem Gu{m:M4}(h:fw m=true):∀c∈m.af,c.cells.length=6:=by
 simp only[fw,Bool.and_eq_true,decide_eq_true_eq]at h;obtain⟨⟨⟨⟨⟨h1,h2⟩,h3⟩,_⟩,h4⟩,h5⟩:=h;intro c hc;obtain⟨i,hi,rfl⟩:=List.getElem_of_mem hc;have:=List.all_eq_true.1 h4 i (List.mem_range.2 hi);simp only[nI,dD,List.getElem?_eq_getElem hi,Option.getD_some,Bool.and_eq_true,eG,decide_eq_true_eq]at this;exact this.1.2.1
def ou(m:M4)(a:OA)(c:Nat):Value:=if m.x then .iface 260 (.agg #[.slice a m.af.length c])else .iface 262 (.agg #[])
theorem qp(w:World)(m0:OA)(m1:Nat)(m2:OA)(m3:Nat)(m4:OA)(m5:Nat)(m:M4):Calls prog 150 #[.agg #[.bool m.x,.slice m0 m.af.length m1,.slice m2 m.g.length m3,.slice m4 m.ai.length m5]] w fun e w'=>e=.returned (ou m m0 m1)/\Below w.1.size w w':=by
 cases ha:m.x with
 | true=>
  have hv:ou m m0 m1=.iface 260 (.agg #[.slice m0 m.af.length m1]):=by simp[ou,ha]
  rw[hv];clear hv;go_enter func150,ntmps150;go_wp2;go_ret;exact⟨rfl,aN.alloc aU _⟩
 | false=>
  have hv:ou m m0 m1=.iface 262 (.agg #[]):=by simp[ou,ha]
  rw[hv];clear hv;go_enter func150,ntmps150;go_wp2;go_ret;exact⟨rfl,aN.alloc aU _⟩
theorem Am(w:World)(a:OA)(n c:Nat):Calls prog 311 #[.agg #[.slice a n c]] w fun e w'=>e=.returned (.bool true)/\Below w.1.size w w':=by
 go_enter func311,ntmps311;go_wp2;go_ret;exact⟨rfl,aN.alloc aU _⟩
theorem Al(w:World):Calls prog 313 #[.agg #[]] w fun e w'=>e=.returned (.bool false)/\Below w.1.size w w':=by
 go_enter func313,ntmps313;go_wp2;go_ret;exact⟨rfl,aN.alloc aU _⟩
theorem Qn(w:World)(x y:Int)(a:OA)(n c g:Nat)(hg:w.cell? ⟨g,0,none⟩=some (vI y))(wH:g<w.1.size):Calls prog 312 #[.agg #[vI x,.slice a n c],.pointer (some ⟨g,0,none⟩)] w fun e w'=>e=.returned (.bool (decide (x=y)))/\Below w.1.size w w':=by
 have b0:Below w.1.size w (w.alloc (.cells #[vI x,.slice a n c] 58)):=aN.alloc aU _;have p0:=(b0.cell (p:=⟨g,0,none⟩) wH).trans hg;have he:(x==y)=decide (x=y):=by by_cases h:x=y<;>simp[h]
 have KB:=ay b0;clear b0 hg wH;go_enter func312,ntmps312;go_wp2;go_ret;exact⟨by rw[<-he];rfl,KB.out⟩
end
section
open Go.Proofs.Tryz
def NP(w w':World)(m:M4)(y:Int)(e:Ending):Prop:=
 (ve m y=false/\e=.returned (.tuple #[.slice none 0 0,.bool false]))\/
 (ve m y=true/\∃i q cp:Nat,uu m y=(i:Int)/\i<m.af.length/\e=.returned (.tuple #[.slice (some ⟨q,0,none⟩) (dD m.af i).cells.length cp,.bool true])/\w.1.size<=q/\q<w'.1.size/\(dD m.af i).cells.length<=cp/\bK w' q 0 (dD m.af i).cells/\Room w' q ((dD m.af i).cells.length*2))
theorem LZ(w:World)(a:OA)(c:Nat)(m:M4)(y:Int)(hl:ML m)(hB:fw m=true)(hs:yt w w.1.size a m.af.length m.af):
  Calls prog 310 #[.agg #[.slice a m.af.length c],vI y] w fun e w'=>NP w w' m y e/\Below w.1.size w w':=by
 have hn:=hl.k;obtain⟨U,hU⟩:∃Y,Y=(w.alloc (.cells #[.slice a m.af.length c] 260)).alloc (.cells #[vI y] 2):=⟨_,rfl⟩
 have b0:Below w.1.size w U:=by rw[hU];exact(aN.alloc aU _).alloc (by simp) _
 have z0:U.1.size=w.1.size+2:=by rw[hU];simp
 have p0:U.cell? ⟨w.1.size,0,none⟩=some (.slice a m.af.length c):=by rw[hU];go_simp
 have p1:U.cell? ⟨w.1.size+1,0,none⟩=some (vI y):=by rw[hU];go_simp
 have hc:=Vg U a m.af.length c m.af (w.1.size+1) (fun j=>decide ((dD m.af j).a=y)) hn (hs.later b0)
  (fun X i a' c' hb hi gM=>Qn X (dD m.af i).a y a' _ c' (w.1.size+1) ((hb.cell (p:=⟨w.1.size+1,0,none⟩) (by simp;omega)).trans p1) (by have:=hb.size;omega))
 have H:Hid (Below w.1.size w U/\U.1.size=w.1.size+2/\yt U U.1.size a m.af.length m.af):=⟨b0,z0,hs.later b0⟩
 have P0:=ay p0;clear b0 z0 hs p1;unfold maxLen at hn;rw[hU]at p0;go_enter func310,ntmps310;go_wp2_with fail;rw[<-hU];clear hU p0;refine hc.mono ?_;clear hc;rintro e w1 ⟨⟨i,rfl,hi⟩,b1⟩;have Zw:=FW hi (mY m y);have aK:=ze m y;rw[<-Zw]at aK;have B1:=ay b1
 cases hh:ve m y with
 | false=>
  rw[hh]at aK;have d:decide (i<0)=true:=aK;clear aK hi Zw b1;go_wp2;refine bodyPost_ret (v:=.tuple #[.slice none 0 0,.bool false]) (by simp[results,results310,go_sem]) rfl ?_;exact⟨.inl ⟨hh,rfl⟩,au H.out.1 B1.out⟩
 | true=>
  rw[hh]at aK;have d:decide (i<0)=false:=aK;rcases hi with ⟨rfl,_⟩|⟨j,rfl,hj,_,_⟩
  ·simp at d
  obtain⟨_,hk⟩:=H.out.2.2;rcases hk with hk|⟨b,off,rfl,hb,h1⟩
  ·omega
  have q0:=(b1.cell (p:=⟨w.1.size,0,none⟩) (by have:=H.out.2.1;simp;omega)).trans P0.out;have hr:=(h1 j _ (eY hj)).below b1 hb;obtain⟨a',aW,c1,gM,kL⟩:=hr.c1;have hlen:(dD m.af j).cells.length=6:=Gu hB _ (List.mem_of_getElem? (eY hj));have ho:=vH w1 a' aW (dD m.af j).cells (by omega) (by omega) (gM.mono b1.size);have HJ:Hid (uu m y=(j:Int)/\j<m.af.length/\ve m y=true):=⟨Zw.symm,hj,hh⟩
  clear aK Zw b1 h1 hr gM kL hlen hB;go_wp2_with fail;refine ho.mono ?_;clear ho q0 c1;rintro e w2 ⟨q,cp,rfl,h2,h3,h4,h5,h6,b2⟩;have HF:Hid (w1.1.size<=q/\q<w2.1.size/\(dD m.af j).cells.length<=cp/\bK w2 q 0 (dD m.af j).cells/\Room w2 q ((dD m.af j).cells.length*2)):=⟨h2,h3,h4,h5,h6⟩
  have B2:Hid (Below w.1.size w w2):=au (au H.out.1 B1.out) b2;have S1:Hid (w.1.size<=w1.1.size):=(au H.out.1 B1.out).size;clear b2 h2 h3 h4 h5 h6;go_wp2;refine bodyPost_ret (v:=.tuple #[.slice (some ⟨q,0,none⟩) (dD m.af j).cells.length cp,.bool true]) (by simp[results,results310,go_sem]) rfl ?_;exact⟨.inr ⟨HJ.out.2.2,j,q,cp,HJ.out.1,HJ.out.2.1,rfl,Nat.le_trans S1.out HF.out.1,HF.out.2⟩,B2.out⟩
theorem Le:prog.underlying 266=some (.interface #[("loop.example/g00153/impl.cells",268),("loop.example/g00153/impl.lives",210)]):=by kernel_rfl
theorem uP(w:World)(a:OA)(c:Nat)(m:M4)(y:Int)(hl:ML m)(hB:fw m=true)(hs:yt w w.1.size a m.af.length m.af):
  Calls prog 152 #[ou m a c,vI y] w fun e w'=>((m.x=true/\NP w w' m y e)\/(m.x=false/\e=.returned (.tuple #[.slice none 0 0,.bool false])))/\Below w.1.size w w':=by
 cases ha:m.x with
 | true=>
  have hv:ou m a c=.iface 260 (.agg #[.slice a m.af.length c]):=by simp[ou,ha]
  rw[hv];have ht:∀w:World,(Instr.typeAssert (.iface 260 (.agg #[.slice a m.af.length c])) 217 266 true).run prog w=.ok (.tuple #[.iface 260 (.agg #[.slice a m.af.length c]),.bool true]) w:=fun w=>run_typeAssert_hasB Le (by kernel_rfl) _ _ w
  have hm:∀w:World,(method 452 260 (.agg #[.slice a m.af.length c]) "loop.example/g00153/impl.cells").run prog w=.ok (310,.agg #[.slice a m.af.length c]) w:=fun _=>by kernel_rfl
  have hc:=LZ w a c m y hl hB hs;clear hv hl hB hs ha;go_enter func152,ntmps152;go_wp2_with fail;refine hc.mono ?_;clear hc;rintro e w1 ⟨h1,b1⟩;have H1:=ay h1;have B1:=ay b1;clear b1;rcases h1 with ⟨_,rfl⟩|⟨_,i,q,cp,_,_,rfl,_⟩
  ·go_wp2;refine bodyPost_ret (v:=.tuple #[.slice none 0 0,.bool false]) (by simp[results,results152,go_sem]) rfl ?_;exact⟨.inl ⟨trivial,H1.out⟩,B1.out⟩
  ·go_wp2;refine bodyPost_ret (v:=.tuple #[.slice (some ⟨q,0,none⟩) (dD m.af i).cells.length cp,.bool true]) (by simp[results,results152,go_sem]) rfl ?_;exact⟨.inl ⟨trivial,H1.out⟩,B1.out⟩
 | false=>
  have hv:ou m a c=.iface 262 (.agg #[]):=by simp[ou,ha]
  rw[hv];have ht:∀w:World,(Instr.typeAssert (.iface 262 (.agg #[])) 217 266 true).run prog w=.ok (.tuple #[.nilIface,.bool false]) w:=fun w=>run_typeAssert_lacksB Le (by kernel_rfl) (by kernel_rfl) _ _ w
  clear hv hl hB hs ha;go_enter func152,ntmps152;go_wp2;refine bodyPost_ret (v:=.tuple #[.slice none 0 0,.bool false]) (by simp[results,results152,go_sem]) rfl ?_;exact⟨.inr ⟨trivial,rfl⟩,aN⟩
theorem JR(w:World)(a:OA)(c:Nat)(m:M4)(y:Int)(hl:ML m)(hB:fw m=true)(hs:yt w w.1.size a m.af.length m.af):
  Calls prog 221 #[ou m a c,vI y] w fun e w'=>e=.returned (.bool (!m.x||ve m y))/\Below w.1.size w w':=by
 have hc:=uP w a c m y hl hB hs;clear hl hB hs
 cases ha:m.x with
 | true=>
  have hv:ou m a c=.iface 260 (.agg #[.slice a m.af.length c]):=by simp[ou,ha]
  rw[hv]at hc ⊢
  have hm:∀w:World,(method 452 260 (.agg #[.slice a m.af.length c]) "loop.example/g00153/impl.lives").run prog w=.ok (311,.agg #[.slice a m.af.length c]) w:=fun _=>by kernel_rfl
  have HA:=ay ha;clear hv ha;go_enter func221,ntmps221;go_wp2_with fail;refine hc.mono ?_;clear hc;rintro e w1 ⟨h1,b1⟩;have B1:=ay b1;have hL:=Am w1 a m.af.length c;clear b1;rcases h1 with ⟨_,h1⟩|⟨h1,_⟩
  case inr=>rw[HA.out]at h1;cases h1
  rcases h1 with ⟨hh,rfl⟩|⟨hh,i,q,cp,_,_,rfl,_⟩
  ·have HH:=ay hh;clear hh;go_wp2_with fail;refine hL.mono ?_;clear hL;rintro e w2 ⟨rfl,b2⟩;have B2:Hid (Below w.1.size w w2):=au B1.out b2;clear b2;go_wp2;go_ret;exact⟨by rw[HH.out];rfl,B2.out⟩
  ·have HH:=ay hh;clear hh hL;go_wp2;go_ret;exact⟨by rw[HH.out];rfl,B1.out⟩
 | false=>
  have hv:ou m a c=.iface 262 (.agg #[]):=by simp[ou,ha]
  rw[hv]at hc ⊢
  have hm:∀w:World,(method 452 262 (.agg #[]) "loop.example/g00153/impl.lives").run prog w=.ok (313,.agg #[]) w:=fun _=>by kernel_rfl
  have HA:=ay ha;clear hv ha;go_enter func221,ntmps221;go_wp2_with fail;refine hc.mono ?_;clear hc;rintro e w1 ⟨h1,b1⟩;have B1:=ay b1;have hL:=Al w1;clear b1;rcases h1 with ⟨h1,_⟩|⟨_,rfl⟩
  ·rw[HA.out]at h1;cases h1
  go_wp2_with fail;refine hL.mono ?_;clear hL;rintro e w2 ⟨rfl,b2⟩;have B2:Hid (Below w.1.size w w2):=au B1.out b2;clear b2;go_wp2;go_ret;exact⟨rfl,B2.out⟩
end
section
open Go.Proofs.Tryz
variable {X w:World}{b j:Nat}{ms:List M4}
theorem Pp:(prog.info? 217).map (fun i=>(i.zero,i.size,i.bytes))=some (some (.nilIface),1,16):=by kernel_rfl
theorem PH(n:Nat)(hn:n<=1048576)(w:World):(Instr.makeSlice 256 (vI (n:Int)) (vI (n:Int))).run prog w=.ok (.slice (some ⟨w.1.size,0,none⟩) n n) (w.alloc (.cells (madeCells #[.nilIface] n) 217)):=by
 obtain⟨i,hi,oH⟩:=Option.map_eq_some_iff.1 Pp;simp only[Prod.mk.injEq]at oH;obtain⟨hz,hs,hb⟩:=oH;have:=run_make (P:=prog) w 256 217 i _ underlying256 hi hz .i64 .i64 (n:Int) (n:Int) (by omega) (by omega) (by rw[hb];omega) (by omega);rw[hs]at this;simpa[Value.cells]using this
def qF(w X:World)(b j:Nat)(ms:List M4):Prop:=∀t,t<j->∃a c,X.cell? ⟨b,t,none⟩=some (ou (aT ms t) a c)/\yt w w.1.size a (aT ms t).af.length (aT ms t).af
theorem qF.below{Y:World}{B:Nat}(h:qF w X b j ms)(hb:Below B X Y)(hB:b<B):qF w Y b j ms:=fun t ht=>by
 obtain⟨a,c,h1,h2⟩:=h t ht;exact⟨a,c,(hb.cell (p:=⟨b,t,none⟩) hB).trans h1,h2⟩
theorem qF.set(h:qF w X b j ms){v:Value}(hv:X.cell? ⟨b,j,none⟩=some v){a:OA}{c:Nat}(hs:yt w w.1.size a (aT ms j).af.length (aT ms j).af):qF w (X.setCell ⟨b,j,none⟩ (ou (aT ms j) a c)) b (j+1) ms:=fun t ht=>by
 by_cases e:t=j
 ·subst e;exact⟨a,c,ax hv,hs⟩
 ·obtain⟨a',c',h1,h2⟩:=h t (by omega);exact⟨a',c',(ae e).trans h1,h2⟩
theorem Lt(m:M4)(a:OA)(c:Nat):∃T u,ou m a c=.iface T u:=by
 cases h:m.x
 ·exact⟨_,_,by simp only[ou,h];rfl⟩
 ·exact⟨_,_,by simp only[ou,h];rfl⟩
theorem Cz(w:World)(a:OA)(cap:Nat)(ms:List M4)(hn:ms.length<=8)(hs:gQ.pK w a ms):
  Calls prog 188 #[.slice a ms.length cap] w fun e w'=>e=.returned (.slice (some ⟨w.1.size,0,none⟩) ms.length ms.length)/\qF w w' w.1.size ms.length ms/\w.1.size<w'.1.size/\Below w.1.size w w':=by
 have qc:=PH ms.length (by omega);go_enter func188,ntmps188;go_wp2;go_loopw[11] (fun v wr=>∃j:Nat,j<=ms.length/\v=vI j/\Below w.1.size w wr/\w.1.size<wr.1.size/\Room wr w.1.size ms.length/\qF w wr w.1.size j ms) (fun v _=>ms.length-(intOf v).toNat)
 case atStart=>exact⟨0,Nat.zero_le _,rfl,aN.alloc aU _,by simp,iE _ _ _ _,fun t ht=>by omega⟩
 case round=>
  obtain⟨j,hj,rfl,aD,dO,qH,Rs⟩:=hrel;by_cases aK:j<ms.length
  ·rcases hs with hs|⟨b,off,rfl,hb,h1⟩
   ·rw[hs]at aK;simp at aK
   obtain⟨⟨m0,m1,m2,m3,m4,m5⟩,bg,fG⟩:=h1 j _ (iP aK);have e0:wr.cell? ⟨b,off+j*4,none⟩=some (.bool (aT ms j).x):=(aD.cell (p:=⟨b,off+j*4,none⟩) hb).trans (bg 0 _ rfl);have e1:wr.cell? ⟨b,off+j*4+1,none⟩=some (.slice m0 (aT ms j).af.length m1):=(aD.cell (p:=⟨b,off+j*4+1,none⟩) hb).trans (bg 1 _ rfl);have e2:wr.cell? ⟨b,off+j*4+2,none⟩=some (.slice m2 (aT ms j).g.length m3):=(aD.cell (p:=⟨b,off+j*4+2,none⟩) hb).trans (bg 2 _ rfl);have e3:wr.cell? ⟨b,off+j*4+3,none⟩=some (.slice m4 (aT ms j).ai.length m5):=(aD.cell (p:=⟨b,off+j*4+3,none⟩) hb).trans (bg 3 _ rfl);have jn:(j:Int)<(ms.length:Int):=by omega
   have KH:Hid (Below w.1.size w wr/\w.1.size<wr.1.size/\Room wr w.1.size ms.length/\qF w wr w.1.size j ms/\yt w w.1.size m0 (aT ms j).af.length (aT ms j).af):=⟨aD,dO,qH,Rs,fG.k⟩
   obtain⟨V,hV⟩:∃Y,Y=wr.alloc (.cells #[.bool (aT ms j).x,.slice m0 (aT ms j).af.length m1,.slice m2 (aT ms j).g.length m3,.slice m4 (aT ms j).ai.length m5] 62):=⟨_,rfl⟩
   have bV:Hid (Below wr.1.size wr V):=by unfold Hid;rw[hV];exact aN.alloc aU _
   have hc:=qp V m0 m1 m2 m3 m4 m5 (aT ms j);clear bg fG h1 aD dO qH Rs qc;go_wp2_with fail;rw[<-hV];clear hV e0 e1 e2 e3;refine hc.mono ?_;clear hc;rintro e w1 ⟨rfl,b1⟩;have KB:Hid (Below wr.1.size wr w1):=au bV.out b1;obtain⟨z,hz,hf⟩:∃v,w1.cell? ⟨w.1.size,j,none⟩=some v/\w1.frozen? ⟨w.1.size,j,none⟩=false:=(KH.out.2.2.1.below KB.out KH.out.2.1) j aK;have Z:=ay hz;obtain⟨T0,u0,QK⟩:=Lt (aT ms j) m0 m1;have HM:=ay QK;rw[QK];clear b1 QK;go_wp2;have Rs:=(KH.out.2.2.2.1.below KB.out KH.out.2.1).set Z.out (c:=m1) KH.out.2.2.2.2;rw[HM.out]at Rs;exact⟨⟨j+1,by omega,by simp,((KH.out.1.trans (KB.out.mono KH.out.1.size)).setCell (p:=⟨w.1.size,j,none⟩) aU _),by simp[World.setCell];exact Nat.lt_of_lt_of_le KH.out.2.1 KB.out.size,(KH.out.2.2.1.below KB.out KH.out.2.1).set _,Rs⟩,by simp[intOf];omega⟩
  ·obtain rfl:j=ms.length:=by omega
   have hd:decide ((ms.length:Int)<(ms.length:Int))=false:=by simp
   have KH:Hid (Below w.1.size w wr/\w.1.size<wr.1.size/\qF w wr w.1.size ms.length ms):=⟨aD,dO,Rs⟩
   clear aD dO qH Rs qc hs;go_wp2;go_ret;exact⟨rfl,KH.out.2.2,KH.out.2.1,KH.out.1⟩
theorem JH(w0 w:World)(a:OA)(cap q:Nat)(aP:List (List Int))(ms:List M4)(hl:∀m∈ms,ML m)(hB:jg ms=true)(hP:dV aP=true)(Er:aP.length<=maxLen)(mN:∀zs∈aP,zs.length<=maxLen)
  (h0:Below w0.1.size w0 w) (hq:q<w.1.size) (hm:qF w0 w q ms.length ms) (hs:wy w w.1.size a aP.length aP):
  Calls prog 187 #[.slice a aP.length cap,.slice (some ⟨q,0,none⟩) ms.length ms.length] w fun e w'=>e=.returned (.bool (iR aP ms))/\Below w.1.size w w':=by
 have H:Hid ((∀m∈ms,ML m)/\jg ms=true/\(∀zs∈aP,zs.length<=maxLen)/\qF w0 w q ms.length ms/\wy w w.1.size a aP.length aP/\Below w0.1.size w0 w):=⟨hl,hB,mN,hm,hs,h0⟩
 have HZ:Hid (∀r j,r<aP.length->j<(dY aP r).length->0<=eQ (dY aP r) j/\eQ (dY aP r) j<=7):=fun r j hr hj=>Ba hP hr hj
 have HD:Hid (iR aP ms=(List.range aP.length).all fun r=>kQ ms r (dY aP r)):=rfl;unfold maxLen at Er;clear hl hB hP mN hm hs h0;go_enter func187,ntmps187;go_wp2;go_loopw[11] (fun v wr=>∃r:Nat,r<=aP.length/\v=vI r/\Below w.1.size w wr/\(List.range r).all (fun r=>kQ ms r (dY aP r))=true) (fun v _=>aP.length-(intOf v).toNat)
 case atStart=>exact⟨0,Nat.zero_le _,rfl,aN,rfl⟩
 case round=>
 obtain⟨r,hr,rfl,aD,aO⟩:=hrel;have KC:Hid (Below w.1.size w wr/\(List.range r).all (fun r=>kQ ms r (dY aP r))=true):=⟨aD,aO⟩
 clear aD aO;by_cases Rq:r<aP.length
 case neg=>
  obtain rfl:r=aP.length:=by omega
  have hd:decide ((aP.length:Int)<(aP.length:Int))=false:=by simp
  go_wp2;go_ret;exact⟨by rw[HD.out,KC.out.2];rfl,KC.out.1⟩
 obtain⟨_,Te⟩:=H.out.2.2.2.2.1;rcases Te with Te|⟨b,off,rfl,hb,Lf⟩
 ·omega
 obtain⟨a',aW,hc,gM,kL⟩:=Lf r _ (gB Rq);have c:=(KC.out.1.cell (p:=⟨b,off+r,none⟩) hb).trans hc;have an:Hid (ll w w.1.size a' (dY aP r).length (dY aP r)):=gM;have jr:(r:Int)<(aP.length:Int):=by omega
 have lz:=H.out.2.2.1 _ (List.mem_of_getElem? (gB Rq));unfold maxLen at lz;have HF:Hid (kQ ms r (dY aP r)=false->iR aP ms=false):=fun hh=>by rw[HD.out];exact iN (f:=fun r=>kQ ms r (dY aP r)) Rq hh
 have aw:Hid (∀j,j<(dY aP r).length->0<=eQ (dY aP r) j/\eQ (dY aP r) j<=7):=fun j hj=>HZ.out r j Rq hj
 have Xj:Hid (kQ ms r (dY aP r)=(List.range (dY aP r).length).all fun j=>jK ms r (eQ (dY aP r) j)):=rfl;have Xi:Hid (kQ ms r (dY aP r)=true->(List.range (r+1)).all (fun r=>kQ ms r (dY aP r))=true):=fun hh=>kF (f:=fun r=>kQ ms r (dY aP r)) KC.out.2 hh
 clear Lf hc gM;generalize l8:dY aP r=zs at *;obtain⟨V,hV⟩:∃Y,Y=wr.alloc (.cells #[.slice a' zs.length aW] 102):=⟨_,rfl⟩
 have KV:Hid (Below w.1.size w V):=au KC.out.1 (by rw[hV];exact aN.alloc aU _);go_wp2;rw[<-hV];clear c jr l8 hV;generalize wr=wC at *;generalize V=wD at *;go_loopw[19] (fun v wr=>∃j:Nat,j<=zs.length/\v=vI j/\Below w.1.size w wr/\(List.range j).all (fun j=>jK ms r (eQ zs j))=true) (fun v _=>zs.length-(intOf v).toNat)
 case atStart=>exact⟨0,Nat.zero_le _,rfl,KV.out,rfl⟩
 case round=>
 obtain⟨j,hj,rfl,aD,aO⟩:=hrel;have KD:Hid (Below w.1.size w wr/\(List.range j).all (fun j=>jK ms r (eQ zs j))=true):=⟨aD,aO⟩
 clear aD aO;by_cases Mm:j<zs.length
 case neg=>
  obtain rfl:j=zs.length:=by omega
  have hd:decide ((zs.length:Int)<(zs.length:Int))=false:=by simp
  have hh:=Xi.out (by rw[Xj.out];exact KD.out.2);go_wp2;exact⟨⟨r+1,by omega,by simp,KD.out.1,hh⟩,by simp[intOf];omega⟩
 obtain⟨_,oQ⟩:=an.out;rcases oQ with oQ|⟨b',bR,rfl,gJ,h2⟩
 ·omega
 have hz:=aw.out j Mm;obtain⟨i,hi⟩:∃i:Nat,eQ zs j=(i:Int):=⟨(eQ zs j).toNat,by omega⟩
 have Mk:=h2 j _ (jf Mm);rw[hi]at Mk;have xz:=(KD.out.1.cell (p:=⟨b',bR+j,none⟩) gJ).trans Mk;have jz:(j:Int)<(zs.length:Int):=by omega
 have HB:Hid (jK ms r (eQ zs j)=(decide ((i:Int)<(ms.length:Int))&&(!(aT ms i).x||ve (aT ms i) (r:Int)))):=by unfold Hid jK;rw[hi];rfl
 have Nv:Hid (jK ms r (eQ zs j)=false->iR aP ms=false):=fun hh=>HF.out (by rw[Xj.out];exact iN (f:=fun j=>jK ms r (eQ zs j)) Mm hh)
 clear Mk h2 hz hi;by_cases Ml:i<ms.length
 case neg=>
  have dz:decide ((ms.length:Int)<=(i:Int))=true:=by simp<;>omega
  have ct:decide (ms.length<=i)=true:=by simp<;>omega
  have tK:Hid (iR aP ms=false):=Nv.out (by rw[HB.out];simp[Ml]);go_wp2;go_ret;exact⟨by rw[tK.out];rfl,KD.out.1⟩
 have dz:decide ((ms.length:Int)<=(i:Int))=false:=by simp<;>omega
 have ct:decide (ms.length<=i)=false:=by simp<;>omega
 have im:(i:Int)<(ms.length:Int):=by omega
 obtain⟨a2,c2,eL,qc⟩:=(H.out.2.2.2.1.below KD.out.1 hq) i Ml;have U8:=JR wr a2 c2 (aT ms i) (r:Int) (H.out.1 _ (List.mem_of_getElem? (iP Ml))) (by have:=H.out.2.1;exact List.all_eq_true.1 this i (List.mem_range.2 Ml)) (qc.later (au H.out.2.2.2.2.2 KD.out.1));obtain⟨T0,u0,QK⟩:=Lt (aT ms i) a2 c2;rw[QK]at eL U8;clear qc QK
 cases hh:(!(aT ms i).x||ve (aT ms i) (r:Int))with
 | false=>
  rw[hh]at U8;have tK:Hid (iR aP ms=false):=Nv.out (by rw[HB.out,hh];simp);clear hh;go_wp2_with fail;refine U8.mono ?_;clear U8;rintro e w1 ⟨rfl,b1⟩;have KB:Hid (Below w.1.size w w1):=au KD.out.1 b1;clear b1;go_wp2;go_ret;exact⟨by rw[tK.out];rfl,KB.out⟩
 | true=>
  rw[hh]at U8;have Rv:Hid ((List.range (j+1)).all (fun j=>jK ms r (eQ zs j))=true):=kF (f:=fun j=>jK ms r (eQ zs j)) KD.out.2 (by rw[HB.out,hh];simp[Ml]);clear hh;go_wp2_with fail;refine U8.mono ?_;clear U8;rintro e w1 ⟨rfl,b1⟩;have KB:Hid (Below w.1.size w w1):=au KD.out.1 b1;clear b1;go_wp2;exact⟨⟨j+1,by omega,by simp,KB.out,Rv.out⟩,by simp[intOf];omega⟩
end
end Go.Proofs.YtajmlpgodcfghaaGreatDoor
