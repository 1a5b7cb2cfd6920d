import Derived.Test.YtajmlpgodcfghaaGreatDoorRows
import Derived.Lib.QuietBelow
import Derived.WalkSpells
import Derived.WalkLawsBesides
import Derived.Stop.Asserts
import Derived.RowKitTokens
import Derived.Deep.RegionHeld
import Derived.BigQuiet
import Derived.Deep.CutRange
import Derived.Deep.Upon
import Derived.Deep.Heap
import Derived.Deep.AppendLies
set_option maxHeartbeats 16000000
set_option maxRecDepth 100000
namespace Go.Proofs.YtajmlpgodcfghaaGreatDoor
open Go.RowKit
open Go.Sort (grow)
abbrev vI (x : Int) : Value := .int .i64 x
theorem gP {P : Program} {id : Nat} {Q : Exit → Act → World → Prop} {a : Act} {w : World} {l : List Oper} (h : wpQuiet P l.toArray (fun w' => ∃ p : Regrown, w' = grow (redrawn w p.d) p.os) (fun a' => ∀ w', (∃ p : Regrown, w' = grow (redrawn w p.d) p.os) → Q .normal a' w') l a) (hm : P.follows .mixedOrders = true := by kernel_rfl) (hB : Region.lexB .any l.toArray = true := by kernel_rfl) : (Code.region id l.toArray true).wp P Q a w := wp_region_quiet_below hm hB h
theorem iW {P : Program} {ops : Array Oper} {C : World → Prop} {R : Act → World → Prop} {a : Act} {w : World} (h : ∀ d os, R a (grow (redrawn w d) os)) : wpQuiet P ops C (fun a' => ∀ w', (∃ p : Regrown, w' = grow (redrawn w p.d) p.os) → R a' w') [] a := wpQuiet_nil (by rintro _ ⟨⟨d, os⟩, rfl⟩; exact h d os)
abbrev OA := Option Addr
abbrev nJ : List Value := [vI 0, vI 0, .slice none 0 0, .slice none 0 0, .slice none 0 0, .bool false]
abbrev SK : List Value := [vI 0, vI 0, vI 0, vI 0, .slice none 0 0, .slice none 0 0, vI 0]
theorem aU {n : Nat} : n ≤ n := Nat.le_refl n
theorem aN {n : Nat} {w : World} : Below n w w := Below.refl n w
section
open Go.Proofs.Tryz
variable {B b c m o:Nat}{P:Program}{Q:Exit->Act->World->Prop}{a:Act}{ops:Array Oper}{v':Value}{w w':World}
def Room(w:World)(b m:Nat):Prop:=∀j,j<m->∃v,w.cell? ⟨b,j,none⟩=some v/\w.frozen? ⟨b,j,none⟩=false
theorem Room.below(h:Room w b m)(hb:Below B w w')(hB:b<B):Room w' b m:=fun j hj=>by
 obtain⟨v,h1,h2⟩:=h j hj;exact⟨v,by rw[hb.cell hB];exact h1,by rw[hb.frozen hB];exact h2⟩
theorem ax{v:Value}(h:w.cell? ⟨b,o,none⟩=some v):(w.setCell ⟨b,o,none⟩ v').cell? ⟨b,o,none⟩=some v':=World.cell?_setCell_same' _ _ _ (by rw[h];rfl)
theorem ae{o':Nat}(h:o'≠o):(w.setCell ⟨b,o,none⟩ v').cell? ⟨b,o',none⟩=w.cell? ⟨b,o',none⟩:=World.cell?_setCell_other _ _ _ _ (fun e=>h (by cases e;rfl))
theorem Room.set(h:Room w b m)(v:Value):Room (w.setCell ⟨b,o,none⟩ v) b m:=fun j hj=>by
 obtain⟨u,h1,h2⟩:=h j hj;refine⟨if j=o then v else u,?_,by rw[World.frozen?_setCell];exact h2⟩;by_cases e:j=o
 ·subst e;simp[ax h1]
 ·simp[e,ae e,h1]
theorem aM{p:Addr}(hp:p.block≠b)(v:Value):(w.setCell p v).cell? ⟨b,o,none⟩=w.cell? ⟨b,o,none⟩:=World.cell?_setCell_other _ _ _ _ (fun e=>hp (by rw[e]))
theorem iE(w:World)(z:Array Value)(m:Nat)(t:TypeId):Room (w.alloc (.cells (madeCells z m) t)) w.1.size m:=fun j hj=>by
 have hz:j<(madeCells z m).size:=by rw[size_madeCells];exact hj
 exact⟨(madeCells z m)[j],by rw[World.cell?_alloc_new];exact Array.getElem?_eq_getElem hz,by simp⟩
structure aQ(c:Nat)(w w':World):Prop where
 os:w'.os=w.os
 tape:w'.tape=w.tape
 output:w'.output=w.output
 size:w'.1.size=w.1.size
 block:∀k,k≠c->w'.1[k]?=w.1[k]?
theorem aQ.refl(c:Nat)(w:World):aQ c w w:=⟨rfl,rfl,rfl,rfl,fun _ _=>rfl⟩
theorem aQ.setCell{c:Nat}{a w:World}(h:aQ c a w)(o:Nat)(u:Value):aQ c a (w.setCell ⟨c,o,none⟩ u):=
 ⟨h.os,h.tape,h.output,by simpa[World.setCell]using h.size,fun k hk=>(Below.heap_setCell _ _ _ _ hk).trans (h.block k hk)⟩
structure di(c:Nat)(w w':World):Prop where
 os:w'.os=w.os
 tape:w'.tape=w.tape
 output:w'.output=w.output
 size:w.1.size<=w'.1.size
 block:∀k,k<w.1.size->k≠c->w'.1[k]?=w.1[k]?
theorem di.refl(c:Nat)(w:World):di c w w:=⟨rfl,rfl,rfl,Nat.le_refl _,fun _ _ _=>rfl⟩
theorem di.trans{c:Nat}{a b d:World}(h:di c a b)(k:di c b d):di c a d:=
 ⟨k.os.trans h.os,k.tape.trans h.tape,k.output.trans h.output,Nat.le_trans h.size k.size,fun i hi hc=>(k.block i (Nat.lt_of_lt_of_le hi h.size) hc).trans (h.block i hi hc)⟩
theorem di.setCell{c:Nat}{a w:World}(h:di c a w)(o:Nat)(u:Value):di c a (w.setCell ⟨c,o,none⟩ u):=
 h.trans ⟨rfl,rfl,rfl,by simp[World.setCell],fun k _ hc=>Below.heap_setCell _ _ _ _ hc⟩
theorem di.below(h:di c w w')(hB:B<=c)(hs:B<=w.1.size):Below B w w':=
 ⟨h.os,h.tape,h.output,h.size,fun k hk=>h.block k (by omega) (by omega)⟩
theorem di.bN{a:World}(h:di c a w)(hb:Below w.1.size w w'):di c a w':=
 ⟨hb.os.trans h.os,hb.tape.trans h.tape,hb.output.trans h.output,Nat.le_trans h.size hb.size,fun k hk hc=>(hb.block k (Nat.lt_of_lt_of_le hk h.size)).trans (h.block k hk hc)⟩
theorem dF(w:World){rest:List Oper}{o:Oper}(hg:o.guard=none)(s x:Operand)(t:TypeId)
  (fa:o.op=Op.call { callee:=Callee.builtin Builtin.append,args:=#[s,x],argTypes:=#[t,t] }) (v u v':Value) (w':World) (hs:a.eval s=v) (hx:a.eval x=u)
  (hr:(Builtin.append_ #[t,t] o.type #[v,u]).run P w=.ok v' w') (h:wpList P ops Q rest (a.put o.dst v') w'):wpList P ops Q (o::rest) a w:=by
 refine wpList_plain hg fun K hK=>?_
 unfold Oper.wp;simp[execOp,fa,resolve,invoke,builtin,hs,hx,hr,Result.andThen];exact hK _ _ h
theorem bJ(w:World){o:Oper}{K:Act->World->Prop}{E:Prop}(sa:o.guard=none)(s x:Operand)(t:TypeId)
  (fa:o.op=Op.call { callee:=Callee.builtin Builtin.append,args:=#[s,x],argTypes:=#[t,t] }) (v u v':Value) (w':World) (hs:a.eval s=v) (hx:a.eval x=u)
  (hr:(Builtin.append_ #[t,t] o.type #[v,u]).run P w=.ok v' w') (h:K (a.put o.dst v') w'):
  if Region.wanted o (yielded ops a.tmps)=true then Oper.wp P o a w K Q else E:=by
 have hw:Region.wanted o (yielded ops a.tmps)=true:=by simp[Region.wanted,sa]
 rw[if_pos hw];unfold Oper.wp;simp[execOp,fa,resolve,invoke,builtin,hs,hx,hr,Result.andThen];exact h
end
section
open Go.Proofs.Tryz
variable {B b j q s:Nat}{X Y:World}{cs l:List Value}{v0 v1 v2 v3 v4 v5:Value}
theorem au{A:World}(h:Below A.1.size A X)(b:Below X.1.size X Y):Below A.1.size A Y:=h.trans (b.mono h.size)
def Bx(X:World)(s:Nat)(cs:List Value):Prop:=(∀j u,cs[j]?=some u->X.cell? ⟨s,j,none⟩=some u)/\(∀j,X.frozen? ⟨s,j,none⟩=false)/\s<X.1.size
theorem Bx.aj(h:Bx X s cs)(hb:Y.1[s]?=X.1[s]?)(hs:X.1.size<=Y.1.size):Bx Y s cs:=
 ⟨fun j u e=>(World.cell?_of_block (a:=⟨s,j,none⟩) hb).trans (h.1 j u e),fun j=>(World.frozen?_of_block (a:=⟨s,j,none⟩) hb).trans (h.2.1 j),Nat.lt_of_lt_of_le h.2.2 hs⟩
theorem Bx.later(h:Bx X s cs)(hb:Below X.1.size X Y):Bx Y s cs:=h.aj (hb.block _ h.2.2) hb.size
theorem Bx.under(h:Bx X s cs)(hb:Below B X Y)(hs:s<B):Bx Y s cs:=h.aj (hb.block _ hs) hb.size
theorem Bx.dX{o:Nat}(h:Bx X s cs)(hb:s≠b)(u:Value):Bx (X.setCell ⟨b,o,none⟩ u) s cs:=h.aj (Below.heap_setCell _ _ _ _ hb) (by simp[World.setCell])
theorem Bx.set{i:Nat}(h:Bx X s cs)(hi:i<cs.length)(u:Value):Bx (X.setCell ⟨s,i,none⟩ u) s (cs.set i u):=by
 refine⟨fun j v e=>?_,fun j=>by rw[World.frozen?_setCell];exact h.2.1 j,by simpa[World.setCell]using h.2.2⟩;by_cases hj:i=j
 ·subst hj;rw[List.getElem?_set_self hi]at e;obtain rfl:=Option.some.inj e;exact ax (h.1 i _ (List.getElem?_eq_getElem hi))
 ·rw[List.getElem?_set_ne hj]at e;exact(ae (by omega)).trans (h.1 j v e)
def dU(X:World)(s:Nat):Nat->List Value->World
 | _,[]=>X
 | i,c::cs=>dU (X.setCell ⟨s,i,none⟩ c) s (i+1) cs
theorem bu(s:Nat)(cs:List Value):∀(X:World) (i:Nat),(dU X s i cs).1.size=X.1.size:=by
 induction cs with
 | nil=>intro X i;rfl
 | cons c cs ih=>intro X i;rw[dU,ih];simp[World.setCell]
theorem aX(hq:q≠s)(cs:List Value):∀(X:World) (i:Nat),(dU X s i cs).1[q]?=X.1[q]?:=by
 induction cs with
 | nil=>intro X i;rfl
 | cons c cs ih=>intro X i;rw[dU,ih];exact Below.heap_setCell _ _ _ _ hq
theorem bn{w:World}(hs:B<=s)(cs:List Value):∀(X:World) (i:Nat),Below B w X->Below B w (dU X s i cs):=by
 induction cs with
 | nil=>intro X i h;exact h
 | cons c cs ih=>intro X i h;exact ih _ _ (h.setCell (p:=⟨s,i,none⟩) hs _)
theorem GX(cs:List Value):∀(X:World) (i:Nat),(dU X s i cs).frozen? ⟨q,j,none⟩=X.frozen? ⟨q,j,none⟩:=by
 induction cs with
 | nil=>intro X i;rfl
 | cons c cs ih=>intro X i;rw[dU,ih,World.frozen?_setCell]
theorem P9(cs:List Value):∀(X:World) (i:Nat),j<i->(dU X s i cs).cell? ⟨s,j,none⟩=X.cell? ⟨s,j,none⟩:=by
 induction cs with
 | nil=>intro X i _;rfl
 | cons c cs ih=>intro X i h;rw[dU,ih _ _ (by omega)];exact ae (by omega)
theorem xD(cs:List Value):∀(X:World) (i:Nat),(∀j,i<=j->j<i+cs.length->∃v,X.cell? ⟨s,j,none⟩=some v)->∀j u,cs[j]?=some u->(dU X s i cs).cell? ⟨s,i+j,none⟩=some u:=by
 induction cs with
 | nil=>intro X i _ j u e;simp at e
 | cons c cs ih=>
  intro X i h j u e;rw[dU];rcases j with _|j
  ·simp at e;subst e;obtain⟨v,hv⟩:=h i aU (by simp);rw[Nat.add_zero,P9 _ _ _ (by omega)];exact ax hv
  ·have:=ih (X.setCell ⟨s,i,none⟩ c) (i+1) (fun j h1 h2=>by
    obtain⟨v,hv⟩:=h j (by omega) (by simp only[List.length_cons];omega)
    exact⟨v,(ae (by omega)).trans hv⟩) j u (by simpa using e)
   rwa[show i+1+j=i+(j+1) by omega]at this
theorem Bx.put{cs0:List Value}(h:Bx X s cs0)(cs:List Value)(hl:cs.length=cs0.length):Bx (dU X s 0 cs) s cs:=by
 refine⟨fun j u e=>?_,fun j=>by rw[GX];exact h.2.1 j,by rw[bu];exact h.2.2⟩;have:=xD (s:=s) cs X 0 (fun j _ h2=>⟨_,h.1 j _ (List.getElem?_eq_getElem (by omega))⟩) j u e;rwa[Nat.zero_add]at this
theorem Bx.made(X:World)(cs:List Value)(T:TypeId):Bx (X.alloc (.cells cs.toArray T)) X.1.size cs:=⟨fun j u e=>by go_simp,fun j=>by go_simp,by simp⟩
theorem jU(w:World)(l:List Value)(T:TypeId):∃X,X=w.alloc (.cells l.toArray T)/\Below w.1.size w X/\Bx X w.1.size l/\X.1.size=w.1.size+1:=⟨_,rfl,aN.alloc aU _,Bx.made w l _,by simp⟩
theorem Bx.c2(h:Bx X b (v0::v1::l)):X.cell? ⟨b,0,none⟩=some v0/\X.cell? ⟨b,1,none⟩=some v1:=⟨h.1 0 _ rfl,h.1 1 _ rfl⟩
theorem Bx.f2(h:Bx X b l):X.frozen? ⟨b,0,none⟩=false/\X.frozen? ⟨b,1,none⟩=false:=⟨h.2.1 0,h.2.1 1⟩
theorem Bx.c3(h:Bx X b (v0::v1::v2::l)):X.cell? ⟨b,0,none⟩=some v0/\X.cell? ⟨b,1,none⟩=some v1/\X.cell? ⟨b,2,none⟩=some v2:=⟨h.1 0 _ rfl,h.1 1 _ rfl,h.1 2 _ rfl⟩
theorem Bx.f3(h:Bx X b l):X.frozen? ⟨b,0,none⟩=false/\X.frozen? ⟨b,1,none⟩=false/\X.frozen? ⟨b,2,none⟩=false:=⟨h.2.1 0,h.2.1 1,h.2.1 2⟩
theorem Bx.c4(h:Bx X b (v0::v1::v2::v3::l)):X.cell? ⟨b,0,none⟩=some v0/\X.cell? ⟨b,1,none⟩=some v1/\X.cell? ⟨b,2,none⟩=some v2/\X.cell? ⟨b,3,none⟩=some v3:=⟨h.1 0 _ rfl,h.1 1 _ rfl,h.1 2 _ rfl,h.1 3 _ rfl⟩
theorem Bx.f4(h:Bx X b l):X.frozen? ⟨b,0,none⟩=false/\X.frozen? ⟨b,1,none⟩=false/\X.frozen? ⟨b,2,none⟩=false/\X.frozen? ⟨b,3,none⟩=false:=⟨h.2.1 0,h.2.1 1,h.2.1 2,h.2.1 3⟩
theorem Bx.c5(h:Bx X b (v0::v1::v2::v3::v4::l)):X.cell? ⟨b,0,none⟩=some v0/\X.cell? ⟨b,1,none⟩=some v1/\X.cell? ⟨b,2,none⟩=some v2/\X.cell? ⟨b,3,none⟩=some v3/\X.cell? ⟨b,4,none⟩=some v4:=⟨h.1 0 _ rfl,h.1 1 _ rfl,h.1 2 _ rfl,h.1 3 _ rfl,h.1 4 _ rfl⟩
theorem Bx.f5(h:Bx X b l):X.frozen? ⟨b,0,none⟩=false/\X.frozen? ⟨b,1,none⟩=false/\X.frozen? ⟨b,2,none⟩=false/\X.frozen? ⟨b,3,none⟩=false/\X.frozen? ⟨b,4,none⟩=false:=⟨h.2.1 0,h.2.1 1,h.2.1 2,h.2.1 3,h.2.1 4⟩
theorem Bx.c6(h:Bx X b (v0::v1::v2::v3::v4::v5::l)):X.cell? ⟨b,0,none⟩=some v0/\X.cell? ⟨b,1,none⟩=some v1/\X.cell? ⟨b,2,none⟩=some v2/\X.cell? ⟨b,3,none⟩=some v3/\X.cell? ⟨b,4,none⟩=some v4/\X.cell? ⟨b,5,none⟩=some v5:=⟨h.1 0 _ rfl,h.1 1 _ rfl,h.1 2 _ rfl,h.1 3 _ rfl,h.1 4 _ rfl,h.1 5 _ rfl⟩
theorem Bx.f6(h:Bx X b l):X.frozen? ⟨b,0,none⟩=false/\X.frozen? ⟨b,1,none⟩=false/\X.frozen? ⟨b,2,none⟩=false/\X.frozen? ⟨b,3,none⟩=false/\X.frozen? ⟨b,4,none⟩=false/\X.frozen? ⟨b,5,none⟩=false:=⟨h.2.1 0,h.2.1 1,h.2.1 2,h.2.1 3,h.2.1 4,h.2.1 5⟩
theorem Bx.c7{v6:Value}(h:Bx X b (v0::v1::v2::v3::v4::v5::v6::l)):X.cell? ⟨b,0,none⟩=some v0/\X.cell? ⟨b,1,none⟩=some v1/\X.cell? ⟨b,2,none⟩=some v2/\X.cell? ⟨b,3,none⟩=some v3/\X.cell? ⟨b,4,none⟩=some v4/\X.cell? ⟨b,5,none⟩=some v5/\X.cell? ⟨b,6,none⟩=some v6:=⟨h.1 0 _ rfl,h.1 1 _ rfl,h.1 2 _ rfl,h.1 3 _ rfl,h.1 4 _ rfl,h.1 5 _ rfl,h.1 6 _ rfl⟩
theorem Bx.f7(h:Bx X b l):X.frozen? ⟨b,0,none⟩=false/\X.frozen? ⟨b,1,none⟩=false/\X.frozen? ⟨b,2,none⟩=false/\X.frozen? ⟨b,3,none⟩=false/\X.frozen? ⟨b,4,none⟩=false/\X.frozen? ⟨b,5,none⟩=false/\X.frozen? ⟨b,6,none⟩=false:=⟨h.2.1 0,h.2.1 1,h.2.1 2,h.2.1 3,h.2.1 4,h.2.1 5,h.2.1 6⟩
end
section
open Go.Proofs.Tryz
open Go.RowKit Go.Extern.Stop Go.Stop Go.Extern
theorem rY(P:Program)(t:Nat)(cs:List Value):∀(W:World) (i:Nat),(∀u∈cs,u.oneCell'=true)->(∀j,i<=j->j<i+cs.length->(∃v,W.cell? ⟨t,j,none⟩=some v)/\W.frozen? ⟨t,j,none⟩=false)->(storeCells ⟨t,0,none⟩ cs i).run P W=.ok () (dU W t i cs):=by
 induction cs with
 | nil=>intro W i _ _;rfl
 | cons c cs ih=>
  intro W i h1 h2;obtain⟨⟨v,hv⟩,hf⟩:=h2 i aU (by simp);have wM:(⟨t,0,none⟩:Addr).add i=⟨t,i,none⟩:=by unfold Addr.add;split<;>simp_all
  have eZ:(store ⟨t,i,none⟩ c).run P W=.ok () (W.setCell ⟨t,i,none⟩ c):=by
   rw[run_store P W ⟨t,i,none⟩ c _ (h1 c (by simp))];simp[hv,hf]
  have hr:=ih (W.setCell ⟨t,i,none⟩ c) (i+1) (fun u hu=>h1 u (by simp[hu])) (fun j hj hl=>by
   obtain⟨⟨v',te⟩,rS⟩:=h2 j (by omega) (by simp only[List.length_cons];omega)
   exact⟨⟨v',(ae (by omega)).trans te⟩,by rw[World.frozen?_setCell];exact rS⟩)
  rw[storeCells,wM,Sem.run_bind,eZ];simp only[Result.andThen];rw[hr,dU]
theorem run_loadCellsFrom(P:Program)(b:Nat)(W:World)(cs:List Value):∀(i:Nat) (acc:Array Value),(∀j u,cs[j]?=some u->W.cell? ⟨b,i+j,none⟩=some u)->(loadCellsFrom ⟨b,0,none⟩ i cs.length acc).run P W=.ok (acc++cs.toArray) W:=by
 induction cs with
 | nil=>intro i acc _;simp[loadCellsFrom]
 | cons c cs ih=>
  intro i acc h;have wM:(⟨b,0,none⟩:Addr).add i=⟨b,i,none⟩:=by unfold Addr.add;split<;>simp_all
  have h0:W.cell? ⟨b,i,none⟩=some c:=by simpa using h 0 c rfl
  have hl:(load ⟨b,i,none⟩).run P W=.ok c W:=by simp[h0]
  have hr:=ih (i+1) (acc.push c) (fun j u hu=>by have:=h (j+1) u (by simpa using hu);rwa[show i+(j+1)=i+1+j by omega]at this);rw[List.length_cons,loadCellsFrom,wM,Sem.run_bind,hl];simp only[Result.andThen];rw[hr];simp
theorem run_loadCells(P:Program)(b:Nat)(W:World)(cs:List Value)(h:∀j u,cs[j]?=some u->W.cell? ⟨b,j,none⟩=some u):(loadCells ⟨b,0,none⟩ cs.length).run P W=.ok cs.toArray W:=by
 have:=run_loadCellsFrom P b W cs 0 #[] (fun j u hu=>by rw[Nat.zero_add];exact h j u hu);rw[loadCells,this];simp
namespace ea
def hd(t:Nat):Value:=.pointer (some ⟨1,t,none⟩)
theorem AB(h:Value)(w:World):(Go.method 452 241 (.agg #[h]) "Kind").run prog w=.ok (288,h) w:=by kernel_rfl
theorem AA(h:Value)(w:World):(Go.method 452 241 (.agg #[h]) "Elem").run prog w=.ok (302,.agg #[h]) w:=by kernel_rfl
theorem o9(h:Value)(w:World):(Go.method 452 241 (.agg #[h]) "Implements").run prog w=.ok (303,.agg #[h]) w:=by kernel_rfl
theorem ny(h:Value)(w:World):(Go.method 452 241 (.agg #[h]) "AssignableTo").run prog w=.ok (300,.agg #[h]) w:=by kernel_rfl
theorem ZI(z:Sem Value)(f:TypeId->Addr->Nat->Nat->Sem Value)(v:Value):
  ReflectliteValue.method z f #[v]=(do match <-ReflectliteValue.parts v with|none=>z|some (t,a,fl)=>f t a fl (fl%32)):=rfl
theorem n7(v x:Value):ReflectliteValue.set #[v,x]=(do
  let (some (dst,a,fl),some (src,b,_)):=(<-ReflectliteValue.parts v,<-ReflectliteValue.parts x)
   | unsupported (.noEntry "extern/(internal/reflectlite.Value).Set.zeroValue")
  if fl/ReflectliteValue.flagAddr%2==0 then unsupported (.noEntry "extern/(internal/reflectlite.Value).Set.unaddressable")
  let val <-loadVar src b
  if <-Rtype.directlyAssignable dst src then storeVar dst a val
  else if <-Rtype.implements dst src then
   if (<-Rtype.kind src)==20 then
    match val with
    | .nilIface=>unsupported (.noEntry "extern/reflectlite: a nil value of one interface type handed on as a value of another")
    | _=>storeVar dst a val
   else storeVar dst a (.iface src val)
  else panicString ("reflectlite.Set: value of type "++(<-Rtype.spelt src) ++ " is not assignable to type "++(<-Rtype.spelt dst))
  pure (.tuple #[])):=rfl
theorem Np(t:Addr)(w:World):(ReflectliteValue.unpack (.iface 157 (.pointer (some t)))).run prog w
  = .ok (.agg #[.pointer (some ⟨1,157,none⟩),.pointer (some ⟨w.1.size,0,none⟩),.int .u64 150]) (w.alloc (.cells #[.pointer (some t)] 157)):=by kernel_rfl
theorem VZ(a:Addr)(w:World):(ReflectliteValue.methodAny (ReflectliteValue.valueError "reflectlite.Value.Type" 0) (fun t _ _ _=>ReflectliteType.toType t) #[.agg #[.pointer (some ⟨1,157,none⟩),.pointer (some a),.int .u64 150]]).run prog w
  = .ok (.iface 241 (.agg #[.pointer (some ⟨1,157,none⟩)])) w:=by kernel_rfl
theorem Vo(w:World):((ReflectliteType.abiMethod fun t=>(fun a:Nat=>Value.int IntKind.u8 (a:Int)) <$> Rtype.kind t) #[.pointer (some ⟨1,157,none⟩)]).run prog w=.ok (.int .u8 22) w:=by kernel_rfl
theorem YE(w:World):((ReflectliteType.abiMethod fun t=>(fun a:Nat=>Value.int IntKind.u8 (a:Int)) <$> Rtype.kind t) #[.pointer (some ⟨1,155,none⟩)]).run prog w=.ok (.int .u8 25) w:=by kernel_rfl
theorem LB(a:Addr)(w:World):(ReflectliteValue.parts (.agg #[.pointer (some ⟨1,157,none⟩),.pointer (some a),.int .u64 150])).run prog w=.ok (some (157,a,150)) w:=by kernel_rfl
theorem RJ(a p:Addr)(W:World)(ha:W.cell? a=some (.pointer (some p))):
  (ReflectliteValue.method (ReflectliteValue.valueError "reflectlite.Value.IsNil" 0) ReflectliteValue.isNil #[.agg #[.pointer (some ⟨1,157,none⟩),.pointer (some a),.int .u64 150]]).run prog W=.ok (.bool false) W:=by
 rw[ZI];simp only[Sem.run_bind,LB,Result.andThen];simp[ReflectliteValue.isNil,loadVar,isAgg,underlying,underlying157,ha,Result.andThen]
theorem Uo(w:World):(ReflectliteType.method ReflectliteType.elem #[.agg #[.pointer (some ⟨1,157,none⟩)]]).run prog w=.ok (.iface 241 (.agg #[.pointer (some ⟨1,155,none⟩)])) w:=by kernel_rfl
theorem Gm(w:World):(ReflectliteType.relation "Implements" ReflectliteType.implements_ #[.agg #[.pointer (some ⟨1,155,none⟩)],.iface 241 (.agg #[.pointer (some ⟨1,152,none⟩)])]).run prog w=.ok (.bool true) w:=by kernel_rfl
theorem LQ(v:Value)(w:World):(ReflectliteType.typeOf #[.iface 155 v]).run prog w=.ok (.iface 241 (.agg #[.pointer (some ⟨1,155,none⟩)])) w:=by kernel_rfl
theorem FD(w:World):(ReflectliteType.relation "AssignableTo" ReflectliteType.assignableTo #[.agg #[.pointer (some ⟨1,155,none⟩)],.iface 241 (.agg #[.pointer (some ⟨1,155,none⟩)])]).run prog w=.ok (.bool true) w:=by kernel_rfl
theorem OB(w:World):(Rtype.elem? 157).run prog w=.ok (some 155) w:=by kernel_rfl
theorem Ip(p:Addr)(w:World):(ReflectliteValue.mk 155 p ReflectliteValue.flagAddr).run prog w=.ok (.agg #[.pointer (some ⟨1,155,none⟩),.pointer (some p),.int .u64 409]) w:=by kernel_rfl
theorem Rh(a p:Addr)(W:World)(ha:W.cell? a=some (.pointer (some p))):
  (ReflectliteValue.method (ReflectliteValue.valueError "reflectlite.Value.Elem" 0) ReflectliteValue.elem #[.agg #[.pointer (some ⟨1,157,none⟩),.pointer (some a),.int .u64 150]]).run prog W
   = .ok (.agg #[.pointer (some ⟨1,155,none⟩),.pointer (some p),.int .u64 409]) W:=by
 rw[ZI];simp only[Sem.run_bind,LB,Result.andThen];simp[ReflectliteValue.elem,loadVar,isAgg,underlying,underlying157,ha,Result.andThen,OB,Ip]
theorem Sa(a:Addr)(w:World):(ReflectliteValue.parts (.agg #[.pointer (some ⟨1,155,none⟩),.pointer (some a),.int .u64 409])).run prog w=.ok (some (155,a,409)) w:=by kernel_rfl
theorem VM(a:Addr)(w:World):(ReflectliteValue.parts (.agg #[.pointer (some ⟨1,155,none⟩),.pointer (some a),.int .u64 153])).run prog w=.ok (some (155,a,153)) w:=by kernel_rfl
theorem Re(w:World):(Rtype.directlyAssignable 155 155).run prog w=.ok true w:=by kernel_rfl
theorem Nn(t:Addr)(w:World):(ReflectliteValue.unpack (.iface 158 (.pointer (some t)))).run prog w
  = .ok (.agg #[.pointer (some ⟨1,158,none⟩),.pointer (some ⟨w.1.size,0,none⟩),.int .u64 150]) (w.alloc (.cells #[.pointer (some t)] 158)):=by kernel_rfl
theorem VY(a:Addr)(w:World):(ReflectliteValue.methodAny (ReflectliteValue.valueError "reflectlite.Value.Type" 0) (fun t _ _ _=>ReflectliteType.toType t) #[.agg #[.pointer (some ⟨1,158,none⟩),.pointer (some a),.int .u64 150]]).run prog w
  = .ok (.iface 241 (.agg #[.pointer (some ⟨1,158,none⟩)])) w:=by kernel_rfl
theorem Vn(w:World):((ReflectliteType.abiMethod fun t=>(fun a:Nat=>Value.int IntKind.u8 (a:Int)) <$> Rtype.kind t) #[.pointer (some ⟨1,158,none⟩)]).run prog w=.ok (.int .u8 22) w:=by kernel_rfl
theorem YD(w:World):((ReflectliteType.abiMethod fun t=>(fun a:Nat=>Value.int IntKind.u8 (a:Int)) <$> Rtype.kind t) #[.pointer (some ⟨1,120,none⟩)]).run prog w=.ok (.int .u8 6) w:=by kernel_rfl
theorem LA(a:Addr)(w:World):(ReflectliteValue.parts (.agg #[.pointer (some ⟨1,158,none⟩),.pointer (some a),.int .u64 150])).run prog w=.ok (some (158,a,150)) w:=by kernel_rfl
theorem RI(a p:Addr)(W:World)(ha:W.cell? a=some (.pointer (some p))):
  (ReflectliteValue.method (ReflectliteValue.valueError "reflectlite.Value.IsNil" 0) ReflectliteValue.isNil #[.agg #[.pointer (some ⟨1,158,none⟩),.pointer (some a),.int .u64 150]]).run prog W=.ok (.bool false) W:=by
 rw[ZI];simp only[Sem.run_bind,LA,Result.andThen];simp[ReflectliteValue.isNil,loadVar,isAgg,underlying,underlying158,ha,Result.andThen]
theorem Un(w:World):(ReflectliteType.method ReflectliteType.elem #[.agg #[.pointer (some ⟨1,158,none⟩)]]).run prog w=.ok (.iface 241 (.agg #[.pointer (some ⟨1,120,none⟩)])) w:=by kernel_rfl
theorem Gl(w:World):(ReflectliteType.relation "Implements" ReflectliteType.implements_ #[.agg #[.pointer (some ⟨1,120,none⟩)],.iface 241 (.agg #[.pointer (some ⟨1,152,none⟩)])]).run prog w=.ok (.bool true) w:=by kernel_rfl
theorem Sk(v:Value)(w:World):(ReflectliteType.typeOf #[.iface 120 v]).run prog w=.ok (.iface 241 (.agg #[.pointer (some ⟨1,120,none⟩)])) w:=by kernel_rfl
theorem FC(w:World):(ReflectliteType.relation "AssignableTo" ReflectliteType.assignableTo #[.agg #[.pointer (some ⟨1,120,none⟩)],.iface 241 (.agg #[.pointer (some ⟨1,120,none⟩)])]).run prog w=.ok (.bool true) w:=by kernel_rfl
theorem Oz(w:World):(Rtype.elem? 158).run prog w=.ok (some 120) w:=by kernel_rfl
theorem Tz(p:Addr)(w:World):(ReflectliteValue.mk 120 p ReflectliteValue.flagAddr).run prog w=.ok (.agg #[.pointer (some ⟨1,120,none⟩),.pointer (some p),.int .u64 390]) w:=by kernel_rfl
theorem Rf(a p:Addr)(W:World)(ha:W.cell? a=some (.pointer (some p))):
  (ReflectliteValue.method (ReflectliteValue.valueError "reflectlite.Value.Elem" 0) ReflectliteValue.elem #[.agg #[.pointer (some ⟨1,158,none⟩),.pointer (some a),.int .u64 150]]).run prog W
   = .ok (.agg #[.pointer (some ⟨1,120,none⟩),.pointer (some p),.int .u64 390]) W:=by
 rw[ZI];simp only[Sem.run_bind,LA,Result.andThen];simp[ReflectliteValue.elem,loadVar,isAgg,underlying,underlying158,ha,Result.andThen,Oz,Tz]
theorem R9(a:Addr)(w:World):(ReflectliteValue.parts (.agg #[.pointer (some ⟨1,120,none⟩),.pointer (some a),.int .u64 390])).run prog w=.ok (some (120,a,390)) w:=by kernel_rfl
theorem VL(a:Addr)(w:World):(ReflectliteValue.parts (.agg #[.pointer (some ⟨1,120,none⟩),.pointer (some a),.int .u64 134])).run prog w=.ok (some (120,a,134)) w:=by kernel_rfl
theorem Rc(w:World):(Rtype.directlyAssignable 120 120).run prog w=.ok true w:=by kernel_rfl
theorem DY(w:World):(ReflectliteType.relation "AssignableTo" ReflectliteType.assignableTo #[.agg #[.pointer (some ⟨1,155,none⟩)],.iface 241 (.agg #[.pointer (some ⟨1,120,none⟩)])]).run prog w=.ok (.bool false) w:=by kernel_rfl
theorem TE(w:World):(sizeOf 155).run prog w=.ok 7 w:=by kernel_rfl
theorem Y8(w:World):(sizeOf 120).run prog w=.ok 1 w:=by kernel_rfl
theorem Vm(w:World):(isAgg 155).run prog w=.ok true w:=by kernel_rfl
theorem Vl(w:World):(isAgg 120).run prog w=.ok false w:=by kernel_rfl
theorem Qu(y0 y1 y2 y3 y4 y5 y6:Value)(w:World):(ReflectliteValue.unpack (.iface 155 (.agg #[y0,y1,y2,y3,y4,y5,y6]))).run prog w
  = .ok (.agg #[.pointer (some ⟨1,155,none⟩),.pointer (some ⟨w.1.size,0,none⟩),.int .u64 153]) (w.alloc (.cells #[y0,y1,y2,y3,y4,y5,y6] 155)):=by kernel_rfl
theorem Qt(n:Int)(w:World):(ReflectliteValue.unpack (.iface 120 (vI n))).run prog w
  = .ok (.agg #[.pointer (some ⟨1,120,none⟩),.pointer (some ⟨w.1.size,0,none⟩),.int .u64 134]) (w.alloc (.cells #[vI n] 120)):=by kernel_rfl
theorem Qh(t b:Nat)(ys old:List Value)(W:World)(h7:ys.length=7)(h1:∀u∈ys,u.oneCell'=true)(hb:Bx W b ys)(ho:old.length=7)(ht:Bx W t old):
  (ReflectliteValue.set #[.agg #[.pointer (some ⟨1,155,none⟩),.pointer (some ⟨t,0,none⟩),.int .u64 409],.agg #[.pointer (some ⟨1,155,none⟩),.pointer (some ⟨b,0,none⟩),.int .u64 153]]).run prog W
   = .ok (.tuple #[]) (dU W t 0 ys):=by
 have hl:(loadVar 155 ⟨b,0,none⟩).run prog W=.ok (.agg ys.toArray) W:=by
  have:=run_loadCells prog b W ys hb.1;rw[h7]at this;rw[loadVar,Sem.run_bind,Vm];simp only[Result.andThen,if_true];rw[Sem.run_bind,TE];simp only[Result.andThen];rw[Sem.run_bind,this];rfl
 have hs:(storeVar 155 ⟨t,0,none⟩ (.agg ys.toArray)).run prog W=.ok () (dU W t 0 ys):=by
  have:=rY prog t ys W 0 h1 (fun j _ hj=>⟨⟨_,ht.1 j _ (List.getElem?_eq_getElem (by omega))⟩,ht.2.1 j⟩);rw[storeVar,Sem.run_bind,TE];simp only[Result.andThen,Value.cells];simpa[h7]using this
 rw[n7];simp only[Sem.run_bind,Sa,VM,Result.andThen];simp[ReflectliteValue.flagAddr,hl,Result.andThen,Re,hs]
theorem gb(t b:Nat)(n:Int)(old:Value)(W:World)(hb:W.cell? ⟨b,0,none⟩=some (vI n))(ht:W.cell? ⟨t,0,none⟩=some old)(hf:W.frozen? ⟨t,0,none⟩=false):
  (ReflectliteValue.set #[.agg #[.pointer (some ⟨1,120,none⟩),.pointer (some ⟨t,0,none⟩),.int .u64 390],.agg #[.pointer (some ⟨1,120,none⟩),.pointer (some ⟨b,0,none⟩),.int .u64 134]]).run prog W
   = .ok (.tuple #[]) (W.setCell ⟨t,0,none⟩ (vI n)):=by
 have hl:(loadVar 120 ⟨b,0,none⟩).run prog W=.ok (vI n) W:=by
  rw[loadVar,Sem.run_bind,Vl];simp[Result.andThen,hb]
 have hs:(storeVar 120 ⟨t,0,none⟩ (vI n)).run prog W=.ok () (W.setCell ⟨t,0,none⟩ (vI n)):=by
  have:=rY prog t [vI n] W 0 (fun u hu=>by simp at hu;subst hu;rfl) (fun j _ hj=>by
   obtain rfl:j=0:=by simp at hj;omega
   exact⟨⟨_,ht⟩,hf⟩)
  rw[storeVar,Sem.run_bind,Y8];simp only[Result.andThen,Value.cells];simpa[dU]using this
 rw[n7];simp only[Sem.run_bind,R9,VL,Result.andThen];simp[ReflectliteValue.flagAddr,hl,Result.andThen,Rc,hs]
end ea
end
section
open Go.Proofs.Tryz
open Go.RowKit Go.Extern.Stop Go.Stop Go.Extern
namespace ea
theorem bh(t:Nat)(y0 y1 y2 y3 y4 y5 y6:Value)(old:List Value)(w:World)(hg:w.cell? ⟨0,0,none⟩=some (.iface 241 (.agg #[.pointer (some ⟨1,152,none⟩)])))(h1:∀u∈[y0,y1,y2,y3,y4,y5,y6],u.oneCell'=true)(ho:old.length=7)(ht:Bx w t old):
  Calls prog 106 #[.iface 155 (.agg #[y0,y1,y2,y3,y4,y5,y6]),.iface 157 (.pointer (some ⟨t,0,none⟩))] w fun ev w'=>ev=.returned (.bool true)/\w'=dU ((((w.alloc (.cells #[.pointer (some ⟨t,0,none⟩)] 157)).alloc (.cells #[.pointer (some ⟨1,157,none⟩),.pointer (some ⟨w.1.size,0,none⟩),.int .u64 150] 203)).alloc (.cells #[.pointer (some ⟨1,157,none⟩),.pointer (some ⟨w.1.size,0,none⟩),.int .u64 150] 203)).alloc (.cells #[y0,y1,y2,y3,y4,y5,y6] 155)) t 0 [y0,y1,y2,y3,y4,y5,y6]:=by
 have h6:=@run_callFunc_extern prog 142 _ (fun args=>ReflectliteValue.unpack (args.getD 0 (.tuple #[]))) func142 (by kernel_rfl) (by kernel_rfl) (by kernel_rfl) (by kernel_rfl)
 have h7:=@run_callFunc_extern prog 143 _ (ReflectliteValue.methodAny (ReflectliteValue.valueError "reflectlite.Value.Type" 0) (fun t _ _ _=>ReflectliteType.toType t)) func143 (by kernel_rfl) (by kernel_rfl) (by kernel_rfl) (by kernel_rfl)
 have h8:=@run_callFunc_extern prog 144 _ (ReflectliteValue.method (ReflectliteValue.valueError "reflectlite.Value.IsNil" 0) ReflectliteValue.isNil) func144 (by kernel_rfl) (by kernel_rfl) (by kernel_rfl) (by kernel_rfl)
 have qk:=@run_callFunc_extern prog 288 _ (ReflectliteType.abiMethod fun t=>do pure (.int .u8 (<-Rtype.kind t))) func288 (by kernel_rfl) (by kernel_rfl) (by kernel_rfl) (by kernel_rfl);have qq:=@run_callFunc_extern prog 302 _ (ReflectliteType.method ReflectliteType.elem) func302 (by kernel_rfl) (by kernel_rfl) (by kernel_rfl) (by kernel_rfl)
 have qs:=@run_callFunc_extern prog 303 _ (ReflectliteType.relation "Implements" ReflectliteType.implements_) func303 (by kernel_rfl) (by kernel_rfl) (by kernel_rfl) (by kernel_rfl)
 have cG:=@run_callFunc_extern prog 181 _ ReflectliteType.typeOf func181 (by kernel_rfl) (by kernel_rfl) (by kernel_rfl) (by kernel_rfl)
 have qn:=@run_callFunc_extern prog 300 _ (ReflectliteType.relation "AssignableTo" ReflectliteType.assignableTo) func300 (by kernel_rfl) (by kernel_rfl) (by kernel_rfl) (by kernel_rfl)
 have Zp:=@run_callFunc_extern prog 182 _ (ReflectliteValue.method (ReflectliteValue.valueError "reflectlite.Value.Elem" 0) ReflectliteValue.elem) func182 (by kernel_rfl) (by kernel_rfl) (by kernel_rfl) (by kernel_rfl)
 have uI:=@run_callFunc_extern prog 183 _ ReflectliteValue.set func183 (by kernel_rfl) (by kernel_rfl) (by kernel_rfl) (by kernel_rfl);have tO:=LQ;have mA:=ny;have a25:=FD;have v25:=Qu y0 y1 y2 y3 y4 y5 y6;have f6:=Np;have f7:=VZ;have mK:=AB;have mE:=AA;have mI:=o9;have k27:=Vo;have k25:=YE;have e27:=Uo;have i25:=Gm;obtain⟨V1,lK,b1,-,s1⟩:=jU w [.pointer (some ⟨t,0,none⟩)] 157;have c1:V1.cell? ⟨w.1.size,0,none⟩=some (.pointer (some ⟨t,0,none⟩)):=by rw[lK];simp
 obtain⟨V2,u7,b2,-,s2⟩:=jU V1 [.pointer (some ⟨1,157,none⟩),.pointer (some ⟨w.1.size,0,none⟩),.int .u64 150] 203;obtain⟨V3,wL,b3,-,s3⟩:=jU V2 [.pointer (some ⟨1,157,none⟩),.pointer (some ⟨w.1.size,0,none⟩),.int .u64 150] 203;obtain⟨V4,Ei,b4,x4,-⟩:=jU V3 [y0,y1,y2,y3,y4,y5,y6] 155
 have aK:0<w.1.size:=by
  rcases Nat.eq_zero_or_pos w.1.size with h0|h
  ·simp[World.cell?,h0]at hg
  ·exact h
 have Ch:V2.cell? ⟨0,0,none⟩=some (.iface 241 (.agg #[.pointer (some ⟨1,152,none⟩)])):=(b2.cell (p:=⟨0,0,none⟩) (by show 0<V1.1.size;omega)).trans ((b1.cell (p:=⟨0,0,none⟩) aK).trans hg);have n8:=RJ ⟨w.1.size,0,none⟩ ⟨t,0,none⟩ V2 ((b2.cell (p:=⟨w.1.size,0,none⟩) (by show w.1.size<V1.1.size;omega)).trans c1);have el:=Rh ⟨w.1.size,0,none⟩ ⟨t,0,none⟩ V3 ((b3.cell (p:=⟨w.1.size,0,none⟩) (by show w.1.size<V2.1.size;omega)).trans ((b2.cell (p:=⟨w.1.size,0,none⟩) (by show w.1.size<V1.1.size;omega)).trans c1));have st:=Qh t V3.1.size [y0,y1,y2,y3,y4,y5,y6] old V4 rfl h1 x4 ho ((((ht.later b1).later b2).later b3).later b4);rw[show V3.1.size=w.1.size+1+1+1 by omega]at st;rw[Ei,wL,u7,lK]at st;rw[wL,u7,lK]at el;rw[u7,lK]at n8 Ch;clear b1 s1 c1 b2 s2 b3 s3 b4 x4 lK u7 wL Ei V1 V2 V3 V4 ht h1 ho;go_enter func106,ntmps106;go_wp2;refine wp_loop_rounds 1 ?_;rw[rounds_succ];go_wp2;go_ret;exact⟨rfl,rfl⟩
end ea
end
section
open Go.Proofs.Tryz
open Go.RowKit Go.Extern.Stop Go.Stop Go.Extern
namespace ea
theorem pC:prog.underlying 246=some (.interface #[("As",248)]):=by kernel_rfl
theorem Sm:prog.underlying 249=some (.interface #[("Unwrap",250)]):=by kernel_rfl
theorem Uq:prog.underlying 152=some (.interface #[("Error",321)]):=by kernel_rfl
theorem EA(v:Value)(w:World):(Go.method 452 155 v "Unwrap").run prog w=.ok (293,v) w:=by kernel_rfl
theorem ba(t:Nat)(n:Int)(y1 y2 y3 y4 y5 y6 old:Value)(w:World)(hg:w.cell? ⟨0,0,none⟩=some (.iface 241 (.agg #[.pointer (some ⟨1,152,none⟩)])))(ht:w.cell? ⟨t,0,none⟩=some old)(hf:w.frozen? ⟨t,0,none⟩=false)(Tg:t<w.1.size):
  Calls prog 106 #[.iface 155 (.agg #[.iface 120 (vI n),y1,y2,y3,y4,y5,y6]),.iface 158 (.pointer (some ⟨t,0,none⟩))] w fun ev w'=>ev=.returned (.bool true)/\w'=(((((w.alloc (.cells #[.pointer (some ⟨t,0,none⟩)] 158)).alloc (.cells #[.pointer (some ⟨1,158,none⟩),.pointer (some ⟨w.1.size,0,none⟩),.int .u64 150] 203)).alloc (.cells #[.pointer (some ⟨1,158,none⟩),.pointer (some ⟨w.1.size,0,none⟩),.int .u64 150] 203)).alloc (.cells #[.iface 120 (vI n),y1,y2,y3,y4,y5,y6] 155)).alloc (.cells #[vI n] 120)).setCell ⟨t,0,none⟩ (vI n):=by
 have h6:=@run_callFunc_extern prog 142 _ (fun args=>ReflectliteValue.unpack (args.getD 0 (.tuple #[]))) func142 (by kernel_rfl) (by kernel_rfl) (by kernel_rfl) (by kernel_rfl)
 have h7:=@run_callFunc_extern prog 143 _ (ReflectliteValue.methodAny (ReflectliteValue.valueError "reflectlite.Value.Type" 0) (fun t _ _ _=>ReflectliteType.toType t)) func143 (by kernel_rfl) (by kernel_rfl) (by kernel_rfl) (by kernel_rfl)
 have h8:=@run_callFunc_extern prog 144 _ (ReflectliteValue.method (ReflectliteValue.valueError "reflectlite.Value.IsNil" 0) ReflectliteValue.isNil) func144 (by kernel_rfl) (by kernel_rfl) (by kernel_rfl) (by kernel_rfl)
 have qk:=@run_callFunc_extern prog 288 _ (ReflectliteType.abiMethod fun t=>do pure (.int .u8 (<-Rtype.kind t))) func288 (by kernel_rfl) (by kernel_rfl) (by kernel_rfl) (by kernel_rfl);have qq:=@run_callFunc_extern prog 302 _ (ReflectliteType.method ReflectliteType.elem) func302 (by kernel_rfl) (by kernel_rfl) (by kernel_rfl) (by kernel_rfl)
 have qs:=@run_callFunc_extern prog 303 _ (ReflectliteType.relation "Implements" ReflectliteType.implements_) func303 (by kernel_rfl) (by kernel_rfl) (by kernel_rfl) (by kernel_rfl)
 have cG:=@run_callFunc_extern prog 181 _ ReflectliteType.typeOf func181 (by kernel_rfl) (by kernel_rfl) (by kernel_rfl) (by kernel_rfl)
 have qn:=@run_callFunc_extern prog 300 _ (ReflectliteType.relation "AssignableTo" ReflectliteType.assignableTo) func300 (by kernel_rfl) (by kernel_rfl) (by kernel_rfl) (by kernel_rfl)
 have Zp:=@run_callFunc_extern prog 182 _ (ReflectliteValue.method (ReflectliteValue.valueError "reflectlite.Value.Elem" 0) ReflectliteValue.elem) func182 (by kernel_rfl) (by kernel_rfl) (by kernel_rfl) (by kernel_rfl)
 have uI:=@run_callFunc_extern prog 183 _ ReflectliteValue.set func183 (by kernel_rfl) (by kernel_rfl) (by kernel_rfl) (by kernel_rfl);have tO:=LQ;have tC:=Sk;have mA:=ny;have ux:=DY;have aC:=FC;have vC:=Qt n;have f6:=Nn;have f7:=VY;have mK:=AB;have mE:=AA;have mI:=o9;have mU:=EA;have k27:=Vn;have k25:=YD;have e27:=Un;have i25:=Gl;have tA:∀(v:Value) (w:World),(Instr.typeAssert (.iface 155 v) 152 246 true).run prog w=.ok (.tuple #[.nilIface,.bool false]) w:=fun v w=>run_typeAssert_lacksB pC (by kernel_rfl) (by kernel_rfl) _ _ w
 have tU:∀(v:Value) (w:World),(Instr.typeAssert (.iface 155 v) 152 249 true).run prog w=.ok (.tuple #[.iface 155 v,.bool true]) w:=fun v w=>run_typeAssert_hasB Sm (by kernel_rfl) _ _ w
 obtain⟨V1,lK,b1,-,s1⟩:=jU w [.pointer (some ⟨t,0,none⟩)] 158;have c1:V1.cell? ⟨w.1.size,0,none⟩=some (.pointer (some ⟨t,0,none⟩)):=by rw[lK];simp
 obtain⟨V2,u7,b2,-,s2⟩:=jU V1 [.pointer (some ⟨1,158,none⟩),.pointer (some ⟨w.1.size,0,none⟩),.int .u64 150] 203;obtain⟨V3,wL,b3,-,s3⟩:=jU V2 [.pointer (some ⟨1,158,none⟩),.pointer (some ⟨w.1.size,0,none⟩),.int .u64 150] 203;obtain⟨V4,Ei,b4,-,s4⟩:=jU V3 [.iface 120 (vI n),y1,y2,y3,y4,y5,y6] 155;obtain⟨V5,SN⟩:∃V,V=V4.alloc (.cells #[vI n] 120):=⟨_,rfl⟩
 have b5:Below V4.1.size V4 V5:=by rw[SN];exact aN.alloc aU _
 have c5:V5.cell? ⟨V4.1.size,0,none⟩=some (vI n):=by rw[SN];simp
 have aK:0<w.1.size:=by omega
 have Ch:V2.cell? ⟨0,0,none⟩=some (.iface 241 (.agg #[.pointer (some ⟨1,152,none⟩)])):=(b2.cell (p:=⟨0,0,none⟩) (by show 0<V1.1.size;omega)).trans ((b1.cell (p:=⟨0,0,none⟩) aK).trans hg);have q2:=(b2.cell (p:=⟨w.1.size,0,none⟩) (by show w.1.size<V1.1.size;omega)).trans c1;have q3:=(b3.cell (p:=⟨w.1.size,0,none⟩) (by show w.1.size<V2.1.size;omega)).trans q2;have q4:=(b4.cell (p:=⟨w.1.size,0,none⟩) (by show w.1.size<V3.1.size;omega)).trans q3;have n8:=RI ⟨w.1.size,0,none⟩ ⟨t,0,none⟩ V2 q2;have el:=Rf ⟨w.1.size,0,none⟩ ⟨t,0,none⟩ V4 q4;have b15:Below w.1.size w V5:=au (au (au (au b1 b2) b3) b4) b5;have st:=gb t V4.1.size n old V5 c5 ((b15.cell (p:=⟨t,0,none⟩) Tg).trans ht) ((World.frozen?_of_block (a:=⟨t,0,none⟩) (b15.block t Tg)).trans hf);rw[show V4.1.size=w.1.size+1+1+1+1 by omega]at st;rw[SN,Ei,wL,u7,lK]at st;rw[Ei,wL,u7,lK]at el;rw[u7,lK]at n8 Ch;clear b1 s1 c1 b2 s2 b3 s3 b4 s4 b5 c5 b15 q2 q3 q4 lK u7 wL Ei SN V1 V2 V3 V4 V5 ht hf;go_enter func106,ntmps106;go_wp2;refine wp_loop_rounds 2 ?_;rw[rounds_succ];go_wp2;rw[rounds_succ];go_wp2;go_ret;exact⟨rfl,rfl⟩
end ea
end
section
open Go.Proofs.Tryz
variable {P:Program}{Q:Exit->Act->World->Prop}{a:Act}{f i s:Nat}{md:Region.Mode}{o:Oper}{ops:Array Oper}{rs:List Nat}{v:Value}{w:World}
def iV(P:Program)(md:Region.Mode)(ops:Array Oper)(Q:Exit->Act->World->Prop)(S:World->Prop)(s:Nat):Nat->Array Bool->Act->World->Prop
 | 0,L,a,w=>Region.ready md ops L=[]/\Q .normal a w
 | f+1,L,a,w=>(Region.ready md ops L=[]->Q .normal a w)/\∀i∈Region.ready md ops L,wpOp P ops Q i (fun a' w'=>(i≠s->S w')/\iV P md ops Q S s f (L.setIfInBounds i true) a' w') a w
theorem BA{S:World->Prop}:∀(f:Nat) (L:Array Bool) (a:Act) (w:World),iV P md ops Q S s f L a w->wpAny P md ops Q f L a w:=by
 intro f
 induction f with
 | zero=>exact fun _ _ _ h=>h
 | succ f ih=>exact fun L a w h=>⟨h.1,fun i hi=>wpOp_mono (fun a' w' k=>ih _ a' w' k.2) (h.2 i hi)⟩
def xP(md:Region.Mode)(ops:Array Oper)(s i:Nat):Bool:=match ops[s]? with
 | some o=>o.after.any fun e=>Region.binds md e&&e.on==i
 | none=>false
theorem Dt{j:Nat}{oj:Oper}{L:Array Bool}(hr:i∈Region.ready md ops L)(aO:∀e∈oj.after,Region.binds md e=true->L.getD e.on false=true)(hj:ops[j]?=some oj)(hw:xP md ops j i=true):False:=by
 simp only[xP,hj,Array.any_eq_true,Bool.and_eq_true,beq_iff_eq]at hw;obtain⟨k,hk,hb,he⟩:=hw;have h1:=aO _ (Array.getElem_mem hk) hb;have h0:=(mem_ready.1 hr).1;rw[he]at h1;rcases Nat.lt_or_ge i L.size with h|h
 ·simp[h]at h0 h1;rw[h0]at h1;cases h1
 ·simp[Array.getElem?_eq_none h]at h1
theorem CX{S:World->Prop}(ho:ops[i]?=some o)(hw:xP md ops s i=true)(Gf:∀(j:Nat) (o:Oper) cs b,ops[j]?=some o->o.op≠.select cs b)(hQ:∀c a w,Q (.panic c) (a.put o.dst v) w->Q (.panic c) a w):
  ∀(f:Nat) (L:Array Bool) (a:Act) (w:World),
   (∀j oj,ops[j]?=some oj->j≠i->L.getD j true=false->(∀e∈oj.after,Region.binds md e=true->e.on≠i)->o.apart ops oj=true)->
   i∈Region.ready md ops L->YieldsIf P ops S o v a->S w->iV P md ops Q S s f (L.setIfInBounds i true) (a.put o.dst v) w->iV P md ops Q S s (f+1) L a w:=by
 intro f
 induction f with
 | zero=>
  intro L a w _ hr hy hS H;refine⟨fun h=>absurd hr (by rw[h];simp),fun j hj=>?_⟩;by_cases e:j=i
  ·rw[e];exact hy.wpOp ho hS ⟨fun _=>hS,H⟩
  ·have:=ready_mono hj e;rw[H.1]at this
   cases this
 | succ f ih=>
  intro L a w yj hr hy hS H;refine⟨fun h=>absurd hr (by rw[h];simp),fun j hj=>?_⟩;by_cases e:j=i
  ·rw[e];exact hy.wpOp ho hS ⟨fun _=>hS,H⟩
  ·obtain⟨Ti,oj,BL,aO⟩:=mem_ready.1 hj;have Zx:j≠s:=fun e'=>by rw[e']at BL;exact Dt hr aO BL hw
   have oG:∀x∈oj.after,Region.binds md x=true->x.on≠i:=fun x hx hb he=>Dt hr aO BL (by
    simp only[xP,BL,Array.any_eq_true,Bool.and_eq_true,beq_iff_eq];obtain⟨k,hk,rfl⟩:=Array.getElem_of_mem hx
    exact⟨k,hk,hb,he⟩)
   have step:=wpOp_putIf BL (yj j oj BL e Ti oG) (fun cs b=>Gf i o cs b ho) (fun cs b=>Gf j oj cs b BL) hQ hy (H.2 j (ready_mono hj e));refine wpOp_mono (fun a' w' k=>⟨k.2.1,ih _ a' w' (fun x ox hx Yu Tm Yv=>yj x ox hx Yu ?_ Yv) (ready_mono hr (Ne.symm e)) k.1 (k.2.1 Zx) ?_⟩) step
   ·by_cases h:j=x
    ·rw[<-h];exact Ti
    ·rw[getD_set_ne true h]at Tm;exact Tm
   ·rw[Array.setIfInBounds_comm _ _ e];exact k.2.2
theorem E5{S:World->Prop}{L:Array Bool}(ho:ops[i]?=some o)(hc:(xP md ops s i&&Region.noSelect ops&&Region.free md ops L i&&(Region.ready md ops L).contains i)=true)
  (hQ:∀c a w,Q (.panic c) (a.put o.dst v) w->Q (.panic c) a w) (hy:YieldsIf P ops S o v a) (hS:S w) (h:iV P md ops Q S s f (L.setIfInBounds i true) (a.put o.dst v) w):iV P md ops Q S s (f+1) L a w:=by
 simp only[Bool.and_eq_true]at hc;obtain⟨⟨⟨h1,h2⟩,h3⟩,h4⟩:=hc;exact CX ho h1 (Region.noSelect_spec h2) hQ f L a w (Region.free_spec ho h3) (by simpa using h4) hy hS h
def qW(P:Program)(md:Region.Mode)(ops:Array Oper)(Q:Exit->Act->World->Prop)(S:World->Prop)(s f:Nat)(L:Array Bool)(a:Act)(w:World)(rs:List Nat):Prop:=
 ∀i∈rs,wpOp P ops Q i (fun a' w'=>(i≠s->S w')/\iV P md ops Q S s f (L.setIfInBounds i true) a' w') a w
theorem qW.nil{S:World->Prop}{L:Array Bool}:qW P md ops Q S s f L a w []:=fun _ h=>by cases h
theorem qW.cons{S:World->Prop}{L:Array Bool}(ho:ops[i]?=some o)
  (h:∀K':Act->World->Prop,Shut (∀a w,(i≠s->S w)->iV P md ops Q S s f (L.setIfInBounds i true) a w->K' a w)->if Region.wanted o (yielded ops a.tmps)=true then Oper.wp P o a w K' Q else K' (a.put o.dst undef) w)
  (hs:qW P md ops Q S s f L a w rs):qW P md ops Q S s f L a w (i::rs):=fun j hj=>by
 rcases List.mem_cons.1 hj with rfl|hj
 ·exact wpOp_step ho (fun K' hK=>h K' (fun a w hS hW=>hK a w ⟨hS,hW⟩))
 ·exact hs j hj
theorem lC{S:World->Prop}{L:Array Bool}(hr:Region.ready md ops L=rs)(eO:rs≠[])(h:qW P md ops Q S s f L a w rs):iV P md ops Q S s (f+1) L a w:=
 ⟨fun h0=>absurd (hr.symm.trans h0) eO,fun i hi=>h i (by rw[<-hr];exact hi)⟩
theorem cZ{S:World->Prop}{L:Array Bool}(hr:Region.ready md ops L=[])(h:Q .normal a w)(f:Nat):iV P md ops Q S s f L a w:=by
 cases f with
 | zero=>exact⟨hr,h⟩
 | succ f=>exact⟨fun _=>h,fun i hi=>by rw[hr]at hi;cases hi⟩
theorem bO{id:Nat}(s:Nat)(S:World->Prop)(hm:P.follows .mixedOrders=true)(h:iV P .any ops Q S s ops.size (Array.replicate ops.size false) a w.drew):(Code.region id ops true).wp P Q a w:=
 wp_region_any hm (BA _ _ _ _ h)
theorem eP{S:World->Prop}(i:Nat)(v:Value){L:Array Bool}(ho:ops[i]?=some o)(hy:∀w,S w->(execOp a.eval o).run P w=.ok (.value v) w)(hS:S w)(h:iV P md ops Q S s f (L.setIfInBounds i true) (a.put o.dst v) w)(hc:(xP md ops s i&&Region.noSelect ops&&Region.free md ops L i&&(Region.ready md ops L).contains i)=true:=by kernel_rfl)(hQ:∀c a w,Q (.panic c) (a.put o.dst v) w->Q (.panic c) a w:=by exact fun _ _ _ h=>h)(hw:Region.wanted o (yielded ops a.tmps)=true:=by rfl):iV P md ops Q S s (f+1) L a w:=E5 ho hc hQ (Or.inl ⟨hw,hy⟩) hS h
theorem ed{S:World->Prop}(i:Nat){L:Array Bool}(ho:ops[i]?=some o)(h:∀K':Act->World->Prop,Shut (∀a w,(i≠s->S w)->iV P md ops Q S s f (L.setIfInBounds i true) a w->K' a w)->if Region.wanted o (yielded ops a.tmps)=true then Oper.wp P o a w K' Q else K' (a.put o.dst undef) w)(hr:Region.ready md ops L=[i]:=by kernel_rfl):iV P md ops Q S s (f+1) L a w:=lC hr (by simp) (qW.cons ho h qW.nil)
end
section
open Go.Proofs.Tryz
def HG(w:World):Prop:=w.cell? ⟨0,0,none⟩=some (.iface 241 (.agg #[.pointer (some ⟨1,152,none⟩)]))
theorem HG.later{w w':World}(h:HG w)(b:Below w.1.size w w'):HG w':=by
 have aK:0<w.1.size:=by
  rcases Nat.eq_zero_or_pos w.1.size with h0|h'
  ·simp[HG,World.cell?,h0]at h
  ·exact h'
 exact(b.cell (p:=⟨0,0,none⟩) aK).trans h
theorem uE(w:World)(n:Int)(y1 y2 y3 y4 y5 y6:Value):Calls prog 109 #[vI n,.agg #[y1,y2,y3,y4,y5,y6]] w fun e w'=>e=.panicked [{ v:=.iface 155 (.agg #[.iface 120 (vI n),y1,y2,y3,y4,y5,y6]),recovered:=false }]/\w'=w.alloc (.cells #[y1,y2,y3,y4,y5,y6] 32):=by
 go_enter func109,ntmps109;go_wp2;exact⟨rfl,rfl,rfl⟩
theorem isErr(w:World)(v:Value):(Instr.typeAssert (.iface 155 v) 20 152 true).run prog w=.ok (.tuple #[.iface 155 v,.bool true]) w:=run_typeAssert_hasB ea.Uq (by kernel_rfl) _ _ w
theorem G5(w:World)(n:Int)(y1 y2:Int)(a3:OA)(n3 c3:Nat)(a4:OA)(n4 c4:Nat)(a5:OA)(n5 c5:Nat)(y6:Bool)(hg:HG w):
  Calls prog 63 #[.iface 155 (.agg #[.iface 120 (vI n),vI y1,vI y2,.slice a3 n3 c3,.slice a4 n4 c4,.slice a5 n5 c5,.bool y6])] w fun e w'=>e=.returned (.tuple #[.agg #[vI y1,vI y2,.slice a3 n3 c3,.slice a4 n4 c4,.slice a5 n5 c5,.bool y6],vI n])/\Below w.1.size w w':=by
 have hE:=isErr;obtain⟨V1,lK⟩:∃V,V=((w.alloc (.cells #[vI 0,vI 0,.slice none 0 0,.slice none 0 0,.slice none 0 0,.bool false] 32)).alloc (.cells #[.nilIface,vI 0,vI 0,.slice none 0 0,.slice none 0 0,.slice none 0 0,.bool false] 155)).alloc (.cells #[vI 0] 120):=⟨_,rfl⟩
 have b1:Below w.1.size w V1:=by rw[lK];exact((aN.alloc aU _).alloc (by simp) _).alloc (by simp;omega) _
 have s1:V1.1.size=w.1.size+3:=by rw[lK];simp
 have x0:Bx V1 w.1.size nJ:=by
  have:=(Bx.made w nJ 32).later (aN.alloc aU (.cells #[.nilIface,vI 0,vI 0,.slice none 0 0,.slice none 0 0,.slice none 0 0,.bool false] 155));have:=this.later (aN.alloc aU (.cells #[vI 0] 120));rw[lK];exact this
 have x1:Bx V1 (w.1.size+1) [.nilIface,vI 0,vI 0,.slice none 0 0,.slice none 0 0,.slice none 0 0,.bool false]:=by
  have h:=Bx.made (w.alloc (.cells #[vI 0,vI 0,.slice none 0 0,.slice none 0 0,.slice none 0 0,.bool false] 32)) [.nilIface,vI 0,vI 0,.slice none 0 0,.slice none 0 0,.slice none 0 0,.bool false] 155;rw[show(w.alloc (.cells #[vI 0,vI 0,.slice none 0 0,.slice none 0 0,.slice none 0 0,.bool false] 32)).1.size=w.1.size+1 by simp]at h;have:=h.later (aN.alloc aU (.cells #[vI 0] 120));rw[lK];exact this
 have x2:Bx V1 (w.1.size+2) [vI 0]:=by
  have h:=Bx.made ((w.alloc (.cells #[vI 0,vI 0,.slice none 0 0,.slice none 0 0,.slice none 0 0,.bool false] 32)).alloc (.cells #[.nilIface,vI 0,vI 0,.slice none 0 0,.slice none 0 0,.slice none 0 0,.bool false] 155)) [vI 0] 120;rw[show((w.alloc (.cells #[vI 0,vI 0,.slice none 0 0,.slice none 0 0,.slice none 0 0,.bool false] 32)).alloc (.cells #[.nilIface,vI 0,vI 0,.slice none 0 0,.slice none 0 0,.slice none 0 0,.bool false] 155)).1.size=w.1.size+2 by simp]at h;rw[lK];exact h
 obtain⟨YS,rl⟩:∃l:List Value,l=[.iface 120 (vI n),vI y1,vI y2,.slice a3 n3 c3,.slice a4 n4 c4,.slice a5 n5 c5,.bool y6]:=⟨_,rfl⟩
 have cR:=ea.bh (w.1.size+1) (.iface 120 (vI n)) (vI y1) (vI y2) (.slice a3 n3 c3) (.slice a4 n4 c4) (.slice a5 n5 c5) (.bool y6) [.nilIface,vI 0,vI 0,.slice none 0 0,.slice none 0 0,.slice none 0 0,.bool false] V1 (hg.later b1) (by intro u hu;simp only[List.mem_cons,List.not_mem_nil,or_false]at hu;rcases hu with rfl|rfl|rfl|rfl|rfl|rfl|rfl<;>rfl) rfl x1;have K:Hid (Below w.1.size w V1/\V1.1.size=w.1.size+3/\Bx V1 w.1.size nJ/\Bx V1 (w.1.size+1) [.nilIface,vI 0,vI 0,.slice none 0 0,.slice none 0 0,.slice none 0 0,.bool false]/\Bx V1 (w.1.size+2) [vI 0]/\HG V1):=⟨b1,s1,x0,x1,x2,hg.later b1⟩
 clear b1 s1 x0 x1 x2 rl YS;go_enter func63,ntmps63;go_wp2_with fail;rw[<-lK];clear lK;refine cR.mono ?_;clear cR;rintro e w1 ⟨rfl,Fs⟩;obtain⟨V4,Ei⟩:∃V,V=(((V1.alloc (.cells #[.pointer (some ⟨w.1.size+1,0,none⟩)] 157)).alloc (.cells #[.pointer (some ⟨1,157,none⟩),.pointer (some ⟨V1.1.size,0,none⟩),.int .u64 150] 203)).alloc (.cells #[.pointer (some ⟨1,157,none⟩),.pointer (some ⟨V1.1.size,0,none⟩),.int .u64 150] 203)).alloc (.cells #[.iface 120 (vI n),vI y1,vI y2,.slice a3 n3 c3,.slice a4 n4 c4,.slice a5 n5 c5,.bool y6] 155):=⟨_,rfl⟩
 rw[<-Ei]at Fs;have b4:Below V1.1.size V1 V4:=by rw[Ei];exact(((aN.alloc aU _).alloc (by simp) _).alloc (by simp;omega) _).alloc (by simp;omega) _
 obtain⟨k1,k2,k3,k4,k5,k6⟩:=K.out;have iH:w1.1.size=V4.1.size:=by rw[Fs];exact bu _ _ _ _
 have kS:∀q,q≠w.1.size+1->w1.1[q]?=V4.1[q]?:=fun q hq=>by rw[Fs];exact aX hq _ _ _
 have bw:Below w.1.size w w1:=by rw[Fs];exact bn (w:=w) (by omega) _ _ _ (au k1 b4)
 have z0:Bx w1 w.1.size nJ:=(k3.later b4).aj (kS _ (by omega)) (by omega);have z2:Bx w1 (w.1.size+2) [vI 0]:=(k5.later b4).aj (kS _ (by omega)) (by omega);have z1:Bx w1 (w.1.size+1) [.iface 120 (vI n),vI y1,vI y2,.slice a3 n3 c3,.slice a4 n4 c4,.slice a5 n5 c5,.bool y6]:=by rw[Fs];exact(k4.later b4).put _ rfl
 have g1:HG w1:=by
  have h4:=k6.later b4;have aK:0<V1.1.size:=by omega
  exact(World.cell?_of_block (a:=⟨0,0,none⟩) (kS 0 (by omega))).trans h4
 have cC:=ea.ba (w.1.size+2) n (vI y1) (vI y2) (.slice a3 n3 c3) (.slice a4 n4 c4) (.slice a5 n5 c5) (.bool y6) (vI 0) w1 g1 (z2.1 0 _ rfl) (z2.2.1 0) z2.2.2;have K1:Hid (Below w.1.size w w1/\Bx w1 w.1.size nJ/\Bx w1 (w.1.size+1) [.iface 120 (vI n),vI y1,vI y2,.slice a3 n3 c3,.slice a4 n4 c4,.slice a5 n5 c5,.bool y6]/\Bx w1 (w.1.size+2) [vI 0]/\w.1.size+3<=w1.1.size):=⟨bw,z0,z1,z2,by have:=b4.size;omega⟩
 clear Fs Ei b4 k1 k2 k3 k4 k5 k6 iH kS bw z0 z1 z2 g1 K V4;go_wp2_with fail;refine cC.mono ?_;clear cC;rintro e w2 ⟨rfl,WU⟩;obtain⟨V5,SN⟩:∃V,V=((((w1.alloc (.cells #[.pointer (some ⟨w.1.size+2,0,none⟩)] 158)).alloc (.cells #[.pointer (some ⟨1,158,none⟩),.pointer (some ⟨w1.1.size,0,none⟩),.int .u64 150] 203)).alloc (.cells #[.pointer (some ⟨1,158,none⟩),.pointer (some ⟨w1.1.size,0,none⟩),.int .u64 150] 203)).alloc (.cells #[.iface 120 (vI n),vI y1,vI y2,.slice a3 n3 c3,.slice a4 n4 c4,.slice a5 n5 c5,.bool y6] 155)).alloc (.cells #[vI n] 120):=⟨_,rfl⟩
 rw[<-SN]at WU;have b5:Below w1.1.size w1 V5:=by rw[SN];exact((((aN.alloc aU _).alloc (by simp) _).alloc (by simp;omega) _).alloc (by simp;omega) _).alloc (by simp;omega) _
 obtain⟨k1,k2,k3,k4,k5⟩:=K1.out;have kS:∀q,q≠w.1.size+2->w2.1[q]?=V5.1[q]?:=fun q hq=>by rw[WU];exact Below.heap_setCell _ _ _ _ hq
 have iI:w2.1.size=V5.1.size:=by rw[WU];simp[World.setCell]
 have z0:Bx w2 w.1.size nJ:=(k2.later b5).aj (kS _ (by omega)) (by omega);have z1:Bx w2 (w.1.size+1) [.iface 120 (vI n),vI y1,vI y2,.slice a3 n3 c3,.slice a4 n4 c4,.slice a5 n5 c5,.bool y6]:=(k3.later b5).aj (kS _ (by omega)) (by omega);have z2:w2.cell? ⟨w.1.size+2,0,none⟩=some (vI n):=by rw[WU];exact ax ((k4.later b5).1 0 _ rfl)
 have bw:Below w.1.size w w2:=by rw[WU];exact(au k1 b5).setCell (p:=⟨w.1.size+2,0,none⟩) (by show w.1.size<=w.1.size+2;omega) _
 have BW:Hid (Below w.1.size w w2):=bw;have Z0:Hid (Bx w2 w.1.size nJ):=z0;have Z1:Hid (Bx w2 (w.1.size+1) [.iface 120 (vI n),vI y1,vI y2,.slice a3 n3 c3,.slice a4 n4 c4,.slice a5 n5 c5,.bool y6]):=z1;clear WU SN b5 k1 k2 k3 k4 k5 kS iI z0 z1 bw K1 V5;go_wp2_with fail;refine bO 4 (fun X:World=>Bx X (w.1.size+1) [.iface 120 (vI n),vI y1,vI y2,.slice a3 n3 c3,.slice a4 n4 c4,.slice a5 n5 c5,.bool y6]/\X.cell? ⟨w.1.size+2,0,none⟩=some (vI n)) (by kernel_rfl) ?_;have dZ:(fun X:World=>Bx X (w.1.size+1) [.iface 120 (vI n),vI y1,vI y2,.slice a3 n3 c3,.slice a4 n4 c4,.slice a5 n5 c5,.bool y6]/\X.cell? ⟨w.1.size+2,0,none⟩=some (vI n)) w2.drew:=⟨Z1.out.later aN.drew,z2⟩
 have BD:Hid (Below w.1.size w w2.drew):=BW.out.drew;have ZD:Hid (Bx w2.drew w.1.size nJ):=Z0.out.later aN.drew;clear z2 Z0 Z1 BW;generalize w2.drew=XD at *;refine eP 0 ?_ rfl ?_ dZ ?_;rotate_left
 ·(intro w aH;go_simp;first|done|with_reducible rfl)
 simp only[Act.put];refine eP 1 ?_ rfl ?_ dZ ?_;rotate_left
 ·(intro w aH;have q1:=aH.1.1 1 _ rfl;have q2:=aH.1.1 2 _ rfl;have q3:=aH.1.1 3 _ rfl;have q4:=aH.1.1 4 _ rfl;have q5:=aH.1.1 5 _ rfl;have q6:=aH.1.1 6 _ rfl;go_simp;first|done|with_reducible rfl|rfl)
 simp only[Act.put];refine eP 2 ?_ rfl ?_ dZ ?_;rotate_left
 ·(intro w aH;have q:=aH.2;go_simp;first|done|with_reducible rfl|exact q)
 simp only[Act.put];refine ed 3 rfl (fun K hK=>?_);obtain⟨Y,hY⟩:∃Y,Y=dU XD w.1.size 0 [vI y1,vI y2,.slice a3 n3 c3,.slice a4 n4 c4,.slice a5 n5 c5,.bool y6]:=⟨_,rfl⟩
 have uZ:(fun X:World=>Bx X (w.1.size+1) [.iface 120 (vI n),vI y1,vI y2,.slice a3 n3 c3,.slice a4 n4 c4,.slice a5 n5 c5,.bool y6]/\X.cell? ⟨w.1.size+2,0,none⟩=some (vI n)) Y:=by
  rw[hY];exact⟨dZ.1.aj (aX (by omega) _ _ _) (by rw[bu];exact Nat.le_refl _),(World.cell?_of_block (a:=⟨w.1.size+2,0,none⟩) (aX (show w.1.size+2≠w.1.size by omega) _ _ _)).trans dZ.2⟩
 have KY:Hid (Below w.1.size w Y/\Bx Y w.1.size [vI y1,vI y2,.slice a3 n3 c3,.slice a4 n4 c4,.slice a5 n5 c5,.bool y6]):=⟨by rw[hY];exact bn (w:=w) aU _ _ _ BD.out,by rw[hY];exact ZD.out.put _ rfl⟩
 have r0:=ZD.out.c6;have f0:=ZD.out.f6;simp only[dU]at hY;go_simp;rw[<-hY];refine hK.out _ _ (fun _=>uZ) ?_;clear hK K hY r0 f0 dZ ZD BD;refine ed 4 rfl (fun K hK=>?_);go_simp;refine hK.out _ _ (fun h=>absurd rfl h) ?_;clear hK K;refine cZ (by kernel_rfl) ?_ _;have o0:=KY.out.2.c6;go_wp2;refine bodyPost_ret (v:=.tuple #[.agg #[vI y1,vI y2,.slice a3 n3 c3,.slice a4 n4 c4,.slice a5 n5 c5,.bool y6],vI n]) (by simp[results,results63,go_sem,o0]) rfl ?_;exact⟨rfl,KY.out.1⟩
end
section
open Go.Proofs.Tryz
variable {B b m n q:Nat}{P:Nat->Prop}{X Y:World}{a:OA}{g:Nat->Nat->Prop}
theorem G7{w w':World}(h:Room w b m)(e:w'.1[b]?=w.1[b]?):Room w' b m:=fun j hj=>by
 obtain⟨v,h1,h2⟩:=h j hj;exact⟨v,(World.cell?_of_block (a:=⟨b,j,none⟩) e).trans h1,(World.frozen?_of_block (a:=⟨b,j,none⟩) e).trans h2⟩
def At(X:World)(b o:Nat)(cs:List Value):Prop:=∀j u,cs[j]?=some u->X.cell? ⟨b,o+j,none⟩=some u
theorem At.aj{o:Nat}{cs:List Value}(h:At X b o cs)(e:Y.1[b]?=X.1[b]?):At Y b o cs:=fun j u hu=>(World.cell?_of_block (a:=⟨b,o+j,none⟩) e).trans (h j u hu)
structure Kd(D V:Type) where
 n:Nat
 cells:V->D->List Value
 len:∀v d,(cells v d).length=n
 Rd:World->V->D->Prop
 Ow:World->Nat->V->D->(Nat->Prop)->Prop
 later:∀{w w':World}{v:V}{d:D},Rd w v d->Below w.1.size w w'->Rd w' v d
 sl:∀{w:World}{B:Nat}{v:V}{d:D}{P:Nat->Prop},Ow w B v d P->Rd w v d
 of:∀{w:World}{B:Nat}{v:V}{d:D}{P:Nat->Prop}{q:Nat},Ow w B v d P->P q->B<=q/\q<w.1.size
 aL:∀{w w':World}{B:Nat}{v:V}{d:D}{P:Nat->Prop},Ow w B v d P->w.1.size<=w'.1.size->(∀q,P q->w'.1[q]?=w.1[q]?)->Ow w' B v d P
 low:∀{w:World}{B B':Nat}{v:V}{d:D}{P:Nat->Prop},Ow w B v d P->B'<=B->Ow w B' v d P
def Kd.pK{D V:Type}(K:Kd D V)(X:World)(a:OA)(xs:List D):Prop:=xs=[]\/∃b off,a=some ⟨b,off,none⟩/\b<X.1.size/\∀i d,xs[i]?=some d->∃v,At X b (off+i*K.n) (K.cells v d)/\K.Rd X v d
theorem Kd.pK.later{D V:Type}{K:Kd D V}{X Y:World}{a:OA}{xs:List D}(h:K.pK X a xs)(hb:Below X.1.size X Y):K.pK Y a xs:=by
 rcases h with h|⟨b,off,e,hl,h⟩
 ·exact .inl h
 ·refine .inr ⟨b,off,e,Nat.lt_of_lt_of_le hl hb.size,fun i d hi=>?_⟩;obtain⟨v,h1,h2⟩:=h i d hi;exact⟨v,h1.aj (hb.block b hl),K.later h2 hb⟩
structure Kd.Part{D V:Type}(K:Kd D V)(X:World)(B b n:Nat)(ys:List D)(g:Nat->Nat->Prop):Prop where
 rm:Room X b (n*K.n)
 at_:∀i d,ys[i]?=some d->∃v,At X b (i*K.n) (K.cells v d)/\K.Ow X B v d (g i)
 ne:∀i q,i<ys.length->g i q->q≠b
 ap:∀i j q,i<ys.length->j<ys.length->i≠j->g i q->¬g j q
theorem Kd.Part.gq{D V:Type}{K:Kd D V}{ys:List D}(h:K.Part X B b n ys g){i:Nat}(hi:i<ys.length)(hq:g i q):B<=q/\q<X.1.size:=by
 obtain⟨v,_,ho⟩:=h.at_ i _ (List.getElem?_eq_getElem hi);exact K.of ho hq
theorem Kd.Part.aL{D V:Type}{K:Kd D V}{X Y:World}{B b n:Nat}{ys:List D}{g:Nat->Nat->Prop}(h:K.Part X B b n ys g)(hs:X.1.size<=Y.1.size)(hb:Y.1[b]?=X.1[b]?)(hk:∀i q,i<ys.length->g i q->Y.1[q]?=X.1[q]?):K.Part Y B b n ys g:=by
 refine⟨G7 h.rm hb,fun i d hi=>?_,h.ne,h.ap⟩;obtain⟨v,h1,h2⟩:=h.at_ i d hi;exact⟨v,h1.aj hb,K.aL h2 hs (fun q hq=>hk i q (List.getElem?_eq_some_iff.1 hi).1 hq)⟩
theorem Kd.Part.later{D V:Type}{K:Kd D V}{ys:List D}(h:K.Part X B b n ys g)(hb:Below X.1.size X Y)(hl:b<X.1.size):K.Part Y B b n ys g:=h.aL hb.size (hb.block b hl) (fun _ q hi hq=>hb.block q (h.gq hi hq).2)
theorem Kd.Part.nil{D V:Type}(K:Kd D V)(g:Nat->Nat->Prop)(h:Room X b (n*K.n)):K.Part X B b n [] g:=⟨h,fun i d hi=>by simp at hi,fun i q hi=>by simp at hi,fun i j q hi=>by simp at hi⟩
theorem GY{s j:Nat}(cs:List Value):∀(X:World) (i:Nat),(j<i\/i+cs.length<=j)->(dU X s i cs).cell? ⟨s,j,none⟩=X.cell? ⟨s,j,none⟩:=by
 induction cs with
 | nil=>intro X i _;rfl
 | cons c cs ih=>intro X i h;simp only[List.length_cons]at h;rw[dU,ih _ _ (by omega)];exact ae (by omega)
theorem Dy(cs:List Value):∀(X:World) (i:Nat),Room X b m->Room (dU X b i cs) b m:=by
 induction cs with
 | nil=>intro X i h;exact h
 | cons c cs ih=>intro X i h;exact ih _ _ (h.set _)
theorem Kd.Part.push{D V:Type}{K:Kd D V}{ys:List D}(h:K.Part X B b n ys g)(hn:ys.length<n)(v:V)(d:D)(P:Nat->Prop)(ho:K.Ow X B v d P)(eO:∀q,P q->q≠b)(UB:∀i q,i<ys.length->g i q->¬P q):
  K.Part (dU X b (ys.length*K.n) (K.cells v d)) B b n (ys++[d]) (fun i=>if i=ys.length then P else g i):=by
 have hc:ys.length*K.n+K.n<=n*K.n:=by rw[<-Nat.succ_mul];exact Nat.mul_le_mul_right _ hn
 have hs:(dU X b (ys.length*K.n) (K.cells v d)).1.size=X.1.size:=bu _ _ _ _;have hk:∀q,q≠b->(dU X b (ys.length*K.n) (K.cells v d)).1[q]?=X.1[q]?:=fun q hq=>aX hq _ _ _
 refine⟨Dy _ _ _ h.rm,fun i e hi=>?_,fun i q hi hq=>?_,fun i j q hi hj Ga h1 h2=>?_⟩
 ·by_cases hl:i<ys.length
  ·rw[List.getElem?_append_left hl]at hi;obtain⟨v',h1,h2⟩:=h.at_ i e hi;have e0:i≠ys.length:=by omega
   refine⟨v',fun j u hu=>?_,by simp only[if_neg e0];exact K.aL h2 (Nat.le_of_eq hs.symm) (fun q hq=>hk q (h.ne i q hl hq))⟩;have hj:j<K.n:=by have:=(List.getElem?_eq_some_iff.1 hu).1;rwa[K.len]at this
   have hm:i*K.n+K.n<=ys.length*K.n:=by rw[<-Nat.succ_mul];exact Nat.mul_le_mul_right _ hl
   exact(GY _ _ _ (by omega)).trans (h1 j u hu)
  ·have he:i=ys.length:=by
    have:=(List.getElem?_eq_some_iff.1 hi).1;simp at this;omega
   subst he;rw[List.getElem?_append_right aU]at hi;simp at hi;subst hi;refine⟨v,fun j u hu=>?_,by simp only[if_pos];exact K.aL ho (Nat.le_of_eq hs.symm) (fun q hq=>hk q (eO q hq))⟩;refine xD _ _ _ (fun j h1 h2=>?_) j u hu;rw[K.len]at h2;obtain⟨z,hz,_⟩:=h.rm j (by omega);exact⟨z,hz⟩
 ·by_cases e:i=ys.length
  ·simp only[if_pos e]at hq;exact eO q hq
  ·simp only[if_neg e]at hq;simp at hi;exact h.ne i q (by omega) hq
 ·simp only[List.length_append,List.length_cons,List.length_nil]at hi hj;by_cases e1:i=ys.length
  ·by_cases e2:j=ys.length
   ·omega
   ·simp only[if_pos e1]at h1;simp only[if_neg e2]at h2;exact UB j q (by omega) h2 h1
  ·by_cases e2:j=ys.length
   ·simp only[if_neg e1]at h1;simp only[if_pos e2]at h2;exact UB i q (by omega) h1 h2
   ·simp only[if_neg e1]at h1;simp only[if_neg e2]at h2;exact h.ap i j q (by omega) (by omega) Ga h1 h2
def Kd.oD{D V:Type}(K:Kd D V)(X:World)(B:Nat)(a:OA)(xs:List D)(P:Nat->Prop):Prop:=(xs=[]\/∃b g,a=some ⟨b,0,none⟩/\P b/\K.Part X B b xs.length xs g/\(∀i q,i<xs.length->g i q->P q))/\(∀q,P q->B<=q/\q<X.1.size)
theorem Kd.oD.of{D V:Type}{K:Kd D V}{xs:List D}(h:K.oD X B a xs P)(hq:P q):B<=q/\q<X.1.size:=h.2 q hq
theorem Kd.oD.sl{D V:Type}{K:Kd D V}{X:World}{B:Nat}{a:OA}{xs:List D}{P:Nat->Prop}(h:K.oD X B a xs P):K.pK X a xs:=by
 rcases h with ⟨h|⟨b,g,e,hp,h,_⟩,hb⟩
 ·exact .inl h
 ·refine .inr ⟨b,0,e,(hb b hp).2,fun i d hi=>?_⟩;obtain⟨v,h1,h2⟩:=h.at_ i d hi;exact⟨v,by rw[Nat.zero_add];exact h1,K.sl h2⟩
theorem Kd.oD.aL{D V:Type}{K:Kd D V}{X Y:World}{B:Nat}{a:OA}{xs:List D}{P:Nat->Prop}(h:K.oD X B a xs P)(hs:X.1.size<=Y.1.size)(hk:∀q,P q->Y.1[q]?=X.1[q]?):K.oD Y B a xs P:=by
 rcases h with ⟨h|⟨b,g,e,hp,h,hg⟩,hb⟩
 ·exact⟨.inl h,fun q hq=>⟨(hb q hq).1,Nat.lt_of_lt_of_le (hb q hq).2 hs⟩⟩
 ·exact⟨.inr ⟨b,g,e,hp,h.aL hs (hk b hp) (fun i q hi hq=>hk q (hg i q hi hq)),hg⟩,fun q hq=>⟨(hb q hq).1,Nat.lt_of_lt_of_le (hb q hq).2 hs⟩⟩
theorem Kd.oD.later{D V:Type}{K:Kd D V}{xs:List D}(h:K.oD X B a xs P)(hb:Below X.1.size X Y):K.oD Y B a xs P:=h.aL hb.size (fun q hq=>hb.block q (h.of hq).2)
theorem Kd.oD.low{D V:Type}{K:Kd D V}{X:World}{B B':Nat}{a:OA}{xs:List D}{P:Nat->Prop}(h:K.oD X B a xs P)(hb:B'<=B):K.oD X B' a xs P:=by
 rcases h with ⟨h|⟨b,g,e,hp,h,hg⟩,hq⟩
 ·exact⟨.inl h,fun q h'=>⟨Nat.le_trans hb (hq q h').1,(hq q h').2⟩⟩
 ·refine⟨.inr ⟨b,g,e,hp,⟨h.rm,fun i d hi=>?_,h.ne,h.ap⟩,hg⟩,fun q h'=>⟨Nat.le_trans hb (hq q h').1,(hq q h').2⟩⟩;obtain⟨v,h1,h2⟩:=h.at_ i d hi;exact⟨v,h1,K.low h2 hb⟩
theorem Kd.Part.own{D V:Type}{K:Kd D V}{xs:List D}(h:K.Part X B b xs.length xs g)(hB:B<=b)(hb:b<X.1.size):K.oD X B (some ⟨b,0,none⟩) xs (fun q=>q=b\/∃i,i<xs.length/\g i q):=
 ⟨.inr ⟨b,g,rfl,.inl rfl,h,fun i q hi hq=>.inr ⟨i,hi,hq⟩⟩,fun q hq=>by rcases hq with rfl|⟨i,hi,hq⟩;exact⟨hB,hb⟩;exact h.gq hi hq⟩
end
section
open Go.Proofs.Tryz
variable {hi lo x:Int}
def bH(lo hi x:Int):Bool:=decide (lo<=x)&&decide (x<=hi)
theorem jV(h:lo<=x)(h':x<=hi):bH lo hi x=true:=by simp[bH,h,h']
theorem dI:bH lo hi x=true↔lo<=x/\x<=hi:=by simp[bH]
theorem dW{b b':Bool}(h:b=true↔b'=true):Ending.returned (Value.bool b)=Ending.returned (Value.bool b'):=by rw[Bool.eq_iff_iff.2 h]
theorem fF(w:World)(x lo hi:Int):Calls prog 15 #[vI x,vI lo,vI hi] w fun e w'=>e=.returned (.bool (bH lo hi x))/\w'=w:=by
 go_enter func15,ntmps15;go_wp2;all_goals (go_ret;refine⟨dW ?_,rfl⟩;simp[dI];try omega)
end
section
open Go.Proofs.Tryz
structure S5 where
 a:Int
 e:Int
 h:Int
 j:Bool
 i:Int
def bf(s:S5):Bool:=bH 0 5 s.a&&bH 0 5 s.e&&bH (-1000000000) 1000000000 s.h&&bH 0 999999 s.i
theorem nA(w:World)(x:Int):Calls prog 98 #[vI x] w fun e w'=>e=.returned (.bool (bH 0 5 x))/\w'=w:=by
 go_enter func98,ntmps98;go_wp2_with (go_at_call 15;refine(fF _ _ _ _).mono ?_;rintro e w' ⟨rfl,rfl⟩);go_ret;exact⟨rfl,rfl⟩
theorem Ht(w:World)(x:Int):Calls prog 99 #[vI x] w fun e w'=>e=.returned (.bool (bH 0 5 x))/\w'=w:=by
 go_enter func99,ntmps99;go_wp2_with (go_at_call 15;refine(fF _ _ _ _).mono ?_;rintro e w' ⟨rfl,rfl⟩);go_ret;exact⟨rfl,rfl⟩
theorem xN(w:World)(x:Int):Calls prog 96 #[vI x] w fun e w'=>e=.returned (.bool (bH (-1000000000) 1000000000 x))/\w'=w:=by
 go_enter func96,ntmps96;go_wp2_with (go_at_call 15;refine(fF _ _ _ _).mono ?_;rintro e w' ⟨rfl,rfl⟩);go_ret;exact⟨rfl,rfl⟩
theorem il(w:World)(x:Int):Calls prog 213 #[vI x] w fun e w'=>e=.returned (.bool (bH 0 5 x))/\w'=w:=by
 go_enter func213,ntmps213;go_wp2;all_goals (go_ret;refine⟨dW ?_,rfl⟩;simp[dI];try omega)
theorem rO(w:World)(x:Int):Calls prog 161 #[vI x] w fun e w'=>e=.returned (.bool (bH 0 5 x))/\w'=w:=by
 go_enter func161,ntmps161;go_wp2;all_goals (go_ret;refine⟨dW ?_,rfl⟩;simp[dI];try omega)
theorem wU(w:World)(x:Int):Calls prog 195 #[vI x] w fun e w'=>e=.returned (.bool (bH (-1000000000) 1000000000 x))/\w'=w:=by
 go_enter func195,ntmps195;go_wp2;all_goals (go_ret;refine⟨dW ?_,rfl⟩;simp[dI];try omega)
theorem DJ(w:World)(s:S5):Calls prog 141 #[.agg #[vI s.a,vI s.e,vI s.h,.bool s.j,vI s.i]] w fun e w'=>
  e=.returned (.agg #[vI s.a,vI s.e,vI s.h,.bool s.j,vI s.i])/\Below w.1.size w w':=by
 obtain⟨r,l,v,u,x⟩:=s;go_enter func141,ntmps141;go_wp2;refine bodyPost_ret (v:=.agg #[vI r,vI l,vI v,.bool u,vI x]) (by simp[results,results141,go_sem]) rfl ⟨rfl,?_⟩;exact((aN.alloc aU _).alloc (by simp) _).alloc (by simp;omega) _
theorem pF(w:World)(s:S5):Calls prog 58 #[.agg #[vI s.a,vI s.e,vI s.h,.bool s.j,vI s.i]] w fun e w'=>e=.returned (.bool (bf s))/\Below w.1.size w w':=by
 obtain⟨r,l,v,u,x⟩:=s;go_enter func58,ntmps58
 cases h1:bH 0 5 r<;>cases h2:bH 0 5 l<;>cases h3:bH (-1000000000) 1000000000 v;all_goals go_wp2_with (first|(go_at_call 15;refine(fF _ _ _ _).mono ?_;rintro e w' ⟨rfl,rfl⟩)|(go_at_call 98;refine(nA _ _).mono ?_;rintro e w' ⟨rfl,rfl⟩)|(go_at_call 99;refine(Ht _ _).mono ?_;rintro e w' ⟨rfl,rfl⟩)|(go_at_call 96;refine(xN _ _).mono ?_;rintro e w' ⟨rfl,rfl⟩))
 all_goals (go_ret;refine⟨dW ?_,aN.alloc aU _⟩;simp only[bf,h1,h2,h3,Bool.and_true,Bool.and_false,Bool.false_and,Bool.true_and];try simp[dI];try omega)
theorem sG(w:World)(s:S5):Calls prog 165 #[.agg #[vI s.a,vI s.e,vI s.h,.bool s.j,vI s.i]] w fun e w'=>e=.returned (.bool (bf s))/\Below w.1.size w w':=by
 obtain⟨r,l,v,u,x⟩:=s;go_enter func165,ntmps165
 cases h1:bH 0 5 r<;>cases h2:bH 0 5 l<;>cases h3:bH (-1000000000) 1000000000 v;all_goals go_wp2_with (first|(go_at_call 213;refine(il _ _).mono ?_;rintro e w' ⟨rfl,rfl⟩)|(go_at_call 161;refine(rO _ _).mono ?_;rintro e w' ⟨rfl,rfl⟩)|(go_at_call 195;refine(wU _ _).mono ?_;rintro e w' ⟨rfl,rfl⟩))
 all_goals (go_ret;refine⟨dW ?_,aN.alloc aU _⟩;simp only[bf,h1,h2,h3,Bool.and_true,Bool.and_false,Bool.false_and,Bool.true_and];try simp[dI];try omega)
end
section
open Go.Proofs.Tryz
variable {B b o off:Nat}{s:S5}{w w':World}{xs:List S5}
structure aR(w:World)(b o:Nat)(s:S5):Prop where
 c0:w.cell? ⟨b,o,none⟩=some (vI s.a)
 c1:w.cell? ⟨b,o+1,none⟩=some (vI s.e)
 c2:w.cell? ⟨b,o+2,none⟩=some (vI s.h)
 c3:w.cell? ⟨b,o+3,none⟩=some (.bool s.j)
 c4:w.cell? ⟨b,o+4,none⟩=some (vI s.i)
theorem aR.below(h:aR w b o s)(hb:Below B w w')(hB:b<B):aR w' b o s:=
 ⟨by rw[hb.cell hB];exact h.c0,by rw[hb.cell hB];exact h.c1,by rw[hb.cell hB];exact h.c2,by rw[hb.cell hB];exact h.c3,by rw[hb.cell hB];exact h.c4⟩
def aV(w:World)(b off:Nat)(xs:List S5):Prop:=∀i s,xs[i]?=some s->aR w b (off+i*5) s
theorem aV.below(h:aV w b off xs)(hb:Below B w w')(hB:b<B):aV w' b off xs:=fun i s e=>(h i s e).below hb hB
def Sl(w:World)(B:Nat)(a:OA)(n:Nat)(xs:List S5):Prop:=xs.length=n/\(n=0\/∃b off,a=some ⟨b,off,none⟩/\b<B/\aV w b off xs)
theorem Sl.below{w w':World}{B:Nat}{a:OA}{n:Nat}{xs:List S5}(h:Sl w B a n xs)(hb:Below B w w'):Sl w' B a n xs:=by
 obtain⟨h1,h2⟩:=h;refine⟨h1,?_⟩;rcases h2 with h2|⟨b,off,ha,hB,hx⟩
 ·exact .inl h2
 ·exact .inr ⟨b,off,ha,hB,hx.below hb hB⟩
theorem Sl.mono{B':Nat}{a:OA}{n:Nat}(h:Sl w B a n xs)(hB:B<=B'):Sl w B' a n xs:=by
 obtain⟨h1,h2⟩:=h;refine⟨h1,?_⟩;rcases h2 with h2|⟨b,off,ha,hb,hx⟩
 ·exact .inl h2
 ·exact .inr ⟨b,off,ha,by omega,hx⟩
theorem aV.dX(h:aV w b off xs){p:Addr}(hp:p.block≠b)(v:Value):aV (w.setCell p v) b off xs:=fun i s e=>
 ⟨by rw[aM hp];exact(h i s e).c0,by rw[aM hp];exact(h i s e).c1,by rw[aM hp];exact(h i s e).c2,by rw[aM hp];exact(h i s e).c3,by rw[aM hp];exact(h i s e).c4⟩
theorem aR.set{p:Nat}(h:aR w b o s)(hp:p<o\/o+5<=p)(v:Value):aR (w.setCell ⟨b,p,none⟩ v) b o s:=
 ⟨by rw[ae (by omega)];exact h.c0,by rw[ae (by omega)];exact h.c1,by rw[ae (by omega)];exact h.c2,by rw[ae (by omega)];exact h.c3,by rw[ae (by omega)];exact h.c4⟩
theorem Ag:(prog.info? 73).map (fun i=>(i.zero,i.size,i.bytes))=some (some (.agg #[vI 0,vI 0,vI 0,.bool false,vI 0]),5,40):=by kernel_rfl
theorem o7(n:Nat)(hn:n<=1048576)(w:World):(Instr.makeSlice 51 (vI (n:Int)) (vI (n:Int))).run prog w=.ok (.slice (some ⟨w.1.size,0,none⟩) n n) (w.alloc (.cells (madeCells #[vI 0,vI 0,vI 0,.bool false,vI 0] (n*5)) 73)):=by
 obtain⟨i,hi,oH⟩:=Option.map_eq_some_iff.1 Ag;simp only[Prod.mk.injEq]at oH;obtain⟨hz,hs,hb⟩:=oH;have:=run_make (P:=prog) w 51 73 i _ underlying51 hi hz .i64 .i64 (n:Int) (n:Int) (by omega) (by omega) (by rw[hb];omega) (by omega);rw[hs]at this;simpa[Value.cells]using this
theorem aR.put{v0 v1 v2 v3 v4:Value}(s:S5)(h0:w.cell? ⟨b,o,none⟩=some v0)(h1:w.cell? ⟨b,o+1,none⟩=some v1)(h2:w.cell? ⟨b,o+2,none⟩=some v2)(h3:w.cell? ⟨b,o+3,none⟩=some v3)(h4:w.cell? ⟨b,o+4,none⟩=some v4):
  aR (((((w.setCell ⟨b,o,none⟩ (vI s.a)).setCell ⟨b,o+1,none⟩ (vI s.e)).setCell ⟨b,o+2,none⟩ (vI s.h)).setCell ⟨b,o+3,none⟩ (.bool s.j)).setCell ⟨b,o+4,none⟩ (vI s.i)) b o s:=by
 refine⟨?_,?_,?_,?_,?_⟩
 ·rw[ae (by omega),ae (by omega),ae (by omega),ae (by omega)];exact ax h0
 ·rw[ae (by omega),ae (by omega),ae (by omega)];exact ax (by rw[ae (by omega)];exact h1)
 ·rw[ae (by omega),ae (by omega)];exact ax (by rw[ae (by omega),ae (by omega)];exact h2)
 ·rw[ae (by omega)];exact ax (by rw[ae (by omega),ae (by omega),ae (by omega)];exact h3)
 ·exact ax (by rw[ae (by omega),ae (by omega),ae (by omega),ae (by omega)];exact h4)
theorem aV.put{w:World}{b k:Nat}{xs:List S5}{s:S5}(h:aV w b 0 (xs.take k))(hs:xs[k]?=some s){m:Nat}(hr:Room w b m)(hm:k*5+5<=m):
  aV (((((w.setCell ⟨b,k*5,none⟩ (vI s.a)).setCell ⟨b,k*5+1,none⟩ (vI s.e)).setCell ⟨b,k*5+2,none⟩ (vI s.h)).setCell ⟨b,k*5+3,none⟩ (.bool s.j)).setCell ⟨b,k*5+4,none⟩ (vI s.i)) b 0 (xs.take (k+1)):=by
 intro i t e;rw[List.getElem?_take]at e;split at e
 ·rename_i hi;by_cases I6:i=k
  ·subst I6;rw[hs]at e;obtain rfl:=Option.some.inj e;obtain⟨v0,d0,_⟩:=hr (i*5) (by omega);obtain⟨v1,d1,_⟩:=hr (i*5+1) (by omega);obtain⟨v2,d2,_⟩:=hr (i*5+2) (by omega);obtain⟨v3,d3,_⟩:=hr (i*5+3) (by omega);obtain⟨v4,d4,_⟩:=hr (i*5+4) (by omega);simpa using aR.put s d0 d1 d2 d3 d4
  ·have:=h i t (by rw[List.getElem?_take,if_pos (by omega)];exact e);exact((((this.set (by omega) _).set (by omega) _).set (by omega) _).set (by omega) _).set (by omega) _
 ·cases e
theorem r9(w:World)(a:OA)(cap:Nat):Calls prog 105 #[.slice a 0 cap] w fun e w'=>
  e=.returned (.slice (some ⟨w.1.size,0,none⟩) 0 0)/\Below w.1.size w w'/\w.1.size<w'.1.size:=by
 have qc:∀w:World,(Instr.makeSlice 51 (vI 0) (vI 0)).run prog w=.ok (.slice (some ⟨w.1.size,0,none⟩) 0 0) (w.alloc (.cells (madeCells #[vI 0,vI 0,vI 0,.bool false,vI 0] 0) 73)):=fun w=>by simpa using o7 0 (by omega) w
 go_enter func105,ntmps105;go_wp2;go_loopw[4] (fun i wr=>i=vI 0/\Below w.1.size w wr/\w.1.size<wr.1.size) (fun _ _=>0)
 case atStart=>exact⟨rfl,aN.alloc aU _,by simp⟩
 case round=>
  obtain⟨rfl,aD,dO⟩:=hrel;go_wp2;go_ret;exact⟨rfl,aD,dO⟩
end
section
open Go.Proofs.Tryz
variable {B b i n o off:Nat}{a:OA}{w w':World}
structure C2 where
 head:Int
 h:Int
def C2.cells(s:C2):List Value:=[vI s.head,vI s.h]
structure kD(w:World)(b o:Nat)(s:C2):Prop where
 c0:w.cell? ⟨b,o,none⟩=some (vI s.head)
 c1:w.cell? ⟨b,o+1,none⟩=some (vI s.h)
theorem kD.below{s:C2}(h:kD w b o s)(hb:Below B w w')(hB:b<B):kD w' b o s:=
 ⟨by rw[hb.cell hB];exact h.c0,by rw[hb.cell hB];exact h.c1⟩
theorem kD.iA{s:C2}(h:kD w b o s)(d:Nat)(os:Array Obj):kD (grow (redrawn w d) os) b o s:=
 ⟨cell_regrown h.c0 d os,cell_regrown h.c1 d os⟩
def bK(w:World)(b off:Nat)(xs:List C2):Prop:=∀i s,xs[i]?=some s->kD w b (off+i*2) s
theorem bK.below{xs:List C2}(h:bK w b off xs)(hb:Below B w w')(hB:b<B):bK w' b off xs:=fun i s e=>(h i s e).below hb hB
def nN(w:World)(B:Nat)(a:OA)(n:Nat)(xs:List C2):Prop:=xs.length=n/\(n=0\/∃b off,a=some ⟨b,off,none⟩/\b<B/\bK w b off xs)
theorem nN.below{w w':World}{B:Nat}{a:OA}{n:Nat}{xs:List C2}(h:nN w B a n xs)(hb:Below B w w'):nN w' B a n xs:=by
 obtain⟨h1,h2⟩:=h;refine⟨h1,?_⟩;rcases h2 with h2|⟨b,off,ha,hB,hx⟩
 ·exact .inl h2
 ·exact .inr ⟨b,off,ha,hB,hx.below hb hB⟩
theorem nN.mono{B':Nat}{xs:List C2}(h:nN w B a n xs)(hB:B<=B'):nN w B' a n xs:=by
 obtain⟨h1,h2⟩:=h;refine⟨h1,?_⟩;rcases h2 with h2|⟨b,off,ha,hb,hx⟩
 ·exact .inl h2
 ·exact .inr ⟨b,off,ha,by omega,hx⟩
theorem nN.later{xs:List C2}(h:nN w w.1.size a n xs)(hb:Below w.1.size w w'):nN w' w'.1.size a n xs:=(h.below hb).mono hb.size
theorem bK.dX{xs:List C2}(h:bK w b off xs){p:Addr}(hp:p.block≠b)(v:Value):bK (w.setCell p v) b off xs:=fun i s e=>
 ⟨by rw[aM hp];exact(h i s e).c0,by rw[aM hp];exact(h i s e).c1⟩
theorem kD.set{p:Nat}{s:C2}(h:kD w b o s)(hp:p<o\/o+2<=p)(v:Value):kD (w.setCell ⟨b,p,none⟩ v) b o s:=
 ⟨by rw[ae (by omega)];exact h.c0,by rw[ae (by omega)];exact h.c1⟩
theorem Dj:(prog.info? 66).map (fun i=>(i.zero,i.size,i.bytes))=some (some (.agg #[vI 0,vI 0]),2,16):=by kernel_rfl
theorem Aq(n:Nat)(hn:n<=1048576)(w:World):(Instr.makeSlice 56 (vI (n:Int)) (vI (n:Int))).run prog w=.ok (.slice (some ⟨w.1.size,0,none⟩) n n) (w.alloc (.cells (madeCells #[vI 0,vI 0] (n*2)) 66)):=by
 obtain⟨i,hi,oH⟩:=Option.map_eq_some_iff.1 Dj;simp only[Prod.mk.injEq]at oH;obtain⟨hz,hs,hb⟩:=oH;have:=run_make (P:=prog) w 56 66 i _ underlying56 hi hz .i64 .i64 (n:Int) (n:Int) (by omega) (by omega) (by rw[hb];omega) (by omega);rw[hs]at this;simpa[Value.cells]using this
theorem kD.put{v0 v1:Value}(s:C2)(h0:w.cell? ⟨b,o,none⟩=some v0)(h1:w.cell? ⟨b,o+1,none⟩=some v1):
  kD ((w.setCell ⟨b,o,none⟩ (vI s.head)).setCell ⟨b,o+1,none⟩ (vI s.h)) b o s:=by
 refine⟨?_,?_⟩
 ·rw[ae (by omega)];exact ax h0
 ·exact ax (by rw[ae (by omega)];exact h1)
theorem bK.put{w:World}{b k:Nat}{xs:List C2}{s:C2}(h:bK w b 0 (xs.take k))(hs:xs[k]?=some s){m:Nat}(hr:Room w b m)(hm:k*2+2<=m):
  bK ((w.setCell ⟨b,k*2,none⟩ (vI s.head)).setCell ⟨b,k*2+1,none⟩ (vI s.h)) b 0 (xs.take (k+1)):=by
 intro i t e;rw[List.getElem?_take]at e;split at e
 ·rename_i hi;by_cases I6:i=k
  ·subst I6;rw[hs]at e;obtain rfl:=Option.some.inj e;obtain⟨v0,d0,_⟩:=hr (i*2) (by omega);obtain⟨v1,d1,_⟩:=hr (i*2+1) (by omega);simpa using kD.put s d0 d1
  ·have:=h i t (by rw[List.getElem?_take,if_pos (by omega)];exact e);exact(this.set (by omega) _).set (by omega) _
 ·cases e
def at2(xs:List C2)(i:Nat):C2:=xs[i]?.getD ⟨0,0⟩
theorem NU{xs:List C2}(h:i<xs.length):xs[i]?=some (at2 xs i):=by
 simp[at2,List.getElem?_eq_getElem h]
theorem bK.get{xs:List C2}(h:bK w b off xs)(hi:i<xs.length):kD w b (off+i*2) (at2 xs i):=h i _ (NU hi)
theorem J2(w:World)(s:C2):Calls prog 217 #[.agg #[vI s.head,vI s.h]] w fun e w'=>
  e=.returned (.agg #[vI s.head,vI s.h])/\Below w.1.size w w':=by
 obtain⟨h,v⟩:=s;go_enter func217,ntmps217;go_wp2;refine bodyPost_ret (v:=.agg #[vI h,vI v]) (by simp[results,results217,go_sem]) rfl ⟨rfl,?_⟩;exact((aN.alloc aU _).alloc (by simp) _).alloc (by simp;omega) _
theorem EU(w:World)(a:OA)(cap:Nat):Calls prog 180 #[.slice a 0 cap] w fun e w'=>
  e=.returned (.slice (some ⟨w.1.size,0,none⟩) 0 0)/\Below w.1.size w w'/\w.1.size<w'.1.size:=by
 have qc:∀w:World,(Instr.makeSlice 56 (vI 0) (vI 0)).run prog w=.ok (.slice (some ⟨w.1.size,0,none⟩) 0 0) (w.alloc (.cells (madeCells #[vI 0,vI 0] 0) 66)):=fun w=>by simpa using Aq 0 (by omega) w
 go_enter func180,ntmps180;go_wp2;go_loopw[4] (fun i wr=>i=vI 0/\Below w.1.size w wr/\w.1.size<wr.1.size) (fun _ _=>0)
 case atStart=>exact⟨rfl,aN.alloc aU _,by simp⟩
 case round=>
  obtain⟨rfl,aD,dO⟩:=hrel;go_wp2;go_ret;exact⟨rfl,aD,dO⟩
theorem FN(w:World)(s:C2):Calls prog 242 #[.agg #[vI s.head,vI s.h],.agg #[vI s.head,vI s.h]] w fun e w'=>
  e=.returned (.bool true)/\Below w.1.size w w':=by
 obtain⟨h,v⟩:=s;go_enter func242,ntmps242;go_wp2;go_ret;exact⟨rfl,(aN.alloc aU _).alloc (by simp) _⟩
theorem Ec(w:World)(b off cap b' bR aW n:Nat)(xs:List C2)(hx:xs.length=n)(hn:n<=maxLen)(h1:bK w b off xs)(hb:b<w.1.size)(h2:bK w b' bR xs)(gJ:b'<w.1.size):
  Calls prog 216 #[.slice (some ⟨b,off,none⟩) n cap,.slice (some ⟨b',bR,none⟩) n aW] w fun e w'=>e=.returned (.bool true)/\Below w.1.size w w':=by
 unfold maxLen at hn;go_enter func216,ntmps216;go_wp2;go_loopw[5] (fun i wr=>∃k:Nat,k<=n/\i=vI k/\Below w.1.size w wr) (fun i _=>n-(intOf i).toNat)
 case atStart=>exact⟨0,Nat.zero_le _,rfl,aN⟩
 case round=>
  obtain⟨k,hk,rfl,aD⟩:=hrel;by_cases aK:k<n
  ·obtain⟨s,gu⟩:∃s,xs[k]?=some s:=⟨xs[k]'(by omega),by simp⟩
   have t1:=(((h1 k s gu).below aD hb).iA)
   have t2:=(((h2 k s gu).below aD gJ).iA)
   have c0:=fun d os=>(t1 d os).c0
   have c1:=fun d os=>(t1 d os).c1
   have e0:=fun d os=>(t2 d os).c0
   have e1:=fun d os=>(t2 d os).c1
   have cQ:∀d os,Calls prog 242 #[.agg #[vI s.head,vI s.h],.agg #[vI s.head,vI s.h]] (grow (redrawn wr d) os) fun e eU=>e=.returned (.bool true)/\∃p:Regrown,eU=grow (redrawn wr p.d) p.os:=fun d os=>Calls.regrown_of (FN _ s)
   have K:Hid (Below w.1.size w wr):=aD;clear t1 t2 aD gu h1 h2;go_wp2_with fail;refine gP ?_;repeat (quiet_step (exact cQ _ _))
   refine iW fun dq aZ=>?_
   have bq:=below_regrown wr dq aZ;go_wp2;exact⟨⟨k+1,by omega,by simp,K.out.trans (bq.mono K.out.size)⟩,by simp[intOf];omega⟩
  ·have:k=n:=by omega
   subst this;have hd:decide (k<k)=false:=by simp
   go_wp2;go_ret;exact⟨rfl,aD⟩
theorem uV(w:World)(a a':OA)(cap aW:Nat):Calls prog 216 #[.slice a 0 cap,.slice a' 0 aW] w fun e w'=>e=.returned (.bool true)/\Below w.1.size w w':=by
 go_enter func216,ntmps216;go_wp2;go_loopw[5] (fun i wr=>i=vI 0/\Below w.1.size w wr) (fun _ _=>0)
 case atStart=>exact⟨rfl,aN⟩
 case round=>
  obtain⟨rfl,aD⟩:=hrel;go_wp2;go_ret;exact⟨rfl,aD⟩
theorem FM(w:World)(a a':OA)(n cap aW:Nat)(xs:List C2)(hn:n<=maxLen)(h1:nN w w.1.size a n xs)(h2:nN w w.1.size a' n xs):
  Calls prog 216 #[.slice a n cap,.slice a' n aW] w fun e w'=>e=.returned (.bool true)/\Below w.1.size w w':=by
 obtain⟨hx,h1⟩:=h1;obtain⟨_,h2⟩:=h2;rcases h1 with rfl|⟨b,off,rfl,hb,h1⟩
 ·exact uV w a a' cap aW
 ·rcases h2 with rfl|⟨b',bR,rfl,gJ,h2⟩
  ·exact uV w _ a' cap aW
  ·exact Ec w b off cap b' bR aW n xs hx hn h1 hb h2 gJ
end
section
open Go.Proofs.Tryz
variable {B b i:Nat}{w w':World}{z:Int}{zs:List Int}
theorem uQ{a:World}(h:Below B a w)(n:Nat):Below B a (w.drewN n):=⟨h.os,h.tape,h.output,h.size,h.block⟩
def dQ(w:World)(b off:Nat)(zs:List Int):Prop:=∀i z,zs[i]?=some z->w.cell? ⟨b,off+i,none⟩=some (vI z)
theorem dQ.below{off:Nat}(h:dQ w b off zs)(hb:Below B w w')(hB:b<B):dQ w' b off zs:=fun i z e=>by rw[hb.cell (p:=⟨b,off+i,none⟩) hB];exact h i z e
def ll(w:World)(B:Nat)(a:OA)(n:Nat)(zs:List Int):Prop:=zs.length=n/\(n=0\/∃b off,a=some ⟨b,off,none⟩/\b<B/\dQ w b off zs)
theorem ll.later{a:OA}{n:Nat}(h:ll w w.1.size a n zs)(hb:Below w.1.size w w'):ll w' w'.1.size a n zs:=by
 obtain⟨h1,h2⟩:=h;refine⟨h1,?_⟩;rcases h2 with h2|⟨b,off,ha,hB,hx⟩
 ·exact .inl h2
 ·exact .inr ⟨b,off,ha,Nat.lt_of_lt_of_le hB hb.size,hx.below hb hB⟩
def eQ(zs:List Int)(i:Nat):Int:=zs[i]?.getD 0
theorem jf(h:i<zs.length):zs[i]?=some (eQ zs i):=by simp[eQ,List.getElem?_eq_getElem h]
def hasB(zs:List Int)(z:Int):Bool:=zs.any (fun y=>decide (y=z))
theorem Lc(hi:i<zs.length)(h:eQ zs i=z):hasB zs z=true:=by
 rw[hasB,List.any_eq_true];exact⟨eQ zs i,List.mem_of_getElem? (jf hi),by simp[h]⟩
theorem OO(h:∀i,i<zs.length->eQ zs i≠z):hasB zs z=false:=by
 rw[hasB,List.any_eq_false];intro y hy;obtain⟨i,hi,rfl⟩:=List.getElem_of_mem hy;have:=h i hi;rw[eQ,List.getElem?_eq_getElem hi]at this;simpa using this
theorem MJ(n:Nat)(hn:n<=1048576)(w:World):(Instr.makeSlice 54 (vI (n:Int)) (vI (n:Int))).run prog w=.ok (.slice (some ⟨w.1.size,0,none⟩) n n) (w.alloc (.cells (madeCells #[vI 0] n) 2)):=by
 have info:(prog.info? 2).map (fun i=>(i.zero,i.size,i.bytes))=some (some (vI 0),1,8):=by kernel_rfl
 obtain⟨i,hi,oH⟩:=Option.map_eq_some_iff.1 info;simp only[Prod.mk.injEq]at oH;obtain⟨hz,hs,hb⟩:=oH;have:=run_make (P:=prog) w 54 2 i _ underlying54 hi hz .i64 .i64 (n:Int) (n:Int) (by omega) (by omega) (by rw[hb];omega) (by omega);rw[hs]at this;simpa[Value.cells]using this
theorem dQ.put{k:Nat}(h:dQ w b 0 (zs.take k))(hz:zs[k]?=some z){v:Value}(hv:w.cell? ⟨b,k,none⟩=some v):dQ (w.setCell ⟨b,k,none⟩ (vI z)) b 0 (zs.take (k+1)):=by
 intro i t e;rw[List.getElem?_take]at e;split at e
 ·rename_i hi;by_cases I6:i=k
  ·subst I6;rw[hz]at e;obtain rfl:=Option.some.inj e;simpa using ax hv
  ·have:=h i t (by rw[List.getElem?_take,if_pos (by omega)];exact e);rw[ae (by omega)];exact this
 ·cases e
theorem vU(w:World)(a:OA)(n cap:Nat)(zs:List Int)(hn:n<=1048576)(hs:ll w w.1.size a n zs):Calls prog 101 #[.slice a n cap] w fun e w'=>
  e=.returned (.slice (some ⟨w.1.size,0,none⟩) n n)/\Below w.1.size w w'/\w.1.size<w'.1.size/\dQ w' w.1.size 0 zs/\Room w' w.1.size n:=by
 obtain⟨hx,hs⟩:=hs;have qc:=MJ n hn;go_enter func101,ntmps101;go_wp2;go_loopw[4] (fun i wr=>∃k:Nat,k<=n/\i=vI k/\Below w.1.size w wr/\w.1.size<wr.1.size/\Room wr w.1.size n/\dQ wr w.1.size 0 (zs.take k)) (fun i _=>n-(intOf i).toNat)
 case atStart=>exact⟨0,Nat.zero_le _,rfl,aN.alloc aU _,by simp,iE _ _ _ _,fun i s e=>by simp at e⟩
 case round=>
  obtain⟨k,hk,rfl,aD,dO,eB,lQ⟩:=hrel;by_cases aK:k<n
  ·rcases hs with hs|⟨b,off,rfl,hb,h1⟩
   ·omega
   ·have c:=(aD.cell (p:=⟨b,off+k,none⟩) hb).trans (h1 k _ (jf (by omega)));obtain⟨v,d,f⟩:=eB k aK;have K:Hid (Room wr w.1.size n/\dQ wr w.1.size 0 (zs.take k)/\zs[k]?=some (eQ zs k)/\Below w.1.size w wr):=⟨eB,lQ,jf (by omega),aD⟩
    clear eB lQ aD qc h1 hx;go_wp2;obtain⟨eB,lQ,hz,aD⟩:=K.out;exact⟨⟨k+1,by omega,by simp,aD.setCell (p:=⟨w.1.size,k,none⟩) aU _,by simpa[World.setCell]using dO,eB.set _,lQ.put hz d⟩,by simp[intOf];omega⟩
  ·have:k=n:=by omega
   subst this;have hd:decide (k<k)=false:=by simp
   rw[<-hx,List.take_length]at lQ;have K:Hid (dQ wr w.1.size 0 zs/\Room wr w.1.size k):=⟨lQ,eB⟩
   clear lQ hs eB;go_wp2;go_ret;exact⟨rfl,aD,dO,K.out.1,K.out.2⟩
theorem uW(w:World)(a a':OA)(n cap aW:Nat)(zs:List Int)(hn:n<=maxLen)(h1:ll w w.1.size a n zs)(h2:ll w w.1.size a' n zs):
  Calls prog 127 #[.slice a n cap,.slice a' n aW] w fun e w'=>e=.returned (.bool true)/\Below w.1.size w w':=by
 unfold maxLen at hn;obtain⟨hx,h1⟩:=h1;obtain⟨_,h2⟩:=h2;go_enter func127,ntmps127;go_wp2;go_loopw[5] (fun i wr=>∃k:Nat,k<=n/\i=vI k/\Below w.1.size w wr) (fun i _=>n-(intOf i).toNat)
 case atStart=>exact⟨0,Nat.zero_le _,rfl,aN⟩
 case round=>
  obtain⟨k,hk,rfl,aD⟩:=hrel;by_cases aK:k<n
  ·rcases h1 with h1|⟨b,off,rfl,hb,h1⟩
   ·omega
   ·rcases h2 with h2|⟨b',bR,rfl,gJ,h2⟩
    ·omega
    ·have c1:=(aD.cell (p:=⟨b,off+k,none⟩) hb).trans (h1 k _ (jf (by omega)));have c2:=(aD.cell (p:=⟨b',bR+k,none⟩) gJ).trans (h2 k _ (jf (by omega)));have Cj:(k:Int)<(n:Int):=by omega
     have K:Hid (Below w.1.size w wr):=aD;clear h1 h2 aD hx;go_wp2_with fail;go_quiet (fail);go_wp2;exact⟨⟨k+1,by omega,by simp,uQ K.out _⟩,by simp[intOf];omega⟩
  ·have:k=n:=by omega
   subst this;have hd:decide (k<k)=false:=by simp
   clear h1 h2;go_wp2;go_ret;exact⟨rfl,aD⟩
end
section
open Go.Proofs.Tryz
def marks:Nat->Int->List Int
 | 0,_=>[]
 | n+1,k=>k::marks n (k+1)
theorem mH:∀(n:Nat) (k:Int),(marks n k).length=n
 | 0,_=>rfl
 | n+1,k=>by simp[marks,mH n]
theorem Az:∀(n:Nat) (k:Int) (i:Nat),i<n->(marks n k)[i]?=some (k+i)
 | 0,_,_,h=>by omega
 | n+1,k,0,_=>by simp[marks]
 | n+1,k,i+1,h=>by
  rw[marks,List.getElem?_cons_succ,Az n (k+1) i (by omega)];congr 1;omega
theorem rR(w:World)(g n cap:Nat)(k:Int)(hn:n<=1048576)(hk:0<=k)(oN:k<=1000000000)(hr:Room w g n):
  Calls prog 76 #[.slice (some ⟨g,0,none⟩) n cap,vI k] w fun e w'=>e=.returned (vI (k+n))/\aQ g w w'/\dQ w' g 0 (marks n k)/\Room w' g n:=by
 go_enter func76,ntmps76;go_wp2;go_loopw[1,5] (fun v1 v5 wr=>∃j:Nat,j<=n/\v5=vI j/\v1=vI (k+j)/\aQ g w wr/\Room wr g n/\dQ wr g 0 ((marks n k).take j)) (fun _ v5 _=>n-(intOf v5).toNat)
 case atStart=>exact⟨0,Nat.zero_le _,rfl,by simp,aQ.refl _ _,hr,fun i s e=>by simp at e⟩
 case round=>
  obtain⟨j,hj,rfl,rfl,ho,eB,lQ⟩:=hrel;by_cases aK:j<n
  ·obtain⟨v,d,f⟩:=eB j aK;have K:Hid (aQ g w wr/\Room wr g n/\dQ wr g 0 ((marks n k).take j)):=⟨ho,eB,lQ⟩
   clear ho eB lQ hr;go_wp2;obtain⟨ho,eB,lQ⟩:=K.out;exact⟨⟨j+1,by omega,by simp,by simp;omega,ho.setCell _ _,eB.set _,lQ.put (Az n k j aK) d⟩,by simp[intOf];omega⟩
  ·have:j=n:=by omega
   subst this;have hd:decide ((j:Int)<(j:Int))=false:=by simp
   rw[show(marks j k).take j=marks j k from List.take_of_length_le (by rw[mH];omega)]at lQ;have K:Hid (aQ g w wr/\dQ wr g 0 (marks j k)/\Room wr g j):=⟨ho,lQ,eB⟩
   clear ho lQ eB hr;go_wp2;go_ret;exact⟨by simp,K.out.1,K.out.2.1,K.out.2.2⟩
theorem yM(w:World)(a:OA)(cap:Nat)(k:Int):Calls prog 76 #[.slice a 0 cap,vI k] w fun e w'=>e=.returned (vI k)/\w'=w:=by
 go_enter func76,ntmps76;go_wp2;go_loop[1,5] (fun v1 v5=>v5=vI 0/\v1=vI k) (fun _ _=>0)
 case atStart=>exact⟨rfl,rfl⟩
 case round=>
  obtain⟨rfl,rfl⟩:=hrel;go_wp2;go_ret;exact⟨rfl,rfl⟩
end
section
open Go.Proofs.Tryz
variable {a:OA}{aP:List (List Int)}{b j n:Nat}{g:Nat->Nat}{w w':World}{zs:List Int}
def xS(w:World)(B b off:Nat)(aP:List (List Int)):Prop:=∀i zs,aP[i]?=some zs->∃a cap,w.cell? ⟨b,off+i,none⟩=some (.slice a zs.length cap)/\ll w B a zs.length zs/\zs.length<=cap
def wy(w:World)(B:Nat)(a:OA)(n:Nat)(aP:List (List Int)):Prop:=aP.length=n/\(n=0\/∃b off,a=some ⟨b,off,none⟩/\b<B/\xS w B b off aP)
theorem ll.below{w w':World}{B:Nat}{a:OA}{n:Nat}{zs:List Int}(h:ll w B a n zs)(hb:Below B w w'):ll w' B a n zs:=by
 obtain⟨h1,h2⟩:=h;refine⟨h1,?_⟩;rcases h2 with h2|⟨b,off,ha,hB,hx⟩
 ·exact .inl h2
 ·exact .inr ⟨b,off,ha,hB,hx.below hb hB⟩
theorem ll.mono{B B':Nat}(h:ll w B a n zs)(hB:B<=B'):ll w B' a n zs:=by
 obtain⟨h1,h2⟩:=h;refine⟨h1,?_⟩;rcases h2 with h2|⟨b,off,ha,hb,hx⟩
 ·exact .inl h2
 ·exact .inr ⟨b,off,ha,by omega,hx⟩
theorem xS.below{w w':World}{B b off:Nat}{aP:List (List Int)}(h:xS w B b off aP)(hb:Below B w w')(hB:b<B):xS w' B b off aP:=fun i zs e=>by
 obtain⟨a,cap,h1,h2,h3⟩:=h i zs e;exact⟨a,cap,(hb.cell (p:=⟨b,off+i,none⟩) hB).trans h1,h2.below hb,h3⟩
theorem xS.mono{w:World}{B B' b off:Nat}{aP:List (List Int)}(h:xS w B b off aP)(hB:B<=B'):xS w B' b off aP:=fun i zs e=>by
 obtain⟨a,cap,h1,h2,h3⟩:=h i zs e;exact⟨a,cap,h1,h2.mono hB,h3⟩
theorem wy.below{w w':World}{B:Nat}{a:OA}{n:Nat}{aP:List (List Int)}(h:wy w B a n aP)(hb:Below B w w'):wy w' B a n aP:=by
 obtain⟨h1,h2⟩:=h;refine⟨h1,?_⟩;rcases h2 with h2|⟨b,off,ha,hB,hx⟩
 ·exact .inl h2
 ·exact .inr ⟨b,off,ha,hB,hx.below hb hB⟩
theorem wy.mono{w:World}{B B':Nat}{a:OA}{n:Nat}{aP:List (List Int)}(h:wy w B a n aP)(hB:B<=B'):wy w B' a n aP:=by
 obtain⟨h1,h2⟩:=h;refine⟨h1,?_⟩;rcases h2 with h2|⟨b,off,ha,hb,hx⟩
 ·exact .inl h2
 ·exact .inr ⟨b,off,ha,by omega,hx.mono hB⟩
theorem wy.later(h:wy w w.1.size a n aP)(hb:Below w.1.size w w'):wy w' w'.1.size a n aP:=(h.below hb).mono hb.size
def dY(aP:List (List Int))(i:Nat):List Int:=aP[i]?.getD []
theorem gB{i:Nat}(h:i<aP.length):aP[i]?=some (dY aP i):=by simp[dY,List.getElem?_eq_getElem h]
def lens(aP:List (List Int)):Nat:=(aP.map List.length).sum
theorem lens_take_succ(h:j<aP.length):lens (aP.take (j+1))=lens (aP.take j)+(dY aP j).length:=by
 rw[List.take_add_one,gB h];simp[lens]
theorem lens_take_le(aP:List (List Int))(j:Nat):lens (aP.take j)<=lens aP:=by
 have e:lens aP=lens (aP.take j)+lens (aP.drop j):=by
  rw[lens,lens,lens,<-List.sum_append,<-List.map_append,List.take_append_drop]
 omega
theorem Px(h:zs∈aP):zs.length<=lens aP:=by
 obtain⟨i,hi,rfl⟩:=List.getElem_of_mem h;have h1:=lens_take_succ hi;have h2:=lens_take_le aP (i+1);have e:dY aP i=aP[i]:=by simp[dY,hi]
 rw[e]at h1;omega
structure lD(w:World)(base b n:Nat)(aP:List (List Int))(g:Nat->Nat):Prop where
 len:aP.length=n
 cell:∀i zs,aP[i]?=some zs->∃cap,w.cell? ⟨b,i,none⟩=some (.slice (some ⟨g i,0,none⟩) zs.length cap)/\zs.length<=cap
 low:∀i,i<n->base<=g i
 lt:∀i,i<n->g i<w.1.size
 ne:∀i,i<n->g i≠b
 nums:∀i zs,aP[i]?=some zs->dQ w (g i) 0 zs
 room:∀i zs,aP[i]?=some zs->Room w (g i) zs.length
 inj:∀i j,i<n->j<n->g i=g j->i=j
theorem lD.at{base:Nat}(h:lD w base b n aP g)(B:Nat)(hB:w.1.size<=B):xS w B b 0 aP:=fun i zs e=>by
 obtain⟨cap,hc,kL⟩:=h.cell i zs e;have hi:i<n:=by have:=(List.getElem?_eq_some_iff.1 e).1;have:=h.len;omega
 exact⟨_,cap,by rw[Nat.zero_add];exact hc,⟨rfl,.inr ⟨g i,0,rfl,by have:=h.lt i hi;omega,h.nums i zs e⟩⟩,kL⟩
theorem lD.sl{base:Nat}(h:lD w base b n aP g)(hb:b<w.1.size):wy w w.1.size (some ⟨b,0,none⟩) n aP:=
 ⟨h.len,.inr ⟨b,0,rfl,hb,h.at _ aU⟩⟩
theorem dQ.aj{off:Nat}(h:dQ w b off zs)(e:w'.1[b]?=w.1[b]?):dQ w' b off zs:=fun i z hz=>(World.cell?_of_block (a:=⟨b,off+i,none⟩) e).trans (h i z hz)
theorem Room.aj{m:Nat}(h:Room w b m)(e:w'.1[b]?=w.1[b]?):Room w' b m:=fun j hj=>by
 obtain⟨v,h1,h2⟩:=h j hj;exact⟨v,(World.cell?_of_block (a:=⟨b,j,none⟩) e).trans h1,(World.frozen?_of_block (a:=⟨b,j,none⟩) e).trans h2⟩
theorem lD.ja{base:Nat}(h:lD w base b n aP g)(hs:w.1.size<=w'.1.size)(eb:w'.1[b]?=w.1[b]?)(eg:∀i,i<n->w'.1[g i]?=w.1[g i]?):lD w' base b n aP g:=by
 have hi:∀i zs,aP[i]?=some zs->i<n:=fun i zs e=>by have:=(List.getElem?_eq_some_iff.1 e).1;have:=h.len;omega
 refine⟨h.len,fun i zs e=>?_,h.low,fun i hi=>Nat.lt_of_lt_of_le (h.lt i hi) hs,h.ne,fun i zs e=>(h.nums i zs e).aj (eg i (hi i zs e)),fun i zs e=>(h.room i zs e).aj (eg i (hi i zs e)),h.inj⟩;obtain⟨cap,hc,kL⟩:=h.cell i zs e;exact⟨cap,(World.cell?_of_block (a:=⟨b,i,none⟩) eb).trans hc,kL⟩
theorem lD.later{base:Nat}(h:lD w base b n aP g)(hb:Below w.1.size w w')(aK:b<w.1.size):lD w' base b n aP g:=
 h.ja hb.size (hb.block b aK) (fun i hi=>hb.block _ (h.lt i hi))
theorem lD.snoc{base:Nat}{q cap:Nat}(h:lD w base b j aP g)(hc:w.cell? ⟨b,j,none⟩=some (.slice (some ⟨q,0,none⟩) zs.length cap))(kL:zs.length<=cap)
  (hq:base<=q) (hl:q<w.1.size) (hn:q≠b) (hx:dQ w q 0 zs) (hr:Room w q zs.length) (hf:∀i,i<j->g i≠q):lD w base b (j+1) (aP++[zs]) (fun i=>if i=j then q else g i):=by
 have hlen:=h.len
 have split:∀i ys,(aP++[zs])[i]?=some ys->(i<j/\aP[i]?=some ys)\/(i=j/\ys=zs):=fun i ys e=>by
  by_cases hi:i<aP.length
  ·rw[List.getElem?_append_left hi]at e;exact .inl ⟨by omega,e⟩
  ·rw[List.getElem?_append_right (by omega)]at e
   have h0:i-aP.length=0:=by
    rcases Nat.eq_zero_or_pos (i-aP.length)with h|h
    ·exact h
    ·rw[List.getElem?_eq_none (by simp;omega)]at e;cases e
   rw[h0]at e;simp at e;exact .inr ⟨by omega,e.symm⟩
 refine⟨by simp[hlen],fun i ys e=>?_,fun i hi=>?_,fun i hi=>?_,fun i hi=>?_,fun i ys e=>?_,fun i ys e=>?_,fun i k hi hk e=>?_⟩
 ·rcases split i ys e with ⟨hi,e⟩|⟨rfl,rfl⟩
  ·rw[if_neg (by omega)];exact h.cell i ys e
  ·rw[if_pos rfl];exact⟨cap,hc,kL⟩
 ·by_cases e:i=j
  ·rw[if_pos e];exact hq
  ·rw[if_neg e];exact h.low i (by omega)
 ·by_cases e:i=j
  ·rw[if_pos e];exact hl
  ·rw[if_neg e];exact h.lt i (by omega)
 ·by_cases e:i=j
  ·rw[if_pos e];exact hn
  ·rw[if_neg e];exact h.ne i (by omega)
 ·rcases split i ys e with ⟨hi,e⟩|⟨rfl,rfl⟩
  ·rw[if_neg (by omega)];exact h.nums i ys e
  ·rw[if_pos rfl];exact hx
 ·rcases split i ys e with ⟨hi,e⟩|⟨rfl,rfl⟩
  ·rw[if_neg (by omega)];exact h.room i ys e
  ·rw[if_pos rfl];exact hr
 ·by_cases ei:i=j<;>by_cases ek:k=j
  ·omega
  ·simp only[if_pos ei,if_neg ek]at e;exact absurd e.symm (hf k (by omega))
  ·simp only[if_neg ei,if_pos ek]at e;exact absurd e (hf i (by omega))
  ·simp only[if_neg ei,if_neg ek]at e;exact h.inj i k (by omega) (by omega) e
theorem lD.nil(w:World)(base b:Nat)(g:Nat->Nat):lD w base b 0 [] g:=
 ⟨rfl,fun i zs e=>by simp at e,fun i h=>by omega,fun i h=>by omega,fun i h=>by omega,fun i zs e=>by simp at e,fun i zs e=>by simp at e,fun i j h=>by omega⟩
end
section
open Go.Proofs.Tryz
variable {a:OA}{i n x:Nat}{ns:List Nat}{w w':World}
structure R4 where
 kind:Int
 tx:Int
 a:Int
 ag:List S5
structure K2 where
 a:Int
 cells:List C2
structure M4 where
 x:Bool
 af:List K2
 g:List R4
 ai:List Int
structure zB(w:World)(B b o:Nat)(r:R4):Prop where
 c0:w.cell? ⟨b,o,none⟩=some (vI r.kind)
 c1:w.cell? ⟨b,o+1,none⟩=some (vI r.tx)
 c2:w.cell? ⟨b,o+2,none⟩=some (vI r.a)
 c3:∃a cap,w.cell? ⟨b,o+3,none⟩=some (.slice a r.ag.length cap)/\Sl w B a r.ag.length r.ag/\r.ag.length<=cap
theorem zB.below{w w':World}{B b o:Nat}{r:R4}(h:zB w B b o r)(hb:Below B w w')(hB:b<B):zB w' B b o r:=
 ⟨(hb.cell (p:=⟨b,o,none⟩) hB).trans h.c0,(hb.cell (p:=⟨b,o+1,none⟩) hB).trans h.c1,(hb.cell (p:=⟨b,o+2,none⟩) hB).trans h.c2,by
  obtain⟨a,cap,h1,h2,h3⟩:=h.c3
  exact⟨a,cap,(hb.cell (p:=⟨b,o+3,none⟩) hB).trans h1,h2.below hb,h3⟩⟩
theorem zB.mono{w:World}{B B' b o:Nat}{r:R4}(h:zB w B b o r)(hB:B<=B'):zB w B' b o r:=
 ⟨h.c0,h.c1,h.c2,by
  obtain⟨a,cap,h1,h2,h3⟩:=h.c3
  exact⟨a,cap,h1,h2.mono hB,h3⟩⟩
def Ua(w:World)(B b off:Nat)(rs:List R4):Prop:=∀i r,rs[i]?=some r->zB w B b (off+i*4) r
def Iz(w:World)(B:Nat)(a:OA)(n:Nat)(rs:List R4):Prop:=rs.length=n/\(n=0\/∃b off,a=some ⟨b,off,none⟩/\b<B/\Ua w B b off rs)
theorem Iz.later{rs:List R4}(h:Iz w w.1.size a n rs)(hb:Below w.1.size w w'):Iz w' w'.1.size a n rs:=by
 obtain⟨h1,h2⟩:=h;refine⟨h1,h2.imp id ?_⟩;rintro ⟨b,off,ha,hB,hx⟩;exact⟨b,off,ha,Nat.lt_of_lt_of_le hB hb.size,fun i r e=>((hx i r e).below hb hB).mono hb.size⟩
structure zA(w:World)(B b o:Nat)(k:K2):Prop where
 c0:w.cell? ⟨b,o,none⟩=some (vI k.a)
 c1:∃a cap,w.cell? ⟨b,o+1,none⟩=some (.slice a k.cells.length cap)/\nN w B a k.cells.length k.cells/\k.cells.length<=cap
theorem zA.below{w w':World}{B b o:Nat}{k:K2}(h:zA w B b o k)(hb:Below B w w')(hB:b<B):zA w' B b o k:=
 ⟨(hb.cell (p:=⟨b,o,none⟩) hB).trans h.c0,by
  obtain⟨a,cap,h1,h2,h3⟩:=h.c1
  exact⟨a,cap,(hb.cell (p:=⟨b,o+1,none⟩) hB).trans h1,h2.below hb,h3⟩⟩
theorem zA.mono{w:World}{B B' b o:Nat}{k:K2}(h:zA w B b o k)(hB:B<=B'):zA w B' b o k:=
 ⟨h.c0,by
  obtain⟨a,cap,h1,h2,h3⟩:=h.c1
  exact⟨a,cap,h1,h2.mono hB,h3⟩⟩
def TT(w:World)(B b off:Nat)(ks:List K2):Prop:=∀i k,ks[i]?=some k->zA w B b (off+i*2) k
def yt(w:World)(B:Nat)(a:OA)(n:Nat)(ks:List K2):Prop:=ks.length=n/\(n=0\/∃b off,a=some ⟨b,off,none⟩/\b<B/\TT w B b off ks)
theorem yt.later{ks:List K2}(h:yt w w.1.size a n ks)(hb:Below w.1.size w w'):yt w' w'.1.size a n ks:=by
 obtain⟨h1,h2⟩:=h;refine⟨h1,h2.imp id ?_⟩;rintro ⟨b,off,ha,hB,hx⟩;exact⟨b,off,ha,Nat.lt_of_lt_of_le hB hb.size,fun i k e=>((hx i k e).below hb hB).mono hb.size⟩
def atR(rs:List R4)(i:Nat):R4:=rs[i]?.getD ⟨0,0,0,[]⟩
theorem jy{rs:List R4}(h:i<rs.length):rs[i]?=some (atR rs i):=by simp[atR,List.getElem?_eq_getElem h]
def dD(ks:List K2)(i:Nat):K2:=ks[i]?.getD ⟨0,[]⟩
theorem eY{ks:List K2}(h:i<ks.length):ks[i]?=some (dD ks i):=by simp[dD,List.getElem?_eq_getElem h]
structure MV where
 ac:OA
 cc:Nat
 al:OA
 cl:Nat
 ad:OA
 cd:Nat
def MV.val(v:MV)(m:M4):Value:=.agg #[.bool m.x,.slice v.ac m.af.length v.cc,.slice v.al m.g.length v.cl,.slice v.ad m.ai.length v.cd]
structure qY(w:World)(v:MV)(m:M4):Prop where
 k:yt w w.1.size v.ac m.af.length m.af
 r:Iz w w.1.size v.al m.g.length m.g
 n:ll w w.1.size v.ad m.ai.length m.ai
theorem qY.later{v:MV}{m:M4}(h:qY w v m)(hb:Below w.1.size w w'):qY w' v m:=⟨h.k.later hb,h.r.later hb,h.n.later hb⟩
def ko(rs:List R4):Nat:=(rs.map fun r=>r.ag.length).sum
def jR(ks:List K2):Nat:=(ks.map fun k=>k.cells.length).sum
theorem jS{j:Nat}(h:ns[j]?=some x):(ns.take (j+1)).sum=(ns.take j).sum+x:=by
 rw[List.take_add_one,h];simp
theorem lJ(ns:List Nat)(j:Nat):(ns.take j).sum<=ns.sum:=by
 conv=>rhs;rw[<-List.take_append_drop j ns,List.sum_append]
 omega
theorem LM(h:x∈ns):x<=ns.sum:=by
 induction ns with
 | nil=>cases h
 | cons y r ih=>
  rcases List.mem_cons.1 h with rfl|h
  ·simp
  ·have:=ih h;simp;omega
end
section
open Go.Proofs.Tryz
variable {b n:Nat}{g:Nat->Nat}{w w':World}
structure fB{α:Type}(sz:Nat)(hd:α->List Int)(ln:α->Nat)(At:World->Nat->α->Prop)(w:World)(base b n:Nat)(rs:List α)(g:Nat->Nat):Prop where
 len:rs.length=n
 head:∀i r,rs[i]?=some r->∀t z,(hd r)[t]?=some z->w.cell? ⟨b,i*sz+t,none⟩=some (vI z)
 tail:∀i r,rs[i]?=some r->∃cap,w.cell? ⟨b,i*sz+(sz-1),none⟩=some (.slice (some ⟨g i,0,none⟩) (ln r) cap)/\ln r<=cap
 low:∀i,i<n->base<=g i
 lt:∀i,i<n->g i<w.1.size
 ne:∀i,i<n->g i≠b
 sub:∀i r,rs[i]?=some r->At w (g i) r
 inj:∀i j,i<n->j<n->g i=g j->i=j
theorem fB.idx{α:Type}{sz:Nat}{hd:α->List Int}{ln:α->Nat}{At:World->Nat->α->Prop}{base:Nat}{rs:List α}(h:fB sz hd ln At w base b n rs g){i:Nat}{r:α}(e:rs[i]?=some r):i<n:=by
 have:=(List.getElem?_eq_some_iff.1 e).1;have:=h.len;omega
theorem fB.nil{α:Type}{sz:Nat}{hd:α->List Int}{ln:α->Nat}{At:World->Nat->α->Prop}(w:World)(base b:Nat)(g:Nat->Nat):fB sz hd ln At w base b 0 [] g:=
 ⟨rfl,fun i r e=>by simp at e,fun i r e=>by simp at e,fun i h=>by omega,fun i h=>by omega,fun i h=>by omega,fun i r e=>by simp at e,fun i j h=>by omega⟩
theorem fB.ja{α:Type}{sz:Nat}{hd:α->List Int}{ln:α->Nat}{At:World->Nat->α->Prop}(K9:∀(w w':World) (b:Nat) (r:α),w'.1[b]?=w.1[b]?->At w b r->At w' b r){base:Nat}{rs:List α}(h:fB sz hd ln At w base b n rs g)(hs:w.1.size<=w'.1.size)(eb:w'.1[b]?=w.1[b]?)(eg:∀i,i<n->w'.1[g i]?=w.1[g i]?):fB sz hd ln At w' base b n rs g:=by
 refine⟨h.len,fun i r e t z ht=>(World.cell?_of_block (a:=⟨b,i*sz+t,none⟩) eb).trans (h.head i r e t z ht),fun i r e=>?_,h.low,fun i hi=>Nat.lt_of_lt_of_le (h.lt i hi) hs,h.ne,fun i r e=>K9 _ _ _ _ (eg i (h.idx e)) (h.sub i r e),h.inj⟩;obtain⟨cap,h1,h2⟩:=h.tail i r e;exact⟨cap,(World.cell?_of_block (a:=⟨b,i*sz+(sz-1),none⟩) eb).trans h1,h2⟩
theorem fB.later{α:Type}{sz:Nat}{hd:α->List Int}{ln:α->Nat}{At:World->Nat->α->Prop}(K9:∀(w w':World) (b:Nat) (r:α),w'.1[b]?=w.1[b]?->At w b r->At w' b r){base:Nat}{rs:List α}(h:fB sz hd ln At w base b n rs g)(hb:Below w.1.size w w')(aK:b<w.1.size):fB sz hd ln At w' base b n rs g:=
 h.ja K9 hb.size (hb.block b aK) (fun i hi=>hb.block _ (h.lt i hi))
theorem fB.next{α:Type}{sz:Nat}{hd:α->List Int}{ln:α->Nat}{At:World->Nat->α->Prop}(K9:∀(w w':World) (b:Nat) (r:α),w'.1[b]?=w.1[b]?->At w b r->At w' b r){V:World}{base j:Nat}{rs:List α}{r:α}{q cap:Nat}(h:fB sz hd ln At w base b j rs g)(hz:0<sz)(hh:∀r:α,(hd r).length<sz)
  (hs:w.1.size<=V.1.size) (hb:∀x,x≠b->V.1[x]?=w.1[x]?) (hold:∀o,o<j*sz->V.cell? ⟨b,o,none⟩=w.cell? ⟨b,o,none⟩) (WN:∀t z,(hd r)[t]?=some z->V.cell? ⟨b,j*sz+t,none⟩=some (vI z)) (Tg:V.cell? ⟨b,j*sz+(sz-1),none⟩=some (.slice (some ⟨q,0,none⟩) (ln r) cap)) (kL:ln r<=cap)
  (hq:base<=q) (hl:q<V.1.size) (hn:q≠b) (bg:At V q r) (hf:∀i,i<j->g i≠q):fB sz hd ln At V base b (j+1) (rs++[r]) (fun i=>if i=j then q else g i):=by
 have hlen:=h.len
 have lo:∀i t,i<j->t<sz->i*sz+t<j*sz:=fun i t hi ht=>by
  have:(i+1)*sz<=j*sz:=Nat.mul_le_mul_right sz (by omega);rw[Nat.add_mul]at this;omega
 have split:∀i y,(rs++[r])[i]?=some y->(i<j/\rs[i]?=some y)\/(i=j/\y=r):=fun i y e=>by
  by_cases hi:i<rs.length
  ·rw[List.getElem?_append_left hi]at e;exact .inl ⟨by omega,e⟩
  ·rw[List.getElem?_append_right (by omega)]at e
   have h0:i-rs.length=0:=by
    rcases Nat.eq_zero_or_pos (i-rs.length)with h|h
    ·exact h
    ·rw[List.getElem?_eq_none (by simp;omega)]at e;cases e
   rw[h0]at e;simp at e;exact .inr ⟨by omega,e.symm⟩
 refine⟨by simp[hlen],fun i y e t z ht=>?_,fun i y e=>?_,fun i hi=>?_,fun i hi=>?_,fun i hi=>?_,fun i y e=>?_,fun i k hi hk e=>?_⟩
 ·rcases split i y e with ⟨hi,e⟩|⟨rfl,rfl⟩
  ·rw[hold _ (lo i t hi (Nat.lt_trans (List.getElem?_eq_some_iff.1 ht).1 (hh y)))];exact h.head i y e t z ht
  ·exact WN t z ht
 ·rcases split i y e with ⟨hi,e⟩|⟨rfl,rfl⟩
  ·rw[if_neg (by omega),hold _ (lo i _ hi (by omega))];exact h.tail i y e
  ·rw[if_pos rfl];exact⟨cap,Tg,kL⟩
 ·by_cases e:i=j
  ·rw[if_pos e];exact hq
  ·rw[if_neg e];exact h.low i (by omega)
 ·by_cases e:i=j
  ·rw[if_pos e];exact hl
  ·rw[if_neg e];exact Nat.lt_of_lt_of_le (h.lt i (by omega)) hs
 ·by_cases e:i=j
  ·rw[if_pos e];exact hn
  ·rw[if_neg e];exact h.ne i (by omega)
 ·rcases split i y e with ⟨hi,e⟩|⟨rfl,rfl⟩
  ·rw[if_neg (by omega)];exact K9 _ _ _ _ (hb _ (h.ne i hi)) (h.sub i y e)
  ·rw[if_pos rfl];exact bg
 ·by_cases ei:i=j<;>by_cases ek:k=j
  ·omega
  ·simp only[if_pos ei,if_neg ek]at e;exact absurd e.symm (hf k (by omega))
  ·simp only[if_neg ei,if_pos ek]at e;exact absurd e (hf i (by omega))
  ·simp only[if_neg ei,if_neg ek]at e;exact h.inj i k (by omega) (by omega) e
end
section
open Go.Proofs.Tryz
theorem qE(w:World)(b off n cap:Nat)(xs:List S5)(hx:xs.length=n)(hn:n<=1048576)(hb:b<w.1.size)(hs:aV w b off xs):Calls prog 105 #[.slice (some ⟨b,off,none⟩) n cap] w fun e w'=>
  e=.returned (.slice (some ⟨w.1.size,0,none⟩) n n)/\Below w.1.size w w'/\w.1.size<w'.1.size/\aV w' w.1.size 0 xs/\Room w' w.1.size (n*5):=by
 have qc:=o7 n hn;go_enter func105,ntmps105;go_wp2
 go_loopw[4] (fun i wr=>∃k:Nat,k<=n/\i=vI k/\Below w.1.size w wr/\w.1.size<wr.1.size/\Room wr w.1.size (n*5)/\aV wr w.1.size 0 (xs.take k))
   (fun i _=>n-(intOf i).toNat)
 case atStart=>exact⟨0,Nat.zero_le _,rfl,aN.alloc aU _,by simp,iE _ _ _ _,fun i s e=>by simp at e⟩
 case round=>
  obtain⟨k,hk,rfl,aD,dO,eB,lQ⟩:=hrel;by_cases aK:k<n
  ·have z8:=hs.below aD hb;obtain⟨s,gu⟩:∃s,xs[k]?=some s:=⟨xs[k]'(by omega),by simp⟩
   obtain⟨c0,c1,c2,c3,c4⟩:=z8 k s gu;clear z8 qc;have K:Hid (Room wr w.1.size (n*5)/\aV wr w.1.size 0 (xs.take k)/\xs[k]?=some s/\Below w.1.size w wr):=⟨eB,lQ,gu,aD⟩
   clear eB lQ gu aD;go_wp2_with fail;refine(DJ _ s).mono ?_;rintro e w1 ⟨rfl,b1⟩;obtain⟨eB,lQ,gu,aD⟩:=K.out;have iG:=eB.below b1 dO;have qb:=lQ.below b1 dO;obtain⟨v0,d0,f0⟩:=iG (k*5) (by omega);obtain⟨v1,d1,f1⟩:=iG (k*5+1) (by omega);obtain⟨v2,d2,f2⟩:=iG (k*5+2) (by omega);obtain⟨v3,d3,f3⟩:=iG (k*5+3) (by omega);obtain⟨v4,d4,f4⟩:=iG (k*5+4) (by omega);clear eB lQ gu aD;have K2:Hid (Room w1 w.1.size (n*5)/\aV w1 w.1.size 0 (xs.take k)):=⟨iG,qb⟩
   clear iG qb;go_wp2;obtain⟨eB,lQ,gu,aD⟩:=K.out;obtain⟨iG,qb⟩:=K2.out;have IZ:=aD.trans (b1.mono (Nat.le_of_lt dO))
   refine⟨⟨k+1,by omega,by simp,((((IZ.setCell (p:=⟨w.1.size,k*5,none⟩) aU _).setCell (p:=⟨w.1.size,k*5+1,none⟩) aU _).setCell (p:=⟨w.1.size,k*5+2,none⟩) aU _).setCell (p:=⟨w.1.size,k*5+3,none⟩) aU _).setCell (p:=⟨w.1.size,k*5+4,none⟩) aU _,
    by have:=b1.size;simp[World.setCell];omega,((((iG.set _).set _).set _).set _).set _,qb.put gu iG (by omega)⟩,by simp[intOf];omega⟩
  ·have:k=n:=by omega
   subst this;have hd:decide (k<k)=false:=by simp
   go_wp2;go_ret;refine⟨rfl,aD,dO,?_,eB⟩;rw[<-hx,List.take_length]at lQ;exact lQ
theorem rZ(w:World)(a:OA)(n cap:Nat)(xs:List S5)(hn:n<=1048576)(hs:Sl w w.1.size a n xs):Calls prog 105 #[.slice a n cap] w fun e w'=>
  e=.returned (.slice (some ⟨w.1.size,0,none⟩) n n)/\Below w.1.size w w'/\w.1.size<w'.1.size/\aV w' w.1.size 0 xs/\Room w' w.1.size (n*5):=by
 obtain⟨h1,h2⟩:=hs;rcases h2 with rfl|⟨b,off,rfl,hb,hx⟩
 ·refine(r9 w a cap).mono ?_;rintro e w' ⟨rfl,h,h'⟩;exact⟨rfl,h,h',(fun i s e=>by rw[List.eq_nil_of_length_eq_zero h1]at e;simp at e),fun j hj=>by omega⟩
 ·exact qE w b off n cap xs h1 hn hb hx
theorem CR(w:World)(b off n cap:Nat)(xs:List C2)(hx:xs.length=n)(hn:n<=1048576)(hb:b<w.1.size)(hs:bK w b off xs):Calls prog 180 #[.slice (some ⟨b,off,none⟩) n cap] w fun e w'=>
  e=.returned (.slice (some ⟨w.1.size,0,none⟩) n n)/\Below w.1.size w w'/\w.1.size<w'.1.size/\bK w' w.1.size 0 xs/\Room w' w.1.size (n*2):=by
 have qc:=Aq n hn;go_enter func180,ntmps180;go_wp2
 go_loopw[4] (fun i wr=>∃k:Nat,k<=n/\i=vI k/\Below w.1.size w wr/\w.1.size<wr.1.size/\Room wr w.1.size (n*2)/\bK wr w.1.size 0 (xs.take k))
   (fun i _=>n-(intOf i).toNat)
 case atStart=>exact⟨0,Nat.zero_le _,rfl,aN.alloc aU _,by simp,iE _ _ _ _,fun i s e=>by simp at e⟩
 case round=>
  obtain⟨k,hk,rfl,aD,dO,eB,lQ⟩:=hrel;by_cases aK:k<n
  ·have z8:=hs.below aD hb;obtain⟨s,gu⟩:∃s,xs[k]?=some s:=⟨xs[k]'(by omega),by simp⟩
   obtain⟨c0,c1⟩:=z8 k s gu;clear z8 qc;have K:Hid (Room wr w.1.size (n*2)/\bK wr w.1.size 0 (xs.take k)/\xs[k]?=some s/\Below w.1.size w wr):=⟨eB,lQ,gu,aD⟩
   clear eB lQ gu aD;go_wp2_with fail;refine(J2 _ s).mono ?_;rintro e w1 ⟨rfl,b1⟩;obtain⟨eB,lQ,gu,aD⟩:=K.out;have iG:=eB.below b1 dO;have qb:=lQ.below b1 dO;obtain⟨v0,d0,f0⟩:=iG (k*2) (by omega);obtain⟨v1,d1,f1⟩:=iG (k*2+1) (by omega);clear eB lQ gu aD;have K2:Hid (Room w1 w.1.size (n*2)/\bK w1 w.1.size 0 (xs.take k)):=⟨iG,qb⟩
   clear iG qb;go_wp2;obtain⟨eB,lQ,gu,aD⟩:=K.out;obtain⟨iG,qb⟩:=K2.out;have IZ:=aD.trans (b1.mono (Nat.le_of_lt dO))
   refine⟨⟨k+1,by omega,by simp,(IZ.setCell (p:=⟨w.1.size,k*2,none⟩) aU _).setCell (p:=⟨w.1.size,k*2+1,none⟩) aU _,
    by have:=b1.size;simp[World.setCell];omega,(iG.set _).set _,qb.put gu iG (by omega)⟩,by simp[intOf];omega⟩
  ·have:k=n:=by omega
   subst this;have hd:decide (k<k)=false:=by simp
   go_wp2;go_ret;refine⟨rfl,aD,dO,?_,eB⟩;rw[<-hx,List.take_length]at lQ;exact lQ
theorem ES(w:World)(a:OA)(n cap:Nat)(xs:List C2)(hn:n<=1048576)(hs:nN w w.1.size a n xs):Calls prog 180 #[.slice a n cap] w fun e w'=>
  e=.returned (.slice (some ⟨w.1.size,0,none⟩) n n)/\Below w.1.size w w'/\w.1.size<w'.1.size/\bK w' w.1.size 0 xs/\Room w' w.1.size (n*2):=by
 obtain⟨h1,h2⟩:=hs;rcases h2 with rfl|⟨b,off,rfl,hb,hx⟩
 ·refine(EU w a cap).mono ?_;rintro e w' ⟨rfl,h,h'⟩;exact⟨rfl,h,h',(fun i s e=>by rw[List.eq_nil_of_length_eq_zero h1]at e;simp at e),fun j hj=>by omega⟩
 ·exact CR w b off n cap xs h1 hn hb hx
theorem CW(w:World)(k t r:Int)(a:OA)(n cap:Nat)(xs:List S5)(hn:n<=1048576)(hs:Sl w w.1.size a n xs):Calls prog 139 #[.agg #[vI k,vI t,vI r,.slice a n cap]] w fun e w'=>
  ∃g,e=.returned (.agg #[vI k,vI t,vI r,.slice (some ⟨g,0,none⟩) n n])/\Below w.1.size w w'/\w.1.size<=g/\g<w'.1.size/\aV w' g 0 xs/\Room w' g (n*5):=by
 go_enter func139,ntmps139;go_wp2_with fail;generalize hW:((w.alloc (.cells #[vI k,vI t,vI r,.slice a n cap] 191)).alloc (.cells #[vI 0,vI 0,vI 0,.slice none 0 0] 144)).alloc (.cells #[vI k,vI t,vI r,.slice none 0 0] 144)=W;have dO:W.1.size=w.1.size+3:=by subst hW;simp
 have bW:Below w.1.size w W:=by subst hW;exact((aN.alloc aU _).alloc (by simp) _).alloc (by simp;omega) _
 have d0:W.cell? ⟨w.1.size+1+1,0,none⟩=some (vI k):=by subst hW;go_simp
 have d1:W.cell? ⟨w.1.size+1+1,1,none⟩=some (vI t):=by subst hW;go_simp
 have d2:W.cell? ⟨w.1.size+1+1,2,none⟩=some (vI r):=by subst hW;go_simp
 have d3:W.cell? ⟨w.1.size+1+1,3,none⟩=some (.slice none 0 0):=by subst hW;go_simp
 have e0:W.cell? ⟨w.1.size+1,0,none⟩=some (vI 0):=by subst hW;go_simp
 have e1:W.cell? ⟨w.1.size+1,1,none⟩=some (vI 0):=by subst hW;go_simp
 have e2:W.cell? ⟨w.1.size+1,2,none⟩=some (vI 0):=by subst hW;go_simp
 have e3:W.cell? ⟨w.1.size+1,3,none⟩=some (.slice none 0 0):=by subst hW;go_simp
 have f3:W.frozen? ⟨w.1.size+1+1,3,none⟩=false:=by subst hW;go_simp
 have g0:∀j,W.frozen? ⟨w.1.size+1,j,none⟩=false:=by intro j;subst hW;go_simp
 clear hW;have Yj:Sl W W.1.size a n xs:=(hs.below bW).mono (by omega);refine(rZ _ a n cap xs hn Yj).mono ?_;rintro e w1 ⟨rfl,b1,l1,s1,r1⟩;rw[<-b1.cell (p:=⟨w.1.size+1+1,0,none⟩) (by simp;omega)]at d0;rw[<-b1.cell (p:=⟨w.1.size+1+1,1,none⟩) (by simp;omega)]at d1;rw[<-b1.cell (p:=⟨w.1.size+1+1,2,none⟩) (by simp;omega)]at d2;rw[<-b1.cell (p:=⟨w.1.size+1+1,3,none⟩) (by simp;omega)]at d3;rw[<-b1.cell (p:=⟨w.1.size+1,0,none⟩) (by simp;omega)]at e0;rw[<-b1.cell (p:=⟨w.1.size+1,1,none⟩) (by simp;omega)]at e1;rw[<-b1.cell (p:=⟨w.1.size+1,2,none⟩) (by simp;omega)]at e2;rw[<-b1.cell (p:=⟨w.1.size+1,3,none⟩) (by simp;omega)]at e3;rw[<-b1.frozen (p:=⟨w.1.size+1+1,3,none⟩) (by simp;omega)]at f3;have g0':=(b1.frozen (p:=⟨w.1.size+1,0,none⟩) (by simp;omega)).trans (g0 0);have g1':=(b1.frozen (p:=⟨w.1.size+1,1,none⟩) (by simp;omega)).trans (g0 1);have g2':=(b1.frozen (p:=⟨w.1.size+1,2,none⟩) (by simp;omega)).trans (g0 2);have g3':=(b1.frozen (p:=⟨w.1.size+1,3,none⟩) (by simp;omega)).trans (g0 3);have K:Hid (aV w1 W.1.size 0 xs/\Room w1 W.1.size (n*5)):=⟨s1,r1⟩
 have K2:Hid (W.1.size=w.1.size+3):=dO;clear s1 r1 g0 Yj dO;go_wp2;have dO:=K2.out;refine bodyPost_ret (v:=.agg #[vI k,vI t,vI r,.slice (some ⟨W.1.size,0,none⟩) n n]) (by simp[results,results139,go_sem,e0,e1,e2,e3]) rfl ⟨W.1.size,rfl,?_,by omega,?_,?_,?_⟩
 ·exact(((((bW.trans (b1.mono (by omega))).setCell (p:=⟨_,_,none⟩) (by simp;omega) _).setCell (p:=⟨_,_,none⟩) (by simp) _).setCell (p:=⟨_,_,none⟩) (by simp) _).setCell (p:=⟨_,_,none⟩) (by simp) _).setCell (p:=⟨_,_,none⟩) (by simp) _
 ·simpa[World.setCell]using l1
 ·exact((((K.out.1.dX (by simp;omega) _).dX (by simp;omega) _).dX (by simp;omega) _).dX (by simp;omega) _).dX (by simp;omega) _
 ·exact K.out.2.aj ((Below.heap_setCell _ _ _ _ (by simp;omega)).trans ((Below.heap_setCell _ _ _ _ (by simp;omega)).trans ((Below.heap_setCell _ _ _ _ (by simp;omega)).trans ((Below.heap_setCell _ _ _ _ (by simp;omega)).trans (Below.heap_setCell _ _ _ _ (by simp;omega))))))
end
section
open Go.Proofs.Tryz
variable {b n off:Nat}{g:Nat->Nat}{w w':World}
theorem H9(w:World)(r:Int)(a:OA)(n cap:Nat)(xs:List C2)(hn:n<=1048576)(hs:nN w w.1.size a n xs):Calls prog 138 #[.agg #[vI r,.slice a n cap]] w fun e w'=>
  ∃g,e=.returned (.agg #[vI r,.slice (some ⟨g,0,none⟩) n n])/\Below w.1.size w w'/\w.1.size<=g/\g<w'.1.size/\bK w' g 0 xs/\Room w' g (n*2):=by
 go_enter func138,ntmps138;go_wp2_with fail;generalize hW:((w.alloc (.cells #[vI r,.slice a n cap] 188)).alloc (.cells #[vI 0,.slice none 0 0] 58)).alloc (.cells #[vI r,.slice none 0 0] 58)=W;have dO:W.1.size=w.1.size+3:=by subst hW;simp
 have bW:Below w.1.size w W:=by subst hW;exact((aN.alloc aU _).alloc (by simp) _).alloc (by simp;omega) _
 have d0:W.cell? ⟨w.1.size+1+1,0,none⟩=some (vI r):=by subst hW;go_simp
 have d1:W.cell? ⟨w.1.size+1+1,1,none⟩=some (.slice none 0 0):=by subst hW;go_simp
 have e0:W.cell? ⟨w.1.size+1,0,none⟩=some (vI 0):=by subst hW;go_simp
 have e1:W.cell? ⟨w.1.size+1,1,none⟩=some (.slice none 0 0):=by subst hW;go_simp
 have f1:W.frozen? ⟨w.1.size+1+1,1,none⟩=false:=by subst hW;go_simp
 have g0:∀j,W.frozen? ⟨w.1.size+1,j,none⟩=false:=by intro j;subst hW;go_simp
 clear hW;have Yj:nN W W.1.size a n xs:=(hs.below bW).mono (by omega);refine(ES _ a n cap xs hn Yj).mono ?_;rintro e w1 ⟨rfl,b1,l1,s1,r1⟩;rw[<-b1.cell (p:=⟨w.1.size+1+1,0,none⟩) (by simp;omega)]at d0;rw[<-b1.cell (p:=⟨w.1.size+1+1,1,none⟩) (by simp;omega)]at d1;rw[<-b1.cell (p:=⟨w.1.size+1,0,none⟩) (by simp;omega)]at e0;rw[<-b1.cell (p:=⟨w.1.size+1,1,none⟩) (by simp;omega)]at e1;rw[<-b1.frozen (p:=⟨w.1.size+1+1,1,none⟩) (by simp;omega)]at f1;have g0':=(b1.frozen (p:=⟨w.1.size+1,0,none⟩) (by simp;omega)).trans (g0 0);have g1':=(b1.frozen (p:=⟨w.1.size+1,1,none⟩) (by simp;omega)).trans (g0 1);have K:Hid (bK w1 W.1.size 0 xs/\Room w1 W.1.size (n*2)):=⟨s1,r1⟩
 have K2:Hid (W.1.size=w.1.size+3):=dO;clear s1 r1 g0 Yj dO;go_wp2;have dO:=K2.out;refine bodyPost_ret (v:=.agg #[vI r,.slice (some ⟨W.1.size,0,none⟩) n n]) (by simp[results,results138,go_sem,e0,e1]) rfl ⟨W.1.size,rfl,?_,by omega,?_,?_,?_⟩
 ·exact(((bW.trans (b1.mono (by omega))).setCell (p:=⟨_,_,none⟩) (by simp;omega) _).setCell (p:=⟨_,_,none⟩) (by simp) _).setCell (p:=⟨_,_,none⟩) (by simp) _
 ·simpa[World.setCell]using l1
 ·exact((K.out.1.dX (by simp;omega) _).dX (by simp;omega) _).dX (by simp;omega) _
 ·exact K.out.2.aj ((Below.heap_setCell _ _ _ _ (by simp;omega)).trans ((Below.heap_setCell _ _ _ _ (by simp;omega)).trans (Below.heap_setCell _ _ _ _ (by simp;omega))))
def qP(r:R4):List Int:=[r.kind,r.tx,r.a]
def yL(r:R4):Nat:=r.ag.length
def AtR(w:World)(b:Nat)(r:R4):Prop:=aV w b 0 r.ag/\Room w b (r.ag.length*5)
theorem aV.aj{xs:List S5}(h:aV w b off xs)(e:w'.1[b]?=w.1[b]?):aV w' b off xs:=fun i s hs=>by
 obtain⟨c0,c1,c2,c3,c4⟩:=h i s hs;exact⟨(World.cell?_of_block (a:=⟨b,_,none⟩) e).trans c0,(World.cell?_of_block (a:=⟨b,_,none⟩) e).trans c1,(World.cell?_of_block (a:=⟨b,_,none⟩) e).trans c2,(World.cell?_of_block (a:=⟨b,_,none⟩) e).trans c3,(World.cell?_of_block (a:=⟨b,_,none⟩) e).trans c4⟩
theorem bK.aj{xs:List C2}(h:bK w b off xs)(e:w'.1[b]?=w.1[b]?):bK w' b off xs:=fun i s hs=>by
 obtain⟨c0,c1⟩:=h i s hs;exact⟨(World.cell?_of_block (a:=⟨b,_,none⟩) e).trans c0,(World.cell?_of_block (a:=⟨b,_,none⟩) e).trans c1⟩
theorem AtR.aj(w w':World)(b:Nat)(r:R4)(e:w'.1[b]?=w.1[b]?)(h:AtR w b r):AtR w' b r:=⟨h.1.aj e,h.2.aj e⟩
def rF(k:K2):List Int:=[k.a]
def wW(k:K2):Nat:=k.cells.length
def mO(w:World)(b:Nat)(k:K2):Prop:=bK w b 0 k.cells/\Room w b (k.cells.length*2)
theorem mO.aj(w w':World)(b:Nat)(r:K2)(e:w'.1[b]?=w.1[b]?)(h:mO w b r):mO w' b r:=⟨h.1.aj e,h.2.aj e⟩
theorem R8{base:Nat}{rs:List R4}(h:fB 4 qP yL AtR w base b n rs g)(hb:b<w.1.size):Iz w w.1.size (some ⟨b,0,none⟩) n rs:=
 ⟨h.len,.inr ⟨b,0,rfl,hb,fun i r e=>by
  rw[Nat.zero_add];obtain⟨cap,h1,h2⟩:=h.tail i r e
  exact⟨h.head i r e 0 _ rfl,h.head i r e 1 _ rfl,h.head i r e 2 _ rfl,_,cap,h1,⟨rfl,.inr ⟨_,0,rfl,h.lt i (h.idx e),(h.sub i r e).1⟩⟩,h2⟩⟩⟩
theorem R7{base:Nat}{rs:List K2}(h:fB 2 rF wW mO w base b n rs g)(hb:b<w.1.size):yt w w.1.size (some ⟨b,0,none⟩) n rs:=
 ⟨h.len,.inr ⟨b,0,rfl,hb,fun i r e=>by
  rw[Nat.zero_add];obtain⟨cap,h1,h2⟩:=h.tail i r e
  exact⟨h.head i r e 0 _ rfl,_,cap,h1,⟨rfl,.inr ⟨_,0,rfl,h.lt i (h.idx e),(h.sub i r e).1⟩⟩,h2⟩⟩⟩
end
section
open Go.Proofs.Tryz
theorem Dl:(prog.info? 144).map (fun i=>(i.zero,i.size,i.bytes))=some (some (.agg #[vI 0,vI 0,vI 0,.slice none 0 0]),4,48):=by kernel_rfl
theorem MK(n:Nat)(hn:n<=1048576)(w:World):(Instr.makeSlice 60 (vI (n:Int)) (vI (n:Int))).run prog w=.ok (.slice (some ⟨w.1.size,0,none⟩) n n) (w.alloc (.cells (madeCells #[vI 0,vI 0,vI 0,.slice none 0 0] (n*4)) 144)):=by
 obtain⟨i,hi,oH⟩:=Option.map_eq_some_iff.1 Dl;simp only[Prod.mk.injEq]at oH;obtain⟨hz,hs,hb⟩:=oH;have:=run_make (P:=prog) w 60 144 i _ underlying60 hi hz .i64 .i64 (n:Int) (n:Int) (by omega) (by omega) (by rw[hb];omega) (by omega);rw[hs]at this;simpa[Value.cells]using this
theorem CV(w:World)(a:OA)(n cap:Nat)(rs:List R4)(hn:n<=1048576)(hl:∀r∈rs,r.ag.length<=1048576)(hs:Iz w w.1.size a n rs):Calls prog 103 #[.slice a n cap] w fun e w'=>
  ∃g,e=.returned (.slice (some ⟨w.1.size,0,none⟩) n n)/\Below w.1.size w w'/\w.1.size<w'.1.size/\fB 4 qP yL AtR w' w.1.size w.1.size n rs g/\Room w' w.1.size (n*4):=by
 obtain⟨hx,hs⟩:=hs;have qc:=MK n hn;go_enter func103,ntmps103;go_wp2;go_loopw[4] (fun i wr=>∃(j:Nat) (g:Nat->Nat),j<=n/\i=vI j/\Below w.1.size w wr/\w.1.size<wr.1.size/\Room wr w.1.size (n*4)/\fB 4 qP yL AtR wr w.1.size w.1.size j (rs.take j) g) (fun i _=>n-(intOf i).toNat)
 case atStart=>exact⟨0,fun _=>0,Nat.zero_le _,rfl,aN.alloc aU _,by simp,iE _ _ _ _,by rw[List.take_zero];exact fB.nil _ _ _ _⟩
 case round=>
  obtain⟨j,g,hj,rfl,aD,dO,eB,ig⟩:=hrel;by_cases aK:j<n
  ·rcases hs with hs|⟨b,off,rfl,hb,h1⟩
   ·omega
   ·have bg:=h1 j _ (jy (by omega));obtain⟨a',aW,hc,gM,_⟩:=bg.c3;have e0:=(aD.cell (p:=⟨b,off+j*4,none⟩) hb).trans bg.c0;have e1:=(aD.cell (p:=⟨b,off+j*4+1,none⟩) hb).trans bg.c1;have e2:=(aD.cell (p:=⟨b,off+j*4+2,none⟩) hb).trans bg.c2;have e3:=(aD.cell (p:=⟨b,off+j*4+3,none⟩) hb).trans hc;have jh:=CW wr (atR rs j).kind (atR rs j).tx (atR rs j).a a' (atR rs j).ag.length aW (atR rs j).ag (hl _ (List.mem_of_getElem? (jy (by omega)))) ((gM.below aD).mono aD.size);have K:Hid (Room wr w.1.size (n*4)/\fB 4 qP yL AtR wr w.1.size w.1.size j (rs.take j) g/\Below w.1.size w wr/\w.1.size<wr.1.size/\rs.take (j+1)=rs.take j++[atR rs j]):=⟨eB,ig,aD,dO,by rw[List.take_add_one,jy (by omega)];rfl⟩
    clear eB ig aD qc h1 hx hl gM hc bg;generalize atR rs j=r at *;go_wp2_with fail;refine jh.mono ?_;clear jh;rintro e w1 ⟨q,rfl,b1,lq,hq,Eo,qH⟩;have vv:=K.out.1.below b1 K.out.2.2.2.1;obtain⟨z0,d0,f0⟩:=vv (j*4) (by omega);obtain⟨z1,d1,f1⟩:=vv (j*4+1) (by omega);obtain⟨z2,d2,f2⟩:=vv (j*4+2) (by omega);obtain⟨z3,d3,f3⟩:=vv (j*4+3) (by omega);have K1:Hid (Below wr.1.size wr w1/\wr.1.size<=q/\q<w1.1.size/\AtR w1 q r/\Room w1 w.1.size (n*4)):=⟨b1,lq,hq,⟨Eo,qH⟩,vv⟩
    clear b1 lq hq Eo qH vv;go_wp2;obtain⟨eB,ig,aD,dO,Aa⟩:=K.out;obtain⟨b1,lq,hq,bg,vv⟩:=K1.out;have h1:=ig.later AtR.aj b1 dO;obtain⟨V,hV⟩:∃V,((((w1.setCell ⟨w.1.size,j*4,none⟩ (vI r.kind)).setCell ⟨w.1.size,j*4+1,none⟩ (vI r.tx)).setCell ⟨w.1.size,j*4+2,none⟩ (vI r.a)).setCell ⟨w.1.size,j*4+3,none⟩ (.slice (some ⟨q,0,none⟩) r.ag.length r.ag.length))=V:=⟨_,rfl⟩
    have sV:V.1.size=w1.1.size:=by rw[<-hV];simp[World.setCell]
    have oV:∀x,x≠w.1.size->V.1[x]?=w1.1[x]?:=fun x hx=>by
     rw[<-hV];exact((Below.heap_setCell _ _ _ _ (fun e=>hx e)).trans ((Below.heap_setCell _ _ _ _ (fun e=>hx e)).trans ((Below.heap_setCell _ _ _ _ (fun e=>hx e)).trans (Below.heap_setCell _ _ _ _ (fun e=>hx e)))))
    have cV:∀o,o<j*4->V.cell? ⟨w.1.size,o,none⟩=w1.cell? ⟨w.1.size,o,none⟩:=fun o ho=>by
     rw[<-hV];rw[ae (by omega),ae (by omega),ae (by omega),ae (by omega)]
    have n0:V.cell? ⟨w.1.size,j*4,none⟩=some (vI r.kind):=by
     rw[<-hV];rw[ae (by omega),ae (by omega),ae (by omega)];exact ax (by exact d0)
    have n1:V.cell? ⟨w.1.size,j*4+1,none⟩=some (vI r.tx):=by
     rw[<-hV];rw[ae (by omega),ae (by omega)];exact ax (by rw[ae (by omega)];exact d1)
    have n2:V.cell? ⟨w.1.size,j*4+2,none⟩=some (vI r.a):=by
     rw[<-hV];rw[ae (by omega)];exact ax (by rw[ae (by omega),ae (by omega)];exact d2)
    have nT:V.cell? ⟨w.1.size,j*4+(4-1),none⟩=some (.slice (some ⟨q,0,none⟩) r.ag.length r.ag.length):=by
     rw[<-hV];exact ax (by rw[ae (by omega),ae (by omega),ae (by omega)];exact d3)
    have rV:Room V w.1.size (n*4):=by rw[<-hV];exact((((vv.set _).set _).set _).set _)
    have bV:Below w.1.size w V:=by rw[<-hV];exact(((((aD.trans (b1.mono aD.size)).setCell (p:=⟨w.1.size,j*4,none⟩) aU _).setCell (p:=⟨w.1.size,j*4+1,none⟩) aU _).setCell (p:=⟨w.1.size,j*4+2,none⟩) aU _).setCell (p:=⟨w.1.size,j*4+3,none⟩) aU _)
    have Mq:=h1.next AtR.aj (r:=r) (q:=q) (cap:=r.ag.length) (V:=V) (by omega) (fun r=>by simp[qP]) (by omega) oV cV (fun t z ht=>by
     match t,ht with
     | 0,ht=>cases ht;exact n0
     | 1,ht=>cases ht;exact n1
     | 2,ht=>cases ht;exact n2
     | t+3,ht=>simp[qP]at ht) nT aU (by omega) (by omega) (by omega) (AtR.aj _ _ _ _ (oV q (by omega)) bg) (fun i hi e=>by have:=ig.lt i hi;omega)
    rw[<-Aa]at Mq;rw[hV];exact⟨⟨j+1,_,by omega,by simp,bV,by have:=b1.size;omega,rV,Mq⟩,by simp[intOf];omega⟩
  ·have:j=n:=by omega
   subst this;have hd:decide (j<j)=false:=by simp
   rw[<-hx,List.take_length,hx]at ig;have K:Hid (fB 4 qP yL AtR wr w.1.size w.1.size j rs g/\Room wr w.1.size (j*4)):=⟨ig,eB⟩
   clear ig hs eB;go_wp2;go_ret;exact⟨g,rfl,aD,dO,K.out.1,K.out.2⟩
theorem Dk:(prog.info? 58).map (fun i=>(i.zero,i.size,i.bytes))=some (some (.agg #[vI 0,.slice none 0 0]),2,32):=by kernel_rfl
theorem MI(n:Nat)(hn:n<=1048576)(w:World):(Instr.makeSlice 59 (vI (n:Int)) (vI (n:Int))).run prog w=.ok (.slice (some ⟨w.1.size,0,none⟩) n n) (w.alloc (.cells (madeCells #[vI 0,.slice none 0 0] (n*2)) 58)):=by
 obtain⟨i,hi,oH⟩:=Option.map_eq_some_iff.1 Dk;simp only[Prod.mk.injEq]at oH;obtain⟨hz,hs,hb⟩:=oH;have:=run_make (P:=prog) w 59 58 i _ underlying59 hi hz .i64 .i64 (n:Int) (n:Int) (by omega) (by omega) (by rw[hb];omega) (by omega);rw[hs]at this;simpa[Value.cells]using this
theorem H8(w:World)(a:OA)(n cap:Nat)(rs:List K2)(hn:n<=1048576)(hl:∀r∈rs,r.cells.length<=1048576)(hs:yt w w.1.size a n rs):Calls prog 102 #[.slice a n cap] w fun e w'=>
  ∃g,e=.returned (.slice (some ⟨w.1.size,0,none⟩) n n)/\Below w.1.size w w'/\w.1.size<w'.1.size/\fB 2 rF wW mO w' w.1.size w.1.size n rs g/\Room w' w.1.size (n*2):=by
 obtain⟨hx,hs⟩:=hs;have qc:=MI n hn;go_enter func102,ntmps102;go_wp2;go_loopw[4] (fun i wr=>∃(j:Nat) (g:Nat->Nat),j<=n/\i=vI j/\Below w.1.size w wr/\w.1.size<wr.1.size/\Room wr w.1.size (n*2)/\fB 2 rF wW mO wr w.1.size w.1.size j (rs.take j) g) (fun i _=>n-(intOf i).toNat)
 case atStart=>exact⟨0,fun _=>0,Nat.zero_le _,rfl,aN.alloc aU _,by simp,iE _ _ _ _,by rw[List.take_zero];exact fB.nil _ _ _ _⟩
 case round=>
  obtain⟨j,g,hj,rfl,aD,dO,eB,ig⟩:=hrel;by_cases aK:j<n
  ·rcases hs with hs|⟨b,off,rfl,hb,h1⟩
   ·omega
   ·have bg:=h1 j _ (eY (by omega));obtain⟨a',aW,hc,gM,_⟩:=bg.c1;have e0:=(aD.cell (p:=⟨b,off+j*2,none⟩) hb).trans bg.c0;have e1:=(aD.cell (p:=⟨b,off+j*2+1,none⟩) hb).trans hc;have jh:=H9 wr (dD rs j).a a' (dD rs j).cells.length aW (dD rs j).cells (hl _ (List.mem_of_getElem? (eY (by omega)))) ((gM.below aD).mono aD.size);have K:Hid (Room wr w.1.size (n*2)/\fB 2 rF wW mO wr w.1.size w.1.size j (rs.take j) g/\Below w.1.size w wr/\w.1.size<wr.1.size/\rs.take (j+1)=rs.take j++[dD rs j]):=⟨eB,ig,aD,dO,by rw[List.take_add_one,eY (by omega)];rfl⟩
    clear eB ig aD qc h1 hx hl gM hc bg;generalize dD rs j=r at *;go_wp2_with fail;refine jh.mono ?_;clear jh;rintro e w1 ⟨q,rfl,b1,lq,hq,Eo,qH⟩;have vv:=K.out.1.below b1 K.out.2.2.2.1;obtain⟨z0,d0,f0⟩:=vv (j*2) (by omega);obtain⟨z1,d1,f1⟩:=vv (j*2+1) (by omega);have K1:Hid (Below wr.1.size wr w1/\wr.1.size<=q/\q<w1.1.size/\mO w1 q r/\Room w1 w.1.size (n*2)):=⟨b1,lq,hq,⟨Eo,qH⟩,vv⟩
    clear b1 lq hq Eo qH vv;go_wp2;obtain⟨eB,ig,aD,dO,Aa⟩:=K.out;obtain⟨b1,lq,hq,bg,vv⟩:=K1.out;have h1:=ig.later mO.aj b1 dO;obtain⟨V,hV⟩:∃V,((w1.setCell ⟨w.1.size,j*2,none⟩ (vI r.a)).setCell ⟨w.1.size,j*2+1,none⟩ (.slice (some ⟨q,0,none⟩) r.cells.length r.cells.length))=V:=⟨_,rfl⟩
    have sV:V.1.size=w1.1.size:=by rw[<-hV];simp[World.setCell]
    have oV:∀x,x≠w.1.size->V.1[x]?=w1.1[x]?:=fun x hx=>by
     rw[<-hV];exact((Below.heap_setCell _ _ _ _ (fun e=>hx e)).trans (Below.heap_setCell _ _ _ _ (fun e=>hx e)))
    have cV:∀o,o<j*2->V.cell? ⟨w.1.size,o,none⟩=w1.cell? ⟨w.1.size,o,none⟩:=fun o ho=>by
     rw[<-hV];rw[ae (by omega),ae (by omega)]
    have n0:V.cell? ⟨w.1.size,j*2,none⟩=some (vI r.a):=by
     rw[<-hV];rw[ae (by omega)];exact ax (by exact d0)
    have nT:V.cell? ⟨w.1.size,j*2+(2-1),none⟩=some (.slice (some ⟨q,0,none⟩) r.cells.length r.cells.length):=by
     rw[<-hV];exact ax (by rw[ae (by omega)];exact d1)
    have rV:Room V w.1.size (n*2):=by rw[<-hV];exact((vv.set _).set _)
    have bV:Below w.1.size w V:=by rw[<-hV];exact(((aD.trans (b1.mono aD.size)).setCell (p:=⟨w.1.size,j*2,none⟩) aU _).setCell (p:=⟨w.1.size,j*2+1,none⟩) aU _)
    have Mq:=h1.next mO.aj (r:=r) (q:=q) (cap:=r.cells.length) (V:=V) (by omega) (fun r=>by simp[rF]) (by omega) oV cV (fun t z ht=>by
     match t,ht with
     | 0,ht=>cases ht;exact n0
     | t+1,ht=>simp[rF]at ht) nT aU (by omega) (by omega) (by omega) (mO.aj _ _ _ _ (oV q (by omega)) bg) (fun i hi e=>by have:=ig.lt i hi;omega)
    rw[<-Aa]at Mq;rw[hV];exact⟨⟨j+1,_,by omega,by simp,bV,by have:=b1.size;omega,rV,Mq⟩,by simp[intOf];omega⟩
  ·have:j=n:=by omega
   subst this;have hd:decide (j<j)=false:=by simp
   rw[<-hx,List.take_length,hx]at ig;have K:Hid (fB 2 rF wW mO wr w.1.size w.1.size j rs g/\Room wr w.1.size (j*2)):=⟨ig,eB⟩
   clear ig hs eB;go_wp2;go_ret;exact⟨g,rfl,aD,dO,K.out.1,K.out.2⟩
end
section
open Go.Proofs.Tryz
variable {X:World}{ad al s1 s2 s3:Value}{alive:Bool}{s:Nat}
structure Iy(w:World)(B0 B1 B2 B3:Nat)(v:MV)(m:M4)(gk gr:Nat->Nat):Prop where
 k:∃b,v.ac=some ⟨b,0,none⟩/\B0<=b/\b<B1/\fB 2 rF wW mO w B0 b m.af.length m.af gk/\(∀i,i<m.af.length->gk i<B1)/\Room w b (m.af.length*2)
 r:∃b,v.al=some ⟨b,0,none⟩/\B1<=b/\b<B2/\fB 4 qP yL AtR w B1 b m.g.length m.g gr/\(∀i,i<m.g.length->gr i<B2)/\Room w b (m.g.length*4)
 n:∃b,v.ad=some ⟨b,0,none⟩/\B2<=b/\b<B3/\dQ w b 0 m.ai/\Room w b m.ai.length
 o1:B0<=B1
 o2:B1<=B2
 o3:B2<=B3
 sz:B3<=w.1.size
theorem Iy.kept{w w':World}{B0 B1 B2 B3:Nat}{v:MV}{m:M4}{gk gr:Nat->Nat}(h:Iy w B0 B1 B2 B3 v m gk gr)(hs:w.1.size<=w'.1.size)(hk:∀q,B0<=q->q<B3->w'.1[q]?=w.1[q]?):Iy w' B0 B1 B2 B3 v m gk gr:=by
 have h1:=h.o1;have h2:=h.o2;have h3:=h.o3;have h4:=h.sz;obtain⟨b,e,l1,l,o,og,rm⟩:=h.k;obtain⟨b',e',ZF,l',o',ZH,rm'⟩:=h.r;obtain⟨b'',Me,Vp,fS,o'',VO⟩:=h.n;have hb:=hk b (by omega) (by omega);have gJ:=hk b' (by omega) (by omega);have XL:=hk b'' (by omega) (by omega)
 exact⟨⟨b,e,l1,l,o.ja mO.aj hs hb (fun i hi=>hk _ (o.low i hi) (by have:=og i hi;omega)),og,rm.aj hb⟩,
  ⟨b',e',ZF,l',o'.ja AtR.aj hs gJ (fun i hi=>hk _ (by have:=o'.low i hi;omega) (by have:=ZH i hi;omega)),ZH,rm'.aj gJ⟩,
  ⟨b'',Me,Vp,fS,o''.aj XL,VO.aj XL⟩,h1,h2,h3,by omega⟩
structure TP(s:Nat)(alive:Bool)(al ad:Value)(X:World)(s1 s2 s3:Value):Prop where
 a2:X.cell? ⟨s,2,none⟩=some al
 a3:X.cell? ⟨s,3,none⟩=some ad
 o0:X.cell? ⟨s+1+1,0,none⟩=some (.bool alive)
 o1:X.cell? ⟨s+1+1,1,none⟩=some s1
 o2:X.cell? ⟨s+1+1,2,none⟩=some s2
 o3:X.cell? ⟨s+1+1,3,none⟩=some s3
 fo:∀j,X.frozen? ⟨s+1+1,j,none⟩=false
 r0:X.cell? ⟨s+1,0,none⟩=some (.bool false)
 r1:X.cell? ⟨s+1,1,none⟩=some (.slice none 0 0)
 r2:X.cell? ⟨s+1,2,none⟩=some (.slice none 0 0)
 r3:X.cell? ⟨s+1,3,none⟩=some (.slice none 0 0)
 fr:∀j,X.frozen? ⟨s+1,j,none⟩=false
 lt:s+2<X.1.size
theorem TP.below{Y:World}(h:TP s alive al ad X s1 s2 s3)(hb:Below X.1.size X Y):TP s alive al ad Y s1 s2 s3:=by
 have l:=h.lt;have ea:=hb.block s (by omega);have er:=hb.block (s+1) (by omega);have eo:=hb.block (s+1+1) (by omega);have c:∀{b j:Nat}{u:Value},Y.1[b]?=X.1[b]?->X.cell? ⟨b,j,none⟩=some u->Y.cell? ⟨b,j,none⟩=some u:=fun {b j u} e h=>(World.cell?_of_block (a:=⟨b,j,none⟩) e).trans h
 exact⟨c ea h.a2,c ea h.a3,c eo h.o0,c eo h.o1,c eo h.o2,c eo h.o3,fun j=>(World.frozen?_of_block (a:=⟨s+1+1,j,none⟩) eo).trans (h.fo j),c er h.r0,c er h.r1,c er h.r2,c er h.r3,fun j=>(World.frozen?_of_block (a:=⟨s+1,j,none⟩) er).trans (h.fr j),Nat.lt_of_lt_of_le l hb.size⟩
theorem TP.set1(h:TP s alive al ad X s1 s2 s3)(v:Value):TP s alive al ad (X.setCell ⟨s+1+1,1,none⟩ v) v s2 s3:=
 ⟨(aM (by show s+1+1≠s;omega) v).trans h.a2,(aM (by show s+1+1≠s;omega) v).trans h.a3,(ae (by omega)).trans h.o0,ax h.o1,(ae (by omega)).trans h.o2,(ae (by omega)).trans h.o3,fun j=>by rw[World.frozen?_setCell];exact h.fo j,(aM (by simp) v).trans h.r0,(aM (by simp) v).trans h.r1,(aM (by simp) v).trans h.r2,(aM (by simp) v).trans h.r3,fun j=>by rw[World.frozen?_setCell];exact h.fr j,by simpa[World.setCell]using h.lt⟩
theorem TP.set2(h:TP s alive al ad X s1 s2 s3)(v:Value):TP s alive al ad (X.setCell ⟨s+1+1,2,none⟩ v) s1 v s3:=
 ⟨(aM (by show s+1+1≠s;omega) v).trans h.a2,(aM (by show s+1+1≠s;omega) v).trans h.a3,(ae (by omega)).trans h.o0,(ae (by omega)).trans h.o1,ax h.o2,(ae (by omega)).trans h.o3,fun j=>by rw[World.frozen?_setCell];exact h.fo j,(aM (by simp) v).trans h.r0,(aM (by simp) v).trans h.r1,(aM (by simp) v).trans h.r2,(aM (by simp) v).trans h.r3,fun j=>by rw[World.frozen?_setCell];exact h.fr j,by simpa[World.setCell]using h.lt⟩
theorem CS(w:World)(v:MV)(m:M4)(hk:m.af.length<=1048576)(zX:∀r∈m.af,r.cells.length<=1048576)(hr:m.g.length<=1048576)(oP:∀r∈m.g,r.ag.length<=1048576)(hn:m.ai.length<=1048576)(hs:qY w v m):Calls prog 60 #[v.val m] w fun e w'=>
  ∃u B1 B2 B3 gk gr,e=.returned (u.val m)/\Iy w' (w.1.size+3) B1 B2 B3 u m gk gr/\Below w.1.size w w':=by
 obtain⟨ac,cc,al,cl,ad,cd⟩:=v;have H:Hid (qY w ⟨ac,cc,al,cl,ad,cd⟩ m/\(∀r∈m.af,r.cells.length<=1048576)/\(∀r∈m.g,r.ag.length<=1048576)):=⟨hs,zX,oP⟩
 clear hs zX oP;simp only[MV.val]
 have tp:TP w.1.size m.x (.slice al m.g.length cl) (.slice ad m.ai.length cd) (((w.alloc (.cells #[.bool m.x,.slice ac m.af.length cc,.slice al m.g.length cl,.slice ad m.ai.length cd] 94)).alloc (.cells #[.bool false,.slice none 0 0,.slice none 0 0,.slice none 0 0] 62)).alloc (.cells #[.bool m.x,.slice none 0 0,.slice none 0 0,.slice none 0 0] 62)) (.slice none 0 0) (.slice none 0 0) (.slice none 0 0):=by
  refine⟨?_,?_,?_,?_,?_,?_,?_,?_,?_,?_,?_,?_,?_⟩;all_goals first|(intro j;go_simp;done)|(go_simp;done)|(simp;done)
 have bW:Below w.1.size w (((w.alloc (.cells #[.bool m.x,.slice ac m.af.length cc,.slice al m.g.length cl,.slice ad m.ai.length cd] 94)).alloc (.cells #[.bool false,.slice none 0 0,.slice none 0 0,.slice none 0 0] 62)).alloc (.cells #[.bool m.x,.slice none 0 0,.slice none 0 0,.slice none 0 0] 62)):=((aN.alloc aU _).alloc (by simp) _).alloc (by simp;omega) _;have dO:(((w.alloc (.cells #[.bool m.x,.slice ac m.af.length cc,.slice al m.g.length cl,.slice ad m.ai.length cd] 94)).alloc (.cells #[.bool false,.slice none 0 0,.slice none 0 0,.slice none 0 0] 62)).alloc (.cells #[.bool m.x,.slice none 0 0,.slice none 0 0,.slice none 0 0] 62)).1.size=w.1.size+3:=by simp
 have TW:Hid (TP w.1.size m.x (.slice al m.g.length cl) (.slice ad m.ai.length cd) (((w.alloc (.cells #[.bool m.x,.slice ac m.af.length cc,.slice al m.g.length cl,.slice ad m.ai.length cd] 94)).alloc (.cells #[.bool false,.slice none 0 0,.slice none 0 0,.slice none 0 0] 62)).alloc (.cells #[.bool m.x,.slice none 0 0,.slice none 0 0,.slice none 0 0] 62)) (.slice none 0 0) (.slice none 0 0) (.slice none 0 0)/\Below w.1.size w (((w.alloc (.cells #[.bool m.x,.slice ac m.af.length cc,.slice al m.g.length cl,.slice ad m.ai.length cd] 94)).alloc (.cells #[.bool false,.slice none 0 0,.slice none 0 0,.slice none 0 0] 62)).alloc (.cells #[.bool m.x,.slice none 0 0,.slice none 0 0,.slice none 0 0] 62))/\(((w.alloc (.cells #[.bool m.x,.slice ac m.af.length cc,.slice al m.g.length cl,.slice ad m.ai.length cd] 94)).alloc (.cells #[.bool false,.slice none 0 0,.slice none 0 0,.slice none 0 0] 62)).alloc (.cells #[.bool m.x,.slice none 0 0,.slice none 0 0,.slice none 0 0] 62)).1.size=w.1.size+3):=⟨tp,bW,dO⟩
 clear tp bW dO;go_enter func60,ntmps60;go_wp2_with fail;generalize ((w.alloc (.cells #[.bool m.x,.slice ac m.af.length cc,.slice al m.g.length cl,.slice ad m.ai.length cd] 94)).alloc (.cells #[.bool false,.slice none 0 0,.slice none 0 0,.slice none 0 0] 62)).alloc (.cells #[.bool m.x,.slice none 0 0,.slice none 0 0,.slice none 0 0] 62)=W at *;refine(H8 W ac m.af.length cc m.af hk H.out.2.1 (H.out.1.later TW.out.2.1).k).mono ?_;rintro e w1 ⟨gk,rfl,b1,l1,o1,n9⟩;have t1:=TW.out.1.below b1;have B1:Hid (Below w.1.size w w1/\W.1.size<w1.1.size/\fB 2 rF wW mO w1 W.1.size W.1.size m.af.length m.af gk/\Room w1 W.1.size (m.af.length*2)):=⟨TW.out.2.1.trans (b1.mono TW.out.2.1.size),l1,o1,n9⟩
 clear b1 l1 o1 n9;have T1:Hid (TP w.1.size m.x (.slice al m.g.length cl) (.slice ad m.ai.length cd) (w1.setCell ⟨w.1.size+1+1,1,none⟩ (.slice (some ⟨W.1.size,0,none⟩) m.af.length m.af.length)) (.slice (some ⟨W.1.size,0,none⟩) m.af.length m.af.length) (.slice none 0 0) (.slice none 0 0)):=t1.set1 _;have a2:=t1.a2;have p1:=t1.o1;have f1:=t1.fo 1;clear t1;have dX:∀(V:World) (x o:Nat) (u:Value),x≠w.1.size+1+1->(V.setCell ⟨w.1.size+1+1,o,none⟩ u).1[x]?=V.1[x]?:=fun V x o u h=>Below.heap_setCell _ _ _ _ (fun e=>h e)
 have oi:∀(V:World) (p:Addr) (u:Value),(V.setCell p u).1.size=V.1.size:=fun V p u=>by simp[World.setCell]
 have FAR:Hid (∀(V:World) (x o:Nat) (u:Value),x≠w.1.size+1+1->(V.setCell ⟨w.1.size+1+1,o,none⟩ u).1[x]?=V.1[x]?):=dX;have Xq:Hid (∀(V:World) (p:Addr) (u:Value),(V.setCell p u).1.size=V.1.size):=oi;clear dX oi;go_wp2_with fail;have hW:=TW.out.2.2
 have K1:Hid (Below w.1.size w (w1.setCell ⟨w.1.size+1+1,1,none⟩ (.slice (some ⟨W.1.size,0,none⟩) m.af.length m.af.length))/\W.1.size<(w1.setCell ⟨w.1.size+1+1,1,none⟩ (.slice (some ⟨W.1.size,0,none⟩) m.af.length m.af.length)).1.size/\fB 2 rF wW mO (w1.setCell ⟨w.1.size+1+1,1,none⟩ (.slice (some ⟨W.1.size,0,none⟩) m.af.length m.af.length)) W.1.size W.1.size m.af.length m.af gk/\Room (w1.setCell ⟨w.1.size+1+1,1,none⟩ (.slice (some ⟨W.1.size,0,none⟩) m.af.length m.af.length)) W.1.size (m.af.length*2)):=
  ⟨B1.out.1.setCell (p:=⟨w.1.size+1+1,1,none⟩) (by show w.1.size<=w.1.size+1+1;omega) _,by rw[Xq.out];exact B1.out.2.1,B1.out.2.2.1.ja mO.aj (by rw[Xq.out];exact Nat.le_refl _) (FAR.out _ _ _ _ (by omega)) (fun i hi=>FAR.out _ _ _ _ (by have:=B1.out.2.2.1.low i hi;omega)),B1.out.2.2.2.aj (FAR.out _ _ _ _ (by omega))⟩
 clear hW B1 a2 p1 f1;generalize w1.setCell ⟨w.1.size+1+1,1,none⟩ (.slice (some ⟨W.1.size,0,none⟩) m.af.length m.af.length)=X1 at *;refine(CV X1 al m.g.length cl m.g hr H.out.2.2 (H.out.1.later K1.out.1).r).mono ?_;rintro e w2 ⟨gr,rfl,b2,l2,o2,oa⟩;have t2:=T1.out.below b2
 have B2:Hid (Below w.1.size w w2/\X1.1.size<w2.1.size/\fB 4 qP yL AtR w2 X1.1.size X1.1.size m.g.length m.g gr/\Room w2 X1.1.size (m.g.length*4)/\fB 2 rF wW mO w2 W.1.size W.1.size m.af.length m.af gk/\Room w2 W.1.size (m.af.length*2)/\W.1.size<X1.1.size/\(∀i,i<m.af.length->gk i<X1.1.size)):=
  ⟨K1.out.1.trans (b2.mono K1.out.1.size),l2,o2,oa,K1.out.2.2.1.later mO.aj b2 K1.out.2.1,K1.out.2.2.2.below b2 K1.out.2.1,K1.out.2.1,K1.out.2.2.1.lt⟩
 clear b2 l2 o2 oa K1;have T2:Hid (TP w.1.size m.x (.slice al m.g.length cl) (.slice ad m.ai.length cd) (w2.setCell ⟨w.1.size+1+1,2,none⟩ (.slice (some ⟨X1.1.size,0,none⟩) m.g.length m.g.length)) (.slice (some ⟨W.1.size,0,none⟩) m.af.length m.af.length) (.slice (some ⟨X1.1.size,0,none⟩) m.g.length m.g.length) (.slice none 0 0)):=t2.set2 _;have a3:=t2.a3;have p2:=t2.o2;have f2:=t2.fo 2;clear t2 T1;go_wp2_with fail;have hW:=TW.out.2.2
 have K2:Hid (Below w.1.size w (w2.setCell ⟨w.1.size+1+1,2,none⟩ (.slice (some ⟨X1.1.size,0,none⟩) m.g.length m.g.length))/\X1.1.size<(w2.setCell ⟨w.1.size+1+1,2,none⟩ (.slice (some ⟨X1.1.size,0,none⟩) m.g.length m.g.length)).1.size/\fB 4 qP yL AtR (w2.setCell ⟨w.1.size+1+1,2,none⟩ (.slice (some ⟨X1.1.size,0,none⟩) m.g.length m.g.length)) X1.1.size X1.1.size m.g.length m.g gr/\Room (w2.setCell ⟨w.1.size+1+1,2,none⟩ (.slice (some ⟨X1.1.size,0,none⟩) m.g.length m.g.length)) X1.1.size (m.g.length*4)/\fB 2 rF wW mO (w2.setCell ⟨w.1.size+1+1,2,none⟩ (.slice (some ⟨X1.1.size,0,none⟩) m.g.length m.g.length)) W.1.size W.1.size m.af.length m.af gk/\Room (w2.setCell ⟨w.1.size+1+1,2,none⟩ (.slice (some ⟨X1.1.size,0,none⟩) m.g.length m.g.length)) W.1.size (m.af.length*2)/\W.1.size<X1.1.size/\(∀i,i<m.af.length->gk i<X1.1.size)):=by
  obtain⟨q1,q2,q3,q4,q5,q6,q7,q8⟩:=B2.out;exact⟨q1.setCell (p:=⟨w.1.size+1+1,2,none⟩) (by show w.1.size<=w.1.size+1+1;omega) _,by rw[Xq.out];exact q2,q3.ja AtR.aj (by rw[Xq.out];exact Nat.le_refl _) (FAR.out _ _ _ _ (by omega)) (fun i hi=>FAR.out _ _ _ _ (by have:=q3.low i hi;omega)),q4.aj (FAR.out _ _ _ _ (by omega)),q5.ja mO.aj (by rw[Xq.out];exact Nat.le_refl _) (FAR.out _ _ _ _ (by omega)) (fun i hi=>FAR.out _ _ _ _ (by have:=q5.low i hi;omega)),q6.aj (FAR.out _ _ _ _ (by omega)),q7,q8⟩
 clear hW B2 a3 p2 f2;generalize w2.setCell ⟨w.1.size+1+1,2,none⟩ (.slice (some ⟨X1.1.size,0,none⟩) m.g.length m.g.length)=X2 at *;refine(vU X2 ad m.ai.length cd m.ai hn (H.out.1.later K2.out.1).n).mono ?_;rintro e w3 ⟨rfl,b3,l3,o3,od⟩;have t3:=T2.out.below b3;have B3:Hid (Below w.1.size w w3/\X2.1.size<w3.1.size/\dQ w3 X2.1.size 0 m.ai/\Room w3 X2.1.size m.ai.length/\Below X2.1.size X2 w3):=⟨K2.out.1.trans (b3.mono K2.out.1.size),l3,o3,od,b3⟩
 clear b3 l3 o3 od T2;have p0:=t3.o0;have p1:=t3.o1;have p2:=t3.o2;have p3:=t3.o3;have f3:=t3.fo 3;have x0:=t3.r0;have x1:=t3.r1;have x2:=t3.r2;have x3:=t3.r3;have y0:=t3.fr 0;have y1:=t3.fr 1;have y2:=t3.fr 2;have y3:=t3.fr 3;clear t3;go_wp2;obtain⟨F,hF⟩:∃F,(((((w3.setCell ⟨w.1.size+1+1,3,none⟩ (.slice (some ⟨X2.1.size,0,none⟩) m.ai.length m.ai.length)).setCell ⟨w.1.size+1,0,none⟩ (.bool m.x)).setCell ⟨w.1.size+1,1,none⟩ (.slice (some ⟨W.1.size,0,none⟩) m.af.length m.af.length)).setCell ⟨w.1.size+1,2,none⟩ (.slice (some ⟨X1.1.size,0,none⟩) m.g.length m.g.length)).setCell ⟨w.1.size+1,3,none⟩ (.slice (some ⟨X2.1.size,0,none⟩) m.ai.length m.ai.length))=F:=⟨_,rfl⟩
 have g0:F.cell? ⟨w.1.size+1,0,none⟩=some (.bool m.x):=by
  rw[<-hF,ae (by omega),ae (by omega),ae (by omega)];exact ax (by rw[aM (by simp)];exact x0)
 have g1:F.cell? ⟨w.1.size+1,1,none⟩=some (.slice (some ⟨W.1.size,0,none⟩) m.af.length m.af.length):=by
  rw[<-hF,ae (by omega),ae (by omega)];exact ax (by rw[ae (by omega),aM (by simp)];exact x1)
 have g2:F.cell? ⟨w.1.size+1,2,none⟩=some (.slice (some ⟨X1.1.size,0,none⟩) m.g.length m.g.length):=by
  rw[<-hF,ae (by omega)];exact ax (by rw[ae (by omega),ae (by omega),aM (by simp)];exact x2)
 have g3:F.cell? ⟨w.1.size+1,3,none⟩=some (.slice (some ⟨X2.1.size,0,none⟩) m.ai.length m.ai.length):=by
  rw[<-hF];exact ax (by rw[ae (by omega),ae (by omega),ae (by omega),aM (by simp)];exact x3)
 have sF:F.1.size=w3.1.size:=by rw[<-hF];simp[World.setCell]
 have eF:∀x,x≠w.1.size+1->x≠w.1.size+1+1->F.1[x]?=w3.1[x]?:=fun x h1 h2=>by
  rw[<-hF];exact(Below.heap_setCell _ _ _ _ (fun e=>h1 e)).trans ((Below.heap_setCell _ _ _ _ (fun e=>h1 e)).trans ((Below.heap_setCell _ _ _ _ (fun e=>h1 e)).trans ((Below.heap_setCell _ _ _ _ (fun e=>h1 e)).trans (Below.heap_setCell _ _ _ _ (fun e=>h2 e)))))
 have bF:Below w.1.size w F:=by
  rw[<-hF];exact((((B3.out.1.setCell (p:=⟨w.1.size+1+1,3,none⟩) (by show w.1.size<=w.1.size+1+1;omega) _).setCell (p:=⟨w.1.size+1,0,none⟩) (by show w.1.size<=w.1.size+1;omega) _).setCell (p:=⟨w.1.size+1,1,none⟩) (by show w.1.size<=w.1.size+1;omega) _).setCell (p:=⟨w.1.size+1,2,none⟩) (by show w.1.size<=w.1.size+1;omega) _).setCell (p:=⟨w.1.size+1,3,none⟩) (by show w.1.size<=w.1.size+1;omega) _
 rw[hF];refine bodyPost_ret (v:=.agg #[.bool m.x,.slice (some ⟨W.1.size,0,none⟩) m.af.length m.af.length,.slice (some ⟨X1.1.size,0,none⟩) m.g.length m.g.length,.slice (some ⟨X2.1.size,0,none⟩) m.ai.length m.ai.length]) (by simp[results,results60,go_sem,g0,g1,g2,g3]) rfl ?_;have hW:=TW.out.2.2;obtain⟨q1,q2,q3,q4,q5,q6,q7,q8⟩:=K2.out;obtain⟨z1,z2,z3,z4,z5⟩:=B3.out
 have m1:Iy w3 (w.1.size+3) X1.1.size X2.1.size w3.1.size ⟨some ⟨W.1.size,0,none⟩,m.af.length,some ⟨X1.1.size,0,none⟩,m.g.length,some ⟨X2.1.size,0,none⟩,m.ai.length⟩ m gk gr:=
  ⟨⟨W.1.size,rfl,by omega,q7,by rw[<-hW];exact q5.later mO.aj z5 (by omega),q8,q6.below z5 (by omega)⟩,⟨X1.1.size,rfl,Nat.le_refl _,q2,q3.later AtR.aj z5 q2,q3.lt,q4.below z5 q2⟩,⟨X2.1.size,rfl,Nat.le_refl _,z2,z3,z4⟩,by omega,Nat.le_of_lt q2,Nat.le_of_lt z2,Nat.le_refl _⟩
 exact⟨⟨some ⟨W.1.size,0,none⟩,m.af.length,some ⟨X1.1.size,0,none⟩,m.g.length,some ⟨X2.1.size,0,none⟩,m.ai.length⟩,X1.1.size,X2.1.size,w3.1.size,gk,gr,rfl,m1.kept (by omega) (fun q h1 h2=>eF q (by omega) (by omega)),bF⟩
end
end Go.Proofs.YtajmlpgodcfghaaGreatDoor
