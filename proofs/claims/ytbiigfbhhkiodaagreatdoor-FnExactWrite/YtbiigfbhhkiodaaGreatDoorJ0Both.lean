import Derived.Test.YtbiigfbhhkiodaaGreatDoorRows
import Derived.Lib.QuietBelow
import Derived.WalkSpells
import Derived.WalkLawsBesides
import Derived.Stop.Asserts
import Derived.RowKitTokens
import Derived.Deep.RegionHeld
import Derived.BigQuiet
import Derived.Deep.CutRange
import Derived.Deep.Upon
import Derived.Deep.Heap
import Derived.Deep.AppendLies
set_option maxHeartbeats 16000000
set_option maxRecDepth 100000
namespace Go.Proofs.YtbiigfbhhkiodaaGreatDoor
open Go.RowKit
open Go.Sort (grow)
abbrev vI (x : Int) : Value := .int .i64 x
theorem gy {P : Program} {id : Nat} {Q : Exit → Act → World → Prop} {a : Act} {w : World} {l : List Oper} (h : wpQuiet P l.toArray (fun w' => ∃ p : Regrown, w' = grow (redrawn w p.d) p.os) (fun a' => ∀ w', (∃ p : Regrown, w' = grow (redrawn w p.d) p.os) → Q .normal a' w') l a) (hm : P.follows .mixedOrders = true := by kernel_rfl) (hB : Region.lexB .any l.toArray = true := by kernel_rfl) : (Code.region id l.toArray true).wp P Q a w := wp_region_quiet_below hm hB h
theorem jb {P : Program} {ops : Array Oper} {C : World → Prop} {R : Act → World → Prop} {a : Act} {w : World} (h : ∀ d os, R a (grow (redrawn w d) os)) : wpQuiet P ops C (fun a' => ∀ w', (∃ p : Regrown, w' = grow (redrawn w p.d) p.os) → R a' w') [] a := wpQuiet_nil (by rintro _ ⟨⟨d, os⟩, rfl⟩; exact h d os)
abbrev OA := Option Addr
abbrev sH : List Value := [vI 0, vI 0, .slice none 0 0, .slice none 0 0, .slice none 0 0, .bool false]
abbrev DV : List Value := [vI 0, vI 0, vI 0, vI 0, .slice none 0 0, .slice none 0 0, vI 0]
theorem aU {n : Nat} : n ≤ n := Nat.le_refl n
theorem aK {n : Nat} {w : World} : Below n w w := Below.refl n w
section
open Go.Proofs.Tryz
variable {a b c e f g:Prop}{α:Sort _}
theorem bO(t:α):∃Y,Y=t:=⟨_,rfl⟩
theorem uD(t:α):∃Y,t=Y:=⟨_,rfl⟩
theorem nH(x:a)(y:b)(z:c):a/\b/\c:=⟨x,y,z⟩
theorem ph{d:Prop}(x:a)(y:b)(z:c)(u:d):a/\b/\c/\d:=⟨x,y,z,u⟩
theorem YO{d:Prop}(x:a)(y:b)(z:c)(u:d)(v:e):a/\b/\c/\d/\e:=⟨x,y,z,u,v⟩
theorem tm{d:Prop}(x:a)(y:b)(z:c)(u:d)(v:e)(t:f):a/\b/\c/\d/\e/\f:=⟨x,y,z,u,v,t⟩
theorem dw(x:a)(y:b):Hid (a/\b):=⟨x,y⟩
theorem fP(x:a)(y:b)(z:c):Hid (a/\b/\c):=⟨x,y,z⟩
theorem pI{d:Prop}(x:a)(y:b)(z:c)(u:d):Hid (a/\b/\c/\d):=⟨x,y,z,u⟩
theorem nE{d:Prop}(x:a)(y:b)(z:c)(u:d)(v:e):Hid (a/\b/\c/\d/\e):=⟨x,y,z,u,v⟩
theorem wL{d:Prop}(x:a)(y:b)(z:c)(u:d)(v:e)(t:f):Hid (a/\b/\c/\d/\e/\f):=⟨x,y,z,u,v,t⟩
theorem QG{d:Prop}(x:a)(y:b)(z:c)(u:d)(v:e)(t:f)(s:g):Hid (a/\b/\c/\d/\e/\f/\g):=⟨x,y,z,u,v,t,s⟩
theorem xZ{d h:Prop}(x:a)(y:b)(z:c)(u:d)(v:e)(t:f)(s:g)(r:h):Hid (a/\b/\c/\d/\e/\f/\g/\h):=⟨x,y,z,u,v,t,s,r⟩
end
section
open Go.Proofs.Tryz
variable {B b c m o:Nat}{P:Program}{Q:Exit->Act->World->Prop}{a:Act}{ops:Array Oper}{v':Value}{w w':World}
def Room(w:World)(b m:Nat):Prop:=∀j,j<m->∃v,w.cell? ⟨b,j,none⟩=some v/\w.frozen? ⟨b,j,none⟩=false
theorem Room.below(h:Room w b m)(hb:Below B w w')(hB:b<B):Room w' b m:=fun j hj=>by
 obtain⟨v,h1,h2⟩:=h j hj;exact⟨v,by rw[hb.cell hB];exact h1,by rw[hb.frozen hB];exact h2⟩
theorem ay{v:Value}(h:w.cell? ⟨b,o,none⟩=some v):(w.setCell ⟨b,o,none⟩ v').cell? ⟨b,o,none⟩=some v':=World.cell?_setCell_same' _ _ _ (by rw[h];rfl)
theorem ae{o':Nat}(h:o'≠o):(w.setCell ⟨b,o,none⟩ v').cell? ⟨b,o',none⟩=w.cell? ⟨b,o',none⟩:=World.cell?_setCell_other _ _ _ _ (fun e=>h (by cases e;rfl))
theorem Room.set(h:Room w b m)(v:Value):Room (w.setCell ⟨b,o,none⟩ v) b m:=fun j hj=>by
 obtain⟨u,h1,h2⟩:=h j hj;refine⟨if j=o then v else u,?_,by rw[World.frozen?_setCell];exact h2⟩;by_cases e:j=o
 ·subst e;simp[ay h1]
 ·simp[e,ae e,h1]
theorem aJ{p:Addr}(hp:p.block≠b)(v:Value):(w.setCell p v).cell? ⟨b,o,none⟩=w.cell? ⟨b,o,none⟩:=World.cell?_setCell_other _ _ _ _ (fun e=>hp (by rw[e]))
theorem iF(w:World)(z:Array Value)(m:Nat)(t:TypeId):Room (w.alloc (.cells (madeCells z m) t)) w.1.size m:=fun j hj=>by
 have hz:j<(madeCells z m).size:=by rw[size_madeCells];exact hj
 exact⟨(madeCells z m)[j],by rw[World.cell?_alloc_new];exact Array.getElem?_eq_getElem hz,by simp⟩
structure aX(c:Nat)(w w':World):Prop where
 os:w'.os=w.os
 tape:w'.tape=w.tape
 output:w'.output=w.output
 size:w'.1.size=w.1.size
 block:∀k,k≠c->w'.1[k]?=w.1[k]?
theorem aX.refl(c:Nat)(w:World):aX c w w:=⟨rfl,rfl,rfl,rfl,fun _ _=>rfl⟩
theorem aX.setCell{c:Nat}{a w:World}(h:aX c a w)(o:Nat)(u:Value):aX c a (w.setCell ⟨c,o,none⟩ u):=
 ⟨h.os,h.tape,h.output,by simpa[World.setCell]using h.size,fun k hk=>(Below.heap_setCell _ _ _ _ hk).trans (h.block k hk)⟩
structure dV(c:Nat)(w w':World):Prop where
 os:w'.os=w.os
 tape:w'.tape=w.tape
 output:w'.output=w.output
 size:w.1.size<=w'.1.size
 block:∀k,k<w.1.size->k≠c->w'.1[k]?=w.1[k]?
theorem dV.refl(c:Nat)(w:World):dV c w w:=⟨rfl,rfl,rfl,Nat.le_refl _,fun _ _ _=>rfl⟩
theorem dV.trans{c:Nat}{a b d:World}(h:dV c a b)(k:dV c b d):dV c a d:=
 ⟨k.os.trans h.os,k.tape.trans h.tape,k.output.trans h.output,Nat.le_trans h.size k.size,fun i hi hc=>(k.block i (Nat.lt_of_lt_of_le hi h.size) hc).trans (h.block i hi hc)⟩
theorem dV.setCell{c:Nat}{a w:World}(h:dV c a w)(o:Nat)(u:Value):dV c a (w.setCell ⟨c,o,none⟩ u):=
 h.trans ⟨rfl,rfl,rfl,by simp[World.setCell],fun k _ hc=>Below.heap_setCell _ _ _ _ hc⟩
theorem dV.below(h:dV c w w')(hB:B<=c)(hs:B<=w.1.size):Below B w w':=
 ⟨h.os,h.tape,h.output,h.size,fun k hk=>h.block k (by omega) (by omega)⟩
theorem dV.bN{a:World}(h:dV c a w)(hb:Below w.1.size w w'):dV c a w':=
 ⟨hb.os.trans h.os,hb.tape.trans h.tape,hb.output.trans h.output,Nat.le_trans h.size hb.size,fun k hk hc=>(hb.block k (Nat.lt_of_lt_of_le hk h.size)).trans (h.block k hk hc)⟩
theorem eD(w:World){rest:List Oper}{o:Oper}(hg:o.guard=none)(s x:Operand)(t:TypeId)
  (lE:o.op=Op.call { callee:=Callee.builtin Builtin.append,args:=#[s,x],argTypes:=#[t,t] }) (v u v':Value) (w':World) (hs:a.eval s=v) (hx:a.eval x=u)
  (hr:(Builtin.append_ #[t,t] o.type #[v,u]).run P w=.ok v' w') (h:wpList P ops Q rest (a.put o.dst v') w'):wpList P ops Q (o::rest) a w:=by
 refine wpList_plain hg fun K hK=>?_
 unfold Oper.wp;simp[execOp,lE,resolve,invoke,builtin,hs,hx,hr,Result.andThen];exact hK _ _ h
theorem bJ(w:World){o:Oper}{K:Act->World->Prop}{E:Prop}(vA:o.guard=none)(s x:Operand)(t:TypeId)
  (lE:o.op=Op.call { callee:=Callee.builtin Builtin.append,args:=#[s,x],argTypes:=#[t,t] }) (v u v':Value) (w':World) (hs:a.eval s=v) (hx:a.eval x=u)
  (hr:(Builtin.append_ #[t,t] o.type #[v,u]).run P w=.ok v' w') (h:K (a.put o.dst v') w'):
  if Region.wanted o (yielded ops a.tmps)=true then Oper.wp P o a w K Q else E:=by
 have hw:Region.wanted o (yielded ops a.tmps)=true:=by simp[Region.wanted,vA]
 rw[if_pos hw];unfold Oper.wp;simp[execOp,lE,resolve,invoke,builtin,hs,hx,hr,Result.andThen];exact h
end
section
open Go.Proofs.Tryz
variable {B b j q s:Nat}{X Y:World}{cs l:List Value}{v0 v1 v2 v3 v4 v5:Value}
theorem au{A:World}(h:Below A.1.size A X)(b:Below X.1.size X Y):Below A.1.size A Y:=h.trans (b.mono h.size)
def Bx(X:World)(s:Nat)(cs:List Value):Prop:=(∀j u,cs[j]?=some u->X.cell? ⟨s,j,none⟩=some u)/\(∀j,X.frozen? ⟨s,j,none⟩=false)/\s<X.1.size
theorem Bx.aj(h:Bx X s cs)(hb:Y.1[s]?=X.1[s]?)(hs:X.1.size<=Y.1.size):Bx Y s cs:=
 ⟨fun j u e=>(World.cell?_of_block (a:=⟨s,j,none⟩) hb).trans (h.1 j u e),fun j=>(World.frozen?_of_block (a:=⟨s,j,none⟩) hb).trans (h.2.1 j),Nat.lt_of_lt_of_le h.2.2 hs⟩
theorem Bx.later(h:Bx X s cs)(hb:Below X.1.size X Y):Bx Y s cs:=h.aj (hb.block _ h.2.2) hb.size
theorem Bx.under(h:Bx X s cs)(hb:Below B X Y)(hs:s<B):Bx Y s cs:=h.aj (hb.block _ hs) hb.size
theorem Bx.dS{o:Nat}(h:Bx X s cs)(hb:s≠b)(u:Value):Bx (X.setCell ⟨b,o,none⟩ u) s cs:=h.aj (Below.heap_setCell _ _ _ _ hb) (by simp[World.setCell])
theorem Bx.set{i:Nat}(h:Bx X s cs)(hi:i<cs.length)(u:Value):Bx (X.setCell ⟨s,i,none⟩ u) s (cs.set i u):=by
 refine⟨fun j v e=>?_,fun j=>by rw[World.frozen?_setCell];exact h.2.1 j,by simpa[World.setCell]using h.2.2⟩;by_cases hj:i=j
 ·subst hj;rw[List.getElem?_set_self hi]at e;obtain rfl:=Option.some.inj e;exact ay (h.1 i _ (List.getElem?_eq_getElem hi))
 ·rw[List.getElem?_set_ne hj]at e;exact(ae (by omega)).trans (h.1 j v e)
def cO(X:World)(s:Nat):Nat->List Value->World
 | _,[]=>X
 | i,c::cs=>cO (X.setCell ⟨s,i,none⟩ c) s (i+1) cs
theorem aS(s:Nat)(cs:List Value):∀(X:World) (i:Nat),(cO X s i cs).1.size=X.1.size:=by
 induction cs with
 | nil=>intro X i;rfl
 | cons c cs ih=>intro X i;rw[cO,ih];simp[World.setCell]
theorem aO(hq:q≠s)(cs:List Value):∀(X:World) (i:Nat),(cO X s i cs).1[q]?=X.1[q]?:=by
 induction cs with
 | nil=>intro X i;rfl
 | cons c cs ih=>intro X i;rw[cO,ih];exact Below.heap_setCell _ _ _ _ hq
theorem aI{w:World}(hs:B<=s)(cs:List Value):∀(X:World) (i:Nat),Below B w X->Below B w (cO X s i cs):=by
 induction cs with
 | nil=>intro X i h;exact h
 | cons c cs ih=>intro X i h;exact ih _ _ (h.setCell (p:=⟨s,i,none⟩) hs _)
theorem Jp(cs:List Value):∀(X:World) (i:Nat),(cO X s i cs).frozen? ⟨q,j,none⟩=X.frozen? ⟨q,j,none⟩:=by
 induction cs with
 | nil=>intro X i;rfl
 | cons c cs ih=>intro X i;rw[cO,ih,World.frozen?_setCell]
theorem RH(cs:List Value):∀(X:World) (i:Nat),j<i->(cO X s i cs).cell? ⟨s,j,none⟩=X.cell? ⟨s,j,none⟩:=by
 induction cs with
 | nil=>intro X i _;rfl
 | cons c cs ih=>intro X i h;rw[cO,ih _ _ (by omega)];exact ae (by omega)
theorem zA(cs:List Value):∀(X:World) (i:Nat),(∀j,i<=j->j<i+cs.length->∃v,X.cell? ⟨s,j,none⟩=some v)->∀j u,cs[j]?=some u->(cO X s i cs).cell? ⟨s,i+j,none⟩=some u:=by
 induction cs with
 | nil=>intro X i _ j u e;simp at e
 | cons c cs ih=>
  intro X i h j u e;rw[cO];rcases j with _|j
  ·simp at e;subst e;obtain⟨v,hv⟩:=h i aU (by simp);rw[Nat.add_zero,RH _ _ _ (by omega)];exact ay hv
  ·have:=ih (X.setCell ⟨s,i,none⟩ c) (i+1) (fun j h1 h2=>by
    obtain⟨v,hv⟩:=h j (by omega) (by simp only[List.length_cons];omega)
    exact⟨v,(ae (by omega)).trans hv⟩) j u (by simpa using e)
   rwa[show i+1+j=i+(j+1) by omega]at this
theorem Bx.put{cs0:List Value}(h:Bx X s cs0)(cs:List Value)(hl:cs.length=cs0.length):Bx (cO X s 0 cs) s cs:=by
 refine⟨fun j u e=>?_,fun j=>by rw[Jp];exact h.2.1 j,by rw[aS];exact h.2.2⟩;have:=zA (s:=s) cs X 0 (fun j _ h2=>⟨_,h.1 j _ (List.getElem?_eq_getElem (by omega))⟩) j u e;rwa[Nat.zero_add]at this
theorem Bx.made(X:World)(cs:List Value)(T:TypeId):Bx (X.alloc (.cells cs.toArray T)) X.1.size cs:=⟨fun j u e=>by go_simp,fun j=>by go_simp,by simp⟩
theorem iI(w:World)(l:List Value)(T:TypeId):∃X,X=w.alloc (.cells l.toArray T)/\Below w.1.size w X/\Bx X w.1.size l/\X.1.size=w.1.size+1:=⟨_,rfl,aK.alloc aU _,Bx.made w l _,by simp⟩
theorem Bx.c2(h:Bx X b (v0::v1::l)):X.cell? ⟨b,0,none⟩=some v0/\X.cell? ⟨b,1,none⟩=some v1:=⟨h.1 0 _ rfl,h.1 1 _ rfl⟩
theorem Bx.f2(h:Bx X b l):X.frozen? ⟨b,0,none⟩=false/\X.frozen? ⟨b,1,none⟩=false:=⟨h.2.1 0,h.2.1 1⟩
theorem Bx.c3(h:Bx X b (v0::v1::v2::l)):X.cell? ⟨b,0,none⟩=some v0/\X.cell? ⟨b,1,none⟩=some v1/\X.cell? ⟨b,2,none⟩=some v2:=⟨h.1 0 _ rfl,h.1 1 _ rfl,h.1 2 _ rfl⟩
theorem Bx.f3(h:Bx X b l):X.frozen? ⟨b,0,none⟩=false/\X.frozen? ⟨b,1,none⟩=false/\X.frozen? ⟨b,2,none⟩=false:=⟨h.2.1 0,h.2.1 1,h.2.1 2⟩
theorem Bx.c4(h:Bx X b (v0::v1::v2::v3::l)):X.cell? ⟨b,0,none⟩=some v0/\X.cell? ⟨b,1,none⟩=some v1/\X.cell? ⟨b,2,none⟩=some v2/\X.cell? ⟨b,3,none⟩=some v3:=⟨h.1 0 _ rfl,h.1 1 _ rfl,h.1 2 _ rfl,h.1 3 _ rfl⟩
theorem Bx.f4(h:Bx X b l):X.frozen? ⟨b,0,none⟩=false/\X.frozen? ⟨b,1,none⟩=false/\X.frozen? ⟨b,2,none⟩=false/\X.frozen? ⟨b,3,none⟩=false:=⟨h.2.1 0,h.2.1 1,h.2.1 2,h.2.1 3⟩
theorem Bx.c5(h:Bx X b (v0::v1::v2::v3::v4::l)):X.cell? ⟨b,0,none⟩=some v0/\X.cell? ⟨b,1,none⟩=some v1/\X.cell? ⟨b,2,none⟩=some v2/\X.cell? ⟨b,3,none⟩=some v3/\X.cell? ⟨b,4,none⟩=some v4:=⟨h.1 0 _ rfl,h.1 1 _ rfl,h.1 2 _ rfl,h.1 3 _ rfl,h.1 4 _ rfl⟩
theorem Bx.f5(h:Bx X b l):X.frozen? ⟨b,0,none⟩=false/\X.frozen? ⟨b,1,none⟩=false/\X.frozen? ⟨b,2,none⟩=false/\X.frozen? ⟨b,3,none⟩=false/\X.frozen? ⟨b,4,none⟩=false:=⟨h.2.1 0,h.2.1 1,h.2.1 2,h.2.1 3,h.2.1 4⟩
theorem Bx.c6(h:Bx X b (v0::v1::v2::v3::v4::v5::l)):X.cell? ⟨b,0,none⟩=some v0/\X.cell? ⟨b,1,none⟩=some v1/\X.cell? ⟨b,2,none⟩=some v2/\X.cell? ⟨b,3,none⟩=some v3/\X.cell? ⟨b,4,none⟩=some v4/\X.cell? ⟨b,5,none⟩=some v5:=⟨h.1 0 _ rfl,h.1 1 _ rfl,h.1 2 _ rfl,h.1 3 _ rfl,h.1 4 _ rfl,h.1 5 _ rfl⟩
theorem Bx.f6(h:Bx X b l):X.frozen? ⟨b,0,none⟩=false/\X.frozen? ⟨b,1,none⟩=false/\X.frozen? ⟨b,2,none⟩=false/\X.frozen? ⟨b,3,none⟩=false/\X.frozen? ⟨b,4,none⟩=false/\X.frozen? ⟨b,5,none⟩=false:=⟨h.2.1 0,h.2.1 1,h.2.1 2,h.2.1 3,h.2.1 4,h.2.1 5⟩
theorem Bx.c7{v6:Value}(h:Bx X b (v0::v1::v2::v3::v4::v5::v6::l)):X.cell? ⟨b,0,none⟩=some v0/\X.cell? ⟨b,1,none⟩=some v1/\X.cell? ⟨b,2,none⟩=some v2/\X.cell? ⟨b,3,none⟩=some v3/\X.cell? ⟨b,4,none⟩=some v4/\X.cell? ⟨b,5,none⟩=some v5/\X.cell? ⟨b,6,none⟩=some v6:=⟨h.1 0 _ rfl,h.1 1 _ rfl,h.1 2 _ rfl,h.1 3 _ rfl,h.1 4 _ rfl,h.1 5 _ rfl,h.1 6 _ rfl⟩
theorem Bx.f7(h:Bx X b l):X.frozen? ⟨b,0,none⟩=false/\X.frozen? ⟨b,1,none⟩=false/\X.frozen? ⟨b,2,none⟩=false/\X.frozen? ⟨b,3,none⟩=false/\X.frozen? ⟨b,4,none⟩=false/\X.frozen? ⟨b,5,none⟩=false/\X.frozen? ⟨b,6,none⟩=false:=⟨h.2.1 0,h.2.1 1,h.2.1 2,h.2.1 3,h.2.1 4,h.2.1 5,h.2.1 6⟩
end
section
open Go.Proofs.Tryz
open Go.RowKit Go.Extern.Stop Go.Stop Go.Extern
theorem um(P:Program)(t:Nat)(cs:List Value):∀(W:World) (i:Nat),(∀u∈cs,u.oneCell'=true)->(∀j,i<=j->j<i+cs.length->(∃v,W.cell? ⟨t,j,none⟩=some v)/\W.frozen? ⟨t,j,none⟩=false)->(storeCells ⟨t,0,none⟩ cs i).run P W=.ok () (cO W t i cs):=by
 induction cs with
 | nil=>intro W i _ _;rfl
 | cons c cs ih=>
  intro W i h1 h2;obtain⟨⟨v,hv⟩,hf⟩:=h2 i aU (by simp);have vN:(⟨t,0,none⟩:Addr).add i=⟨t,i,none⟩:=by unfold Addr.add;split<;>simp_all
  have fq:(store ⟨t,i,none⟩ c).run P W=.ok () (W.setCell ⟨t,i,none⟩ c):=by
   rw[run_store P W ⟨t,i,none⟩ c _ (h1 c (by simp))];simp[hv,hf]
  have hr:=ih (W.setCell ⟨t,i,none⟩ c) (i+1) (fun u hu=>h1 u (by simp[hu])) (fun j hj hl=>by
   obtain⟨⟨v',xF⟩,vu⟩:=h2 j (by omega) (by simp only[List.length_cons];omega)
   exact⟨⟨v',(ae (by omega)).trans xF⟩,by rw[World.frozen?_setCell];exact vu⟩)
  rw[storeCells,vN,Sem.run_bind,fq];simp only[Result.andThen];rw[hr,cO]
theorem run_loadCellsFrom(P:Program)(b:Nat)(W:World)(cs:List Value):∀(i:Nat) (acc:Array Value),(∀j u,cs[j]?=some u->W.cell? ⟨b,i+j,none⟩=some u)->(loadCellsFrom ⟨b,0,none⟩ i cs.length acc).run P W=.ok (acc++cs.toArray) W:=by
 induction cs with
 | nil=>intro i acc _;simp[loadCellsFrom]
 | cons c cs ih=>
  intro i acc h;have vN:(⟨b,0,none⟩:Addr).add i=⟨b,i,none⟩:=by unfold Addr.add;split<;>simp_all
  have h0:W.cell? ⟨b,i,none⟩=some c:=by simpa using h 0 c rfl
  have hl:(load ⟨b,i,none⟩).run P W=.ok c W:=by simp[h0]
  have hr:=ih (i+1) (acc.push c) (fun j u hu=>by have:=h (j+1) u (by simpa using hu);rwa[show i+(j+1)=i+1+j by omega]at this);rw[List.length_cons,loadCellsFrom,vN,Sem.run_bind,hl];simp only[Result.andThen];rw[hr];simp
theorem run_loadCells(P:Program)(b:Nat)(W:World)(cs:List Value)(h:∀j u,cs[j]?=some u->W.cell? ⟨b,j,none⟩=some u):(loadCells ⟨b,0,none⟩ cs.length).run P W=.ok cs.toArray W:=by
 have:=run_loadCellsFrom P b W cs 0 #[] (fun j u hu=>by rw[Nat.zero_add];exact h j u hu);rw[loadCells,this];simp
namespace ea
def hd(t:Nat):Value:=.pointer (some ⟨1,t,none⟩)
theorem CG(h:Value)(w:World):(Go.method 458 244 (.agg #[h]) "Kind").run prog w=.ok (293,h) w:=by kernel_rfl
theorem CF(h:Value)(w:World):(Go.method 458 244 (.agg #[h]) "Elem").run prog w=.ok (307,.agg #[h]) w:=by kernel_rfl
theorem pY(h:Value)(w:World):(Go.method 458 244 (.agg #[h]) "Implements").run prog w=.ok (308,.agg #[h]) w:=by kernel_rfl
theorem ny(h:Value)(w:World):(Go.method 458 244 (.agg #[h]) "AssignableTo").run prog w=.ok (305,.agg #[h]) w:=by kernel_rfl
theorem eK(z:Sem Value)(f:TypeId->Addr->Nat->Nat->Sem Value)(v:Value):
  ReflectliteValue.method z f #[v]=(do match <-ReflectliteValue.parts v with|none=>z|some (t,a,fl)=>f t a fl (fl%32)):=rfl
theorem sc(v x:Value):ReflectliteValue.set #[v,x]=(do
  let (some (dst,a,fl),some (src,b,_)):=(<-ReflectliteValue.parts v,<-ReflectliteValue.parts x)
   | unsupported (.noEntry "extern/(internal/reflectlite.Value).Set.zeroValue")
  if fl/ReflectliteValue.flagAddr%2==0 then unsupported (.noEntry "extern/(internal/reflectlite.Value).Set.unaddressable")
  let val <-loadVar src b
  if <-Rtype.directlyAssignable dst src then storeVar dst a val
  else if <-Rtype.implements dst src then
   if (<-Rtype.kind src)==20 then
    match val with
    | .nilIface=>unsupported (.noEntry "extern/reflectlite: a nil value of one interface type handed on as a value of another")
    | _=>storeVar dst a val
   else storeVar dst a (.iface src val)
  else panicString ("reflectlite.Set: value of type "++(<-Rtype.spelt src) ++ " is not assignable to type "++(<-Rtype.spelt dst))
  pure (.tuple #[])):=rfl
theorem Ps(t:Addr)(w:World):(ReflectliteValue.unpack (.iface 159 (.pointer (some t)))).run prog w
  = .ok (.agg #[.pointer (some ⟨1,159,none⟩),.pointer (some ⟨w.1.size,0,none⟩),.int .u64 150]) (w.alloc (.cells #[.pointer (some t)] 159)):=by kernel_rfl
theorem X4(a:Addr)(w:World):(ReflectliteValue.methodAny (ReflectliteValue.valueError "reflectlite.Value.Type" 0) (fun t _ _ _=>ReflectliteType.toType t) #[.agg #[.pointer (some ⟨1,159,none⟩),.pointer (some a),.int .u64 150]]).run prog w
  = .ok (.iface 244 (.agg #[.pointer (some ⟨1,159,none⟩)])) w:=by kernel_rfl
theorem Xq(w:World):((ReflectliteType.abiMethod fun t=>(fun a:Nat=>Value.int IntKind.u8 (a:Int)) <$> Rtype.kind t) #[.pointer (some ⟨1,159,none⟩)]).run prog w=.ok (.int .u8 22) w:=by kernel_rfl
theorem Z4(w:World):((ReflectliteType.abiMethod fun t=>(fun a:Nat=>Value.int IntKind.u8 (a:Int)) <$> Rtype.kind t) #[.pointer (some ⟨1,157,none⟩)]).run prog w=.ok (.int .u8 25) w:=by kernel_rfl
theorem Nf(a:Addr)(w:World):(ReflectliteValue.parts (.agg #[.pointer (some ⟨1,159,none⟩),.pointer (some a),.int .u64 150])).run prog w=.ok (some (159,a,150)) w:=by kernel_rfl
theorem Ua(a p:Addr)(W:World)(ha:W.cell? a=some (.pointer (some p))):
  (ReflectliteValue.method (ReflectliteValue.valueError "reflectlite.Value.IsNil" 0) ReflectliteValue.isNil #[.agg #[.pointer (some ⟨1,159,none⟩),.pointer (some a),.int .u64 150]]).run prog W=.ok (.bool false) W:=by
 rw[eK];simp only[Sem.run_bind,Nf,Result.andThen];simp[ReflectliteValue.isNil,loadVar,isAgg,underlying,underlying159,ha,Result.andThen]
theorem Wi(w:World):(ReflectliteType.method ReflectliteType.elem #[.agg #[.pointer (some ⟨1,159,none⟩)]]).run prog w=.ok (.iface 244 (.agg #[.pointer (some ⟨1,157,none⟩)])) w:=by kernel_rfl
theorem IX(w:World):(ReflectliteType.relation "Implements" ReflectliteType.implements_ #[.agg #[.pointer (some ⟨1,157,none⟩)],.iface 244 (.agg #[.pointer (some ⟨1,154,none⟩)])]).run prog w=.ok (.bool true) w:=by kernel_rfl
theorem Nt(v:Value)(w:World):(ReflectliteType.typeOf #[.iface 157 v]).run prog w=.ok (.iface 244 (.agg #[.pointer (some ⟨1,157,none⟩)])) w:=by kernel_rfl
theorem Ht(w:World):(ReflectliteType.relation "AssignableTo" ReflectliteType.assignableTo #[.agg #[.pointer (some ⟨1,157,none⟩)],.iface 244 (.agg #[.pointer (some ⟨1,157,none⟩)])]).run prog w=.ok (.bool true) w:=by kernel_rfl
theorem Qv(w:World):(Rtype.elem? 159).run prog w=.ok (some 157) w:=by kernel_rfl
theorem M9(p:Addr)(w:World):(ReflectliteValue.mk 157 p ReflectliteValue.flagAddr).run prog w=.ok (.agg #[.pointer (some ⟨1,157,none⟩),.pointer (some p),.int .u64 409]) w:=by kernel_rfl
theorem Tv(a p:Addr)(W:World)(ha:W.cell? a=some (.pointer (some p))):
  (ReflectliteValue.method (ReflectliteValue.valueError "reflectlite.Value.Elem" 0) ReflectliteValue.elem #[.agg #[.pointer (some ⟨1,159,none⟩),.pointer (some a),.int .u64 150]]).run prog W
   = .ok (.agg #[.pointer (some ⟨1,157,none⟩),.pointer (some p),.int .u64 409]) W:=by
 rw[eK];simp only[Sem.run_bind,Nf,Result.andThen];simp[ReflectliteValue.elem,loadVar,isAgg,underlying,underlying159,ha,Result.andThen,Qv,M9]
theorem UC(a:Addr)(w:World):(ReflectliteValue.parts (.agg #[.pointer (some ⟨1,157,none⟩),.pointer (some a),.int .u64 409])).run prog w=.ok (some (157,a,409)) w:=by kernel_rfl
theorem XL(a:Addr)(w:World):(ReflectliteValue.parts (.agg #[.pointer (some ⟨1,157,none⟩),.pointer (some a),.int .u64 153])).run prog w=.ok (some (157,a,153)) w:=by kernel_rfl
theorem Tt(w:World):(Rtype.directlyAssignable 157 157).run prog w=.ok true w:=by kernel_rfl
theorem Pq(t:Addr)(w:World):(ReflectliteValue.unpack (.iface 160 (.pointer (some t)))).run prog w
  = .ok (.agg #[.pointer (some ⟨1,160,none⟩),.pointer (some ⟨w.1.size,0,none⟩),.int .u64 150]) (w.alloc (.cells #[.pointer (some t)] 160)):=by kernel_rfl
theorem XZ(a:Addr)(w:World):(ReflectliteValue.methodAny (ReflectliteValue.valueError "reflectlite.Value.Type" 0) (fun t _ _ _=>ReflectliteType.toType t) #[.agg #[.pointer (some ⟨1,160,none⟩),.pointer (some a),.int .u64 150]]).run prog w
  = .ok (.iface 244 (.agg #[.pointer (some ⟨1,160,none⟩)])) w:=by kernel_rfl
theorem Xp(w:World):((ReflectliteType.abiMethod fun t=>(fun a:Nat=>Value.int IntKind.u8 (a:Int)) <$> Rtype.kind t) #[.pointer (some ⟨1,160,none⟩)]).run prog w=.ok (.int .u8 22) w:=by kernel_rfl
theorem ZY(w:World):((ReflectliteType.abiMethod fun t=>(fun a:Nat=>Value.int IntKind.u8 (a:Int)) <$> Rtype.kind t) #[.pointer (some ⟨1,67,none⟩)]).run prog w=.ok (.int .u8 6) w:=by kernel_rfl
theorem Nc(a:Addr)(w:World):(ReflectliteValue.parts (.agg #[.pointer (some ⟨1,160,none⟩),.pointer (some a),.int .u64 150])).run prog w=.ok (some (160,a,150)) w:=by kernel_rfl
theorem T9(a p:Addr)(W:World)(ha:W.cell? a=some (.pointer (some p))):
  (ReflectliteValue.method (ReflectliteValue.valueError "reflectlite.Value.IsNil" 0) ReflectliteValue.isNil #[.agg #[.pointer (some ⟨1,160,none⟩),.pointer (some a),.int .u64 150]]).run prog W=.ok (.bool false) W:=by
 rw[eK];simp only[Sem.run_bind,Nc,Result.andThen];simp[ReflectliteValue.isNil,loadVar,isAgg,underlying,underlying160,ha,Result.andThen]
theorem Wh(w:World):(ReflectliteType.method ReflectliteType.elem #[.agg #[.pointer (some ⟨1,160,none⟩)]]).run prog w=.ok (.iface 244 (.agg #[.pointer (some ⟨1,67,none⟩)])) w:=by kernel_rfl
theorem IW(w:World):(ReflectliteType.relation "Implements" ReflectliteType.implements_ #[.agg #[.pointer (some ⟨1,67,none⟩)],.iface 244 (.agg #[.pointer (some ⟨1,154,none⟩)])]).run prog w=.ok (.bool true) w:=by kernel_rfl
theorem UK(v:Value)(w:World):(ReflectliteType.typeOf #[.iface 67 v]).run prog w=.ok (.iface 244 (.agg #[.pointer (some ⟨1,67,none⟩)])) w:=by kernel_rfl
theorem Hr(w:World):(ReflectliteType.relation "AssignableTo" ReflectliteType.assignableTo #[.agg #[.pointer (some ⟨1,67,none⟩)],.iface 244 (.agg #[.pointer (some ⟨1,67,none⟩)])]).run prog w=.ok (.bool true) w:=by kernel_rfl
theorem Qu(w:World):(Rtype.elem? 160).run prog w=.ok (some 67) w:=by kernel_rfl
theorem Uc(p:Addr)(w:World):(ReflectliteValue.mk 67 p ReflectliteValue.flagAddr).run prog w=.ok (.agg #[.pointer (some ⟨1,67,none⟩),.pointer (some p),.int .u64 390]) w:=by kernel_rfl
theorem Tu(a p:Addr)(W:World)(ha:W.cell? a=some (.pointer (some p))):
  (ReflectliteValue.method (ReflectliteValue.valueError "reflectlite.Value.Elem" 0) ReflectliteValue.elem #[.agg #[.pointer (some ⟨1,160,none⟩),.pointer (some a),.int .u64 150]]).run prog W
   = .ok (.agg #[.pointer (some ⟨1,67,none⟩),.pointer (some p),.int .u64 390]) W:=by
 rw[eK];simp only[Sem.run_bind,Nc,Result.andThen];simp[ReflectliteValue.elem,loadVar,isAgg,underlying,underlying160,ha,Result.andThen,Qu,Uc]
theorem UB(a:Addr)(w:World):(ReflectliteValue.parts (.agg #[.pointer (some ⟨1,67,none⟩),.pointer (some a),.int .u64 390])).run prog w=.ok (some (67,a,390)) w:=by kernel_rfl
theorem XK(a:Addr)(w:World):(ReflectliteValue.parts (.agg #[.pointer (some ⟨1,67,none⟩),.pointer (some a),.int .u64 134])).run prog w=.ok (some (67,a,134)) w:=by kernel_rfl
theorem Tq(w:World):(Rtype.directlyAssignable 67 67).run prog w=.ok true w:=by kernel_rfl
theorem FP(w:World):(ReflectliteType.relation "AssignableTo" ReflectliteType.assignableTo #[.agg #[.pointer (some ⟨1,157,none⟩)],.iface 244 (.agg #[.pointer (some ⟨1,67,none⟩)])]).run prog w=.ok (.bool false) w:=by kernel_rfl
theorem VC(w:World):(sizeOf 157).run prog w=.ok 7 w:=by kernel_rfl
theorem cf(w:World):(sizeOf 67).run prog w=.ok 1 w:=by kernel_rfl
theorem Xo(w:World):(isAgg 157).run prog w=.ok true w:=by kernel_rfl
theorem Xn(w:World):(isAgg 67).run prog w=.ok false w:=by kernel_rfl
theorem R9(y0 y1 y2 y3 y4 y5 y6:Value)(w:World):(ReflectliteValue.unpack (.iface 157 (.agg #[y0,y1,y2,y3,y4,y5,y6]))).run prog w
  = .ok (.agg #[.pointer (some ⟨1,157,none⟩),.pointer (some ⟨w.1.size,0,none⟩),.int .u64 153]) (w.alloc (.cells #[y0,y1,y2,y3,y4,y5,y6] 157)):=by kernel_rfl
theorem R8(n:Int)(w:World):(ReflectliteValue.unpack (.iface 67 (vI n))).run prog w
  = .ok (.agg #[.pointer (some ⟨1,67,none⟩),.pointer (some ⟨w.1.size,0,none⟩),.int .u64 134]) (w.alloc (.cells #[vI n] 67)):=by kernel_rfl
theorem RS(t b:Nat)(ys old:List Value)(W:World)(h7:ys.length=7)(h1:∀u∈ys,u.oneCell'=true)(hb:Bx W b ys)(ho:old.length=7)(ht:Bx W t old):
  (ReflectliteValue.set #[.agg #[.pointer (some ⟨1,157,none⟩),.pointer (some ⟨t,0,none⟩),.int .u64 409],.agg #[.pointer (some ⟨1,157,none⟩),.pointer (some ⟨b,0,none⟩),.int .u64 153]]).run prog W
   = .ok (.tuple #[]) (cO W t 0 ys):=by
 have hl:(loadVar 157 ⟨b,0,none⟩).run prog W=.ok (.agg ys.toArray) W:=by
  have:=run_loadCells prog b W ys hb.1;rw[h7]at this;rw[loadVar,Sem.run_bind,Xo];simp only[Result.andThen,if_true];rw[Sem.run_bind,VC];simp only[Result.andThen];rw[Sem.run_bind,this];rfl
 have hs:(storeVar 157 ⟨t,0,none⟩ (.agg ys.toArray)).run prog W=.ok () (cO W t 0 ys):=by
  have:=um prog t ys W 0 h1 (fun j _ hj=>⟨⟨_,ht.1 j _ (List.getElem?_eq_getElem (by omega))⟩,ht.2.1 j⟩);rw[storeVar,Sem.run_bind,VC];simp only[Result.andThen,Value.cells];simpa[h7]using this
 rw[sc];simp only[Sem.run_bind,UC,XL,Result.andThen];simp[ReflectliteValue.flagAddr,hl,Result.andThen,Tt,hs]
theorem nr(t b:Nat)(n:Int)(old:Value)(W:World)(hb:W.cell? ⟨b,0,none⟩=some (vI n))(ht:W.cell? ⟨t,0,none⟩=some old)(hf:W.frozen? ⟨t,0,none⟩=false):
  (ReflectliteValue.set #[.agg #[.pointer (some ⟨1,67,none⟩),.pointer (some ⟨t,0,none⟩),.int .u64 390],.agg #[.pointer (some ⟨1,67,none⟩),.pointer (some ⟨b,0,none⟩),.int .u64 134]]).run prog W
   = .ok (.tuple #[]) (W.setCell ⟨t,0,none⟩ (vI n)):=by
 have hl:(loadVar 67 ⟨b,0,none⟩).run prog W=.ok (vI n) W:=by
  rw[loadVar,Sem.run_bind,Xn];simp[Result.andThen,hb]
 have hs:(storeVar 67 ⟨t,0,none⟩ (vI n)).run prog W=.ok () (W.setCell ⟨t,0,none⟩ (vI n)):=by
  have:=um prog t [vI n] W 0 (fun u hu=>by simp at hu;subst hu;rfl) (fun j _ hj=>by
   obtain rfl:j=0:=by simp at hj;omega
   exact⟨⟨_,ht⟩,hf⟩)
  rw[storeVar,Sem.run_bind,cf];simp only[Result.andThen,Value.cells];simpa[cO]using this
 rw[sc];simp only[Sem.run_bind,UB,XK,Result.andThen];simp[ReflectliteValue.flagAddr,hl,Result.andThen,Tq,hs]
end ea
end
section
open Go.Proofs.Tryz
open Go.RowKit Go.Extern.Stop Go.Stop Go.Extern
namespace ea
theorem fX(t:Nat)(y0 y1 y2 y3 y4 y5 y6:Value)(old:List Value)(w:World)(hg:w.cell? ⟨0,0,none⟩=some (.iface 244 (.agg #[.pointer (some ⟨1,154,none⟩)])))(h1:∀u∈[y0,y1,y2,y3,y4,y5,y6],u.oneCell'=true)(ho:old.length=7)(ht:Bx w t old):
  Calls prog 105 #[.iface 157 (.agg #[y0,y1,y2,y3,y4,y5,y6]),.iface 159 (.pointer (some ⟨t,0,none⟩))] w fun ev w'=>ev=.returned (.bool true)/\w'=cO ((((w.alloc (.cells #[.pointer (some ⟨t,0,none⟩)] 159)).alloc (.cells #[.pointer (some ⟨1,159,none⟩),.pointer (some ⟨w.1.size,0,none⟩),.int .u64 150] 212)).alloc (.cells #[.pointer (some ⟨1,159,none⟩),.pointer (some ⟨w.1.size,0,none⟩),.int .u64 150] 212)).alloc (.cells #[y0,y1,y2,y3,y4,y5,y6] 157)) t 0 [y0,y1,y2,y3,y4,y5,y6]:=by
 have h6:=@run_callFunc_extern prog 142 _ (fun args=>ReflectliteValue.unpack (args.getD 0 (.tuple #[]))) func142 (by kernel_rfl) (by kernel_rfl) (by kernel_rfl) (by kernel_rfl)
 have h7:=@run_callFunc_extern prog 143 _ (ReflectliteValue.methodAny (ReflectliteValue.valueError "reflectlite.Value.Type" 0) (fun t _ _ _=>ReflectliteType.toType t)) func143 (by kernel_rfl) (by kernel_rfl) (by kernel_rfl) (by kernel_rfl)
 have h8:=@run_callFunc_extern prog 144 _ (ReflectliteValue.method (ReflectliteValue.valueError "reflectlite.Value.IsNil" 0) ReflectliteValue.isNil) func144 (by kernel_rfl) (by kernel_rfl) (by kernel_rfl) (by kernel_rfl)
 have ub:=@run_callFunc_extern prog 293 _ (ReflectliteType.abiMethod fun t=>do pure (.int .u8 (<-Rtype.kind t))) func293 (by kernel_rfl) (by kernel_rfl) (by kernel_rfl) (by kernel_rfl);have ue:=@run_callFunc_extern prog 307 _ (ReflectliteType.method ReflectliteType.elem) func307 (by kernel_rfl) (by kernel_rfl) (by kernel_rfl) (by kernel_rfl)
 have ur:=@run_callFunc_extern prog 308 _ (ReflectliteType.relation "Implements" ReflectliteType.implements_) func308 (by kernel_rfl) (by kernel_rfl) (by kernel_rfl) (by kernel_rfl)
 have gx:=@run_callFunc_extern prog 171 _ ReflectliteType.typeOf func171 (by kernel_rfl) (by kernel_rfl) (by kernel_rfl) (by kernel_rfl)
 have ud:=@run_callFunc_extern prog 305 _ (ReflectliteType.relation "AssignableTo" ReflectliteType.assignableTo) func305 (by kernel_rfl) (by kernel_rfl) (by kernel_rfl) (by kernel_rfl)
 have de:=@run_callFunc_extern prog 172 _ (ReflectliteValue.method (ReflectliteValue.valueError "reflectlite.Value.Elem" 0) ReflectliteValue.elem) func172 (by kernel_rfl) (by kernel_rfl) (by kernel_rfl) (by kernel_rfl)
 have wJ:=@run_callFunc_extern prog 173 _ ReflectliteValue.set func173 (by kernel_rfl) (by kernel_rfl) (by kernel_rfl) (by kernel_rfl);have tO:=Nt;have mA:=ny;have a25:=Ht;have v25:=R9 y0 y1 y2 y3 y4 y5 y6;have f6:=Ps;have f7:=X4;have mK:=CG;have mE:=CF;have mI:=pY;have k27:=Xq;have k25:=Z4;have e27:=Wi;have i25:=IX;obtain⟨V1,lL,b1,-,s1⟩:=iI w [.pointer (some ⟨t,0,none⟩)] 159;have c1:V1.cell? ⟨w.1.size,0,none⟩=some (.pointer (some ⟨t,0,none⟩)):=by rw[lL];simp
 obtain⟨V2,Ah,b2,-,s2⟩:=iI V1 [.pointer (some ⟨1,159,none⟩),.pointer (some ⟨w.1.size,0,none⟩),.int .u64 150] 212;obtain⟨V3,EX,b3,-,s3⟩:=iI V2 [.pointer (some ⟨1,159,none⟩),.pointer (some ⟨w.1.size,0,none⟩),.int .u64 150] 212;obtain⟨V4,Ga,b4,x4,-⟩:=iI V3 [y0,y1,y2,y3,y4,y5,y6] 157
 have aN:0<w.1.size:=by
  rcases Nat.eq_zero_or_pos w.1.size with h0|h
  ·simp[World.cell?,h0]at hg
  ·exact h
 have IA:V2.cell? ⟨0,0,none⟩=some (.iface 244 (.agg #[.pointer (some ⟨1,154,none⟩)])):=(b2.cell (p:=⟨0,0,none⟩) (by show 0<V1.1.size;omega)).trans ((b1.cell (p:=⟨0,0,none⟩) aN).trans hg);have n8:=Ua ⟨w.1.size,0,none⟩ ⟨t,0,none⟩ V2 ((b2.cell (p:=⟨w.1.size,0,none⟩) (by show w.1.size<V1.1.size;omega)).trans c1);have el:=Tv ⟨w.1.size,0,none⟩ ⟨t,0,none⟩ V3 ((b3.cell (p:=⟨w.1.size,0,none⟩) (by show w.1.size<V2.1.size;omega)).trans ((b2.cell (p:=⟨w.1.size,0,none⟩) (by show w.1.size<V1.1.size;omega)).trans c1));have st:=RS t V3.1.size [y0,y1,y2,y3,y4,y5,y6] old V4 rfl h1 x4 ho ((((ht.later b1).later b2).later b3).later b4);rw[show V3.1.size=w.1.size+1+1+1 by omega]at st;rw[Ga,EX,Ah,lL]at st;rw[EX,Ah,lL]at el;rw[Ah,lL]at n8 IA;clear b1 s1 c1 b2 s2 b3 s3 b4 x4 lL Ah EX Ga V1 V2 V3 V4 ht h1 ho;go_enter func105,ntmps105;go_wp2;refine wp_loop_rounds 1 ?_;rw[rounds_succ];go_wp2;go_ret;exact⟨rfl,rfl⟩
end ea
end
section
open Go.Proofs.Tryz
open Go.RowKit Go.Extern.Stop Go.Stop Go.Extern
namespace ea
theorem tt:prog.underlying 249=some (.interface #[("As",251)]):=by kernel_rfl
theorem UL:prog.underlying 252=some (.interface #[("Unwrap",253)]):=by kernel_rfl
theorem Wj:prog.underlying 154=some (.interface #[("Error",328)]):=by kernel_rfl
theorem Gp(v:Value)(w:World):(Go.method 458 157 v "Unwrap").run prog w=.ok (298,v) w:=by kernel_rfl
theorem fW(t:Nat)(n:Int)(y1 y2 y3 y4 y5 y6 old:Value)(w:World)(hg:w.cell? ⟨0,0,none⟩=some (.iface 244 (.agg #[.pointer (some ⟨1,154,none⟩)])))(ht:w.cell? ⟨t,0,none⟩=some old)(hf:w.frozen? ⟨t,0,none⟩=false)(TM:t<w.1.size):
  Calls prog 105 #[.iface 157 (.agg #[.iface 67 (vI n),y1,y2,y3,y4,y5,y6]),.iface 160 (.pointer (some ⟨t,0,none⟩))] w fun ev w'=>ev=.returned (.bool true)/\w'=(((((w.alloc (.cells #[.pointer (some ⟨t,0,none⟩)] 160)).alloc (.cells #[.pointer (some ⟨1,160,none⟩),.pointer (some ⟨w.1.size,0,none⟩),.int .u64 150] 212)).alloc (.cells #[.pointer (some ⟨1,160,none⟩),.pointer (some ⟨w.1.size,0,none⟩),.int .u64 150] 212)).alloc (.cells #[.iface 67 (vI n),y1,y2,y3,y4,y5,y6] 157)).alloc (.cells #[vI n] 67)).setCell ⟨t,0,none⟩ (vI n):=by
 have h6:=@run_callFunc_extern prog 142 _ (fun args=>ReflectliteValue.unpack (args.getD 0 (.tuple #[]))) func142 (by kernel_rfl) (by kernel_rfl) (by kernel_rfl) (by kernel_rfl)
 have h7:=@run_callFunc_extern prog 143 _ (ReflectliteValue.methodAny (ReflectliteValue.valueError "reflectlite.Value.Type" 0) (fun t _ _ _=>ReflectliteType.toType t)) func143 (by kernel_rfl) (by kernel_rfl) (by kernel_rfl) (by kernel_rfl)
 have h8:=@run_callFunc_extern prog 144 _ (ReflectliteValue.method (ReflectliteValue.valueError "reflectlite.Value.IsNil" 0) ReflectliteValue.isNil) func144 (by kernel_rfl) (by kernel_rfl) (by kernel_rfl) (by kernel_rfl)
 have ub:=@run_callFunc_extern prog 293 _ (ReflectliteType.abiMethod fun t=>do pure (.int .u8 (<-Rtype.kind t))) func293 (by kernel_rfl) (by kernel_rfl) (by kernel_rfl) (by kernel_rfl);have ue:=@run_callFunc_extern prog 307 _ (ReflectliteType.method ReflectliteType.elem) func307 (by kernel_rfl) (by kernel_rfl) (by kernel_rfl) (by kernel_rfl)
 have ur:=@run_callFunc_extern prog 308 _ (ReflectliteType.relation "Implements" ReflectliteType.implements_) func308 (by kernel_rfl) (by kernel_rfl) (by kernel_rfl) (by kernel_rfl)
 have gx:=@run_callFunc_extern prog 171 _ ReflectliteType.typeOf func171 (by kernel_rfl) (by kernel_rfl) (by kernel_rfl) (by kernel_rfl)
 have ud:=@run_callFunc_extern prog 305 _ (ReflectliteType.relation "AssignableTo" ReflectliteType.assignableTo) func305 (by kernel_rfl) (by kernel_rfl) (by kernel_rfl) (by kernel_rfl)
 have de:=@run_callFunc_extern prog 172 _ (ReflectliteValue.method (ReflectliteValue.valueError "reflectlite.Value.Elem" 0) ReflectliteValue.elem) func172 (by kernel_rfl) (by kernel_rfl) (by kernel_rfl) (by kernel_rfl)
 have wJ:=@run_callFunc_extern prog 173 _ ReflectliteValue.set func173 (by kernel_rfl) (by kernel_rfl) (by kernel_rfl) (by kernel_rfl);have tO:=Nt;have tC:=UK;have mA:=ny;have An:=FP;have aC:=Hr;have vC:=R8 n;have f6:=Pq;have f7:=XZ;have mK:=CG;have mE:=CF;have mI:=pY;have mU:=Gp;have k27:=Xp;have k25:=ZY;have e27:=Wh;have i25:=IW;have tA:∀(v:Value) (w:World),(Instr.typeAssert (.iface 157 v) 154 249 true).run prog w=.ok (.tuple #[.nilIface,.bool false]) w:=fun v w=>run_typeAssert_lacksB tt (by kernel_rfl) (by kernel_rfl) _ _ w
 have tU:∀(v:Value) (w:World),(Instr.typeAssert (.iface 157 v) 154 252 true).run prog w=.ok (.tuple #[.iface 157 v,.bool true]) w:=fun v w=>run_typeAssert_hasB UL (by kernel_rfl) _ _ w
 obtain⟨V1,lL,b1,-,s1⟩:=iI w [.pointer (some ⟨t,0,none⟩)] 160;have c1:V1.cell? ⟨w.1.size,0,none⟩=some (.pointer (some ⟨t,0,none⟩)):=by rw[lL];simp
 obtain⟨V2,Ah,b2,-,s2⟩:=iI V1 [.pointer (some ⟨1,160,none⟩),.pointer (some ⟨w.1.size,0,none⟩),.int .u64 150] 212;obtain⟨V3,EX,b3,-,s3⟩:=iI V2 [.pointer (some ⟨1,160,none⟩),.pointer (some ⟨w.1.size,0,none⟩),.int .u64 150] 212;obtain⟨V4,Ga,b4,-,s4⟩:=iI V3 [.iface 67 (vI n),y1,y2,y3,y4,y5,y6] 157;obtain⟨V5,UY⟩:=bO (V4.alloc (.cells #[vI n] 67));have b5:Below V4.1.size V4 V5:=by rw[UY];exact aK.alloc aU _
 have c5:V5.cell? ⟨V4.1.size,0,none⟩=some (vI n):=by rw[UY];simp
 have aN:0<w.1.size:=by omega
 have IA:V2.cell? ⟨0,0,none⟩=some (.iface 244 (.agg #[.pointer (some ⟨1,154,none⟩)])):=(b2.cell (p:=⟨0,0,none⟩) (by show 0<V1.1.size;omega)).trans ((b1.cell (p:=⟨0,0,none⟩) aN).trans hg);have q2:=(b2.cell (p:=⟨w.1.size,0,none⟩) (by show w.1.size<V1.1.size;omega)).trans c1;have q3:=(b3.cell (p:=⟨w.1.size,0,none⟩) (by show w.1.size<V2.1.size;omega)).trans q2;have q4:=(b4.cell (p:=⟨w.1.size,0,none⟩) (by show w.1.size<V3.1.size;omega)).trans q3;have n8:=T9 ⟨w.1.size,0,none⟩ ⟨t,0,none⟩ V2 q2;have el:=Tu ⟨w.1.size,0,none⟩ ⟨t,0,none⟩ V4 q4;have b15:=au (au (au (au b1 b2) b3) b4) b5;have st:=nr t V4.1.size n old V5 c5 ((b15.cell (p:=⟨t,0,none⟩) TM).trans ht) ((World.frozen?_of_block (a:=⟨t,0,none⟩) (b15.block t TM)).trans hf);rw[show V4.1.size=w.1.size+1+1+1+1 by omega]at st;rw[UY,Ga,EX,Ah,lL]at st;rw[Ga,EX,Ah,lL]at el;rw[Ah,lL]at n8 IA;clear b1 s1 c1 b2 s2 b3 s3 b4 s4 b5 c5 b15 q2 q3 q4 lL Ah EX Ga UY V1 V2 V3 V4 V5 ht hf;go_enter func105,ntmps105;go_wp2;refine wp_loop_rounds 2 ?_;rw[rounds_succ];go_wp2;rw[rounds_succ];go_wp2;go_ret;exact⟨rfl,rfl⟩
end ea
end
section
open Go.Proofs.Tryz
variable {P:Program}{Q:Exit->Act->World->Prop}{a:Act}{f i s:Nat}{md:Region.Mode}{o:Oper}{ops:Array Oper}{rs:List Nat}{v:Value}{w:World}
def ja(P:Program)(md:Region.Mode)(ops:Array Oper)(Q:Exit->Act->World->Prop)(S:World->Prop)(s:Nat):Nat->Array Bool->Act->World->Prop
 | 0,L,a,w=>Region.ready md ops L=[]/\Q .normal a w
 | f+1,L,a,w=>(Region.ready md ops L=[]->Q .normal a w)/\∀i∈Region.ready md ops L,wpOp P ops Q i (fun a' w'=>(i≠s->S w')/\ja P md ops Q S s f (L.setIfInBounds i true) a' w') a w
theorem DK{S:World->Prop}:∀(f:Nat) (L:Array Bool) (a:Act) (w:World),ja P md ops Q S s f L a w->wpAny P md ops Q f L a w:=by
 intro f
 induction f with
 | zero=>exact fun _ _ _ h=>h
 | succ f ih=>exact fun L a w h=>⟨h.1,fun i hi=>wpOp_mono (fun a' w' k=>ih _ a' w' k.2) (h.2 i hi)⟩
def zH(md:Region.Mode)(ops:Array Oper)(s i:Nat):Bool:=match ops[s]? with
 | some o=>o.after.any fun e=>Region.binds md e&&e.on==i
 | none=>false
theorem Fq{j:Nat}{oj:Oper}{L:Array Bool}(hr:i∈Region.ready md ops L)(aQ:∀e∈oj.after,Region.binds md e=true->L.getD e.on false=true)(hj:ops[j]?=some oj)(hw:zH md ops j i=true):False:=by
 simp only[zH,hj,Array.any_eq_true,Bool.and_eq_true,beq_iff_eq]at hw;obtain⟨k,hk,hb,he⟩:=hw;have h1:=aQ _ (Array.getElem_mem hk) hb;have h0:=(mem_ready.1 hr).1;rw[he]at h1;rcases Nat.lt_or_ge i L.size with h|h
 ·simp[h]at h0 h1;rw[h0]at h1;cases h1
 ·simp[Array.getElem?_eq_none h]at h1
theorem EG{S:World->Prop}(ho:ops[i]?=some o)(hw:zH md ops s i=true)(IK:∀(j:Nat) (o:Oper) cs b,ops[j]?=some o->o.op≠.select cs b)(hQ:∀c a w,Q (.panic c) (a.put o.dst v) w->Q (.panic c) a w):
  ∀(f:Nat) (L:Array Bool) (a:Act) (w:World),
   (∀j oj,ops[j]?=some oj->j≠i->L.getD j true=false->(∀e∈oj.after,Region.binds md e=true->e.on≠i)->o.apart ops oj=true)->
   i∈Region.ready md ops L->YieldsIf P ops S o v a->S w->ja P md ops Q S s f (L.setIfInBounds i true) (a.put o.dst v) w->ja P md ops Q S s (f+1) L a w:=by
 intro f
 induction f with
 | zero=>
  intro L a w _ hr hy hS H;refine⟨fun h=>absurd hr (by rw[h];simp),fun j hj=>?_⟩;by_cases e:j=i
  ·rw[e];exact hy.wpOp ho hS ⟨fun _=>hS,H⟩
  ·have:=ready_mono hj e;rw[H.1]at this
   cases this
 | succ f ih=>
  intro L a w z8 hr hy hS H;refine⟨fun h=>absurd hr (by rw[h];simp),fun j hj=>?_⟩;by_cases e:j=i
  ·rw[e];exact hy.wpOp ho hS ⟨fun _=>hS,H⟩
  ·obtain⟨Vk,oj,DY,aQ⟩:=mem_ready.1 hj;have eh:j≠s:=fun e'=>by rw[e']at DY;exact Fq hr aQ DY hw
   have jD:∀x∈oj.after,Region.binds md x=true->x.on≠i:=fun x hx hb he=>Fq hr aQ DY (by
    simp only[zH,DY,Array.any_eq_true,Bool.and_eq_true,beq_iff_eq];obtain⟨k,hk,rfl⟩:=Array.getElem_of_mem hx
    exact⟨k,hk,hb,he⟩)
   have step:=wpOp_putIf DY (z8 j oj DY e Vk jD) (fun cs b=>IK i o cs b ho) (fun cs b=>IK j oj cs b DY) hQ hy (H.2 j (ready_mono hj e));refine wpOp_mono (fun a' w' k=>⟨k.2.1,ih _ a' w' (fun x ox hx ZN Vl ZO=>z8 x ox hx ZN ?_ ZO) (ready_mono hr (Ne.symm e)) k.1 (k.2.1 eh) ?_⟩) step
   ·by_cases h:j=x
    ·rw[<-h];exact Vk
    ·rw[getD_set_ne true h]at Vl;exact Vl
   ·rw[Array.setIfInBounds_comm _ _ e];exact k.2.2
theorem GR{S:World->Prop}{L:Array Bool}(ho:ops[i]?=some o)(hc:(zH md ops s i&&Region.noSelect ops&&Region.free md ops L i&&(Region.ready md ops L).contains i)=true)
  (hQ:∀c a w,Q (.panic c) (a.put o.dst v) w->Q (.panic c) a w) (hy:YieldsIf P ops S o v a) (hS:S w) (h:ja P md ops Q S s f (L.setIfInBounds i true) (a.put o.dst v) w):ja P md ops Q S s (f+1) L a w:=by
 simp only[Bool.and_eq_true]at hc;obtain⟨⟨⟨h1,h2⟩,h3⟩,h4⟩:=hc;exact EG ho h1 (Region.noSelect_spec h2) hQ f L a w (Region.free_spec ho h3) (by simpa using h4) hy hS h
def sN(P:Program)(md:Region.Mode)(ops:Array Oper)(Q:Exit->Act->World->Prop)(S:World->Prop)(s f:Nat)(L:Array Bool)(a:Act)(w:World)(rs:List Nat):Prop:=
 ∀i∈rs,wpOp P ops Q i (fun a' w'=>(i≠s->S w')/\ja P md ops Q S s f (L.setIfInBounds i true) a' w') a w
theorem sN.nil{S:World->Prop}{L:Array Bool}:sN P md ops Q S s f L a w []:=fun _ h=>by cases h
theorem sN.cons{S:World->Prop}{L:Array Bool}(ho:ops[i]?=some o)
  (h:∀K':Act->World->Prop,Shut (∀a w,(i≠s->S w)->ja P md ops Q S s f (L.setIfInBounds i true) a w->K' a w)->if Region.wanted o (yielded ops a.tmps)=true then Oper.wp P o a w K' Q else K' (a.put o.dst undef) w)
  (hs:sN P md ops Q S s f L a w rs):sN P md ops Q S s f L a w (i::rs):=fun j hj=>by
 rcases List.mem_cons.1 hj with rfl|hj
 ·exact wpOp_step ho (fun K' hK=>h K' (fun a w hS hW=>hK a w ⟨hS,hW⟩))
 ·exact hs j hj
theorem lC{S:World->Prop}{L:Array Bool}(hr:Region.ready md ops L=rs)(eO:rs≠[])(h:sN P md ops Q S s f L a w rs):ja P md ops Q S s (f+1) L a w:=
 ⟨fun h0=>absurd (hr.symm.trans h0) eO,fun i hi=>h i (by rw[<-hr];exact hi)⟩
theorem cZ{S:World->Prop}{L:Array Bool}(hr:Region.ready md ops L=[])(h:Q .normal a w)(f:Nat):ja P md ops Q S s f L a w:=by
 cases f with
 | zero=>exact⟨hr,h⟩
 | succ f=>exact⟨fun _=>h,fun i hi=>by rw[hr]at hi;cases hi⟩
theorem bR{id:Nat}(s:Nat)(S:World->Prop)(hm:P.follows .mixedOrders=true)(h:ja P .any ops Q S s ops.size (Array.replicate ops.size false) a w.drew):(Code.region id ops true).wp P Q a w:=
 wp_region_any hm (DK _ _ _ _ h)
theorem eP{S:World->Prop}(i:Nat)(v:Value){L:Array Bool}(ho:ops[i]?=some o)(hy:∀w,S w->(execOp a.eval o).run P w=.ok (.value v) w)(hS:S w)(h:ja P md ops Q S s f (L.setIfInBounds i true) (a.put o.dst v) w)(hc:(zH md ops s i&&Region.noSelect ops&&Region.free md ops L i&&(Region.ready md ops L).contains i)=true:=by kernel_rfl)(hQ:∀c a w,Q (.panic c) (a.put o.dst v) w->Q (.panic c) a w:=by exact fun _ _ _ h=>h)(hw:Region.wanted o (yielded ops a.tmps)=true:=by rfl):ja P md ops Q S s (f+1) L a w:=GR ho hc hQ (Or.inl ⟨hw,hy⟩) hS h
theorem ed{S:World->Prop}(i:Nat){L:Array Bool}(ho:ops[i]?=some o)(h:∀K':Act->World->Prop,Shut (∀a w,(i≠s->S w)->ja P md ops Q S s f (L.setIfInBounds i true) a w->K' a w)->if Region.wanted o (yielded ops a.tmps)=true then Oper.wp P o a w K' Q else K' (a.put o.dst undef) w)(hr:Region.ready md ops L=[i]:=by kernel_rfl):ja P md ops Q S s (f+1) L a w:=lC hr (by simp) (sN.cons ho h sN.nil)
end
section
open Go.Proofs.Tryz
def HG(w:World):Prop:=w.cell? ⟨0,0,none⟩=some (.iface 244 (.agg #[.pointer (some ⟨1,154,none⟩)]))
theorem HG.later{w w':World}(h:HG w)(b:Below w.1.size w w'):HG w':=by
 have aN:0<w.1.size:=by
  rcases Nat.eq_zero_or_pos w.1.size with h0|h'
  ·simp[HG,World.cell?,h0]at h
  ·exact h'
 exact(b.cell (p:=⟨0,0,none⟩) aN).trans h
theorem wm(w:World)(n:Int)(y1 y2 y3 y4 y5 y6:Value):Calls prog 78 #[vI n,.agg #[y1,y2,y3,y4,y5,y6]] w fun e w'=>e=.panicked [{ v:=.iface 157 (.agg #[.iface 67 (vI n),y1,y2,y3,y4,y5,y6]),recovered:=false }]/\w'=w.alloc (.cells #[y1,y2,y3,y4,y5,y6] 32):=by
 go_enter func78,ntmps78;go_wp2;exact⟨rfl,rfl,rfl⟩
theorem isErr(w:World)(v:Value):(Instr.typeAssert (.iface 157 v) 20 154 true).run prog w=.ok (.tuple #[.iface 157 v,.bool true]) w:=run_typeAssert_hasB ea.Wj (by kernel_rfl) _ _ w
theorem Js(w:World)(n:Int)(y1 y2:Int)(a3:OA)(n3 c3:Nat)(a4:OA)(n4 c4:Nat)(a5:OA)(n5 c5:Nat)(y6:Bool)(hg:HG w):
  Calls prog 55 #[.iface 157 (.agg #[.iface 67 (vI n),vI y1,vI y2,.slice a3 n3 c3,.slice a4 n4 c4,.slice a5 n5 c5,.bool y6])] w fun e w'=>e=.returned (.tuple #[.agg #[vI y1,vI y2,.slice a3 n3 c3,.slice a4 n4 c4,.slice a5 n5 c5,.bool y6],vI n])/\Below w.1.size w w':=by
 have hE:=isErr;obtain⟨V1,lL⟩:=bO (((w.alloc (.cells #[vI 0,vI 0,.slice none 0 0,.slice none 0 0,.slice none 0 0,.bool false] 32)).alloc (.cells #[.nilIface,vI 0,vI 0,.slice none 0 0,.slice none 0 0,.slice none 0 0,.bool false] 157)).alloc (.cells #[vI 0] 67));have b1:Below w.1.size w V1:=by rw[lL];exact((aK.alloc aU _).alloc (by simp) _).alloc (by simp;omega) _
 have s1:V1.1.size=w.1.size+3:=by rw[lL];simp
 have x0:Bx V1 w.1.size sH:=by
  have:=(Bx.made w sH 32).later (aK.alloc aU (.cells #[.nilIface,vI 0,vI 0,.slice none 0 0,.slice none 0 0,.slice none 0 0,.bool false] 157));have:=this.later (aK.alloc aU (.cells #[vI 0] 67));rw[lL];exact this
 have x1:Bx V1 (w.1.size+1) [.nilIface,vI 0,vI 0,.slice none 0 0,.slice none 0 0,.slice none 0 0,.bool false]:=by
  have h:=Bx.made (w.alloc (.cells #[vI 0,vI 0,.slice none 0 0,.slice none 0 0,.slice none 0 0,.bool false] 32)) [.nilIface,vI 0,vI 0,.slice none 0 0,.slice none 0 0,.slice none 0 0,.bool false] 157;rw[show(w.alloc (.cells #[vI 0,vI 0,.slice none 0 0,.slice none 0 0,.slice none 0 0,.bool false] 32)).1.size=w.1.size+1 by simp]at h;have:=h.later (aK.alloc aU (.cells #[vI 0] 67));rw[lL];exact this
 have x2:Bx V1 (w.1.size+2) [vI 0]:=by
  have h:=Bx.made ((w.alloc (.cells #[vI 0,vI 0,.slice none 0 0,.slice none 0 0,.slice none 0 0,.bool false] 32)).alloc (.cells #[.nilIface,vI 0,vI 0,.slice none 0 0,.slice none 0 0,.slice none 0 0,.bool false] 157)) [vI 0] 67;rw[show((w.alloc (.cells #[vI 0,vI 0,.slice none 0 0,.slice none 0 0,.slice none 0 0,.bool false] 32)).alloc (.cells #[.nilIface,vI 0,vI 0,.slice none 0 0,.slice none 0 0,.slice none 0 0,.bool false] 157)).1.size=w.1.size+2 by simp]at h;rw[lL];exact h
 obtain⟨YS,vf⟩:∃l:List Value,l=[.iface 67 (vI n),vI y1,vI y2,.slice a3 n3 c3,.slice a4 n4 c4,.slice a5 n5 c5,.bool y6]:=⟨_,rfl⟩
 have cR:=ea.fX (w.1.size+1) (.iface 67 (vI n)) (vI y1) (vI y2) (.slice a3 n3 c3) (.slice a4 n4 c4) (.slice a5 n5 c5) (.bool y6) [.nilIface,vI 0,vI 0,.slice none 0 0,.slice none 0 0,.slice none 0 0,.bool false] V1 (hg.later b1) (by intro u hu;simp only[List.mem_cons,List.not_mem_nil,or_false]at hu;rcases hu with rfl|rfl|rfl|rfl|rfl|rfl|rfl<;>rfl) rfl x1;have K:=wL b1 s1 x0 x1 x2 (hg.later b1);clear b1 s1 x0 x1 x2 vf YS;go_enter func55,ntmps55;go_wp2_with fail;rw[<-lL];clear lL;refine cR.mono ?_;clear cR;rintro e w1 ⟨rfl,Al⟩;obtain⟨V4,Ga⟩:=bO ((((V1.alloc (.cells #[.pointer (some ⟨w.1.size+1,0,none⟩)] 159)).alloc (.cells #[.pointer (some ⟨1,159,none⟩),.pointer (some ⟨V1.1.size,0,none⟩),.int .u64 150] 212)).alloc (.cells #[.pointer (some ⟨1,159,none⟩),.pointer (some ⟨V1.1.size,0,none⟩),.int .u64 150] 212)).alloc (.cells #[.iface 67 (vI n),vI y1,vI y2,.slice a3 n3 c3,.slice a4 n4 c4,.slice a5 n5 c5,.bool y6] 157));rw[<-Ga]at Al;have b4:Below V1.1.size V1 V4:=by rw[Ga];exact(((aK.alloc aU _).alloc (by simp) _).alloc (by simp;omega) _).alloc (by simp;omega) _
 obtain⟨k1,k2,k3,k4,k5,k6⟩:=K.out;have iH:w1.1.size=V4.1.size:=by rw[Al];exact aS _ _ _ _
 have lK:∀q,q≠w.1.size+1->w1.1[q]?=V4.1[q]?:=fun q hq=>by rw[Al];exact aO hq _ _ _
 have bw:Below w.1.size w w1:=by rw[Al];exact aI (w:=w) (by omega) _ _ _ (au k1 b4)
 have z0:=(k3.later b4).aj (lK _ (by omega)) (by omega);have z2:=(k5.later b4).aj (lK _ (by omega)) (by omega);have z1:Bx w1 (w.1.size+1) [.iface 67 (vI n),vI y1,vI y2,.slice a3 n3 c3,.slice a4 n4 c4,.slice a5 n5 c5,.bool y6]:=by rw[Al];exact(k4.later b4).put _ rfl
 have g1:HG w1:=by
  have h4:=k6.later b4;have aN:0<V1.1.size:=by omega
  exact(World.cell?_of_block (a:=⟨0,0,none⟩) (lK 0 (by omega))).trans h4
 have cC:=ea.fW (w.1.size+2) n (vI y1) (vI y2) (.slice a3 n3 c3) (.slice a4 n4 c4) (.slice a5 n5 c5) (.bool y6) (vI 0) w1 g1 (z2.1 0 _ rfl) (z2.2.1 0) z2.2.2;have K1:=nE bw z0 z1 z2 (show w.1.size+3<=w1.1.size by have:=b4.size;omega);clear Al Ga b4 k1 k2 k3 k4 k5 k6 iH lK bw z0 z1 z2 g1 K V4;go_wp2_with fail;refine cC.mono ?_;clear cC;rintro e w2 ⟨rfl,Yn⟩;obtain⟨V5,UY⟩:=bO (((((w1.alloc (.cells #[.pointer (some ⟨w.1.size+2,0,none⟩)] 160)).alloc (.cells #[.pointer (some ⟨1,160,none⟩),.pointer (some ⟨w1.1.size,0,none⟩),.int .u64 150] 212)).alloc (.cells #[.pointer (some ⟨1,160,none⟩),.pointer (some ⟨w1.1.size,0,none⟩),.int .u64 150] 212)).alloc (.cells #[.iface 67 (vI n),vI y1,vI y2,.slice a3 n3 c3,.slice a4 n4 c4,.slice a5 n5 c5,.bool y6] 157)).alloc (.cells #[vI n] 67));rw[<-UY]at Yn;have b5:Below w1.1.size w1 V5:=by rw[UY];exact((((aK.alloc aU _).alloc (by simp) _).alloc (by simp;omega) _).alloc (by simp;omega) _).alloc (by simp;omega) _
 obtain⟨k1,k2,k3,k4,k5⟩:=K1.out;have lK:∀q,q≠w.1.size+2->w2.1[q]?=V5.1[q]?:=fun q hq=>by rw[Yn];exact Below.heap_setCell _ _ _ _ hq
 have iL:w2.1.size=V5.1.size:=by rw[Yn];simp[World.setCell]
 have z0:=(k2.later b5).aj (lK _ (by omega)) (by omega);have z1:=(k3.later b5).aj (lK _ (by omega)) (by omega);have z2:w2.cell? ⟨w.1.size+2,0,none⟩=some (vI n):=by rw[Yn];exact ay ((k4.later b5).1 0 _ rfl)
 have bw:Below w.1.size w w2:=by rw[Yn];exact(au k1 b5).setCell (p:=⟨w.1.size+2,0,none⟩) (by show w.1.size<=w.1.size+2;omega) _
 have BW:Hid (Below w.1.size w w2):=bw;have Z0:Hid (Bx w2 w.1.size sH):=z0;have Z1:Hid (Bx w2 (w.1.size+1) [.iface 67 (vI n),vI y1,vI y2,.slice a3 n3 c3,.slice a4 n4 c4,.slice a5 n5 c5,.bool y6]):=z1;clear Yn UY b5 k1 k2 k3 k4 k5 lK iL z0 z1 bw K1 V5;go_wp2_with fail;refine bR 4 (fun X:World=>Bx X (w.1.size+1) [.iface 67 (vI n),vI y1,vI y2,.slice a3 n3 c3,.slice a4 n4 c4,.slice a5 n5 c5,.bool y6]/\X.cell? ⟨w.1.size+2,0,none⟩=some (vI n)) (by kernel_rfl) ?_;have dY:(fun X:World=>Bx X (w.1.size+1) [.iface 67 (vI n),vI y1,vI y2,.slice a3 n3 c3,.slice a4 n4 c4,.slice a5 n5 c5,.bool y6]/\X.cell? ⟨w.1.size+2,0,none⟩=some (vI n)) w2.drew:=⟨Z1.out.later aK.drew,z2⟩
 have BD:Hid (Below w.1.size w w2.drew):=BW.out.drew;have ZD:Hid (Bx w2.drew w.1.size sH):=Z0.out.later aK.drew;clear z2 Z0 Z1 BW;generalize w2.drew=XD at *;refine eP 0 ?_ rfl ?_ dY ?_;rotate_left
 ·(intro w aA;go_simp;first|done|with_reducible rfl)
 simp only[Act.put];refine eP 1 ?_ rfl ?_ dY ?_;rotate_left
 ·(intro w aA;have q1:=aA.1.1 1 _ rfl;have q2:=aA.1.1 2 _ rfl;have q3:=aA.1.1 3 _ rfl;have q4:=aA.1.1 4 _ rfl;have q5:=aA.1.1 5 _ rfl;have q6:=aA.1.1 6 _ rfl;go_simp;first|done|with_reducible rfl|rfl)
 simp only[Act.put];refine eP 2 ?_ rfl ?_ dY ?_;rotate_left
 ·(intro w aA;have q:=aA.2;go_simp;first|done|with_reducible rfl|exact q)
 simp only[Act.put];refine ed 3 rfl (fun K hK=>?_);obtain⟨Y,hY⟩:=bO (cO XD w.1.size 0 [vI y1,vI y2,.slice a3 n3 c3,.slice a4 n4 c4,.slice a5 n5 c5,.bool y6])
 have xP:(fun X:World=>Bx X (w.1.size+1) [.iface 67 (vI n),vI y1,vI y2,.slice a3 n3 c3,.slice a4 n4 c4,.slice a5 n5 c5,.bool y6]/\X.cell? ⟨w.1.size+2,0,none⟩=some (vI n)) Y:=by
  rw[hY];exact⟨dY.1.aj (aO (by omega) _ _ _) (by rw[aS];exact Nat.le_refl _),(World.cell?_of_block (a:=⟨w.1.size+2,0,none⟩) (aO (show w.1.size+2≠w.1.size by omega) _ _ _)).trans dY.2⟩
 have KY:=dw (show Below w.1.size w Y by rw[hY];exact aI (w:=w) aU _ _ _ BD.out) (show Bx Y w.1.size [vI y1,vI y2,.slice a3 n3 c3,.slice a4 n4 c4,.slice a5 n5 c5,.bool y6] by rw[hY];exact ZD.out.put _ rfl);have r0:=ZD.out.c6;have f0:=ZD.out.f6;simp only[cO]at hY;go_simp;rw[<-hY];refine hK.out _ _ (fun _=>xP) ?_;clear hK K hY r0 f0 dY ZD BD;refine ed 4 rfl (fun K hK=>?_);go_simp;refine hK.out _ _ (fun h=>absurd rfl h) ?_;clear hK K;refine cZ (by kernel_rfl) ?_ _;have o0:=KY.out.2.c6;go_wp2;refine bodyPost_ret (v:=.tuple #[.agg #[vI y1,vI y2,.slice a3 n3 c3,.slice a4 n4 c4,.slice a5 n5 c5,.bool y6],vI n]) (by simp[results,results55,go_sem,o0]) rfl ?_;exact⟨rfl,KY.out.1⟩
end
section
open Go.Proofs.Tryz
variable {B b m n q:Nat}{P:Nat->Prop}{X Y:World}{a:OA}{g:Nat->Nat->Prop}
theorem Ju{w w':World}(h:Room w b m)(e:w'.1[b]?=w.1[b]?):Room w' b m:=fun j hj=>by
 obtain⟨v,h1,h2⟩:=h j hj;exact⟨v,(World.cell?_of_block (a:=⟨b,j,none⟩) e).trans h1,(World.frozen?_of_block (a:=⟨b,j,none⟩) e).trans h2⟩
def At(X:World)(b o:Nat)(cs:List Value):Prop:=∀j u,cs[j]?=some u->X.cell? ⟨b,o+j,none⟩=some u
theorem At.aj{o:Nat}{cs:List Value}(h:At X b o cs)(e:Y.1[b]?=X.1[b]?):At Y b o cs:=fun j u hu=>(World.cell?_of_block (a:=⟨b,o+j,none⟩) e).trans (h j u hu)
structure Kd(D V:Type) where
 n:Nat
 cells:V->D->List Value
 len:∀v d,(cells v d).length=n
 Rd:World->V->D->Prop
 Ow:World->Nat->V->D->(Nat->Prop)->Prop
 later:∀{w w':World}{v:V}{d:D},Rd w v d->Below w.1.size w w'->Rd w' v d
 sl:∀{w:World}{B:Nat}{v:V}{d:D}{P:Nat->Prop},Ow w B v d P->Rd w v d
 of:∀{w:World}{B:Nat}{v:V}{d:D}{P:Nat->Prop}{q:Nat},Ow w B v d P->P q->B<=q/\q<w.1.size
 aM:∀{w w':World}{B:Nat}{v:V}{d:D}{P:Nat->Prop},Ow w B v d P->w.1.size<=w'.1.size->(∀q,P q->w'.1[q]?=w.1[q]?)->Ow w' B v d P
 low:∀{w:World}{B B':Nat}{v:V}{d:D}{P:Nat->Prop},Ow w B v d P->B'<=B->Ow w B' v d P
def Kd.vG{D V:Type}(K:Kd D V)(X:World)(a:OA)(xs:List D):Prop:=xs=[]\/∃b off,a=some ⟨b,off,none⟩/\b<X.1.size/\∀i d,xs[i]?=some d->∃v,At X b (off+i*K.n) (K.cells v d)/\K.Rd X v d
theorem Kd.vG.later{D V:Type}{K:Kd D V}{X Y:World}{a:OA}{xs:List D}(h:K.vG X a xs)(hb:Below X.1.size X Y):K.vG Y a xs:=by
 rcases h with h|⟨b,off,e,hl,h⟩
 ·exact .inl h
 ·refine .inr ⟨b,off,e,Nat.lt_of_lt_of_le hl hb.size,fun i d hi=>?_⟩;obtain⟨v,h1,h2⟩:=h i d hi;exact⟨v,h1.aj (hb.block b hl),K.later h2 hb⟩
structure Kd.Part{D V:Type}(K:Kd D V)(X:World)(B b n:Nat)(ys:List D)(g:Nat->Nat->Prop):Prop where
 rm:Room X b (n*K.n)
 at_:∀i d,ys[i]?=some d->∃v,At X b (i*K.n) (K.cells v d)/\K.Ow X B v d (g i)
 ne:∀i q,i<ys.length->g i q->q≠b
 ap:∀i j q,i<ys.length->j<ys.length->i≠j->g i q->¬g j q
theorem Kd.Part.gq{D V:Type}{K:Kd D V}{ys:List D}(h:K.Part X B b n ys g){i:Nat}(hi:i<ys.length)(hq:g i q):B<=q/\q<X.1.size:=by
 obtain⟨v,_,ho⟩:=h.at_ i _ (List.getElem?_eq_getElem hi);exact K.of ho hq
theorem Kd.Part.aM{D V:Type}{K:Kd D V}{X Y:World}{B b n:Nat}{ys:List D}{g:Nat->Nat->Prop}(h:K.Part X B b n ys g)(hs:X.1.size<=Y.1.size)(hb:Y.1[b]?=X.1[b]?)(hk:∀i q,i<ys.length->g i q->Y.1[q]?=X.1[q]?):K.Part Y B b n ys g:=by
 refine⟨Ju h.rm hb,fun i d hi=>?_,h.ne,h.ap⟩;obtain⟨v,h1,h2⟩:=h.at_ i d hi;exact⟨v,h1.aj hb,K.aM h2 hs (fun q hq=>hk i q (List.getElem?_eq_some_iff.1 hi).1 hq)⟩
theorem Kd.Part.later{D V:Type}{K:Kd D V}{ys:List D}(h:K.Part X B b n ys g)(hb:Below X.1.size X Y)(hl:b<X.1.size):K.Part Y B b n ys g:=h.aM hb.size (hb.block b hl) (fun _ q hi hq=>hb.block q (h.gq hi hq).2)
theorem Kd.Part.nil{D V:Type}(K:Kd D V)(g:Nat->Nat->Prop)(h:Room X b (n*K.n)):K.Part X B b n [] g:=⟨h,fun i d hi=>by simp at hi,fun i q hi=>by simp at hi,fun i j q hi=>by simp at hi⟩
theorem Jq{s j:Nat}(cs:List Value):∀(X:World) (i:Nat),(j<i\/i+cs.length<=j)->(cO X s i cs).cell? ⟨s,j,none⟩=X.cell? ⟨s,j,none⟩:=by
 induction cs with
 | nil=>intro X i _;rfl
 | cons c cs ih=>intro X i h;simp only[List.length_cons]at h;rw[cO,ih _ _ (by omega)];exact ae (by omega)
theorem Fy(cs:List Value):∀(X:World) (i:Nat),Room X b m->Room (cO X b i cs) b m:=by
 induction cs with
 | nil=>intro X i h;exact h
 | cons c cs ih=>intro X i h;exact ih _ _ (h.set _)
theorem Kd.Part.push{D V:Type}{K:Kd D V}{ys:List D}(h:K.Part X B b n ys g)(hn:ys.length<n)(v:V)(d:D)(P:Nat->Prop)(ho:K.Ow X B v d P)(eO:∀q,P q->q≠b)(Ww:∀i q,i<ys.length->g i q->¬P q):
  K.Part (cO X b (ys.length*K.n) (K.cells v d)) B b n (ys++[d]) (fun i=>if i=ys.length then P else g i):=by
 have hc:ys.length*K.n+K.n<=n*K.n:=by rw[<-Nat.succ_mul];exact Nat.mul_le_mul_right _ hn
 have hs:(cO X b (ys.length*K.n) (K.cells v d)).1.size=X.1.size:=aS _ _ _ _;have hk:∀q,q≠b->(cO X b (ys.length*K.n) (K.cells v d)).1[q]?=X.1[q]?:=fun q hq=>aO hq _ _ _
 refine⟨Fy _ _ _ h.rm,fun i e hi=>?_,fun i q hi hq=>?_,fun i j q hi hj IC h1 h2=>?_⟩
 ·by_cases hl:i<ys.length
  ·rw[List.getElem?_append_left hl]at hi;obtain⟨v',h1,h2⟩:=h.at_ i e hi;have e0:i≠ys.length:=by omega
   refine⟨v',fun j u hu=>?_,by simp only[if_neg e0];exact K.aM h2 (Nat.le_of_eq hs.symm) (fun q hq=>hk q (h.ne i q hl hq))⟩;have hj:j<K.n:=by have:=(List.getElem?_eq_some_iff.1 hu).1;rwa[K.len]at this
   have hm:i*K.n+K.n<=ys.length*K.n:=by rw[<-Nat.succ_mul];exact Nat.mul_le_mul_right _ hl
   exact(Jq _ _ _ (by omega)).trans (h1 j u hu)
  ·have he:i=ys.length:=by
    have:=(List.getElem?_eq_some_iff.1 hi).1;simp at this;omega
   subst he;rw[List.getElem?_append_right aU]at hi;simp at hi;subst hi;refine⟨v,fun j u hu=>?_,by simp only[if_pos];exact K.aM ho (Nat.le_of_eq hs.symm) (fun q hq=>hk q (eO q hq))⟩;refine zA _ _ _ (fun j h1 h2=>?_) j u hu;rw[K.len]at h2;obtain⟨z,hz,_⟩:=h.rm j (by omega);exact⟨z,hz⟩
 ·by_cases e:i=ys.length
  ·simp only[if_pos e]at hq;exact eO q hq
  ·simp only[if_neg e]at hq;simp at hi;exact h.ne i q (by omega) hq
 ·simp only[List.length_append,List.length_cons,List.length_nil]at hi hj;by_cases e1:i=ys.length
  ·by_cases e2:j=ys.length
   ·omega
   ·simp only[if_pos e1]at h1;simp only[if_neg e2]at h2;exact Ww j q (by omega) h2 h1
  ·by_cases e2:j=ys.length
   ·simp only[if_neg e1]at h1;simp only[if_pos e2]at h2;exact Ww i q (by omega) h1 h2
   ·simp only[if_neg e1]at h1;simp only[if_neg e2]at h2;exact h.ap i j q (by omega) (by omega) IC h1 h2
def Kd.xm{D V:Type}(K:Kd D V)(X:World)(B:Nat)(a:OA)(xs:List D)(P:Nat->Prop):Prop:=(xs=[]\/∃b g,a=some ⟨b,0,none⟩/\P b/\K.Part X B b xs.length xs g/\(∀i q,i<xs.length->g i q->P q))/\(∀q,P q->B<=q/\q<X.1.size)
theorem Kd.xm.of{D V:Type}{K:Kd D V}{xs:List D}(h:K.xm X B a xs P)(hq:P q):B<=q/\q<X.1.size:=h.2 q hq
theorem Kd.xm.sl{D V:Type}{K:Kd D V}{X:World}{B:Nat}{a:OA}{xs:List D}{P:Nat->Prop}(h:K.xm X B a xs P):K.vG X a xs:=by
 rcases h with ⟨h|⟨b,g,e,hp,h,_⟩,hb⟩
 ·exact .inl h
 ·refine .inr ⟨b,0,e,(hb b hp).2,fun i d hi=>?_⟩;obtain⟨v,h1,h2⟩:=h.at_ i d hi;exact⟨v,by rw[Nat.zero_add];exact h1,K.sl h2⟩
theorem Kd.xm.aM{D V:Type}{K:Kd D V}{X Y:World}{B:Nat}{a:OA}{xs:List D}{P:Nat->Prop}(h:K.xm X B a xs P)(hs:X.1.size<=Y.1.size)(hk:∀q,P q->Y.1[q]?=X.1[q]?):K.xm Y B a xs P:=by
 rcases h with ⟨h|⟨b,g,e,hp,h,hg⟩,hb⟩
 ·exact⟨.inl h,fun q hq=>⟨(hb q hq).1,Nat.lt_of_lt_of_le (hb q hq).2 hs⟩⟩
 ·exact⟨.inr ⟨b,g,e,hp,h.aM hs (hk b hp) (fun i q hi hq=>hk q (hg i q hi hq)),hg⟩,fun q hq=>⟨(hb q hq).1,Nat.lt_of_lt_of_le (hb q hq).2 hs⟩⟩
theorem Kd.xm.later{D V:Type}{K:Kd D V}{xs:List D}(h:K.xm X B a xs P)(hb:Below X.1.size X Y):K.xm Y B a xs P:=h.aM hb.size (fun q hq=>hb.block q (h.of hq).2)
theorem Kd.xm.low{D V:Type}{K:Kd D V}{X:World}{B B':Nat}{a:OA}{xs:List D}{P:Nat->Prop}(h:K.xm X B a xs P)(hb:B'<=B):K.xm X B' a xs P:=by
 rcases h with ⟨h|⟨b,g,e,hp,h,hg⟩,hq⟩
 ·exact⟨.inl h,fun q h'=>⟨Nat.le_trans hb (hq q h').1,(hq q h').2⟩⟩
 ·refine⟨.inr ⟨b,g,e,hp,⟨h.rm,fun i d hi=>?_,h.ne,h.ap⟩,hg⟩,fun q h'=>⟨Nat.le_trans hb (hq q h').1,(hq q h').2⟩⟩;obtain⟨v,h1,h2⟩:=h.at_ i d hi;exact⟨v,h1,K.low h2 hb⟩
theorem Kd.Part.own{D V:Type}{K:Kd D V}{xs:List D}(h:K.Part X B b xs.length xs g)(hB:B<=b)(hb:b<X.1.size):K.xm X B (some ⟨b,0,none⟩) xs (fun q=>q=b\/∃i,i<xs.length/\g i q):=
 ⟨.inr ⟨b,g,rfl,.inl rfl,h,fun i q hi hq=>.inr ⟨i,hi,hq⟩⟩,fun q hq=>by rcases hq with rfl|⟨i,hi,hq⟩;exact⟨hB,hb⟩;exact h.gq hi hq⟩
end
section
open Go.Proofs.Tryz
variable {hi lo x:Int}
def aW(lo hi x:Int):Bool:=decide (lo<=x)&&decide (x<=hi)
theorem jq(h:lo<=x)(h':x<=hi):aW lo hi x=true:=by simp[aW,h,h']
theorem dD:aW lo hi x=true↔lo<=x/\x<=hi:=by simp[aW]
theorem dW{b b':Bool}(h:b=true↔b'=true):Ending.returned (Value.bool b)=Ending.returned (Value.bool b'):=by rw[Bool.eq_iff_iff.2 h]
theorem fw(w:World)(x lo hi:Int):Calls prog 77 #[vI x,vI lo,vI hi] w fun e w'=>e=.returned (.bool (aW lo hi x))/\w'=w:=by
 go_enter func77,ntmps77;go_wp2;all_goals (go_ret;refine⟨dW ?_,rfl⟩;simp[dD];try omega)
end
section
open Go.Proofs.Tryz
structure S5 where
 b:Int
 e:Int
 g:Int
 j:Bool
 i:Int
def bK(s:S5):Bool:=aW 0 5 s.b&&aW 0 5 s.e&&aW (-1000000000) 1000000000 s.g&&aW 0 999999 s.i
theorem nC(w:World)(x:Int):Calls prog 131 #[vI x] w fun e w'=>e=.returned (.bool (aW 0 5 x))/\w'=w:=by
 go_enter func131,ntmps131;go_wp2_with (go_at_call 77;refine(fw _ _ _ _).mono ?_;rintro e w' ⟨rfl,rfl⟩);go_ret;exact⟨rfl,rfl⟩
theorem DC(w:World)(x:Int):Calls prog 91 #[vI x] w fun e w'=>e=.returned (.bool (aW 0 5 x))/\w'=w:=by
 go_enter func91,ntmps91;go_wp2_with (go_at_call 77;refine(fw _ _ _ _).mono ?_;rintro e w' ⟨rfl,rfl⟩);go_ret;exact⟨rfl,rfl⟩
theorem uJ(w:World)(x:Int):Calls prog 38 #[vI x] w fun e w'=>e=.returned (.bool (aW (-1000000000) 1000000000 x))/\w'=w:=by
 go_enter func38,ntmps38;go_wp2_with (go_at_call 77;refine(fw _ _ _ _).mono ?_;rintro e w' ⟨rfl,rfl⟩);go_ret;exact⟨rfl,rfl⟩
theorem gX(w:World)(x:Int):Calls prog 195 #[vI x] w fun e w'=>e=.returned (.bool (aW 0 5 x))/\w'=w:=by
 go_enter func195,ntmps195;go_wp2;all_goals (go_ret;refine⟨dW ?_,rfl⟩;simp[dD];try omega)
theorem tV(w:World)(x:Int):Calls prog 62 #[vI x] w fun e w'=>e=.returned (.bool (aW 0 5 x))/\w'=w:=by
 go_enter func62,ntmps62;go_wp2;all_goals (go_ret;refine⟨dW ?_,rfl⟩;simp[dD];try omega)
theorem uF(w:World)(x:Int):Calls prog 40 #[vI x] w fun e w'=>e=.returned (.bool (aW (-1000000000) 1000000000 x))/\w'=w:=by
 go_enter func40,ntmps40;go_wp2;all_goals (go_ret;refine⟨dW ?_,rfl⟩;simp[dD];try omega)
theorem FH(w:World)(s:S5):Calls prog 141 #[.agg #[vI s.b,vI s.e,vI s.g,.bool s.j,vI s.i]] w fun e w'=>
  e=.returned (.agg #[vI s.b,vI s.e,vI s.g,.bool s.j,vI s.i])/\Below w.1.size w w':=by
 obtain⟨r,l,v,u,x⟩:=s;go_enter func141,ntmps141;go_wp2;refine bodyPost_ret (v:=.agg #[vI r,vI l,vI v,.bool u,vI x]) (by simp[results,results141,go_sem]) rfl ⟨rfl,?_⟩;exact((aK.alloc aU _).alloc (by simp) _).alloc (by simp;omega) _
theorem qf(w:World)(s:S5):Calls prog 98 #[.agg #[vI s.b,vI s.e,vI s.g,.bool s.j,vI s.i]] w fun e w'=>e=.returned (.bool (bK s))/\Below w.1.size w w':=by
 obtain⟨r,l,v,u,x⟩:=s;go_enter func98,ntmps98
 cases h1:aW 0 5 r<;>cases h2:aW 0 5 l<;>cases h3:aW (-1000000000) 1000000000 v;all_goals go_wp2_with (first|(go_at_call 77;refine(fw _ _ _ _).mono ?_;rintro e w' ⟨rfl,rfl⟩)|(go_at_call 131;refine(nC _ _).mono ?_;rintro e w' ⟨rfl,rfl⟩)|(go_at_call 91;refine(DC _ _).mono ?_;rintro e w' ⟨rfl,rfl⟩)|(go_at_call 38;refine(uJ _ _).mono ?_;rintro e w' ⟨rfl,rfl⟩))
 all_goals (go_ret;refine⟨dW ?_,aK.alloc aU _⟩;simp only[bK,h1,h2,h3,Bool.and_true,Bool.and_false,Bool.false_and,Bool.true_and];try simp[dD];try omega)
theorem uE(w:World)(s:S5):Calls prog 156 #[.agg #[vI s.b,vI s.e,vI s.g,.bool s.j,vI s.i]] w fun e w'=>e=.returned (.bool (bK s))/\Below w.1.size w w':=by
 obtain⟨r,l,v,u,x⟩:=s;go_enter func156,ntmps156
 cases h1:aW 0 5 r<;>cases h2:aW 0 5 l<;>cases h3:aW (-1000000000) 1000000000 v;all_goals go_wp2_with (first|(go_at_call 195;refine(gX _ _).mono ?_;rintro e w' ⟨rfl,rfl⟩)|(go_at_call 62;refine(tV _ _).mono ?_;rintro e w' ⟨rfl,rfl⟩)|(go_at_call 40;refine(uF _ _).mono ?_;rintro e w' ⟨rfl,rfl⟩))
 all_goals (go_ret;refine⟨dW ?_,aK.alloc aU _⟩;simp only[bK,h1,h2,h3,Bool.and_true,Bool.and_false,Bool.false_and,Bool.true_and];try simp[dD];try omega)
end
section
open Go.Proofs.Tryz
variable {B b o off:Nat}{s:S5}{w w':World}{xs:List S5}
structure aV(w:World)(b o:Nat)(s:S5):Prop where
 c0:w.cell? ⟨b,o,none⟩=some (vI s.b)
 c1:w.cell? ⟨b,o+1,none⟩=some (vI s.e)
 c2:w.cell? ⟨b,o+2,none⟩=some (vI s.g)
 c3:w.cell? ⟨b,o+3,none⟩=some (.bool s.j)
 c4:w.cell? ⟨b,o+4,none⟩=some (vI s.i)
theorem aV.below(h:aV w b o s)(hb:Below B w w')(hB:b<B):aV w' b o s:=
 ⟨by rw[hb.cell hB];exact h.c0,by rw[hb.cell hB];exact h.c1,by rw[hb.cell hB];exact h.c2,by rw[hb.cell hB];exact h.c3,by rw[hb.cell hB];exact h.c4⟩
def aY(w:World)(b off:Nat)(xs:List S5):Prop:=∀i s,xs[i]?=some s->aV w b (off+i*5) s
theorem aY.below(h:aY w b off xs)(hb:Below B w w')(hB:b<B):aY w' b off xs:=fun i s e=>(h i s e).below hb hB
def Sl(w:World)(B:Nat)(a:OA)(n:Nat)(xs:List S5):Prop:=xs.length=n/\(n=0\/∃b off,a=some ⟨b,off,none⟩/\b<B/\aY w b off xs)
theorem Sl.below{w w':World}{B:Nat}{a:OA}{n:Nat}{xs:List S5}(h:Sl w B a n xs)(hb:Below B w w'):Sl w' B a n xs:=by
 obtain⟨h1,h2⟩:=h;refine⟨h1,?_⟩;rcases h2 with h2|⟨b,off,ha,hB,hx⟩
 ·exact .inl h2
 ·exact .inr ⟨b,off,ha,hB,hx.below hb hB⟩
theorem Sl.mono{B':Nat}{a:OA}{n:Nat}(h:Sl w B a n xs)(hB:B<=B'):Sl w B' a n xs:=by
 obtain⟨h1,h2⟩:=h;refine⟨h1,?_⟩;rcases h2 with h2|⟨b,off,ha,hb,hx⟩
 ·exact .inl h2
 ·exact .inr ⟨b,off,ha,by omega,hx⟩
theorem aY.dS(h:aY w b off xs){p:Addr}(hp:p.block≠b)(v:Value):aY (w.setCell p v) b off xs:=fun i s e=>
 ⟨by rw[aJ hp];exact(h i s e).c0,by rw[aJ hp];exact(h i s e).c1,by rw[aJ hp];exact(h i s e).c2,by rw[aJ hp];exact(h i s e).c3,by rw[aJ hp];exact(h i s e).c4⟩
theorem aV.set{p:Nat}(h:aV w b o s)(hp:p<o\/o+5<=p)(v:Value):aV (w.setCell ⟨b,p,none⟩ v) b o s:=
 ⟨by rw[ae (by omega)];exact h.c0,by rw[ae (by omega)];exact h.c1,by rw[ae (by omega)];exact h.c2,by rw[ae (by omega)];exact h.c3,by rw[ae (by omega)];exact h.c4⟩
theorem Cj:(prog.info? 96).map (fun i=>(i.zero,i.size,i.bytes))=some (some (.agg #[vI 0,vI 0,vI 0,.bool false,vI 0]),5,40):=by kernel_rfl
theorem pW(n:Nat)(hn:n<=1048576)(w:World):(Instr.makeSlice 89 (vI (n:Int)) (vI (n:Int))).run prog w=.ok (.slice (some ⟨w.1.size,0,none⟩) n n) (w.alloc (.cells (madeCells #[vI 0,vI 0,vI 0,.bool false,vI 0] (n*5)) 96)):=by
 obtain⟨i,hi,oQ⟩:=Option.map_eq_some_iff.1 Cj;simp only[Prod.mk.injEq]at oQ;obtain⟨hz,hs,hb⟩:=oQ;have:=run_make (P:=prog) w 89 96 i _ underlying89 hi hz .i64 .i64 (n:Int) (n:Int) (by omega) (by omega) (by rw[hb];omega) (by omega);rw[hs]at this;simpa[Value.cells]using this
theorem aV.put{v0 v1 v2 v3 v4:Value}(s:S5)(h0:w.cell? ⟨b,o,none⟩=some v0)(h1:w.cell? ⟨b,o+1,none⟩=some v1)(h2:w.cell? ⟨b,o+2,none⟩=some v2)(h3:w.cell? ⟨b,o+3,none⟩=some v3)(h4:w.cell? ⟨b,o+4,none⟩=some v4):
  aV (((((w.setCell ⟨b,o,none⟩ (vI s.b)).setCell ⟨b,o+1,none⟩ (vI s.e)).setCell ⟨b,o+2,none⟩ (vI s.g)).setCell ⟨b,o+3,none⟩ (.bool s.j)).setCell ⟨b,o+4,none⟩ (vI s.i)) b o s:=by
 refine⟨?_,?_,?_,?_,?_⟩
 ·rw[ae (by omega),ae (by omega),ae (by omega),ae (by omega)];exact ay h0
 ·rw[ae (by omega),ae (by omega),ae (by omega)];exact ay (by rw[ae (by omega)];exact h1)
 ·rw[ae (by omega),ae (by omega)];exact ay (by rw[ae (by omega),ae (by omega)];exact h2)
 ·rw[ae (by omega)];exact ay (by rw[ae (by omega),ae (by omega),ae (by omega)];exact h3)
 ·exact ay (by rw[ae (by omega),ae (by omega),ae (by omega),ae (by omega)];exact h4)
theorem aY.put{w:World}{b k:Nat}{xs:List S5}{s:S5}(h:aY w b 0 (xs.take k))(hs:xs[k]?=some s){m:Nat}(hr:Room w b m)(hm:k*5+5<=m):
  aY (((((w.setCell ⟨b,k*5,none⟩ (vI s.b)).setCell ⟨b,k*5+1,none⟩ (vI s.e)).setCell ⟨b,k*5+2,none⟩ (vI s.g)).setCell ⟨b,k*5+3,none⟩ (.bool s.j)).setCell ⟨b,k*5+4,none⟩ (vI s.i)) b 0 (xs.take (k+1)):=by
 intro i t e;rw[List.getElem?_take]at e;split at e
 ·rename_i hi;by_cases Ky:i=k
  ·subst Ky;rw[hs]at e;obtain rfl:=Option.some.inj e;obtain⟨v0,d0,_⟩:=hr (i*5) (by omega);obtain⟨v1,d1,_⟩:=hr (i*5+1) (by omega);obtain⟨v2,d2,_⟩:=hr (i*5+2) (by omega);obtain⟨v3,d3,_⟩:=hr (i*5+3) (by omega);obtain⟨v4,d4,_⟩:=hr (i*5+4) (by omega);simpa using aV.put s d0 d1 d2 d3 d4
  ·have:=h i t (by rw[List.getElem?_take,if_pos (by omega)];exact e);exact((((this.set (by omega) _).set (by omega) _).set (by omega) _).set (by omega) _).set (by omega) _
 ·cases e
theorem uu(w:World)(a:OA)(cap:Nat):Calls prog 104 #[.slice a 0 cap] w fun e w'=>
  e=.returned (.slice (some ⟨w.1.size,0,none⟩) 0 0)/\Below w.1.size w w'/\w.1.size<w'.1.size:=by
 have mQ:∀w:World,(Instr.makeSlice 89 (vI 0) (vI 0)).run prog w=.ok (.slice (some ⟨w.1.size,0,none⟩) 0 0) (w.alloc (.cells (madeCells #[vI 0,vI 0,vI 0,.bool false,vI 0] 0) 96)):=fun w=>by simpa using pW 0 (by omega) w
 go_enter func104,ntmps104;go_wp2;go_loopw[4] (fun i wr=>i=vI 0/\Below w.1.size w wr/\w.1.size<wr.1.size) (fun _ _=>0)
 case atStart=>exact⟨rfl,aK.alloc aU _,by simp⟩
 case round=>
  obtain⟨rfl,aB,dQ⟩:=hrel;go_wp2;go_ret;exact⟨rfl,aB,dQ⟩
end
section
open Go.Proofs.Tryz
variable {B b i n o off:Nat}{a:OA}{w w':World}
structure C2 where
 head:Int
 g:Int
def C2.cells(s:C2):List Value:=[vI s.head,vI s.g]
structure kD(w:World)(b o:Nat)(s:C2):Prop where
 c0:w.cell? ⟨b,o,none⟩=some (vI s.head)
 c1:w.cell? ⟨b,o+1,none⟩=some (vI s.g)
theorem kD.below{s:C2}(h:kD w b o s)(hb:Below B w w')(hB:b<B):kD w' b o s:=
 ⟨by rw[hb.cell hB];exact h.c0,by rw[hb.cell hB];exact h.c1⟩
theorem kD.iA{s:C2}(h:kD w b o s)(d:Nat)(os:Array Obj):kD (grow (redrawn w d) os) b o s:=
 ⟨cell_regrown h.c0 d os,cell_regrown h.c1 d os⟩
def dJ(w:World)(b off:Nat)(xs:List C2):Prop:=∀i s,xs[i]?=some s->kD w b (off+i*2) s
theorem dJ.below{xs:List C2}(h:dJ w b off xs)(hb:Below B w w')(hB:b<B):dJ w' b off xs:=fun i s e=>(h i s e).below hb hB
def uz(w:World)(B:Nat)(a:OA)(n:Nat)(xs:List C2):Prop:=xs.length=n/\(n=0\/∃b off,a=some ⟨b,off,none⟩/\b<B/\dJ w b off xs)
theorem uz.below{w w':World}{B:Nat}{a:OA}{n:Nat}{xs:List C2}(h:uz w B a n xs)(hb:Below B w w'):uz w' B a n xs:=by
 obtain⟨h1,h2⟩:=h;refine⟨h1,?_⟩;rcases h2 with h2|⟨b,off,ha,hB,hx⟩
 ·exact .inl h2
 ·exact .inr ⟨b,off,ha,hB,hx.below hb hB⟩
theorem uz.mono{B':Nat}{xs:List C2}(h:uz w B a n xs)(hB:B<=B'):uz w B' a n xs:=by
 obtain⟨h1,h2⟩:=h;refine⟨h1,?_⟩;rcases h2 with h2|⟨b,off,ha,hb,hx⟩
 ·exact .inl h2
 ·exact .inr ⟨b,off,ha,by omega,hx⟩
theorem uz.later{xs:List C2}(h:uz w w.1.size a n xs)(hb:Below w.1.size w w'):uz w' w'.1.size a n xs:=(h.below hb).mono hb.size
theorem dJ.dS{xs:List C2}(h:dJ w b off xs){p:Addr}(hp:p.block≠b)(v:Value):dJ (w.setCell p v) b off xs:=fun i s e=>
 ⟨by rw[aJ hp];exact(h i s e).c0,by rw[aJ hp];exact(h i s e).c1⟩
theorem kD.set{p:Nat}{s:C2}(h:kD w b o s)(hp:p<o\/o+2<=p)(v:Value):kD (w.setCell ⟨b,p,none⟩ v) b o s:=
 ⟨by rw[ae (by omega)];exact h.c0,by rw[ae (by omega)];exact h.c1⟩
theorem E9:(prog.info? 140).map (fun i=>(i.zero,i.size,i.bytes))=some (some (.agg #[vI 0,vI 0]),2,16):=by kernel_rfl
theorem Cv(n:Nat)(hn:n<=1048576)(w:World):(Instr.makeSlice 141 (vI (n:Int)) (vI (n:Int))).run prog w=.ok (.slice (some ⟨w.1.size,0,none⟩) n n) (w.alloc (.cells (madeCells #[vI 0,vI 0] (n*2)) 140)):=by
 obtain⟨i,hi,oQ⟩:=Option.map_eq_some_iff.1 E9;simp only[Prod.mk.injEq]at oQ;obtain⟨hz,hs,hb⟩:=oQ;have:=run_make (P:=prog) w 141 140 i _ underlying141 hi hz .i64 .i64 (n:Int) (n:Int) (by omega) (by omega) (by rw[hb];omega) (by omega);rw[hs]at this;simpa[Value.cells]using this
theorem kD.put{v0 v1:Value}(s:C2)(h0:w.cell? ⟨b,o,none⟩=some v0)(h1:w.cell? ⟨b,o+1,none⟩=some v1):
  kD ((w.setCell ⟨b,o,none⟩ (vI s.head)).setCell ⟨b,o+1,none⟩ (vI s.g)) b o s:=by
 refine⟨?_,?_⟩
 ·rw[ae (by omega)];exact ay h0
 ·exact ay (by rw[ae (by omega)];exact h1)
theorem dJ.put{w:World}{b k:Nat}{xs:List C2}{s:C2}(h:dJ w b 0 (xs.take k))(hs:xs[k]?=some s){m:Nat}(hr:Room w b m)(hm:k*2+2<=m):
  dJ ((w.setCell ⟨b,k*2,none⟩ (vI s.head)).setCell ⟨b,k*2+1,none⟩ (vI s.g)) b 0 (xs.take (k+1)):=by
 intro i t e;rw[List.getElem?_take]at e;split at e
 ·rename_i hi;by_cases Ky:i=k
  ·subst Ky;rw[hs]at e;obtain rfl:=Option.some.inj e;obtain⟨v0,d0,_⟩:=hr (i*2) (by omega);obtain⟨v1,d1,_⟩:=hr (i*2+1) (by omega);simpa using kD.put s d0 d1
  ·have:=h i t (by rw[List.getElem?_take,if_pos (by omega)];exact e);exact(this.set (by omega) _).set (by omega) _
 ·cases e
def at2(xs:List C2)(i:Nat):C2:=xs[i]?.getD ⟨0,0⟩
theorem P5{xs:List C2}(h:i<xs.length):xs[i]?=some (at2 xs i):=by
 simp[at2,List.getElem?_eq_getElem h]
theorem dJ.get{xs:List C2}(h:dJ w b off xs)(hi:i<xs.length):kD w b (off+i*2) (at2 xs i):=h i _ (P5 hi)
theorem Me(w:World)(s:C2):Calls prog 201 #[.agg #[vI s.head,vI s.g]] w fun e w'=>
  e=.returned (.agg #[vI s.head,vI s.g])/\Below w.1.size w w':=by
 obtain⟨h,v⟩:=s;go_enter func201,ntmps201;go_wp2;refine bodyPost_ret (v:=.agg #[vI h,vI v]) (by simp[results,results201,go_sem]) rfl ⟨rfl,?_⟩;exact((aK.alloc aU _).alloc (by simp) _).alloc (by simp;omega) _
theorem GJ(w:World)(a:OA)(cap:Nat):Calls prog 170 #[.slice a 0 cap] w fun e w'=>
  e=.returned (.slice (some ⟨w.1.size,0,none⟩) 0 0)/\Below w.1.size w w'/\w.1.size<w'.1.size:=by
 have mQ:∀w:World,(Instr.makeSlice 141 (vI 0) (vI 0)).run prog w=.ok (.slice (some ⟨w.1.size,0,none⟩) 0 0) (w.alloc (.cells (madeCells #[vI 0,vI 0] 0) 140)):=fun w=>by simpa using Cv 0 (by omega) w
 go_enter func170,ntmps170;go_wp2;go_loopw[4] (fun i wr=>i=vI 0/\Below w.1.size w wr/\w.1.size<wr.1.size) (fun _ _=>0)
 case atStart=>exact⟨rfl,aK.alloc aU _,by simp⟩
 case round=>
  obtain⟨rfl,aB,dQ⟩:=hrel;go_wp2;go_ret;exact⟨rfl,aB,dQ⟩
theorem Ic(w:World)(s:C2):Calls prog 232 #[.agg #[vI s.head,vI s.g],.agg #[vI s.head,vI s.g]] w fun e w'=>
  e=.returned (.bool true)/\Below w.1.size w w':=by
 obtain⟨h,v⟩:=s;go_enter func232,ntmps232;go_wp2;go_ret;exact⟨rfl,(aK.alloc aU _).alloc (by simp) _⟩
theorem F4(w:World)(b off cap b' di aZ n:Nat)(xs:List C2)(hx:xs.length=n)(hn:n<=maxLen)(h1:dJ w b off xs)(hb:b<w.1.size)(h2:dJ w b' di xs)(fB:b'<w.1.size):
  Calls prog 200 #[.slice (some ⟨b,off,none⟩) n cap,.slice (some ⟨b',di,none⟩) n aZ] w fun e w'=>e=.returned (.bool true)/\Below w.1.size w w':=by
 unfold maxLen at hn;go_enter func200,ntmps200;go_wp2;go_loopw[5] (fun i wr=>∃k:Nat,k<=n/\i=vI k/\Below w.1.size w wr) (fun i _=>n-(intOf i).toNat)
 case atStart=>exact⟨0,Nat.zero_le _,rfl,aK⟩
 case round=>
  obtain⟨k,hk,rfl,aB⟩:=hrel;by_cases aN:k<n
  ·obtain⟨s,fQ⟩:∃s,xs[k]?=some s:=⟨xs[k]'(by omega),by simp⟩
   have t1:=(((h1 k s fQ).below aB hb).iA)
   have t2:=(((h2 k s fQ).below aB fB).iA)
   have c0:=fun d os=>(t1 d os).c0
   have c1:=fun d os=>(t1 d os).c1
   have e0:=fun d os=>(t2 d os).c0
   have e1:=fun d os=>(t2 d os).c1
   have cQ:∀d os,Calls prog 232 #[.agg #[vI s.head,vI s.g],.agg #[vI s.head,vI s.g]] (grow (redrawn wr d) os) fun e gH=>e=.returned (.bool true)/\∃p:Regrown,gH=grow (redrawn wr p.d) p.os:=fun d os=>Calls.regrown_of (Ic _ s)
   have K:Hid (Below w.1.size w wr):=aB;clear t1 t2 aB fQ h1 h2;go_wp2_with fail;refine gy ?_;repeat (quiet_step (exact cQ _ _))
   refine jb fun dq bu=>?_
   have bq:=below_regrown wr dq bu;go_wp2;exact⟨⟨k+1,by omega,by simp,K.out.trans (bq.mono K.out.size)⟩,by simp[intOf];omega⟩
  ·have:k=n:=by omega
   subst this;have hd:decide (k<k)=false:=by simp
   go_wp2;go_ret;exact⟨rfl,aB⟩
theorem xJ(w:World)(a a':OA)(cap aZ:Nat):Calls prog 200 #[.slice a 0 cap,.slice a' 0 aZ] w fun e w'=>e=.returned (.bool true)/\Below w.1.size w w':=by
 go_enter func200,ntmps200;go_wp2;go_loopw[5] (fun i wr=>i=vI 0/\Below w.1.size w wr) (fun _ _=>0)
 case atStart=>exact⟨rfl,aK⟩
 case round=>
  obtain⟨rfl,aB⟩:=hrel;go_wp2;go_ret;exact⟨rfl,aB⟩
theorem Ib(w:World)(a a':OA)(n cap aZ:Nat)(xs:List C2)(hn:n<=maxLen)(h1:uz w w.1.size a n xs)(h2:uz w w.1.size a' n xs):
  Calls prog 200 #[.slice a n cap,.slice a' n aZ] w fun e w'=>e=.returned (.bool true)/\Below w.1.size w w':=by
 obtain⟨hx,h1⟩:=h1;obtain⟨_,h2⟩:=h2;rcases h1 with rfl|⟨b,off,rfl,hb,h1⟩
 ·exact xJ w a a' cap aZ
 ·rcases h2 with rfl|⟨b',di,rfl,fB,h2⟩
  ·exact xJ w _ a' cap aZ
  ·exact F4 w b off cap b' di aZ n xs hx hn h1 hb h2 fB
end
section
open Go.Proofs.Tryz
variable {B b i:Nat}{w w':World}{z:Int}{zs:List Int}
theorem pE{a:World}(h:Below B a w)(n:Nat):Below B a (w.drewN n):=⟨h.os,h.tape,h.output,h.size,h.block⟩
def eY(w:World)(b off:Nat)(zs:List Int):Prop:=∀i z,zs[i]?=some z->w.cell? ⟨b,off+i,none⟩=some (vI z)
theorem eY.below{off:Nat}(h:eY w b off zs)(hb:Below B w w')(hB:b<B):eY w' b off zs:=fun i z e=>by rw[hb.cell (p:=⟨b,off+i,none⟩) hB];exact h i z e
def sD(w:World)(B:Nat)(a:OA)(n:Nat)(zs:List Int):Prop:=zs.length=n/\(n=0\/∃b off,a=some ⟨b,off,none⟩/\b<B/\eY w b off zs)
theorem sD.later{a:OA}{n:Nat}(h:sD w w.1.size a n zs)(hb:Below w.1.size w w'):sD w' w'.1.size a n zs:=by
 obtain⟨h1,h2⟩:=h;refine⟨h1,?_⟩;rcases h2 with h2|⟨b,off,ha,hB,hx⟩
 ·exact .inl h2
 ·exact .inr ⟨b,off,ha,Nat.lt_of_lt_of_le hB hb.size,hx.below hb hB⟩
def fC(zs:List Int)(i:Nat):Int:=zs[i]?.getD 0
theorem jh(h:i<zs.length):zs[i]?=some (fC zs i):=by simp[fC,List.getElem?_eq_getElem h]
def hasB(zs:List Int)(z:Int):Bool:=zs.any (fun y=>decide (y=z))
theorem MK(hi:i<zs.length)(h:fC zs i=z):hasB zs z=true:=by
 rw[hasB,List.any_eq_true];exact⟨fC zs i,List.mem_of_getElem? (jh hi),by simp[h]⟩
theorem QC(h:∀i,i<zs.length->fC zs i≠z):hasB zs z=false:=by
 rw[hasB,List.any_eq_false];intro y hy;obtain⟨i,hi,rfl⟩:=List.getElem_of_mem hy;have:=h i hi;rw[fC,List.getElem?_eq_getElem hi]at this;simpa using this
theorem OG(n:Nat)(hn:n<=1048576)(w:World):(Instr.makeSlice 69 (vI (n:Int)) (vI (n:Int))).run prog w=.ok (.slice (some ⟨w.1.size,0,none⟩) n n) (w.alloc (.cells (madeCells #[vI 0] n) 2)):=by
 have info:(prog.info? 2).map (fun i=>(i.zero,i.size,i.bytes))=some (some (vI 0),1,8):=by kernel_rfl
 obtain⟨i,hi,oQ⟩:=Option.map_eq_some_iff.1 info;simp only[Prod.mk.injEq]at oQ;obtain⟨hz,hs,hb⟩:=oQ;have:=run_make (P:=prog) w 69 2 i _ underlying69 hi hz .i64 .i64 (n:Int) (n:Int) (by omega) (by omega) (by rw[hb];omega) (by omega);rw[hs]at this;simpa[Value.cells]using this
theorem eY.put{k:Nat}(h:eY w b 0 (zs.take k))(hz:zs[k]?=some z){v:Value}(hv:w.cell? ⟨b,k,none⟩=some v):eY (w.setCell ⟨b,k,none⟩ (vI z)) b 0 (zs.take (k+1)):=by
 intro i t e;rw[List.getElem?_take]at e;split at e
 ·rename_i hi;by_cases Ky:i=k
  ·subst Ky;rw[hz]at e;obtain rfl:=Option.some.inj e;simpa using ay hv
  ·have:=h i t (by rw[List.getElem?_take,if_pos (by omega)];exact e);rw[ae (by omega)];exact this
 ·cases e
theorem yL(w:World)(a:OA)(n cap:Nat)(zs:List Int)(hn:n<=1048576)(hs:sD w w.1.size a n zs):Calls prog 100 #[.slice a n cap] w fun e w'=>
  e=.returned (.slice (some ⟨w.1.size,0,none⟩) n n)/\Below w.1.size w w'/\w.1.size<w'.1.size/\eY w' w.1.size 0 zs/\Room w' w.1.size n:=by
 obtain⟨hx,hs⟩:=hs;have mQ:=OG n hn;go_enter func100,ntmps100;go_wp2;go_loopw[4] (fun i wr=>∃k:Nat,k<=n/\i=vI k/\Below w.1.size w wr/\w.1.size<wr.1.size/\Room wr w.1.size n/\eY wr w.1.size 0 (zs.take k)) (fun i _=>n-(intOf i).toNat)
 case atStart=>exact⟨0,Nat.zero_le _,rfl,aK.alloc aU _,by simp,iF _ _ _ _,fun i s e=>by simp at e⟩
 case round=>
  obtain⟨k,hk,rfl,aB,dQ,eB,lS⟩:=hrel;by_cases aN:k<n
  ·rcases hs with hs|⟨b,off,rfl,hb,h1⟩
   ·omega
   ·have c:=(aB.cell (p:=⟨b,off+k,none⟩) hb).trans (h1 k _ (jh (by omega)));obtain⟨v,d,f⟩:=eB k aN;have K:Hid (Room wr w.1.size n/\eY wr w.1.size 0 (zs.take k)/\zs[k]?=some (fC zs k)/\Below w.1.size w wr):=⟨eB,lS,jh (by omega),aB⟩
    clear eB lS aB mQ h1 hx;go_wp2;obtain⟨eB,lS,hz,aB⟩:=K.out;exact⟨⟨k+1,by omega,by simp,aB.setCell (p:=⟨w.1.size,k,none⟩) aU _,by simpa[World.setCell]using dQ,eB.set _,lS.put hz d⟩,by simp[intOf];omega⟩
  ·have:k=n:=by omega
   subst this;have hd:decide (k<k)=false:=by simp
   rw[<-hx,List.take_length]at lS;have K:=dw lS eB;clear lS hs eB;go_wp2;go_ret;exact⟨rfl,aB,dQ,K.out.1,K.out.2⟩
theorem xK(w:World)(a a':OA)(n cap aZ:Nat)(zs:List Int)(hn:n<=maxLen)(h1:sD w w.1.size a n zs)(h2:sD w w.1.size a' n zs):
  Calls prog 119 #[.slice a n cap,.slice a' n aZ] w fun e w'=>e=.returned (.bool true)/\Below w.1.size w w':=by
 unfold maxLen at hn;obtain⟨hx,h1⟩:=h1;obtain⟨_,h2⟩:=h2;go_enter func119,ntmps119;go_wp2;go_loopw[5] (fun i wr=>∃k:Nat,k<=n/\i=vI k/\Below w.1.size w wr) (fun i _=>n-(intOf i).toNat)
 case atStart=>exact⟨0,Nat.zero_le _,rfl,aK⟩
 case round=>
  obtain⟨k,hk,rfl,aB⟩:=hrel;by_cases aN:k<n
  ·rcases h1 with h1|⟨b,off,rfl,hb,h1⟩
   ·omega
   ·rcases h2 with h2|⟨b',di,rfl,fB,h2⟩
    ·omega
    ·have c1:=(aB.cell (p:=⟨b,off+k,none⟩) hb).trans (h1 k _ (jh (by omega)));have c2:=(aB.cell (p:=⟨b',di+k,none⟩) fB).trans (h2 k _ (jh (by omega)));have KG:(k:Int)<(n:Int):=by omega
     have K:Hid (Below w.1.size w wr):=aB;clear h1 h2 aB hx;go_wp2_with fail;go_quiet (fail);go_wp2;exact⟨⟨k+1,by omega,by simp,pE K.out _⟩,by simp[intOf];omega⟩
  ·have:k=n:=by omega
   subst this;have hd:decide (k<k)=false:=by simp
   clear h1 h2;go_wp2;go_ret;exact⟨rfl,aB⟩
end
section
open Go.Proofs.Tryz
def marks:Nat->Int->List Int
 | 0,_=>[]
 | n+1,k=>k::marks n (k+1)
theorem mH:∀(n:Nat) (k:Int),(marks n k).length=n
 | 0,_=>rfl
 | n+1,k=>by simp[marks,mH n]
theorem CE:∀(n:Nat) (k:Int) (i:Nat),i<n->(marks n k)[i]?=some (k+i)
 | 0,_,_,h=>by omega
 | n+1,k,0,_=>by simp[marks]
 | n+1,k,i+1,h=>by
  rw[marks,List.getElem?_cons_succ,CE n (k+1) i (by omega)];congr 1;omega
theorem tZ(w:World)(g n cap:Nat)(k:Int)(hn:n<=1048576)(hk:0<=k)(pJ:k<=1000000000)(hr:Room w g n):
  Calls prog 67 #[.slice (some ⟨g,0,none⟩) n cap,vI k] w fun e w'=>e=.returned (vI (k+n))/\aX g w w'/\eY w' g 0 (marks n k)/\Room w' g n:=by
 go_enter func67,ntmps67;go_wp2;go_loopw[1,5] (fun v1 v5 wr=>∃j:Nat,j<=n/\v5=vI j/\v1=vI (k+j)/\aX g w wr/\Room wr g n/\eY wr g 0 ((marks n k).take j)) (fun _ v5 _=>n-(intOf v5).toNat)
 case atStart=>exact⟨0,Nat.zero_le _,rfl,by simp,aX.refl _ _,hr,fun i s e=>by simp at e⟩
 case round=>
  obtain⟨j,hj,rfl,rfl,ho,eB,lS⟩:=hrel;by_cases aN:j<n
  ·obtain⟨v,d,f⟩:=eB j aN;have K:=fP ho eB lS;clear ho eB lS hr;go_wp2;obtain⟨ho,eB,lS⟩:=K.out;exact⟨⟨j+1,by omega,by simp,by simp;omega,ho.setCell _ _,eB.set _,lS.put (CE n k j aN) d⟩,by simp[intOf];omega⟩
  ·have:j=n:=by omega
   subst this;have hd:decide ((j:Int)<(j:Int))=false:=by simp
   rw[show(marks j k).take j=marks j k from List.take_of_length_le (by rw[mH];omega)]at lS;have K:=fP ho lS eB;clear ho lS eB hr;go_wp2;go_ret;exact⟨by simp,K.out.1,K.out.2.1,K.out.2.2⟩
theorem Au(w:World)(a:OA)(cap:Nat)(k:Int):Calls prog 67 #[.slice a 0 cap,vI k] w fun e w'=>e=.returned (vI k)/\w'=w:=by
 go_enter func67,ntmps67;go_wp2;go_loop[1,5] (fun v1 v5=>v5=vI 0/\v1=vI k) (fun _ _=>0)
 case atStart=>exact⟨rfl,rfl⟩
 case round=>
  obtain⟨rfl,rfl⟩:=hrel;go_wp2;go_ret;exact⟨rfl,rfl⟩
end
section
open Go.Proofs.Tryz
variable {a:OA}{aR:List (List Int)}{b j n:Nat}{g:Nat->Nat}{w w':World}{zs:List Int}
def zQ(w:World)(B b off:Nat)(aR:List (List Int)):Prop:=∀i zs,aR[i]?=some zs->∃a cap,w.cell? ⟨b,off+i,none⟩=some (.slice a zs.length cap)/\sD w B a zs.length zs/\zs.length<=cap
def yY(w:World)(B:Nat)(a:OA)(n:Nat)(aR:List (List Int)):Prop:=aR.length=n/\(n=0\/∃b off,a=some ⟨b,off,none⟩/\b<B/\zQ w B b off aR)
theorem sD.below{w w':World}{B:Nat}{a:OA}{n:Nat}{zs:List Int}(h:sD w B a n zs)(hb:Below B w w'):sD w' B a n zs:=by
 obtain⟨h1,h2⟩:=h;refine⟨h1,?_⟩;rcases h2 with h2|⟨b,off,ha,hB,hx⟩
 ·exact .inl h2
 ·exact .inr ⟨b,off,ha,hB,hx.below hb hB⟩
theorem sD.mono{B B':Nat}(h:sD w B a n zs)(hB:B<=B'):sD w B' a n zs:=by
 obtain⟨h1,h2⟩:=h;refine⟨h1,?_⟩;rcases h2 with h2|⟨b,off,ha,hb,hx⟩
 ·exact .inl h2
 ·exact .inr ⟨b,off,ha,by omega,hx⟩
theorem zQ.below{w w':World}{B b off:Nat}{aR:List (List Int)}(h:zQ w B b off aR)(hb:Below B w w')(hB:b<B):zQ w' B b off aR:=fun i zs e=>by
 obtain⟨a,cap,h1,h2,h3⟩:=h i zs e;exact⟨a,cap,(hb.cell (p:=⟨b,off+i,none⟩) hB).trans h1,h2.below hb,h3⟩
theorem zQ.mono{w:World}{B B' b off:Nat}{aR:List (List Int)}(h:zQ w B b off aR)(hB:B<=B'):zQ w B' b off aR:=fun i zs e=>by
 obtain⟨a,cap,h1,h2,h3⟩:=h i zs e;exact⟨a,cap,h1,h2.mono hB,h3⟩
theorem yY.below{w w':World}{B:Nat}{a:OA}{n:Nat}{aR:List (List Int)}(h:yY w B a n aR)(hb:Below B w w'):yY w' B a n aR:=by
 obtain⟨h1,h2⟩:=h;refine⟨h1,?_⟩;rcases h2 with h2|⟨b,off,ha,hB,hx⟩
 ·exact .inl h2
 ·exact .inr ⟨b,off,ha,hB,hx.below hb hB⟩
theorem yY.mono{w:World}{B B':Nat}{a:OA}{n:Nat}{aR:List (List Int)}(h:yY w B a n aR)(hB:B<=B'):yY w B' a n aR:=by
 obtain⟨h1,h2⟩:=h;refine⟨h1,?_⟩;rcases h2 with h2|⟨b,off,ha,hb,hx⟩
 ·exact .inl h2
 ·exact .inr ⟨b,off,ha,by omega,hx.mono hB⟩
theorem yY.later(h:yY w w.1.size a n aR)(hb:Below w.1.size w w'):yY w' w'.1.size a n aR:=(h.below hb).mono hb.size
def eU(aR:List (List Int))(i:Nat):List Int:=aR[i]?.getD []
theorem gB{i:Nat}(h:i<aR.length):aR[i]?=some (eU aR i):=by simp[eU,List.getElem?_eq_getElem h]
def lens(aR:List (List Int)):Nat:=(aR.map List.length).sum
theorem lens_take_succ(h:j<aR.length):lens (aR.take (j+1))=lens (aR.take j)+(eU aR j).length:=by
 rw[List.take_add_one,gB h];simp[lens]
theorem lens_take_le(aR:List (List Int))(j:Nat):lens (aR.take j)<=lens aR:=by
 have e:lens aR=lens (aR.take j)+lens (aR.drop j):=by
  rw[lens,lens,lens,<-List.sum_append,<-List.map_append,List.take_append_drop]
 omega
theorem Rf(h:zs∈aR):zs.length<=lens aR:=by
 obtain⟨i,hi,rfl⟩:=List.getElem_of_mem h;have h1:=lens_take_succ hi;have h2:=lens_take_le aR (i+1);have e:eU aR i=aR[i]:=by simp[eU,hi]
 rw[e]at h1;omega
structure lN(w:World)(base b n:Nat)(aR:List (List Int))(g:Nat->Nat):Prop where
 len:aR.length=n
 cell:∀i zs,aR[i]?=some zs->∃cap,w.cell? ⟨b,i,none⟩=some (.slice (some ⟨g i,0,none⟩) zs.length cap)/\zs.length<=cap
 low:∀i,i<n->base<=g i
 lt:∀i,i<n->g i<w.1.size
 ne:∀i,i<n->g i≠b
 nums:∀i zs,aR[i]?=some zs->eY w (g i) 0 zs
 room:∀i zs,aR[i]?=some zs->Room w (g i) zs.length
 inj:∀i j,i<n->j<n->g i=g j->i=j
theorem lN.at{base:Nat}(h:lN w base b n aR g)(B:Nat)(hB:w.1.size<=B):zQ w B b 0 aR:=fun i zs e=>by
 obtain⟨cap,hc,kz⟩:=h.cell i zs e;have hi:i<n:=by have:=(List.getElem?_eq_some_iff.1 e).1;have:=h.len;omega
 exact⟨_,cap,by rw[Nat.zero_add];exact hc,⟨rfl,.inr ⟨g i,0,rfl,by have:=h.lt i hi;omega,h.nums i zs e⟩⟩,kz⟩
theorem lN.sl{base:Nat}(h:lN w base b n aR g)(hb:b<w.1.size):yY w w.1.size (some ⟨b,0,none⟩) n aR:=
 ⟨h.len,.inr ⟨b,0,rfl,hb,h.at _ aU⟩⟩
theorem eY.aj{off:Nat}(h:eY w b off zs)(e:w'.1[b]?=w.1[b]?):eY w' b off zs:=fun i z hz=>(World.cell?_of_block (a:=⟨b,off+i,none⟩) e).trans (h i z hz)
theorem Room.aj{m:Nat}(h:Room w b m)(e:w'.1[b]?=w.1[b]?):Room w' b m:=fun j hj=>by
 obtain⟨v,h1,h2⟩:=h j hj;exact⟨v,(World.cell?_of_block (a:=⟨b,j,none⟩) e).trans h1,(World.frozen?_of_block (a:=⟨b,j,none⟩) e).trans h2⟩
theorem lN.jd{base:Nat}(h:lN w base b n aR g)(hs:w.1.size<=w'.1.size)(eb:w'.1[b]?=w.1[b]?)(eg:∀i,i<n->w'.1[g i]?=w.1[g i]?):lN w' base b n aR g:=by
 have hi:∀i zs,aR[i]?=some zs->i<n:=fun i zs e=>by have:=(List.getElem?_eq_some_iff.1 e).1;have:=h.len;omega
 refine⟨h.len,fun i zs e=>?_,h.low,fun i hi=>Nat.lt_of_lt_of_le (h.lt i hi) hs,h.ne,fun i zs e=>(h.nums i zs e).aj (eg i (hi i zs e)),fun i zs e=>(h.room i zs e).aj (eg i (hi i zs e)),h.inj⟩;obtain⟨cap,hc,kz⟩:=h.cell i zs e;exact⟨cap,(World.cell?_of_block (a:=⟨b,i,none⟩) eb).trans hc,kz⟩
theorem lN.later{base:Nat}(h:lN w base b n aR g)(hb:Below w.1.size w w')(aN:b<w.1.size):lN w' base b n aR g:=
 h.jd hb.size (hb.block b aN) (fun i hi=>hb.block _ (h.lt i hi))
theorem lN.snoc{base:Nat}{q cap:Nat}(h:lN w base b j aR g)(hc:w.cell? ⟨b,j,none⟩=some (.slice (some ⟨q,0,none⟩) zs.length cap))(kz:zs.length<=cap)
  (hq:base<=q) (hl:q<w.1.size) (hn:q≠b) (hx:eY w q 0 zs) (hr:Room w q zs.length) (hf:∀i,i<j->g i≠q):lN w base b (j+1) (aR++[zs]) (fun i=>if i=j then q else g i):=by
 have hlen:=h.len
 have split:∀i ys,(aR++[zs])[i]?=some ys->(i<j/\aR[i]?=some ys)\/(i=j/\ys=zs):=fun i ys e=>by
  by_cases hi:i<aR.length
  ·rw[List.getElem?_append_left hi]at e;exact .inl ⟨by omega,e⟩
  ·rw[List.getElem?_append_right (by omega)]at e
   have h0:i-aR.length=0:=by
    rcases Nat.eq_zero_or_pos (i-aR.length)with h|h
    ·exact h
    ·rw[List.getElem?_eq_none (by simp;omega)]at e;cases e
   rw[h0]at e;simp at e;exact .inr ⟨by omega,e.symm⟩
 refine⟨by simp[hlen],fun i ys e=>?_,fun i hi=>?_,fun i hi=>?_,fun i hi=>?_,fun i ys e=>?_,fun i ys e=>?_,fun i k hi hk e=>?_⟩
 ·rcases split i ys e with ⟨hi,e⟩|⟨rfl,rfl⟩
  ·rw[if_neg (by omega)];exact h.cell i ys e
  ·rw[if_pos rfl];exact⟨cap,hc,kz⟩
 ·by_cases e:i=j
  ·rw[if_pos e];exact hq
  ·rw[if_neg e];exact h.low i (by omega)
 ·by_cases e:i=j
  ·rw[if_pos e];exact hl
  ·rw[if_neg e];exact h.lt i (by omega)
 ·by_cases e:i=j
  ·rw[if_pos e];exact hn
  ·rw[if_neg e];exact h.ne i (by omega)
 ·rcases split i ys e with ⟨hi,e⟩|⟨rfl,rfl⟩
  ·rw[if_neg (by omega)];exact h.nums i ys e
  ·rw[if_pos rfl];exact hx
 ·rcases split i ys e with ⟨hi,e⟩|⟨rfl,rfl⟩
  ·rw[if_neg (by omega)];exact h.room i ys e
  ·rw[if_pos rfl];exact hr
 ·by_cases ei:i=j<;>by_cases ek:k=j
  ·omega
  ·simp only[if_pos ei,if_neg ek]at e;exact absurd e.symm (hf k (by omega))
  ·simp only[if_neg ei,if_pos ek]at e;exact absurd e (hf i (by omega))
  ·simp only[if_neg ei,if_neg ek]at e;exact h.inj i k (by omega) (by omega) e
theorem lN.nil(w:World)(base b:Nat)(g:Nat->Nat):lN w base b 0 [] g:=
 ⟨rfl,fun i zs e=>by simp at e,fun i h=>by omega,fun i h=>by omega,fun i h=>by omega,fun i zs e=>by simp at e,fun i zs e=>by simp at e,fun i j h=>by omega⟩
end
section
open Go.Proofs.Tryz
variable {a:OA}{i n x:Nat}{ns:List Nat}{w w':World}
structure R4 where
 kind:Int
 tx:Int
 b:Int
 ai:List S5
structure K2 where
 b:Int
 cells:List C2
structure M4 where
 x:Bool
 ag:List K2
 h:List R4
 ax:List Int
structure Bp(w:World)(B b o:Nat)(r:R4):Prop where
 c0:w.cell? ⟨b,o,none⟩=some (vI r.kind)
 c1:w.cell? ⟨b,o+1,none⟩=some (vI r.tx)
 c2:w.cell? ⟨b,o+2,none⟩=some (vI r.b)
 c3:∃a cap,w.cell? ⟨b,o+3,none⟩=some (.slice a r.ai.length cap)/\Sl w B a r.ai.length r.ai/\r.ai.length<=cap
theorem Bp.below{w w':World}{B b o:Nat}{r:R4}(h:Bp w B b o r)(hb:Below B w w')(hB:b<B):Bp w' B b o r:=
 ⟨(hb.cell (p:=⟨b,o,none⟩) hB).trans h.c0,(hb.cell (p:=⟨b,o+1,none⟩) hB).trans h.c1,(hb.cell (p:=⟨b,o+2,none⟩) hB).trans h.c2,by
  obtain⟨a,cap,h1,h2,h3⟩:=h.c3
  exact⟨a,cap,(hb.cell (p:=⟨b,o+3,none⟩) hB).trans h1,h2.below hb,h3⟩⟩
theorem Bp.mono{w:World}{B B' b o:Nat}{r:R4}(h:Bp w B b o r)(hB:B<=B'):Bp w B' b o r:=
 ⟨h.c0,h.c1,h.c2,by
  obtain⟨a,cap,h1,h2,h3⟩:=h.c3
  exact⟨a,cap,h1,h2.mono hB,h3⟩⟩
def VQ(w:World)(B b off:Nat)(rs:List R4):Prop:=∀i r,rs[i]?=some r->Bp w B b (off+i*4) r
def J5(w:World)(B:Nat)(a:OA)(n:Nat)(rs:List R4):Prop:=rs.length=n/\(n=0\/∃b off,a=some ⟨b,off,none⟩/\b<B/\VQ w B b off rs)
theorem J5.later{rs:List R4}(h:J5 w w.1.size a n rs)(hb:Below w.1.size w w'):J5 w' w'.1.size a n rs:=by
 obtain⟨h1,h2⟩:=h;refine⟨h1,h2.imp id ?_⟩;rintro ⟨b,off,ha,hB,hx⟩;exact⟨b,off,ha,Nat.lt_of_lt_of_le hB hb.size,fun i r e=>((hx i r e).below hb hB).mono hb.size⟩
structure Bo(w:World)(B b o:Nat)(k:K2):Prop where
 c0:w.cell? ⟨b,o,none⟩=some (vI k.b)
 c1:∃a cap,w.cell? ⟨b,o+1,none⟩=some (.slice a k.cells.length cap)/\uz w B a k.cells.length k.cells/\k.cells.length<=cap
theorem Bo.below{w w':World}{B b o:Nat}{k:K2}(h:Bo w B b o k)(hb:Below B w w')(hB:b<B):Bo w' B b o k:=
 ⟨(hb.cell (p:=⟨b,o,none⟩) hB).trans h.c0,by
  obtain⟨a,cap,h1,h2,h3⟩:=h.c1
  exact⟨a,cap,(hb.cell (p:=⟨b,o+1,none⟩) hB).trans h1,h2.below hb,h3⟩⟩
theorem Bo.mono{w:World}{B B' b o:Nat}{k:K2}(h:Bo w B b o k)(hB:B<=B'):Bo w B' b o k:=
 ⟨h.c0,by
  obtain⟨a,cap,h1,h2,h3⟩:=h.c1
  exact⟨a,cap,h1,h2.mono hB,h3⟩⟩
def VL(w:World)(B b off:Nat)(ks:List K2):Prop:=∀i k,ks[i]?=some k->Bo w B b (off+i*2) k
def DR(w:World)(B:Nat)(a:OA)(n:Nat)(ks:List K2):Prop:=ks.length=n/\(n=0\/∃b off,a=some ⟨b,off,none⟩/\b<B/\VL w B b off ks)
theorem DR.later{ks:List K2}(h:DR w w.1.size a n ks)(hb:Below w.1.size w w'):DR w' w'.1.size a n ks:=by
 obtain⟨h1,h2⟩:=h;refine⟨h1,h2.imp id ?_⟩;rintro ⟨b,off,ha,hB,hx⟩;exact⟨b,off,ha,Nat.lt_of_lt_of_le hB hb.size,fun i k e=>((hx i k e).below hb hB).mono hb.size⟩
def atR(rs:List R4)(i:Nat):R4:=rs[i]?.getD ⟨0,0,0,[]⟩
theorem jC{rs:List R4}(h:i<rs.length):rs[i]?=some (atR rs i):=by simp[atR,List.getElem?_eq_getElem h]
def dX(ks:List K2)(i:Nat):K2:=ks[i]?.getD ⟨0,[]⟩
theorem eZ{ks:List K2}(h:i<ks.length):ks[i]?=some (dX ks i):=by simp[dX,List.getElem?_eq_getElem h]
structure MV where
 ac:OA
 cc:Nat
 al:OA
 cl:Nat
 ad:OA
 cd:Nat
def MV.val(v:MV)(m:M4):Value:=.agg #[.bool m.x,.slice v.ac m.ag.length v.cc,.slice v.al m.h.length v.cl,.slice v.ad m.ax.length v.cd]
structure Ag(w:World)(v:MV)(m:M4):Prop where
 k:DR w w.1.size v.ac m.ag.length m.ag
 r:J5 w w.1.size v.al m.h.length m.h
 n:sD w w.1.size v.ad m.ax.length m.ax
theorem Ag.later{v:MV}{m:M4}(h:Ag w v m)(hb:Below w.1.size w w'):Ag w' v m:=⟨h.k.later hb,h.r.later hb,h.n.later hb⟩
def kL(rs:List R4):Nat:=(rs.map fun r=>r.ai.length).sum
def kK(ks:List K2):Nat:=(ks.map fun k=>k.cells.length).sum
theorem jV{j:Nat}(h:ns[j]?=some x):(ns.take (j+1)).sum=(ns.take j).sum+x:=by
 rw[List.take_add_one,h];simp
theorem lJ(ns:List Nat)(j:Nat):(ns.take j).sum<=ns.sum:=by
 conv=>rhs;rw[<-List.take_append_drop j ns,List.sum_append]
 omega
theorem Np(h:x∈ns):x<=ns.sum:=by
 induction ns with
 | nil=>cases h
 | cons y r ih=>
  rcases List.mem_cons.1 h with rfl|h
  ·simp
  ·have:=ih h;simp;omega
end
section
open Go.Proofs.Tryz
variable {b n:Nat}{g:Nat->Nat}{w w':World}
structure gT{α:Type}(sz:Nat)(hd:α->List Int)(ln:α->Nat)(At:World->Nat->α->Prop)(w:World)(base b n:Nat)(rs:List α)(g:Nat->Nat):Prop where
 len:rs.length=n
 head:∀i r,rs[i]?=some r->∀t z,(hd r)[t]?=some z->w.cell? ⟨b,i*sz+t,none⟩=some (vI z)
 tail:∀i r,rs[i]?=some r->∃cap,w.cell? ⟨b,i*sz+(sz-1),none⟩=some (.slice (some ⟨g i,0,none⟩) (ln r) cap)/\ln r<=cap
 low:∀i,i<n->base<=g i
 lt:∀i,i<n->g i<w.1.size
 ne:∀i,i<n->g i≠b
 sub:∀i r,rs[i]?=some r->At w (g i) r
 inj:∀i j,i<n->j<n->g i=g j->i=j
theorem gT.idx{α:Type}{sz:Nat}{hd:α->List Int}{ln:α->Nat}{At:World->Nat->α->Prop}{base:Nat}{rs:List α}(h:gT sz hd ln At w base b n rs g){i:Nat}{r:α}(e:rs[i]?=some r):i<n:=by
 have:=(List.getElem?_eq_some_iff.1 e).1;have:=h.len;omega
theorem gT.nil{α:Type}{sz:Nat}{hd:α->List Int}{ln:α->Nat}{At:World->Nat->α->Prop}(w:World)(base b:Nat)(g:Nat->Nat):gT sz hd ln At w base b 0 [] g:=
 ⟨rfl,fun i r e=>by simp at e,fun i r e=>by simp at e,fun i h=>by omega,fun i h=>by omega,fun i h=>by omega,fun i r e=>by simp at e,fun i j h=>by omega⟩
theorem gT.jd{α:Type}{sz:Nat}{hd:α->List Int}{ln:α->Nat}{At:World->Nat->α->Prop}(MJ:∀(w w':World) (b:Nat) (r:α),w'.1[b]?=w.1[b]?->At w b r->At w' b r){base:Nat}{rs:List α}(h:gT sz hd ln At w base b n rs g)(hs:w.1.size<=w'.1.size)(eb:w'.1[b]?=w.1[b]?)(eg:∀i,i<n->w'.1[g i]?=w.1[g i]?):gT sz hd ln At w' base b n rs g:=by
 refine⟨h.len,fun i r e t z ht=>(World.cell?_of_block (a:=⟨b,i*sz+t,none⟩) eb).trans (h.head i r e t z ht),fun i r e=>?_,h.low,fun i hi=>Nat.lt_of_lt_of_le (h.lt i hi) hs,h.ne,fun i r e=>MJ _ _ _ _ (eg i (h.idx e)) (h.sub i r e),h.inj⟩;obtain⟨cap,h1,h2⟩:=h.tail i r e;exact⟨cap,(World.cell?_of_block (a:=⟨b,i*sz+(sz-1),none⟩) eb).trans h1,h2⟩
theorem gT.later{α:Type}{sz:Nat}{hd:α->List Int}{ln:α->Nat}{At:World->Nat->α->Prop}(MJ:∀(w w':World) (b:Nat) (r:α),w'.1[b]?=w.1[b]?->At w b r->At w' b r){base:Nat}{rs:List α}(h:gT sz hd ln At w base b n rs g)(hb:Below w.1.size w w')(aN:b<w.1.size):gT sz hd ln At w' base b n rs g:=
 h.jd MJ hb.size (hb.block b aN) (fun i hi=>hb.block _ (h.lt i hi))
theorem gT.next{α:Type}{sz:Nat}{hd:α->List Int}{ln:α->Nat}{At:World->Nat->α->Prop}(MJ:∀(w w':World) (b:Nat) (r:α),w'.1[b]?=w.1[b]?->At w b r->At w' b r){V:World}{base j:Nat}{rs:List α}{r:α}{q cap:Nat}(h:gT sz hd ln At w base b j rs g)(hz:0<sz)(hh:∀r:α,(hd r).length<sz)
  (hs:w.1.size<=V.1.size) (hb:∀x,x≠b->V.1[x]?=w.1[x]?) (hold:∀o,o<j*sz->V.cell? ⟨b,o,none⟩=w.cell? ⟨b,o,none⟩) (js:∀t z,(hd r)[t]?=some z->V.cell? ⟨b,j*sz+t,none⟩=some (vI z)) (TM:V.cell? ⟨b,j*sz+(sz-1),none⟩=some (.slice (some ⟨q,0,none⟩) (ln r) cap)) (kz:ln r<=cap)
  (hq:base<=q) (hl:q<V.1.size) (hn:q≠b) (bg:At V q r) (hf:∀i,i<j->g i≠q):gT sz hd ln At V base b (j+1) (rs++[r]) (fun i=>if i=j then q else g i):=by
 have hlen:=h.len
 have lo:∀i t,i<j->t<sz->i*sz+t<j*sz:=fun i t hi ht=>by
  have:(i+1)*sz<=j*sz:=Nat.mul_le_mul_right sz (by omega);rw[Nat.add_mul]at this;omega
 have split:∀i y,(rs++[r])[i]?=some y->(i<j/\rs[i]?=some y)\/(i=j/\y=r):=fun i y e=>by
  by_cases hi:i<rs.length
  ·rw[List.getElem?_append_left hi]at e;exact .inl ⟨by omega,e⟩
  ·rw[List.getElem?_append_right (by omega)]at e
   have h0:i-rs.length=0:=by
    rcases Nat.eq_zero_or_pos (i-rs.length)with h|h
    ·exact h
    ·rw[List.getElem?_eq_none (by simp;omega)]at e;cases e
   rw[h0]at e;simp at e;exact .inr ⟨by omega,e.symm⟩
 refine⟨by simp[hlen],fun i y e t z ht=>?_,fun i y e=>?_,fun i hi=>?_,fun i hi=>?_,fun i hi=>?_,fun i y e=>?_,fun i k hi hk e=>?_⟩
 ·rcases split i y e with ⟨hi,e⟩|⟨rfl,rfl⟩
  ·rw[hold _ (lo i t hi (Nat.lt_trans (List.getElem?_eq_some_iff.1 ht).1 (hh y)))];exact h.head i y e t z ht
  ·exact js t z ht
 ·rcases split i y e with ⟨hi,e⟩|⟨rfl,rfl⟩
  ·rw[if_neg (by omega),hold _ (lo i _ hi (by omega))];exact h.tail i y e
  ·rw[if_pos rfl];exact⟨cap,TM,kz⟩
 ·by_cases e:i=j
  ·rw[if_pos e];exact hq
  ·rw[if_neg e];exact h.low i (by omega)
 ·by_cases e:i=j
  ·rw[if_pos e];exact hl
  ·rw[if_neg e];exact Nat.lt_of_lt_of_le (h.lt i (by omega)) hs
 ·by_cases e:i=j
  ·rw[if_pos e];exact hn
  ·rw[if_neg e];exact h.ne i (by omega)
 ·rcases split i y e with ⟨hi,e⟩|⟨rfl,rfl⟩
  ·rw[if_neg (by omega)];exact MJ _ _ _ _ (hb _ (h.ne i hi)) (h.sub i y e)
  ·rw[if_pos rfl];exact bg
 ·by_cases ei:i=j<;>by_cases ek:k=j
  ·omega
  ·simp only[if_pos ei,if_neg ek]at e;exact absurd e.symm (hf k (by omega))
  ·simp only[if_neg ei,if_pos ek]at e;exact absurd e (hf i (by omega))
  ·simp only[if_neg ei,if_neg ek]at e;exact h.inj i k (by omega) (by omega) e
end
section
open Go.Proofs.Tryz
theorem rF(w:World)(b off n cap:Nat)(xs:List S5)(hx:xs.length=n)(hn:n<=1048576)(hb:b<w.1.size)(hs:aY w b off xs):Calls prog 104 #[.slice (some ⟨b,off,none⟩) n cap] w fun e w'=>
  e=.returned (.slice (some ⟨w.1.size,0,none⟩) n n)/\Below w.1.size w w'/\w.1.size<w'.1.size/\aY w' w.1.size 0 xs/\Room w' w.1.size (n*5):=by
 have mQ:=pW n hn;go_enter func104,ntmps104;go_wp2
 go_loopw[4] (fun i wr=>∃k:Nat,k<=n/\i=vI k/\Below w.1.size w wr/\w.1.size<wr.1.size/\Room wr w.1.size (n*5)/\aY wr w.1.size 0 (xs.take k))
   (fun i _=>n-(intOf i).toNat)
 case atStart=>exact⟨0,Nat.zero_le _,rfl,aK.alloc aU _,by simp,iF _ _ _ _,fun i s e=>by simp at e⟩
 case round=>
  obtain⟨k,hk,rfl,aB,dQ,eB,lS⟩:=hrel;by_cases aN:k<n
  ·have IJ:=hs.below aB hb;obtain⟨s,fQ⟩:∃s,xs[k]?=some s:=⟨xs[k]'(by omega),by simp⟩
   obtain⟨c0,c1,c2,c3,c4⟩:=IJ k s fQ;clear IJ mQ;have K:=pI eB lS fQ aB;clear eB lS fQ aB;go_wp2_with fail;refine(FH _ s).mono ?_;rintro e w1 ⟨rfl,b1⟩;obtain⟨eB,lS,fQ,aB⟩:=K.out;have iK:=eB.below b1 dQ;have qQ:=lS.below b1 dQ;obtain⟨v0,d0,f0⟩:=iK (k*5) (by omega);obtain⟨v1,d1,f1⟩:=iK (k*5+1) (by omega);obtain⟨v2,d2,f2⟩:=iK (k*5+2) (by omega);obtain⟨v3,d3,f3⟩:=iK (k*5+3) (by omega);obtain⟨v4,d4,f4⟩:=iK (k*5+4) (by omega);clear eB lS fQ aB;have K2:=dw iK qQ;clear iK qQ;go_wp2;obtain⟨eB,lS,fQ,aB⟩:=K.out;obtain⟨iK,qQ⟩:=K2.out;have Kr:=aB.trans (b1.mono (Nat.le_of_lt dQ))
   refine⟨⟨k+1,by omega,by simp,((((Kr.setCell (p:=⟨w.1.size,k*5,none⟩) aU _).setCell (p:=⟨w.1.size,k*5+1,none⟩) aU _).setCell (p:=⟨w.1.size,k*5+2,none⟩) aU _).setCell (p:=⟨w.1.size,k*5+3,none⟩) aU _).setCell (p:=⟨w.1.size,k*5+4,none⟩) aU _,
    by have:=b1.size;simp[World.setCell];omega,((((iK.set _).set _).set _).set _).set _,qQ.put fQ iK (by omega)⟩,by simp[intOf];omega⟩
  ·have:k=n:=by omega
   subst this;have hd:decide (k<k)=false:=by simp
   go_wp2;go_ret;refine⟨rfl,aB,dQ,?_,eB⟩;rw[<-hx,List.take_length]at lS;exact lS
theorem uq(w:World)(a:OA)(n cap:Nat)(xs:List S5)(hn:n<=1048576)(hs:Sl w w.1.size a n xs):Calls prog 104 #[.slice a n cap] w fun e w'=>
  e=.returned (.slice (some ⟨w.1.size,0,none⟩) n n)/\Below w.1.size w w'/\w.1.size<w'.1.size/\aY w' w.1.size 0 xs/\Room w' w.1.size (n*5):=by
 obtain⟨h1,h2⟩:=hs;rcases h2 with rfl|⟨b,off,rfl,hb,hx⟩
 ·refine(uu w a cap).mono ?_;rintro e w' ⟨rfl,h,h'⟩;exact⟨rfl,h,h',(fun i s e=>by rw[List.eq_nil_of_length_eq_zero h1]at e;simp at e),fun j hj=>by omega⟩
 ·exact rF w b off n cap xs h1 hn hb hx
theorem EB(w:World)(b off n cap:Nat)(xs:List C2)(hx:xs.length=n)(hn:n<=1048576)(hb:b<w.1.size)(hs:dJ w b off xs):Calls prog 170 #[.slice (some ⟨b,off,none⟩) n cap] w fun e w'=>
  e=.returned (.slice (some ⟨w.1.size,0,none⟩) n n)/\Below w.1.size w w'/\w.1.size<w'.1.size/\dJ w' w.1.size 0 xs/\Room w' w.1.size (n*2):=by
 have mQ:=Cv n hn;go_enter func170,ntmps170;go_wp2
 go_loopw[4] (fun i wr=>∃k:Nat,k<=n/\i=vI k/\Below w.1.size w wr/\w.1.size<wr.1.size/\Room wr w.1.size (n*2)/\dJ wr w.1.size 0 (xs.take k))
   (fun i _=>n-(intOf i).toNat)
 case atStart=>exact⟨0,Nat.zero_le _,rfl,aK.alloc aU _,by simp,iF _ _ _ _,fun i s e=>by simp at e⟩
 case round=>
  obtain⟨k,hk,rfl,aB,dQ,eB,lS⟩:=hrel;by_cases aN:k<n
  ·have IJ:=hs.below aB hb;obtain⟨s,fQ⟩:∃s,xs[k]?=some s:=⟨xs[k]'(by omega),by simp⟩
   obtain⟨c0,c1⟩:=IJ k s fQ;clear IJ mQ;have K:=pI eB lS fQ aB;clear eB lS fQ aB;go_wp2_with fail;refine(Me _ s).mono ?_;rintro e w1 ⟨rfl,b1⟩;obtain⟨eB,lS,fQ,aB⟩:=K.out;have iK:=eB.below b1 dQ;have qQ:=lS.below b1 dQ;obtain⟨v0,d0,f0⟩:=iK (k*2) (by omega);obtain⟨v1,d1,f1⟩:=iK (k*2+1) (by omega);clear eB lS fQ aB;have K2:=dw iK qQ;clear iK qQ;go_wp2;obtain⟨eB,lS,fQ,aB⟩:=K.out;obtain⟨iK,qQ⟩:=K2.out;have Kr:=aB.trans (b1.mono (Nat.le_of_lt dQ))
   refine⟨⟨k+1,by omega,by simp,(Kr.setCell (p:=⟨w.1.size,k*2,none⟩) aU _).setCell (p:=⟨w.1.size,k*2+1,none⟩) aU _,
    by have:=b1.size;simp[World.setCell];omega,(iK.set _).set _,qQ.put fQ iK (by omega)⟩,by simp[intOf];omega⟩
  ·have:k=n:=by omega
   subst this;have hd:decide (k<k)=false:=by simp
   go_wp2;go_ret;refine⟨rfl,aB,dQ,?_,eB⟩;rw[<-hx,List.take_length]at lS;exact lS
theorem GI(w:World)(a:OA)(n cap:Nat)(xs:List C2)(hn:n<=1048576)(hs:uz w w.1.size a n xs):Calls prog 170 #[.slice a n cap] w fun e w'=>
  e=.returned (.slice (some ⟨w.1.size,0,none⟩) n n)/\Below w.1.size w w'/\w.1.size<w'.1.size/\dJ w' w.1.size 0 xs/\Room w' w.1.size (n*2):=by
 obtain⟨h1,h2⟩:=hs;rcases h2 with rfl|⟨b,off,rfl,hb,hx⟩
 ·refine(GJ w a cap).mono ?_;rintro e w' ⟨rfl,h,h'⟩;exact⟨rfl,h,h',(fun i s e=>by rw[List.eq_nil_of_length_eq_zero h1]at e;simp at e),fun j hj=>by omega⟩
 ·exact EB w b off n cap xs h1 hn hb hx
theorem EF(w:World)(k t r:Int)(a:OA)(n cap:Nat)(xs:List S5)(hn:n<=1048576)(hs:Sl w w.1.size a n xs):Calls prog 139 #[.agg #[vI k,vI t,vI r,.slice a n cap]] w fun e w'=>
  ∃g,e=.returned (.agg #[vI k,vI t,vI r,.slice (some ⟨g,0,none⟩) n n])/\Below w.1.size w w'/\w.1.size<=g/\g<w'.1.size/\aY w' g 0 xs/\Room w' g (n*5):=by
 go_enter func139,ntmps139;go_wp2_with fail;generalize hW:((w.alloc (.cells #[vI k,vI t,vI r,.slice a n cap] 195)).alloc (.cells #[vI 0,vI 0,vI 0,.slice none 0 0] 188)).alloc (.cells #[vI k,vI t,vI r,.slice none 0 0] 188)=W;have dQ:W.1.size=w.1.size+3:=by subst hW;simp
 have bW:Below w.1.size w W:=by subst hW;exact((aK.alloc aU _).alloc (by simp) _).alloc (by simp;omega) _
 have d0:W.cell? ⟨w.1.size+1+1,0,none⟩=some (vI k):=by subst hW;go_simp
 have d1:W.cell? ⟨w.1.size+1+1,1,none⟩=some (vI t):=by subst hW;go_simp
 have d2:W.cell? ⟨w.1.size+1+1,2,none⟩=some (vI r):=by subst hW;go_simp
 have d3:W.cell? ⟨w.1.size+1+1,3,none⟩=some (.slice none 0 0):=by subst hW;go_simp
 have e0:W.cell? ⟨w.1.size+1,0,none⟩=some (vI 0):=by subst hW;go_simp
 have e1:W.cell? ⟨w.1.size+1,1,none⟩=some (vI 0):=by subst hW;go_simp
 have e2:W.cell? ⟨w.1.size+1,2,none⟩=some (vI 0):=by subst hW;go_simp
 have e3:W.cell? ⟨w.1.size+1,3,none⟩=some (.slice none 0 0):=by subst hW;go_simp
 have f3:W.frozen? ⟨w.1.size+1+1,3,none⟩=false:=by subst hW;go_simp
 have g0:∀j,W.frozen? ⟨w.1.size+1,j,none⟩=false:=by intro j;subst hW;go_simp
 clear hW;have ZH:Sl W W.1.size a n xs:=(hs.below bW).mono (by omega);refine(uq _ a n cap xs hn ZH).mono ?_;rintro e w1 ⟨rfl,b1,l1,s1,r1⟩;rw[<-b1.cell (p:=⟨w.1.size+1+1,0,none⟩) (by simp;omega)]at d0;rw[<-b1.cell (p:=⟨w.1.size+1+1,1,none⟩) (by simp;omega)]at d1;rw[<-b1.cell (p:=⟨w.1.size+1+1,2,none⟩) (by simp;omega)]at d2;rw[<-b1.cell (p:=⟨w.1.size+1+1,3,none⟩) (by simp;omega)]at d3;rw[<-b1.cell (p:=⟨w.1.size+1,0,none⟩) (by simp;omega)]at e0;rw[<-b1.cell (p:=⟨w.1.size+1,1,none⟩) (by simp;omega)]at e1;rw[<-b1.cell (p:=⟨w.1.size+1,2,none⟩) (by simp;omega)]at e2;rw[<-b1.cell (p:=⟨w.1.size+1,3,none⟩) (by simp;omega)]at e3;rw[<-b1.frozen (p:=⟨w.1.size+1+1,3,none⟩) (by simp;omega)]at f3;have g0':=(b1.frozen (p:=⟨w.1.size+1,0,none⟩) (by simp;omega)).trans (g0 0);have g1':=(b1.frozen (p:=⟨w.1.size+1,1,none⟩) (by simp;omega)).trans (g0 1);have g2':=(b1.frozen (p:=⟨w.1.size+1,2,none⟩) (by simp;omega)).trans (g0 2);have g3':=(b1.frozen (p:=⟨w.1.size+1,3,none⟩) (by simp;omega)).trans (g0 3);have K:=dw s1 r1;have K2:Hid (W.1.size=w.1.size+3):=dQ;clear s1 r1 g0 ZH dQ;go_wp2;have dQ:=K2.out;refine bodyPost_ret (v:=.agg #[vI k,vI t,vI r,.slice (some ⟨W.1.size,0,none⟩) n n]) (by simp[results,results139,go_sem,e0,e1,e2,e3]) rfl ⟨W.1.size,rfl,?_,by omega,?_,?_,?_⟩
 ·exact(((((bW.trans (b1.mono (by omega))).setCell (p:=⟨_,_,none⟩) (by simp;omega) _).setCell (p:=⟨_,_,none⟩) (by simp) _).setCell (p:=⟨_,_,none⟩) (by simp) _).setCell (p:=⟨_,_,none⟩) (by simp) _).setCell (p:=⟨_,_,none⟩) (by simp) _
 ·simpa[World.setCell]using l1
 ·exact((((K.out.1.dS (by simp;omega) _).dS (by simp;omega) _).dS (by simp;omega) _).dS (by simp;omega) _).dS (by simp;omega) _
 ·exact K.out.2.aj ((Below.heap_setCell _ _ _ _ (by simp;omega)).trans ((Below.heap_setCell _ _ _ _ (by simp;omega)).trans ((Below.heap_setCell _ _ _ _ (by simp;omega)).trans ((Below.heap_setCell _ _ _ _ (by simp;omega)).trans (Below.heap_setCell _ _ _ _ (by simp;omega))))))
end
section
open Go.Proofs.Tryz
variable {b n off:Nat}{g:Nat->Nat}{w w':World}
theorem JO(w:World)(r:Int)(a:OA)(n cap:Nat)(xs:List C2)(hn:n<=1048576)(hs:uz w w.1.size a n xs):Calls prog 138 #[.agg #[vI r,.slice a n cap]] w fun e w'=>
  ∃g,e=.returned (.agg #[vI r,.slice (some ⟨g,0,none⟩) n n])/\Below w.1.size w w'/\w.1.size<=g/\g<w'.1.size/\dJ w' g 0 xs/\Room w' g (n*2):=by
 go_enter func138,ntmps138;go_wp2_with fail;generalize hW:((w.alloc (.cells #[vI r,.slice a n cap] 192)).alloc (.cells #[vI 0,.slice none 0 0] 143)).alloc (.cells #[vI r,.slice none 0 0] 143)=W;have dQ:W.1.size=w.1.size+3:=by subst hW;simp
 have bW:Below w.1.size w W:=by subst hW;exact((aK.alloc aU _).alloc (by simp) _).alloc (by simp;omega) _
 have d0:W.cell? ⟨w.1.size+1+1,0,none⟩=some (vI r):=by subst hW;go_simp
 have d1:W.cell? ⟨w.1.size+1+1,1,none⟩=some (.slice none 0 0):=by subst hW;go_simp
 have e0:W.cell? ⟨w.1.size+1,0,none⟩=some (vI 0):=by subst hW;go_simp
 have e1:W.cell? ⟨w.1.size+1,1,none⟩=some (.slice none 0 0):=by subst hW;go_simp
 have f1:W.frozen? ⟨w.1.size+1+1,1,none⟩=false:=by subst hW;go_simp
 have g0:∀j,W.frozen? ⟨w.1.size+1,j,none⟩=false:=by intro j;subst hW;go_simp
 clear hW;have ZH:uz W W.1.size a n xs:=(hs.below bW).mono (by omega);refine(GI _ a n cap xs hn ZH).mono ?_;rintro e w1 ⟨rfl,b1,l1,s1,r1⟩;rw[<-b1.cell (p:=⟨w.1.size+1+1,0,none⟩) (by simp;omega)]at d0;rw[<-b1.cell (p:=⟨w.1.size+1+1,1,none⟩) (by simp;omega)]at d1;rw[<-b1.cell (p:=⟨w.1.size+1,0,none⟩) (by simp;omega)]at e0;rw[<-b1.cell (p:=⟨w.1.size+1,1,none⟩) (by simp;omega)]at e1;rw[<-b1.frozen (p:=⟨w.1.size+1+1,1,none⟩) (by simp;omega)]at f1;have g0':=(b1.frozen (p:=⟨w.1.size+1,0,none⟩) (by simp;omega)).trans (g0 0);have g1':=(b1.frozen (p:=⟨w.1.size+1,1,none⟩) (by simp;omega)).trans (g0 1);have K:=dw s1 r1;have K2:Hid (W.1.size=w.1.size+3):=dQ;clear s1 r1 g0 ZH dQ;go_wp2;have dQ:=K2.out;refine bodyPost_ret (v:=.agg #[vI r,.slice (some ⟨W.1.size,0,none⟩) n n]) (by simp[results,results138,go_sem,e0,e1]) rfl ⟨W.1.size,rfl,?_,by omega,?_,?_,?_⟩
 ·exact(((bW.trans (b1.mono (by omega))).setCell (p:=⟨_,_,none⟩) (by simp;omega) _).setCell (p:=⟨_,_,none⟩) (by simp) _).setCell (p:=⟨_,_,none⟩) (by simp) _
 ·simpa[World.setCell]using l1
 ·exact((K.out.1.dS (by simp;omega) _).dS (by simp;omega) _).dS (by simp;omega) _
 ·exact K.out.2.aj ((Below.heap_setCell _ _ _ _ (by simp;omega)).trans ((Below.heap_setCell _ _ _ _ (by simp;omega)).trans (Below.heap_setCell _ _ _ _ (by simp;omega))))
def uP(r:R4):List Int:=[r.kind,r.tx,r.b]
def El(r:R4):Nat:=r.ai.length
def AtR(w:World)(b:Nat)(r:R4):Prop:=aY w b 0 r.ai/\Room w b (r.ai.length*5)
theorem aY.aj{xs:List S5}(h:aY w b off xs)(e:w'.1[b]?=w.1[b]?):aY w' b off xs:=fun i s hs=>by
 obtain⟨c0,c1,c2,c3,c4⟩:=h i s hs;exact⟨(World.cell?_of_block (a:=⟨b,_,none⟩) e).trans c0,(World.cell?_of_block (a:=⟨b,_,none⟩) e).trans c1,(World.cell?_of_block (a:=⟨b,_,none⟩) e).trans c2,(World.cell?_of_block (a:=⟨b,_,none⟩) e).trans c3,(World.cell?_of_block (a:=⟨b,_,none⟩) e).trans c4⟩
theorem dJ.aj{xs:List C2}(h:dJ w b off xs)(e:w'.1[b]?=w.1[b]?):dJ w' b off xs:=fun i s hs=>by
 obtain⟨c0,c1⟩:=h i s hs;exact⟨(World.cell?_of_block (a:=⟨b,_,none⟩) e).trans c0,(World.cell?_of_block (a:=⟨b,_,none⟩) e).trans c1⟩
theorem AtR.aj(w w':World)(b:Nat)(r:R4)(e:w'.1[b]?=w.1[b]?)(h:AtR w b r):AtR w' b r:=⟨h.1.aj e,h.2.aj e⟩
def wK(k:K2):List Int:=[k.b]
def D5(k:K2):Nat:=k.cells.length
def oN(w:World)(b:Nat)(k:K2):Prop:=dJ w b 0 k.cells/\Room w b (k.cells.length*2)
theorem oN.aj(w w':World)(b:Nat)(r:K2)(e:w'.1[b]?=w.1[b]?)(h:oN w b r):oN w' b r:=⟨h.1.aj e,h.2.aj e⟩
theorem UA{base:Nat}{rs:List R4}(h:gT 4 uP El AtR w base b n rs g)(hb:b<w.1.size):J5 w w.1.size (some ⟨b,0,none⟩) n rs:=
 ⟨h.len,.inr ⟨b,0,rfl,hb,fun i r e=>by
  rw[Nat.zero_add];obtain⟨cap,h1,h2⟩:=h.tail i r e
  exact⟨h.head i r e 0 _ rfl,h.head i r e 1 _ rfl,h.head i r e 2 _ rfl,_,cap,h1,⟨rfl,.inr ⟨_,0,rfl,h.lt i (h.idx e),(h.sub i r e).1⟩⟩,h2⟩⟩⟩
theorem Uz{base:Nat}{rs:List K2}(h:gT 2 wK D5 oN w base b n rs g)(hb:b<w.1.size):DR w w.1.size (some ⟨b,0,none⟩) n rs:=
 ⟨h.len,.inr ⟨b,0,rfl,hb,fun i r e=>by
  rw[Nat.zero_add];obtain⟨cap,h1,h2⟩:=h.tail i r e
  exact⟨h.head i r e 0 _ rfl,_,cap,h1,⟨rfl,.inr ⟨_,0,rfl,h.lt i (h.idx e),(h.sub i r e).1⟩⟩,h2⟩⟩⟩
end
section
open Go.Proofs.Tryz
theorem Fb:(prog.info? 188).map (fun i=>(i.zero,i.size,i.bytes))=some (some (.agg #[vI 0,vI 0,vI 0,.slice none 0 0]),4,48):=by kernel_rfl
theorem OH(n:Nat)(hn:n<=1048576)(w:World):(Instr.makeSlice 85 (vI (n:Int)) (vI (n:Int))).run prog w=.ok (.slice (some ⟨w.1.size,0,none⟩) n n) (w.alloc (.cells (madeCells #[vI 0,vI 0,vI 0,.slice none 0 0] (n*4)) 188)):=by
 obtain⟨i,hi,oQ⟩:=Option.map_eq_some_iff.1 Fb;simp only[Prod.mk.injEq]at oQ;obtain⟨hz,hs,hb⟩:=oQ;have:=run_make (P:=prog) w 85 188 i _ underlying85 hi hz .i64 .i64 (n:Int) (n:Int) (by omega) (by omega) (by rw[hb];omega) (by omega);rw[hs]at this;simpa[Value.cells]using this
theorem EE(w:World)(a:OA)(n cap:Nat)(rs:List R4)(hn:n<=1048576)(hl:∀r∈rs,r.ai.length<=1048576)(hs:J5 w w.1.size a n rs):Calls prog 102 #[.slice a n cap] w fun e w'=>
  ∃g,e=.returned (.slice (some ⟨w.1.size,0,none⟩) n n)/\Below w.1.size w w'/\w.1.size<w'.1.size/\gT 4 uP El AtR w' w.1.size w.1.size n rs g/\Room w' w.1.size (n*4):=by
 obtain⟨hx,hs⟩:=hs;have mQ:=OH n hn;go_enter func102,ntmps102;go_wp2;go_loopw[4] (fun i wr=>∃(j:Nat) (g:Nat->Nat),j<=n/\i=vI j/\Below w.1.size w wr/\w.1.size<wr.1.size/\Room wr w.1.size (n*4)/\gT 4 uP El AtR wr w.1.size w.1.size j (rs.take j) g) (fun i _=>n-(intOf i).toNat)
 case atStart=>exact⟨0,fun _=>0,Nat.zero_le _,rfl,aK.alloc aU _,by simp,iF _ _ _ _,by rw[List.take_zero];exact gT.nil _ _ _ _⟩
 case round=>
  obtain⟨j,g,hj,rfl,aB,dQ,eB,fG⟩:=hrel;by_cases aN:j<n
  ·rcases hs with hs|⟨b,off,rfl,hb,h1⟩
   ·omega
   ·have bg:=h1 j _ (jC (by omega));obtain⟨a',aZ,hc,fI,_⟩:=bg.c3;have e0:=(aB.cell (p:=⟨b,off+j*4,none⟩) hb).trans bg.c0;have e1:=(aB.cell (p:=⟨b,off+j*4+1,none⟩) hb).trans bg.c1;have e2:=(aB.cell (p:=⟨b,off+j*4+2,none⟩) hb).trans bg.c2;have e3:=(aB.cell (p:=⟨b,off+j*4+3,none⟩) hb).trans hc;have jo:=EF wr (atR rs j).kind (atR rs j).tx (atR rs j).b a' (atR rs j).ai.length aZ (atR rs j).ai (hl _ (List.mem_of_getElem? (jC (by omega)))) ((fI.below aB).mono aB.size);have K:=nE eB fG aB dQ (show rs.take (j+1)=rs.take j++[atR rs j] by rw[List.take_add_one,jC (by omega)];rfl);clear eB fG aB mQ h1 hx hl fI hc bg;generalize atR rs j=r at *;go_wp2_with fail;refine jo.mono ?_;clear jo;rintro e w1 ⟨q,rfl,b1,lq,hq,Gf,rU⟩;have Ab:=K.out.1.below b1 K.out.2.2.2.1;obtain⟨z0,d0,f0⟩:=Ab (j*4) (by omega);obtain⟨z1,d1,f1⟩:=Ab (j*4+1) (by omega);obtain⟨z2,d2,f2⟩:=Ab (j*4+2) (by omega);obtain⟨z3,d3,f3⟩:=Ab (j*4+3) (by omega);have K1:=nE b1 lq hq (show AtR w1 q r from⟨Gf,rU⟩) Ab;clear b1 lq hq Gf rU Ab;go_wp2;obtain⟨eB,fG,aB,dQ,IL⟩:=K.out;obtain⟨b1,lq,hq,bg,Ab⟩:=K1.out;have h1:=fG.later AtR.aj b1 dQ;obtain⟨V,hV⟩:=uD (((((w1.setCell ⟨w.1.size,j*4,none⟩ (vI r.kind)).setCell ⟨w.1.size,j*4+1,none⟩ (vI r.tx)).setCell ⟨w.1.size,j*4+2,none⟩ (vI r.b)).setCell ⟨w.1.size,j*4+3,none⟩ (.slice (some ⟨q,0,none⟩) r.ai.length r.ai.length)));have sV:V.1.size=w1.1.size:=by rw[<-hV];simp[World.setCell]
    have oV:∀x,x≠w.1.size->V.1[x]?=w1.1[x]?:=fun x hx=>by
     rw[<-hV];exact((Below.heap_setCell _ _ _ _ (fun e=>hx e)).trans ((Below.heap_setCell _ _ _ _ (fun e=>hx e)).trans ((Below.heap_setCell _ _ _ _ (fun e=>hx e)).trans (Below.heap_setCell _ _ _ _ (fun e=>hx e)))))
    have cV:∀o,o<j*4->V.cell? ⟨w.1.size,o,none⟩=w1.cell? ⟨w.1.size,o,none⟩:=fun o ho=>by
     rw[<-hV];rw[ae (by omega),ae (by omega),ae (by omega),ae (by omega)]
    have n0:V.cell? ⟨w.1.size,j*4,none⟩=some (vI r.kind):=by
     rw[<-hV];rw[ae (by omega),ae (by omega),ae (by omega)];exact ay (by exact d0)
    have n1:V.cell? ⟨w.1.size,j*4+1,none⟩=some (vI r.tx):=by
     rw[<-hV];rw[ae (by omega),ae (by omega)];exact ay (by rw[ae (by omega)];exact d1)
    have n2:V.cell? ⟨w.1.size,j*4+2,none⟩=some (vI r.b):=by
     rw[<-hV];rw[ae (by omega)];exact ay (by rw[ae (by omega),ae (by omega)];exact d2)
    have nT:V.cell? ⟨w.1.size,j*4+(4-1),none⟩=some (.slice (some ⟨q,0,none⟩) r.ai.length r.ai.length):=by
     rw[<-hV];exact ay (by rw[ae (by omega),ae (by omega),ae (by omega)];exact d3)
    have rV:Room V w.1.size (n*4):=by rw[<-hV];exact((((Ab.set _).set _).set _).set _)
    have bV:Below w.1.size w V:=by rw[<-hV];exact(((((aB.trans (b1.mono aB.size)).setCell (p:=⟨w.1.size,j*4,none⟩) aU _).setCell (p:=⟨w.1.size,j*4+1,none⟩) aU _).setCell (p:=⟨w.1.size,j*4+2,none⟩) aU _).setCell (p:=⟨w.1.size,j*4+3,none⟩) aU _)
    have SC:=h1.next AtR.aj (r:=r) (q:=q) (cap:=r.ai.length) (V:=V) (by omega) (fun r=>by simp[uP]) (by omega) oV cV (fun t z ht=>by
     match t,ht with
     | 0,ht=>cases ht;exact n0
     | 1,ht=>cases ht;exact n1
     | 2,ht=>cases ht;exact n2
     | t+3,ht=>simp[uP]at ht) nT aU (by omega) (by omega) (by omega) (AtR.aj _ _ _ _ (oV q (by omega)) bg) (fun i hi e=>by have:=fG.lt i hi;omega)
    rw[<-IL]at SC;rw[hV];exact⟨⟨j+1,_,by omega,by simp,bV,by have:=b1.size;omega,rV,SC⟩,by simp[intOf];omega⟩
  ·have:j=n:=by omega
   subst this;have hd:decide (j<j)=false:=by simp
   rw[<-hx,List.take_length,hx]at fG;have K:=dw fG eB;clear fG hs eB;go_wp2;go_ret;exact⟨g,rfl,aB,dQ,K.out.1,K.out.2⟩
theorem Fa:(prog.info? 143).map (fun i=>(i.zero,i.size,i.bytes))=some (some (.agg #[vI 0,.slice none 0 0]),2,32):=by kernel_rfl
theorem OE(n:Nat)(hn:n<=1048576)(w:World):(Instr.makeSlice 84 (vI (n:Int)) (vI (n:Int))).run prog w=.ok (.slice (some ⟨w.1.size,0,none⟩) n n) (w.alloc (.cells (madeCells #[vI 0,.slice none 0 0] (n*2)) 143)):=by
 obtain⟨i,hi,oQ⟩:=Option.map_eq_some_iff.1 Fa;simp only[Prod.mk.injEq]at oQ;obtain⟨hz,hs,hb⟩:=oQ;have:=run_make (P:=prog) w 84 143 i _ underlying84 hi hz .i64 .i64 (n:Int) (n:Int) (by omega) (by omega) (by rw[hb];omega) (by omega);rw[hs]at this;simpa[Value.cells]using this
theorem JN(w:World)(a:OA)(n cap:Nat)(rs:List K2)(hn:n<=1048576)(hl:∀r∈rs,r.cells.length<=1048576)(hs:DR w w.1.size a n rs):Calls prog 101 #[.slice a n cap] w fun e w'=>
  ∃g,e=.returned (.slice (some ⟨w.1.size,0,none⟩) n n)/\Below w.1.size w w'/\w.1.size<w'.1.size/\gT 2 wK D5 oN w' w.1.size w.1.size n rs g/\Room w' w.1.size (n*2):=by
 obtain⟨hx,hs⟩:=hs;have mQ:=OE n hn;go_enter func101,ntmps101;go_wp2;go_loopw[4] (fun i wr=>∃(j:Nat) (g:Nat->Nat),j<=n/\i=vI j/\Below w.1.size w wr/\w.1.size<wr.1.size/\Room wr w.1.size (n*2)/\gT 2 wK D5 oN wr w.1.size w.1.size j (rs.take j) g) (fun i _=>n-(intOf i).toNat)
 case atStart=>exact⟨0,fun _=>0,Nat.zero_le _,rfl,aK.alloc aU _,by simp,iF _ _ _ _,by rw[List.take_zero];exact gT.nil _ _ _ _⟩
 case round=>
  obtain⟨j,g,hj,rfl,aB,dQ,eB,fG⟩:=hrel;by_cases aN:j<n
  ·rcases hs with hs|⟨b,off,rfl,hb,h1⟩
   ·omega
   ·have bg:=h1 j _ (eZ (by omega));obtain⟨a',aZ,hc,fI,_⟩:=bg.c1;have e0:=(aB.cell (p:=⟨b,off+j*2,none⟩) hb).trans bg.c0;have e1:=(aB.cell (p:=⟨b,off+j*2+1,none⟩) hb).trans hc;have jo:=JO wr (dX rs j).b a' (dX rs j).cells.length aZ (dX rs j).cells (hl _ (List.mem_of_getElem? (eZ (by omega)))) ((fI.below aB).mono aB.size);have K:=nE eB fG aB dQ (show rs.take (j+1)=rs.take j++[dX rs j] by rw[List.take_add_one,eZ (by omega)];rfl);clear eB fG aB mQ h1 hx hl fI hc bg;generalize dX rs j=r at *;go_wp2_with fail;refine jo.mono ?_;clear jo;rintro e w1 ⟨q,rfl,b1,lq,hq,Gf,rU⟩;have Ab:=K.out.1.below b1 K.out.2.2.2.1;obtain⟨z0,d0,f0⟩:=Ab (j*2) (by omega);obtain⟨z1,d1,f1⟩:=Ab (j*2+1) (by omega);have K1:=nE b1 lq hq (show oN w1 q r from⟨Gf,rU⟩) Ab;clear b1 lq hq Gf rU Ab;go_wp2;obtain⟨eB,fG,aB,dQ,IL⟩:=K.out;obtain⟨b1,lq,hq,bg,Ab⟩:=K1.out;have h1:=fG.later oN.aj b1 dQ;obtain⟨V,hV⟩:=uD (((w1.setCell ⟨w.1.size,j*2,none⟩ (vI r.b)).setCell ⟨w.1.size,j*2+1,none⟩ (.slice (some ⟨q,0,none⟩) r.cells.length r.cells.length)));have sV:V.1.size=w1.1.size:=by rw[<-hV];simp[World.setCell]
    have oV:∀x,x≠w.1.size->V.1[x]?=w1.1[x]?:=fun x hx=>by
     rw[<-hV];exact((Below.heap_setCell _ _ _ _ (fun e=>hx e)).trans (Below.heap_setCell _ _ _ _ (fun e=>hx e)))
    have cV:∀o,o<j*2->V.cell? ⟨w.1.size,o,none⟩=w1.cell? ⟨w.1.size,o,none⟩:=fun o ho=>by
     rw[<-hV];rw[ae (by omega),ae (by omega)]
    have n0:V.cell? ⟨w.1.size,j*2,none⟩=some (vI r.b):=by
     rw[<-hV];rw[ae (by omega)];exact ay (by exact d0)
    have nT:V.cell? ⟨w.1.size,j*2+(2-1),none⟩=some (.slice (some ⟨q,0,none⟩) r.cells.length r.cells.length):=by
     rw[<-hV];exact ay (by rw[ae (by omega)];exact d1)
    have rV:Room V w.1.size (n*2):=by rw[<-hV];exact((Ab.set _).set _)
    have bV:Below w.1.size w V:=by rw[<-hV];exact(((aB.trans (b1.mono aB.size)).setCell (p:=⟨w.1.size,j*2,none⟩) aU _).setCell (p:=⟨w.1.size,j*2+1,none⟩) aU _)
    have SC:=h1.next oN.aj (r:=r) (q:=q) (cap:=r.cells.length) (V:=V) (by omega) (fun r=>by simp[wK]) (by omega) oV cV (fun t z ht=>by
     match t,ht with
     | 0,ht=>cases ht;exact n0
     | t+1,ht=>simp[wK]at ht) nT aU (by omega) (by omega) (by omega) (oN.aj _ _ _ _ (oV q (by omega)) bg) (fun i hi e=>by have:=fG.lt i hi;omega)
    rw[<-IL]at SC;rw[hV];exact⟨⟨j+1,_,by omega,by simp,bV,by have:=b1.size;omega,rV,SC⟩,by simp[intOf];omega⟩
  ·have:j=n:=by omega
   subst this;have hd:decide (j<j)=false:=by simp
   rw[<-hx,List.take_length,hx]at fG;have K:=dw fG eB;clear fG hs eB;go_wp2;go_ret;exact⟨g,rfl,aB,dQ,K.out.1,K.out.2⟩
end
section
open Go.Proofs.Tryz
variable {X:World}{ad al s1 s2 s3:Value}{alive:Bool}{s:Nat}
structure J4(w:World)(B0 B1 B2 B3:Nat)(v:MV)(m:M4)(gk gr:Nat->Nat):Prop where
 k:∃b,v.ac=some ⟨b,0,none⟩/\B0<=b/\b<B1/\gT 2 wK D5 oN w B0 b m.ag.length m.ag gk/\(∀i,i<m.ag.length->gk i<B1)/\Room w b (m.ag.length*2)
 r:∃b,v.al=some ⟨b,0,none⟩/\B1<=b/\b<B2/\gT 4 uP El AtR w B1 b m.h.length m.h gr/\(∀i,i<m.h.length->gr i<B2)/\Room w b (m.h.length*4)
 n:∃b,v.ad=some ⟨b,0,none⟩/\B2<=b/\b<B3/\eY w b 0 m.ax/\Room w b m.ax.length
 o1:B0<=B1
 o2:B1<=B2
 o3:B2<=B3
 sz:B3<=w.1.size
theorem J4.kept{w w':World}{B0 B1 B2 B3:Nat}{v:MV}{m:M4}{gk gr:Nat->Nat}(h:J4 w B0 B1 B2 B3 v m gk gr)(hs:w.1.size<=w'.1.size)(hk:∀q,B0<=q->q<B3->w'.1[q]?=w.1[q]?):J4 w' B0 B1 B2 B3 v m gk gr:=by
 have h1:=h.o1;have h2:=h.o2;have h3:=h.o3;have h4:=h.sz;obtain⟨b,e,l1,l,o,og,rm⟩:=h.k;obtain⟨b',e',eC,l',o',eI,rm'⟩:=h.r;obtain⟨b'',NT,Xr,m7,o'',XN⟩:=h.n;have hb:=hk b (by omega) (by omega);have fB:=hk b' (by omega) (by omega);have Zd:=hk b'' (by omega) (by omega)
 exact⟨⟨b,e,l1,l,o.jd oN.aj hs hb (fun i hi=>hk _ (o.low i hi) (by have:=og i hi;omega)),og,rm.aj hb⟩,
  ⟨b',e',eC,l',o'.jd AtR.aj hs fB (fun i hi=>hk _ (by have:=o'.low i hi;omega) (by have:=eI i hi;omega)),eI,rm'.aj fB⟩,
  ⟨b'',NT,Xr,m7,o''.aj Zd,XN.aj Zd⟩,h1,h2,h3,by omega⟩
structure TP(s:Nat)(alive:Bool)(al ad:Value)(X:World)(s1 s2 s3:Value):Prop where
 a2:X.cell? ⟨s,2,none⟩=some al
 a3:X.cell? ⟨s,3,none⟩=some ad
 o0:X.cell? ⟨s+1+1,0,none⟩=some (.bool alive)
 o1:X.cell? ⟨s+1+1,1,none⟩=some s1
 o2:X.cell? ⟨s+1+1,2,none⟩=some s2
 o3:X.cell? ⟨s+1+1,3,none⟩=some s3
 fo:∀j,X.frozen? ⟨s+1+1,j,none⟩=false
 r0:X.cell? ⟨s+1,0,none⟩=some (.bool false)
 r1:X.cell? ⟨s+1,1,none⟩=some (.slice none 0 0)
 r2:X.cell? ⟨s+1,2,none⟩=some (.slice none 0 0)
 r3:X.cell? ⟨s+1,3,none⟩=some (.slice none 0 0)
 fr:∀j,X.frozen? ⟨s+1,j,none⟩=false
 lt:s+2<X.1.size
theorem TP.below{Y:World}(h:TP s alive al ad X s1 s2 s3)(hb:Below X.1.size X Y):TP s alive al ad Y s1 s2 s3:=by
 have l:=h.lt;have ea:=hb.block s (by omega);have er:=hb.block (s+1) (by omega);have eo:=hb.block (s+1+1) (by omega);have c:∀{b j:Nat}{u:Value},Y.1[b]?=X.1[b]?->X.cell? ⟨b,j,none⟩=some u->Y.cell? ⟨b,j,none⟩=some u:=fun {b j u} e h=>(World.cell?_of_block (a:=⟨b,j,none⟩) e).trans h
 exact⟨c ea h.a2,c ea h.a3,c eo h.o0,c eo h.o1,c eo h.o2,c eo h.o3,fun j=>(World.frozen?_of_block (a:=⟨s+1+1,j,none⟩) eo).trans (h.fo j),c er h.r0,c er h.r1,c er h.r2,c er h.r3,fun j=>(World.frozen?_of_block (a:=⟨s+1,j,none⟩) er).trans (h.fr j),Nat.lt_of_lt_of_le l hb.size⟩
theorem TP.set1(h:TP s alive al ad X s1 s2 s3)(v:Value):TP s alive al ad (X.setCell ⟨s+1+1,1,none⟩ v) v s2 s3:=
 ⟨(aJ (by show s+1+1≠s;omega) v).trans h.a2,(aJ (by show s+1+1≠s;omega) v).trans h.a3,(ae (by omega)).trans h.o0,ay h.o1,(ae (by omega)).trans h.o2,(ae (by omega)).trans h.o3,fun j=>by rw[World.frozen?_setCell];exact h.fo j,(aJ (by simp) v).trans h.r0,(aJ (by simp) v).trans h.r1,(aJ (by simp) v).trans h.r2,(aJ (by simp) v).trans h.r3,fun j=>by rw[World.frozen?_setCell];exact h.fr j,by simpa[World.setCell]using h.lt⟩
theorem TP.set2(h:TP s alive al ad X s1 s2 s3)(v:Value):TP s alive al ad (X.setCell ⟨s+1+1,2,none⟩ v) s1 v s3:=
 ⟨(aJ (by show s+1+1≠s;omega) v).trans h.a2,(aJ (by show s+1+1≠s;omega) v).trans h.a3,(ae (by omega)).trans h.o0,(ae (by omega)).trans h.o1,ay h.o2,(ae (by omega)).trans h.o3,fun j=>by rw[World.frozen?_setCell];exact h.fo j,(aJ (by simp) v).trans h.r0,(aJ (by simp) v).trans h.r1,(aJ (by simp) v).trans h.r2,(aJ (by simp) v).trans h.r3,fun j=>by rw[World.frozen?_setCell];exact h.fr j,by simpa[World.setCell]using h.lt⟩
theorem EC(w:World)(v:MV)(m:M4)(hk:m.ag.length<=1048576)(Ca:∀r∈m.ag,r.cells.length<=1048576)(hr:m.h.length<=1048576)(nR:∀r∈m.h,r.ai.length<=1048576)(hn:m.ax.length<=1048576)(hs:Ag w v m):Calls prog 52 #[v.val m] w fun e w'=>
  ∃u B1 B2 B3 gk gr,e=.returned (u.val m)/\J4 w' (w.1.size+3) B1 B2 B3 u m gk gr/\Below w.1.size w w':=by
 obtain⟨ac,cc,al,cl,ad,cd⟩:=v;have H:=fP hs Ca nR;clear hs Ca nR;simp only[MV.val]
 have tp:TP w.1.size m.x (.slice al m.h.length cl) (.slice ad m.ax.length cd) (((w.alloc (.cells #[.bool m.x,.slice ac m.ag.length cc,.slice al m.h.length cl,.slice ad m.ax.length cd] 76)).alloc (.cells #[.bool false,.slice none 0 0,.slice none 0 0,.slice none 0 0] 87)).alloc (.cells #[.bool m.x,.slice none 0 0,.slice none 0 0,.slice none 0 0] 87)) (.slice none 0 0) (.slice none 0 0) (.slice none 0 0):=by
  refine⟨?_,?_,?_,?_,?_,?_,?_,?_,?_,?_,?_,?_,?_⟩;all_goals first|(intro j;go_simp;done)|(go_simp;done)|(simp;done)
 have bW:Below w.1.size w (((w.alloc (.cells #[.bool m.x,.slice ac m.ag.length cc,.slice al m.h.length cl,.slice ad m.ax.length cd] 76)).alloc (.cells #[.bool false,.slice none 0 0,.slice none 0 0,.slice none 0 0] 87)).alloc (.cells #[.bool m.x,.slice none 0 0,.slice none 0 0,.slice none 0 0] 87)):=((aK.alloc aU _).alloc (by simp) _).alloc (by simp;omega) _;have dQ:(((w.alloc (.cells #[.bool m.x,.slice ac m.ag.length cc,.slice al m.h.length cl,.slice ad m.ax.length cd] 76)).alloc (.cells #[.bool false,.slice none 0 0,.slice none 0 0,.slice none 0 0] 87)).alloc (.cells #[.bool m.x,.slice none 0 0,.slice none 0 0,.slice none 0 0] 87)).1.size=w.1.size+3:=by simp
 have TW:=fP tp bW dQ;clear tp bW dQ;go_enter func52,ntmps52;go_wp2_with fail;generalize ((w.alloc (.cells #[.bool m.x,.slice ac m.ag.length cc,.slice al m.h.length cl,.slice ad m.ax.length cd] 76)).alloc (.cells #[.bool false,.slice none 0 0,.slice none 0 0,.slice none 0 0] 87)).alloc (.cells #[.bool m.x,.slice none 0 0,.slice none 0 0,.slice none 0 0] 87)=W at *;refine(JN W ac m.ag.length cc m.ag hk H.out.2.1 (H.out.1.later TW.out.2.1).k).mono ?_;rintro e w1 ⟨gk,rfl,b1,l1,o1,sd⟩;have t1:=TW.out.1.below b1;have B1:=pI (TW.out.2.1.trans (b1.mono TW.out.2.1.size)) l1 o1 sd;clear b1 l1 o1 sd;have T1:Hid (TP w.1.size m.x (.slice al m.h.length cl) (.slice ad m.ax.length cd) (w1.setCell ⟨w.1.size+1+1,1,none⟩ (.slice (some ⟨W.1.size,0,none⟩) m.ag.length m.ag.length)) (.slice (some ⟨W.1.size,0,none⟩) m.ag.length m.ag.length) (.slice none 0 0) (.slice none 0 0)):=t1.set1 _;have a2:=t1.a2;have p1:=t1.o1;have f1:=t1.fo 1;clear t1;have dS:∀(V:World) (x o:Nat) (u:Value),x≠w.1.size+1+1->(V.setCell ⟨w.1.size+1+1,o,none⟩ u).1[x]?=V.1[x]?:=fun V x o u h=>Below.heap_setCell _ _ _ _ (fun e=>h e)
 have sm:∀(V:World) (p:Addr) (u:Value),(V.setCell p u).1.size=V.1.size:=fun V p u=>by simp[World.setCell]
 have FAR:Hid (∀(V:World) (x o:Nat) (u:Value),x≠w.1.size+1+1->(V.setCell ⟨w.1.size+1+1,o,none⟩ u).1[x]?=V.1[x]?):=dS;have YJ:Hid (∀(V:World) (p:Addr) (u:Value),(V.setCell p u).1.size=V.1.size):=sm;clear dS sm;go_wp2_with fail;have hW:=TW.out.2.2
 have K1:Hid (Below w.1.size w (w1.setCell ⟨w.1.size+1+1,1,none⟩ (.slice (some ⟨W.1.size,0,none⟩) m.ag.length m.ag.length))/\W.1.size<(w1.setCell ⟨w.1.size+1+1,1,none⟩ (.slice (some ⟨W.1.size,0,none⟩) m.ag.length m.ag.length)).1.size/\gT 2 wK D5 oN (w1.setCell ⟨w.1.size+1+1,1,none⟩ (.slice (some ⟨W.1.size,0,none⟩) m.ag.length m.ag.length)) W.1.size W.1.size m.ag.length m.ag gk/\Room (w1.setCell ⟨w.1.size+1+1,1,none⟩ (.slice (some ⟨W.1.size,0,none⟩) m.ag.length m.ag.length)) W.1.size (m.ag.length*2)):=
  ⟨B1.out.1.setCell (p:=⟨w.1.size+1+1,1,none⟩) (by show w.1.size<=w.1.size+1+1;omega) _,by rw[YJ.out];exact B1.out.2.1,B1.out.2.2.1.jd oN.aj (by rw[YJ.out];exact Nat.le_refl _) (FAR.out _ _ _ _ (by omega)) (fun i hi=>FAR.out _ _ _ _ (by have:=B1.out.2.2.1.low i hi;omega)),B1.out.2.2.2.aj (FAR.out _ _ _ _ (by omega))⟩
 clear hW B1 a2 p1 f1;generalize w1.setCell ⟨w.1.size+1+1,1,none⟩ (.slice (some ⟨W.1.size,0,none⟩) m.ag.length m.ag.length)=X1 at *;refine(EE X1 al m.h.length cl m.h hr H.out.2.2 (H.out.1.later K1.out.1).r).mono ?_;rintro e w2 ⟨gr,rfl,b2,l2,o2,se⟩;have t2:=T1.out.below b2
 have B2:Hid (Below w.1.size w w2/\X1.1.size<w2.1.size/\gT 4 uP El AtR w2 X1.1.size X1.1.size m.h.length m.h gr/\Room w2 X1.1.size (m.h.length*4)/\gT 2 wK D5 oN w2 W.1.size W.1.size m.ag.length m.ag gk/\Room w2 W.1.size (m.ag.length*2)/\W.1.size<X1.1.size/\(∀i,i<m.ag.length->gk i<X1.1.size)):=
  ⟨K1.out.1.trans (b2.mono K1.out.1.size),l2,o2,se,K1.out.2.2.1.later oN.aj b2 K1.out.2.1,K1.out.2.2.2.below b2 K1.out.2.1,K1.out.2.1,K1.out.2.2.1.lt⟩
 clear b2 l2 o2 se K1;have T2:Hid (TP w.1.size m.x (.slice al m.h.length cl) (.slice ad m.ax.length cd) (w2.setCell ⟨w.1.size+1+1,2,none⟩ (.slice (some ⟨X1.1.size,0,none⟩) m.h.length m.h.length)) (.slice (some ⟨W.1.size,0,none⟩) m.ag.length m.ag.length) (.slice (some ⟨X1.1.size,0,none⟩) m.h.length m.h.length) (.slice none 0 0)):=t2.set2 _;have a3:=t2.a3;have p2:=t2.o2;have f2:=t2.fo 2;clear t2 T1;go_wp2_with fail;have hW:=TW.out.2.2
 have K2:Hid (Below w.1.size w (w2.setCell ⟨w.1.size+1+1,2,none⟩ (.slice (some ⟨X1.1.size,0,none⟩) m.h.length m.h.length))/\X1.1.size<(w2.setCell ⟨w.1.size+1+1,2,none⟩ (.slice (some ⟨X1.1.size,0,none⟩) m.h.length m.h.length)).1.size/\gT 4 uP El AtR (w2.setCell ⟨w.1.size+1+1,2,none⟩ (.slice (some ⟨X1.1.size,0,none⟩) m.h.length m.h.length)) X1.1.size X1.1.size m.h.length m.h gr/\Room (w2.setCell ⟨w.1.size+1+1,2,none⟩ (.slice (some ⟨X1.1.size,0,none⟩) m.h.length m.h.length)) X1.1.size (m.h.length*4)/\gT 2 wK D5 oN (w2.setCell ⟨w.1.size+1+1,2,none⟩ (.slice (some ⟨X1.1.size,0,none⟩) m.h.length m.h.length)) W.1.size W.1.size m.ag.length m.ag gk/\Room (w2.setCell ⟨w.1.size+1+1,2,none⟩ (.slice (some ⟨X1.1.size,0,none⟩) m.h.length m.h.length)) W.1.size (m.ag.length*2)/\W.1.size<X1.1.size/\(∀i,i<m.ag.length->gk i<X1.1.size)):=by
  obtain⟨q1,q2,q3,q4,q5,q6,q7,q8⟩:=B2.out;exact⟨q1.setCell (p:=⟨w.1.size+1+1,2,none⟩) (by show w.1.size<=w.1.size+1+1;omega) _,by rw[YJ.out];exact q2,q3.jd AtR.aj (by rw[YJ.out];exact Nat.le_refl _) (FAR.out _ _ _ _ (by omega)) (fun i hi=>FAR.out _ _ _ _ (by have:=q3.low i hi;omega)),q4.aj (FAR.out _ _ _ _ (by omega)),q5.jd oN.aj (by rw[YJ.out];exact Nat.le_refl _) (FAR.out _ _ _ _ (by omega)) (fun i hi=>FAR.out _ _ _ _ (by have:=q5.low i hi;omega)),q6.aj (FAR.out _ _ _ _ (by omega)),q7,q8⟩
 clear hW B2 a3 p2 f2;generalize w2.setCell ⟨w.1.size+1+1,2,none⟩ (.slice (some ⟨X1.1.size,0,none⟩) m.h.length m.h.length)=X2 at *;refine(yL X2 ad m.ax.length cd m.ax hn (H.out.1.later K2.out.1).n).mono ?_;rintro e w3 ⟨rfl,b3,l3,o3,sf⟩;have t3:=T2.out.below b3;have B3:=nE (K2.out.1.trans (b3.mono K2.out.1.size)) l3 o3 sf b3;clear b3 l3 o3 sf T2;have p0:=t3.o0;have p1:=t3.o1;have p2:=t3.o2;have p3:=t3.o3;have f3:=t3.fo 3;have x0:=t3.r0;have x1:=t3.r1;have x2:=t3.r2;have x3:=t3.r3;have y0:=t3.fr 0;have y1:=t3.fr 1;have y2:=t3.fr 2;have y3:=t3.fr 3;clear t3;go_wp2;obtain⟨F,hF⟩:=uD ((((((w3.setCell ⟨w.1.size+1+1,3,none⟩ (.slice (some ⟨X2.1.size,0,none⟩) m.ax.length m.ax.length)).setCell ⟨w.1.size+1,0,none⟩ (.bool m.x)).setCell ⟨w.1.size+1,1,none⟩ (.slice (some ⟨W.1.size,0,none⟩) m.ag.length m.ag.length)).setCell ⟨w.1.size+1,2,none⟩ (.slice (some ⟨X1.1.size,0,none⟩) m.h.length m.h.length)).setCell ⟨w.1.size+1,3,none⟩ (.slice (some ⟨X2.1.size,0,none⟩) m.ax.length m.ax.length)))
 have g0:F.cell? ⟨w.1.size+1,0,none⟩=some (.bool m.x):=by
  rw[<-hF,ae (by omega),ae (by omega),ae (by omega)];exact ay (by rw[aJ (by simp)];exact x0)
 have g1:F.cell? ⟨w.1.size+1,1,none⟩=some (.slice (some ⟨W.1.size,0,none⟩) m.ag.length m.ag.length):=by
  rw[<-hF,ae (by omega),ae (by omega)];exact ay (by rw[ae (by omega),aJ (by simp)];exact x1)
 have g2:F.cell? ⟨w.1.size+1,2,none⟩=some (.slice (some ⟨X1.1.size,0,none⟩) m.h.length m.h.length):=by
  rw[<-hF,ae (by omega)];exact ay (by rw[ae (by omega),ae (by omega),aJ (by simp)];exact x2)
 have g3:F.cell? ⟨w.1.size+1,3,none⟩=some (.slice (some ⟨X2.1.size,0,none⟩) m.ax.length m.ax.length):=by
  rw[<-hF];exact ay (by rw[ae (by omega),ae (by omega),ae (by omega),aJ (by simp)];exact x3)
 have sF:F.1.size=w3.1.size:=by rw[<-hF];simp[World.setCell]
 have eF:∀x,x≠w.1.size+1->x≠w.1.size+1+1->F.1[x]?=w3.1[x]?:=fun x h1 h2=>by
  rw[<-hF];exact(Below.heap_setCell _ _ _ _ (fun e=>h1 e)).trans ((Below.heap_setCell _ _ _ _ (fun e=>h1 e)).trans ((Below.heap_setCell _ _ _ _ (fun e=>h1 e)).trans ((Below.heap_setCell _ _ _ _ (fun e=>h1 e)).trans (Below.heap_setCell _ _ _ _ (fun e=>h2 e)))))
 have bF:Below w.1.size w F:=by
  rw[<-hF];exact((((B3.out.1.setCell (p:=⟨w.1.size+1+1,3,none⟩) (by show w.1.size<=w.1.size+1+1;omega) _).setCell (p:=⟨w.1.size+1,0,none⟩) (by show w.1.size<=w.1.size+1;omega) _).setCell (p:=⟨w.1.size+1,1,none⟩) (by show w.1.size<=w.1.size+1;omega) _).setCell (p:=⟨w.1.size+1,2,none⟩) (by show w.1.size<=w.1.size+1;omega) _).setCell (p:=⟨w.1.size+1,3,none⟩) (by show w.1.size<=w.1.size+1;omega) _
 rw[hF];refine bodyPost_ret (v:=.agg #[.bool m.x,.slice (some ⟨W.1.size,0,none⟩) m.ag.length m.ag.length,.slice (some ⟨X1.1.size,0,none⟩) m.h.length m.h.length,.slice (some ⟨X2.1.size,0,none⟩) m.ax.length m.ax.length]) (by simp[results,results52,go_sem,g0,g1,g2,g3]) rfl ?_;have hW:=TW.out.2.2;obtain⟨q1,q2,q3,q4,q5,q6,q7,q8⟩:=K2.out;obtain⟨z1,z2,z3,z4,z5⟩:=B3.out
 have m1:J4 w3 (w.1.size+3) X1.1.size X2.1.size w3.1.size ⟨some ⟨W.1.size,0,none⟩,m.ag.length,some ⟨X1.1.size,0,none⟩,m.h.length,some ⟨X2.1.size,0,none⟩,m.ax.length⟩ m gk gr:=
  ⟨⟨W.1.size,rfl,by omega,q7,by rw[<-hW];exact q5.later oN.aj z5 (by omega),q8,q6.below z5 (by omega)⟩,⟨X1.1.size,rfl,Nat.le_refl _,q2,q3.later AtR.aj z5 q2,q3.lt,q4.below z5 q2⟩,⟨X2.1.size,rfl,Nat.le_refl _,z2,z3,z4⟩,by omega,Nat.le_of_lt q2,Nat.le_of_lt z2,Nat.le_refl _⟩
 exact⟨⟨some ⟨W.1.size,0,none⟩,m.ag.length,some ⟨X1.1.size,0,none⟩,m.h.length,some ⟨X2.1.size,0,none⟩,m.ax.length⟩,X1.1.size,X2.1.size,w3.1.size,gk,gr,rfl,m1.kept (by omega) (fun q h1 h2=>eF q (by omega) (by omega)),bF⟩
end
section
open Go.Proofs.Tryz
variable {j n:Nat}{k:Int}
def CK(k:Int)(j:Nat):C2:=⟨k+2*(j:Int),k+2*(j:Int)+1⟩
def nU(k:Int)(n:Nat):List C2:=(List.range n).map (CK k)
theorem CL(h:j<n):(nU k n)[j]?=some (CK k j):=by simp[nU,h]
theorem nV(k:Int)(n:Nat):(nU k n).length=n:=by simp[nU]
theorem I8(w:World)(b n cap:Nat)(k:Int)(hn:n<=1048576)(hk:0<=k)(pJ:k<=1000000000)(hr:Room w b (n*2)):
  Calls prog 124 #[.slice (some ⟨b,0,none⟩) n cap,vI k] w fun e w'=>e=.returned (vI (k+2*(n:Int)))/\aX b w w'/\dJ w' b 0 (nU k n)/\Room w' b (n*2):=by
 go_enter func124,ntmps124;go_wp2;go_loopw[1,5] (fun v1 v5 wr=>∃j:Nat,j<=n/\v5=vI j/\v1=vI (k+2*(j:Int))/\aX b w wr/\Room wr b (n*2)/\dJ wr b 0 ((nU k n).take j)) (fun _ v5 _=>n-(intOf v5).toNat)
 case atStart=>exact⟨0,Nat.zero_le _,rfl,by simp,aX.refl _ _,hr,fun i s e=>by simp at e⟩
 case round=>
  obtain⟨j,hj,rfl,rfl,kQ,eB,mZ⟩:=hrel;by_cases aN:j<n
  ·obtain⟨v0,d0,f0⟩:=eB (j*2) (by omega);obtain⟨v1,d1,f1⟩:=eB (j*2+1) (by omega);have K:=fP kQ eB mZ;clear kQ eB mZ hr;go_wp2;obtain⟨kQ,eB,mZ⟩:=K.out;refine⟨⟨j+1,by omega,by simp,by congr 1;push_cast;omega,(kQ.setCell _ _).setCell _ _,(eB.set _).set _,mZ.put (s:=CK k j) (CL aN) eB (by omega)⟩,by simp[intOf];omega⟩
  ·have:j=n:=by omega
   subst this;have hd:decide ((j:Int)<(j:Int))=false:=by simp
   rw[List.take_of_length_le (by rw[nV];omega)]at mZ;have K:=fP kQ mZ eB;clear kQ eB mZ hr;go_wp2;go_ret;exact⟨rfl,K.out.1,K.out.2.1,K.out.2.2⟩
theorem Iy(w:World)(a:OA)(n cap:Nat)(k:Int)(hn:n<=1048576)(hk:0<=k)(pJ:k<=1000000000)(hs:uz w w.1.size a n (nU k n)):
  Calls prog 125 #[.slice a n cap,vI k] w fun e w'=>e=.returned (vI (k+2*(n:Int)))/\w'=w:=by
 obtain⟨_,hs⟩:=hs;go_enter func125,ntmps125;go_wp2;go_loop[1,5] (fun v1 v5=>∃j:Nat,j<=n/\v5=vI j/\v1=vI (k+2*(j:Int))) (fun _ v5=>n-(intOf v5).toNat)
 case atStart=>exact⟨0,Nat.zero_le _,rfl,by simp⟩
 case round=>
  obtain⟨j,hj,rfl,rfl⟩:=hrel;by_cases aN:j<n
  ·rcases hs with hs|⟨b,off,rfl,hb,h1⟩
   ·omega
   ·obtain⟨c0,c1⟩:=h1 j (CK k j) (CL aN);simp only[CK]at c0 c1;clear h1;go_wp2;exact⟨⟨j+1,by omega,by simp,by congr 1;push_cast;omega⟩,by simp[intOf];omega⟩
  ·have:j=n:=by omega
   subst this;have hd:decide ((j:Int)<(j:Int))=false:=by simp
   clear hs;go_wp2;go_ret;exact⟨rfl,rfl⟩
def mkSet(k:Int)(j:Nat):S5:=⟨k+5*(j:Int),k+5*(j:Int)+1,k+5*(j:Int)+1+1,(k+5*(j:Int)+1+1+1)%3==0,k+5*(j:Int)+1+1+1+1⟩
def iW(k:Int)(n:Nat):List S5:=(List.range n).map (mkSet k)
theorem qb(h:j<n):(iW k n)[j]?=some (mkSet k j):=by simp[iW,h]
theorem iX(k:Int)(n:Nat):(iW k n).length=n:=by simp[iW]
theorem vV(w:World)(b n cap:Nat)(k:Int)(hn:n<=1048576)(hk:0<=k)(pJ:k<=1000000000)(hr:Room w b (n*5)):
  Calls prog 71 #[.slice (some ⟨b,0,none⟩) n cap,vI k] w fun e w'=>e=.returned (vI (k+5*(n:Int)))/\aX b w w'/\aY w' b 0 (iW k n)/\Room w' b (n*5):=by
 go_enter func71,ntmps71;go_wp2;go_loopw[1,5] (fun v1 v5 wr=>∃j:Nat,j<=n/\v5=vI j/\v1=vI (k+5*(j:Int))/\aX b w wr/\Room wr b (n*5)/\aY wr b 0 ((iW k n).take j)) (fun _ v5 _=>n-(intOf v5).toNat)
 case atStart=>exact⟨0,Nat.zero_le _,rfl,by simp,aX.refl _ _,hr,fun i s e=>by simp at e⟩
 case round=>
  obtain⟨j,hj,rfl,rfl,kQ,eB,mZ⟩:=hrel;by_cases aN:j<n
  ·obtain⟨v0,d0,f0⟩:=eB (j*5) (by omega);obtain⟨v1,d1,f1⟩:=eB (j*5+1) (by omega);obtain⟨v2,d2,f2⟩:=eB (j*5+2) (by omega);obtain⟨v3,d3,f3⟩:=eB (j*5+3) (by omega);obtain⟨v4,d4,f4⟩:=eB (j*5+4) (by omega);have K:=fP kQ eB mZ;clear kQ eB mZ hr;go_wp2;obtain⟨kQ,eB,mZ⟩:=K.out;refine⟨⟨j+1,by omega,by simp,by congr 1;push_cast;omega,((((kQ.setCell _ _).setCell _ _).setCell _ _).setCell _ _).setCell _ _,((((eB.set _).set _).set _).set _).set _,mZ.put (s:=mkSet k j) (qb aN) eB (by omega)⟩,by simp[intOf];omega⟩
  ·have:j=n:=by omega
   subst this;have hd:decide ((j:Int)<(j:Int))=false:=by simp
   rw[List.take_of_length_le (by rw[iX];omega)]at mZ;have K:=fP kQ mZ eB;clear kQ eB mZ hr;go_wp2;go_ret;exact⟨rfl,K.out.1,K.out.2.1,K.out.2.2⟩
theorem yn(w:World)(a:OA)(cap:Nat)(k:Int):Calls prog 71 #[.slice a 0 cap,vI k] w fun e w'=>e=.returned (vI k)/\w'=w:=by
 go_enter func71,ntmps71;go_wp2;go_loop[1,5] (fun v1 v5=>v1=vI k/\v5=vI 0) (fun _ _=>0)
 case atStart=>exact⟨rfl,rfl⟩
 case round=>
  obtain⟨rfl,rfl⟩:=hrel;go_wp2;go_ret;exact⟨rfl,rfl⟩
theorem vO(w:World)(a:OA)(n cap:Nat)(k:Int)(hn:n<=1048576)(hk:0<=k)(pJ:k<=1000000000)(hs:Sl w w.1.size a n (iW k n)):
  Calls prog 76 #[.slice a n cap,vI k] w fun e w'=>e=.returned (vI (k+5*(n:Int)))/\w'=w:=by
 obtain⟨_,hs⟩:=hs;go_enter func76,ntmps76;go_wp2;go_loop[1,5] (fun v1 v5=>∃j:Nat,j<=n/\v5=vI j/\v1=vI (k+5*(j:Int))) (fun _ v5=>n-(intOf v5).toNat)
 case atStart=>exact⟨0,Nat.zero_le _,rfl,by simp⟩
 case round=>
  obtain⟨j,hj,rfl,rfl⟩:=hrel;by_cases aN:j<n
  ·rcases hs with hs|⟨b,off,rfl,hb,h1⟩
   ·omega
   ·obtain⟨c0,c1,c2,c3,c4⟩:=h1 j (mkSet k j) (qb aN);simp only[mkSet]at c0 c1 c2 c3 c4;clear h1;go_wp2;exact⟨⟨j+1,by omega,by simp,by congr 1;push_cast;omega⟩,by simp[intOf];omega⟩
  ·have:j=n:=by omega
   subst this;have hd:decide ((j:Int)<(j:Int))=false:=by simp
   clear hs;go_wp2;go_ret;exact⟨rfl,rfl⟩
end
end Go.Proofs.YtbiigfbhhkiodaaGreatDoor
