import Derived.Test.YtalnmfefmiapoaaGreatDoorRows
import Derived.WalkSpells
import Derived.WalkLawsBesides
import Derived.Stop.Asserts
import Derived.RowKitTokens
import Derived.Deep.RegionHeld
import Derived.Lib.QuietBelow
import Derived.BigQuiet
import Derived.Deep.CutRange
import Derived.Deep.Upon
import Derived.Deep.Heap
import Derived.Deep.AppendLies
set_option maxHeartbeats 16000000
set_option maxRecDepth 100000
namespace Go.Proofs.YtalnmfefmiapoaaGreatDoor
open Go.RowKit
open Go.Sort (grow)
abbrev vI (x : Int) : Value := .int .i64 x
abbrev kv : List Value := [vI 0, vI 0, .slice none 0 0, .slice none 0 0, .slice none 0 0, .bool false]
abbrev CJ : List Value := [vI 0, vI 0, vI 0, vI 0, .slice none 0 0, .slice none 0 0, vI 0]
theorem aR {n : Nat} : n ≤ n := Nat.le_refl n
theorem aJ {n : Nat} {w : World} : Below n w w := Below.refl n w
section
variable {B b c m o:Nat}{P:Program}{Q:Exit->Act->World->Prop}{a:Act}{ops:Array Oper}{v':Value}{w w':World}
def Room(w:World)(b m:Nat):Prop:=∀j,j<m->∃v,w.cell? ⟨b,j,none⟩=some v/\w.frozen? ⟨b,j,none⟩=false
theorem Room.below(h:Room w b m)(hb:Below B w w')(hB:b<B):Room w' b m:=fun j hj=>by
 obtain⟨v,h1,h2⟩:=h j hj;exact⟨v,by rw[hb.cell hB];exact h1,by rw[hb.frozen hB];exact h2⟩
theorem az{v:Value}(h:w.cell? ⟨b,o,none⟩=some v):(w.setCell ⟨b,o,none⟩ v').cell? ⟨b,o,none⟩=some v':=World.cell?_setCell_same' _ _ _ (by rw[h];rfl)
theorem ae{o':Nat}(h:o'≠o):(w.setCell ⟨b,o,none⟩ v').cell? ⟨b,o',none⟩=w.cell? ⟨b,o',none⟩:=World.cell?_setCell_other _ _ _ _ (fun e=>h (by cases e;rfl))
theorem Room.set(h:Room w b m)(v:Value):Room (w.setCell ⟨b,o,none⟩ v) b m:=fun j hj=>by
 obtain⟨u,h1,h2⟩:=h j hj;refine⟨if j=o then v else u,?_,by rw[World.frozen?_setCell];exact h2⟩;by_cases e:j=o
 ·subst e;simp[az h1]
 ·simp[e,ae e,h1]
theorem aI{p:Addr}(hp:p.block≠b)(v:Value):(w.setCell p v).cell? ⟨b,o,none⟩=w.cell? ⟨b,o,none⟩:=World.cell?_setCell_other _ _ _ _ (fun e=>hp (by rw[e]))
theorem gU(w:World)(z:Array Value)(m:Nat)(t:TypeId):Room (w.alloc (.cells (madeCells z m) t)) w.1.size m:=fun j hj=>by
 have hz:j<(madeCells z m).size:=by rw[size_madeCells];exact hj
 exact⟨(madeCells z m)[j],by rw[World.cell?_alloc_new];exact Array.getElem?_eq_getElem hz,by simp⟩
structure aW(c:Nat)(w w':World):Prop where
 os:w'.os=w.os
 tape:w'.tape=w.tape
 output:w'.output=w.output
 size:w'.1.size=w.1.size
 block:∀k,k≠c->w'.1[k]?=w.1[k]?
theorem aW.refl(c:Nat)(w:World):aW c w w:=⟨rfl,rfl,rfl,rfl,fun _ _=>rfl⟩
theorem aW.setCell{c:Nat}{a w:World}(h:aW c a w)(o:Nat)(u:Value):aW c a (w.setCell ⟨c,o,none⟩ u):=
 ⟨h.os,h.tape,h.output,by simpa[World.setCell]using h.size,fun k hk=>(Below.heap_setCell _ _ _ _ hk).trans (h.block k hk)⟩
structure cu(c:Nat)(w w':World):Prop where
 os:w'.os=w.os
 tape:w'.tape=w.tape
 output:w'.output=w.output
 size:w.1.size<=w'.1.size
 block:∀k,k<w.1.size->k≠c->w'.1[k]?=w.1[k]?
theorem cu.refl(c:Nat)(w:World):cu c w w:=⟨rfl,rfl,rfl,Nat.le_refl _,fun _ _ _=>rfl⟩
theorem cu.trans{c:Nat}{a b d:World}(h:cu c a b)(k:cu c b d):cu c a d:=
 ⟨k.os.trans h.os,k.tape.trans h.tape,k.output.trans h.output,Nat.le_trans h.size k.size,fun i hi hc=>(k.block i (Nat.lt_of_lt_of_le hi h.size) hc).trans (h.block i hi hc)⟩
theorem cu.setCell{c:Nat}{a w:World}(h:cu c a w)(o:Nat)(u:Value):cu c a (w.setCell ⟨c,o,none⟩ u):=
 h.trans ⟨rfl,rfl,rfl,by simp[World.setCell],fun k _ hc=>Below.heap_setCell _ _ _ _ hc⟩
theorem cu.below(h:cu c w w')(hB:B<=c)(hs:B<=w.1.size):Below B w w':=
 ⟨h.os,h.tape,h.output,h.size,fun k hk=>h.block k (by omega) (by omega)⟩
theorem cu.dK{a:World}(h:cu c a w)(hb:Below w.1.size w w'):cu c a w':=
 ⟨hb.os.trans h.os,hb.tape.trans h.tape,hb.output.trans h.output,Nat.le_trans h.size hb.size,fun k hk hc=>(hb.block k (Nat.lt_of_lt_of_le hk h.size)).trans (h.block k hk hc)⟩
theorem eO(w:World){rest:List Oper}{o:Oper}(hg:o.guard=none)(s x:Operand)(t:TypeId)
  (Zm:o.op=Op.call { callee:=Callee.builtin Builtin.append,args:=#[s,x],argTypes:=#[t,t] }) (v u v':Value) (w':World) (hs:a.eval s=v) (hx:a.eval x=u)
  (hr:(Builtin.append_ #[t,t] o.type #[v,u]).run P w=.ok v' w') (h:wpList P ops Q rest (a.put o.dst v') w'):wpList P ops Q (o::rest) a w:=by
 refine wpList_plain hg fun K hK=>?_
 unfold Oper.wp;simp[execOp,Zm,resolve,invoke,builtin,hs,hx,hr,Result.andThen];exact hK _ _ h
theorem df(w:World){o:Oper}{K:Act->World->Prop}{E:Prop}(kq:o.guard=none)(s x:Operand)(t:TypeId)
  (Zm:o.op=Op.call { callee:=Callee.builtin Builtin.append,args:=#[s,x],argTypes:=#[t,t] }) (v u v':Value) (w':World) (hs:a.eval s=v) (hx:a.eval x=u)
  (hr:(Builtin.append_ #[t,t] o.type #[v,u]).run P w=.ok v' w') (h:K (a.put o.dst v') w'):
  if Region.wanted o (yielded ops a.tmps)=true then Oper.wp P o a w K Q else E:=by
 have hw:Region.wanted o (yielded ops a.tmps)=true:=by simp[Region.wanted,kq]
 rw[if_pos hw];unfold Oper.wp;simp[execOp,Zm,resolve,invoke,builtin,hs,hx,hr,Result.andThen];exact h
end
section
variable {B j q s:Nat}{X Y:World}{cs:List Value}
theorem ay{A:World}(h:Below A.1.size A X)(b:Below X.1.size X Y):Below A.1.size A Y:=h.trans (b.mono h.size)
def Bx(X:World)(s:Nat)(cs:List Value):Prop:=(∀j u,cs[j]?=some u->X.cell? ⟨s,j,none⟩=some u)/\(∀j,X.frozen? ⟨s,j,none⟩=false)/\s<X.1.size
theorem Bx.aj(h:Bx X s cs)(hb:Y.1[s]?=X.1[s]?)(hs:X.1.size<=Y.1.size):Bx Y s cs:=
 ⟨fun j u e=>(World.cell?_of_block (a:=⟨s,j,none⟩) hb).trans (h.1 j u e),fun j=>(World.frozen?_of_block (a:=⟨s,j,none⟩) hb).trans (h.2.1 j),Nat.lt_of_lt_of_le h.2.2 hs⟩
theorem Bx.later(h:Bx X s cs)(hb:Below X.1.size X Y):Bx Y s cs:=h.aj (hb.block _ h.2.2) hb.size
theorem Bx.under(h:Bx X s cs)(hb:Below B X Y)(hs:s<B):Bx Y s cs:=h.aj (hb.block _ hs) hb.size
theorem Bx.dZ{b o:Nat}(h:Bx X s cs)(hb:s≠b)(u:Value):Bx (X.setCell ⟨b,o,none⟩ u) s cs:=h.aj (Below.heap_setCell _ _ _ _ hb) (by simp[World.setCell])
theorem Bx.set{i:Nat}(h:Bx X s cs)(hi:i<cs.length)(u:Value):Bx (X.setCell ⟨s,i,none⟩ u) s (cs.set i u):=by
 refine⟨fun j v e=>?_,fun j=>by rw[World.frozen?_setCell];exact h.2.1 j,by simpa[World.setCell]using h.2.2⟩;by_cases hj:i=j
 ·subst hj;rw[List.getElem?_set_self hi]at e;obtain rfl:=Option.some.inj e;exact az (h.1 i _ (List.getElem?_eq_getElem hi))
 ·rw[List.getElem?_set_ne hj]at e;exact(ae (by omega)).trans (h.1 j v e)
def di(X:World)(s:Nat):Nat->List Value->World
 | _,[]=>X
 | i,c::cs=>di (X.setCell ⟨s,i,none⟩ c) s (i+1) cs
theorem bf(s:Nat)(cs:List Value):∀(X:World) (i:Nat),(di X s i cs).1.size=X.1.size:=by
 induction cs with
 | nil=>intro X i;rfl
 | cons c cs ih=>intro X i;rw[di,ih];simp[World.setCell]
theorem aV(hq:q≠s)(cs:List Value):∀(X:World) (i:Nat),(di X s i cs).1[q]?=X.1[q]?:=by
 induction cs with
 | nil=>intro X i;rfl
 | cons c cs ih=>intro X i;rw[di,ih];exact Below.heap_setCell _ _ _ _ hq
theorem aU{w:World}(hs:B<=s)(cs:List Value):∀(X:World) (i:Nat),Below B w X->Below B w (di X s i cs):=by
 induction cs with
 | nil=>intro X i h;exact h
 | cons c cs ih=>intro X i h;exact ih _ _ (h.setCell (p:=⟨s,i,none⟩) hs _)
theorem Fq(cs:List Value):∀(X:World) (i:Nat),(di X s i cs).frozen? ⟨q,j,none⟩=X.frozen? ⟨q,j,none⟩:=by
 induction cs with
 | nil=>intro X i;rfl
 | cons c cs ih=>intro X i;rw[di,ih,World.frozen?_setCell]
theorem NN(cs:List Value):∀(X:World) (i:Nat),j<i->(di X s i cs).cell? ⟨s,j,none⟩=X.cell? ⟨s,j,none⟩:=by
 induction cs with
 | nil=>intro X i _;rfl
 | cons c cs ih=>intro X i h;rw[di,ih _ _ (by omega)];exact ae (by omega)
theorem wm(cs:List Value):∀(X:World) (i:Nat),(∀j,i<=j->j<i+cs.length->∃v,X.cell? ⟨s,j,none⟩=some v)->∀j u,cs[j]?=some u->(di X s i cs).cell? ⟨s,i+j,none⟩=some u:=by
 induction cs with
 | nil=>intro X i _ j u e;simp at e
 | cons c cs ih=>
  intro X i h j u e;rw[di];rcases j with _|j
  ·simp at e;subst e;obtain⟨v,hv⟩:=h i aR (by simp);rw[Nat.add_zero,NN _ _ _ (by omega)];exact az hv
  ·have:=ih (X.setCell ⟨s,i,none⟩ c) (i+1) (fun j h1 h2=>by
    obtain⟨v,hv⟩:=h j (by omega) (by simp only[List.length_cons];omega)
    exact⟨v,(ae (by omega)).trans hv⟩) j u (by simpa using e)
   rwa[show i+1+j=i+(j+1) by omega]at this
theorem Bx.put{cs0:List Value}(h:Bx X s cs0)(cs:List Value)(hl:cs.length=cs0.length):Bx (di X s 0 cs) s cs:=by
 refine⟨fun j u e=>?_,fun j=>by rw[Fq];exact h.2.1 j,by rw[bf];exact h.2.2⟩;have:=wm (s:=s) cs X 0 (fun j _ h2=>⟨_,h.1 j _ (List.getElem?_eq_getElem (by omega))⟩) j u e;rwa[Nat.zero_add]at this
theorem Bx.made(X:World)(cs:List Value)(T:TypeId):Bx (X.alloc (.cells cs.toArray T)) X.1.size cs:=⟨fun j u e=>by go_simp,fun j=>by go_simp,by simp⟩
end
section
open Go.RowKit Go.Extern.Stop Go.Stop Go.Extern
theorem qp(P:Program)(t:Nat)(cs:List Value):∀(W:World) (i:Nat),(∀u∈cs,u.oneCell'=true)->(∀j,i<=j->j<i+cs.length->(∃v,W.cell? ⟨t,j,none⟩=some v)/\W.frozen? ⟨t,j,none⟩=false)->(storeCells ⟨t,0,none⟩ cs i).run P W=.ok () (di W t i cs):=by
 induction cs with
 | nil=>intro W i _ _;rfl
 | cons c cs ih=>
  intro W i h1 h2;obtain⟨⟨v,hv⟩,hf⟩:=h2 i aR (by simp);have rz:(⟨t,0,none⟩:Addr).add i=⟨t,i,none⟩:=by unfold Addr.add;split<;>simp_all
  have fO:(store ⟨t,i,none⟩ c).run P W=.ok () (W.setCell ⟨t,i,none⟩ c):=by
   rw[run_store P W ⟨t,i,none⟩ c _ (h1 c (by simp))];simp[hv,hf]
  have hr:=ih (W.setCell ⟨t,i,none⟩ c) (i+1) (fun u hu=>h1 u (by simp[hu])) (fun j hj hl=>by
   obtain⟨⟨v',mu⟩,kl⟩:=h2 j (by omega) (by simp only[List.length_cons];omega)
   exact⟨⟨v',(ae (by omega)).trans mu⟩,by rw[World.frozen?_setCell];exact kl⟩)
  rw[storeCells,rz,Sem.run_bind,fO];simp only[Result.andThen];rw[hr,di]
theorem run_loadCellsFrom(P:Program)(b:Nat)(W:World)(cs:List Value):∀(i:Nat) (acc:Array Value),(∀j u,cs[j]?=some u->W.cell? ⟨b,i+j,none⟩=some u)->(loadCellsFrom ⟨b,0,none⟩ i cs.length acc).run P W=.ok (acc++cs.toArray) W:=by
 induction cs with
 | nil=>intro i acc _;simp[loadCellsFrom]
 | cons c cs ih=>
  intro i acc h;have rz:(⟨b,0,none⟩:Addr).add i=⟨b,i,none⟩:=by unfold Addr.add;split<;>simp_all
  have h0:W.cell? ⟨b,i,none⟩=some c:=by simpa using h 0 c rfl
  have hl:(load ⟨b,i,none⟩).run P W=.ok c W:=by simp[h0]
  have hr:=ih (i+1) (acc.push c) (fun j u hu=>by have:=h (j+1) u (by simpa using hu);rwa[show i+(j+1)=i+1+j by omega]at this);rw[List.length_cons,loadCellsFrom,rz,Sem.run_bind,hl];simp only[Result.andThen];rw[hr];simp
theorem run_loadCells(P:Program)(b:Nat)(W:World)(cs:List Value)(h:∀j u,cs[j]?=some u->W.cell? ⟨b,j,none⟩=some u):(loadCells ⟨b,0,none⟩ cs.length).run P W=.ok cs.toArray W:=by
 have:=run_loadCellsFrom P b W cs 0 #[] (fun j u hu=>by rw[Nat.zero_add];exact h j u hu);rw[loadCells,this];simp
namespace ea
def hd(t:Nat):Value:=.pointer (some ⟨1,t,none⟩)
theorem zy(h:Value)(w:World):(Go.method 454 244 (.agg #[h]) "Kind").run Tryz.prog w=.ok (279,h) w:=by kernel_rfl
theorem zx(h:Value)(w:World):(Go.method 454 244 (.agg #[h]) "Elem").run Tryz.prog w=.ok (298,.agg #[h]) w:=by kernel_rfl
theorem nG(h:Value)(w:World):(Go.method 454 244 (.agg #[h]) "Implements").run Tryz.prog w=.ok (299,.agg #[h]) w:=by kernel_rfl
theorem lS(h:Value)(w:World):(Go.method 454 244 (.agg #[h]) "AssignableTo").run Tryz.prog w=.ok (296,.agg #[h]) w:=by kernel_rfl
theorem X4(z:Sem Value)(f:TypeId->Addr->Nat->Nat->Sem Value)(v:Value):
  ReflectliteValue.method z f #[v]=(do match <-ReflectliteValue.parts v with|none=>z|some (t,a,fl)=>f t a fl (fl%32)):=rfl
theorem fm(v x:Value):ReflectliteValue.set #[v,x]=(do
  let (some (dst,a,fl),some (src,b,_)):=(<-ReflectliteValue.parts v,<-ReflectliteValue.parts x)
   | unsupported (.noEntry "extern/(internal/reflectlite.Value).Set.zeroValue")
  if fl/ReflectliteValue.flagAddr%2==0 then unsupported (.noEntry "extern/(internal/reflectlite.Value).Set.unaddressable")
  let val <-loadVar src b
  if <-Rtype.directlyAssignable dst src then storeVar dst a val
  else if <-Rtype.implements dst src then
   if (<-Rtype.kind src)==20 then
    match val with
    | .nilIface=>unsupported (.noEntry "extern/reflectlite: a nil value of one interface type handed on as a value of another")
    | _=>storeVar dst a val
   else storeVar dst a (.iface src val)
  else panicString ("reflectlite.Set: value of type "++(<-Rtype.spelt src) ++ " is not assignable to type "++(<-Rtype.spelt dst))
  pure (.tuple #[])):=rfl
theorem Lj(t:Addr)(w:World):(ReflectliteValue.unpack (.iface 159 (.pointer (some t)))).run Tryz.prog w
  = .ok (.agg #[.pointer (some ⟨1,159,none⟩),.pointer (some ⟨w.1.size,0,none⟩),.int .u64 150]) (w.alloc (.cells #[.pointer (some t)] 159)):=by kernel_rfl
theorem Uo(a:Addr)(w:World):(ReflectliteValue.methodAny (ReflectliteValue.valueError "reflectlite.Value.Type" 0) (fun t _ _ _=>ReflectliteType.toType t) #[.agg #[.pointer (some ⟨1,159,none⟩),.pointer (some a),.int .u64 150]]).run Tryz.prog w
  = .ok (.iface 244 (.agg #[.pointer (some ⟨1,159,none⟩)])) w:=by kernel_rfl
theorem Tp(w:World):((ReflectliteType.abiMethod fun t=>(fun a:Nat=>Value.int IntKind.u8 (a:Int)) <$> Rtype.kind t) #[.pointer (some ⟨1,159,none⟩)]).run Tryz.prog w=.ok (.int .u8 22) w:=by kernel_rfl
theorem WI(w:World):((ReflectliteType.abiMethod fun t=>(fun a:Nat=>Value.int IntKind.u8 (a:Int)) <$> Rtype.kind t) #[.pointer (some ⟨1,129,none⟩)]).run Tryz.prog w=.ok (.int .u8 25) w:=by kernel_rfl
theorem Js(a:Addr)(w:World):(ReflectliteValue.parts (.agg #[.pointer (some ⟨1,159,none⟩),.pointer (some a),.int .u64 150])).run Tryz.prog w=.ok (some (159,a,150)) w:=by kernel_rfl
theorem PY(a p:Addr)(W:World)(ha:W.cell? a=some (.pointer (some p))):
  (ReflectliteValue.method (ReflectliteValue.valueError "reflectlite.Value.IsNil" 0) ReflectliteValue.isNil #[.agg #[.pointer (some ⟨1,159,none⟩),.pointer (some a),.int .u64 150]]).run Tryz.prog W=.ok (.bool false) W:=by
 rw[X4];simp only[Sem.run_bind,Js,Result.andThen];simp[ReflectliteValue.isNil,loadVar,isAgg,underlying,Tryz.underlying159,ha,Result.andThen]
theorem R9(w:World):(ReflectliteType.method ReflectliteType.elem #[.agg #[.pointer (some ⟨1,159,none⟩)]]).run Tryz.prog w=.ok (.iface 244 (.agg #[.pointer (some ⟨1,129,none⟩)])) w:=by kernel_rfl
theorem EH(w:World):(ReflectliteType.relation "Implements" ReflectliteType.implements_ #[.agg #[.pointer (some ⟨1,129,none⟩)],.iface 244 (.agg #[.pointer (some ⟨1,127,none⟩)])]).run Tryz.prog w=.ok (.bool true) w:=by kernel_rfl
theorem JB(v:Value)(w:World):(ReflectliteType.typeOf #[.iface 129 v]).run Tryz.prog w=.ok (.iface 244 (.agg #[.pointer (some ⟨1,129,none⟩)])) w:=by kernel_rfl
theorem DZ(w:World):(ReflectliteType.relation "AssignableTo" ReflectliteType.assignableTo #[.agg #[.pointer (some ⟨1,129,none⟩)],.iface 244 (.agg #[.pointer (some ⟨1,129,none⟩)])]).run Tryz.prog w=.ok (.bool true) w:=by kernel_rfl
theorem MC(w:World):(Rtype.elem? 159).run Tryz.prog w=.ok (some 129) w:=by kernel_rfl
theorem Ga(p:Addr)(w:World):(ReflectliteValue.mk 129 p ReflectliteValue.flagAddr).run Tryz.prog w=.ok (.agg #[.pointer (some ⟨1,129,none⟩),.pointer (some p),.int .u64 409]) w:=by kernel_rfl
theorem Pn(a p:Addr)(W:World)(ha:W.cell? a=some (.pointer (some p))):
  (ReflectliteValue.method (ReflectliteValue.valueError "reflectlite.Value.Elem" 0) ReflectliteValue.elem #[.agg #[.pointer (some ⟨1,159,none⟩),.pointer (some a),.int .u64 150]]).run Tryz.prog W
   = .ok (.agg #[.pointer (some ⟨1,129,none⟩),.pointer (some p),.int .u64 409]) W:=by
 rw[X4];simp only[Sem.run_bind,Js,Result.andThen];simp[ReflectliteValue.elem,loadVar,isAgg,underlying,Tryz.underlying159,ha,Result.andThen,MC,Ga]
theorem Qj(a:Addr)(w:World):(ReflectliteValue.parts (.agg #[.pointer (some ⟨1,129,none⟩),.pointer (some a),.int .u64 409])).run Tryz.prog w=.ok (some (129,a,409)) w:=by kernel_rfl
theorem TT(a:Addr)(w:World):(ReflectliteValue.parts (.agg #[.pointer (some ⟨1,129,none⟩),.pointer (some a),.int .u64 153])).run Tryz.prog w=.ok (some (129,a,153)) w:=by kernel_rfl
theorem Pk(w:World):(Rtype.directlyAssignable 129 129).run Tryz.prog w=.ok true w:=by kernel_rfl
theorem Li(t:Addr)(w:World):(ReflectliteValue.unpack (.iface 160 (.pointer (some t)))).run Tryz.prog w
  = .ok (.agg #[.pointer (some ⟨1,160,none⟩),.pointer (some ⟨w.1.size,0,none⟩),.int .u64 150]) (w.alloc (.cells #[.pointer (some t)] 160)):=by kernel_rfl
theorem Un(a:Addr)(w:World):(ReflectliteValue.methodAny (ReflectliteValue.valueError "reflectlite.Value.Type" 0) (fun t _ _ _=>ReflectliteType.toType t) #[.agg #[.pointer (some ⟨1,160,none⟩),.pointer (some a),.int .u64 150]]).run Tryz.prog w
  = .ok (.iface 244 (.agg #[.pointer (some ⟨1,160,none⟩)])) w:=by kernel_rfl
theorem Tn(w:World):((ReflectliteType.abiMethod fun t=>(fun a:Nat=>Value.int IntKind.u8 (a:Int)) <$> Rtype.kind t) #[.pointer (some ⟨1,160,none⟩)]).run Tryz.prog w=.ok (.int .u8 22) w:=by kernel_rfl
theorem WH(w:World):((ReflectliteType.abiMethod fun t=>(fun a:Nat=>Value.int IntKind.u8 (a:Int)) <$> Rtype.kind t) #[.pointer (some ⟨1,65,none⟩)]).run Tryz.prog w=.ok (.int .u8 6) w:=by kernel_rfl
theorem Jr(a:Addr)(w:World):(ReflectliteValue.parts (.agg #[.pointer (some ⟨1,160,none⟩),.pointer (some a),.int .u64 150])).run Tryz.prog w=.ok (some (160,a,150)) w:=by kernel_rfl
theorem PX(a p:Addr)(W:World)(ha:W.cell? a=some (.pointer (some p))):
  (ReflectliteValue.method (ReflectliteValue.valueError "reflectlite.Value.IsNil" 0) ReflectliteValue.isNil #[.agg #[.pointer (some ⟨1,160,none⟩),.pointer (some a),.int .u64 150]]).run Tryz.prog W=.ok (.bool false) W:=by
 rw[X4];simp only[Sem.run_bind,Jr,Result.andThen];simp[ReflectliteValue.isNil,loadVar,isAgg,underlying,Tryz.underlying160,ha,Result.andThen]
theorem R8(w:World):(ReflectliteType.method ReflectliteType.elem #[.agg #[.pointer (some ⟨1,160,none⟩)]]).run Tryz.prog w=.ok (.iface 244 (.agg #[.pointer (some ⟨1,65,none⟩)])) w:=by kernel_rfl
theorem EG(w:World):(ReflectliteType.relation "Implements" ReflectliteType.implements_ #[.agg #[.pointer (some ⟨1,65,none⟩)],.iface 244 (.agg #[.pointer (some ⟨1,127,none⟩)])]).run Tryz.prog w=.ok (.bool true) w:=by kernel_rfl
theorem Qq(v:Value)(w:World):(ReflectliteType.typeOf #[.iface 65 v]).run Tryz.prog w=.ok (.iface 244 (.agg #[.pointer (some ⟨1,65,none⟩)])) w:=by kernel_rfl
theorem DY(w:World):(ReflectliteType.relation "AssignableTo" ReflectliteType.assignableTo #[.agg #[.pointer (some ⟨1,65,none⟩)],.iface 244 (.agg #[.pointer (some ⟨1,65,none⟩)])]).run Tryz.prog w=.ok (.bool true) w:=by kernel_rfl
theorem MB(w:World):(Rtype.elem? 160).run Tryz.prog w=.ok (some 65) w:=by kernel_rfl
theorem Rn(p:Addr)(w:World):(ReflectliteValue.mk 65 p ReflectliteValue.flagAddr).run Tryz.prog w=.ok (.agg #[.pointer (some ⟨1,65,none⟩),.pointer (some p),.int .u64 390]) w:=by kernel_rfl
theorem Pm(a p:Addr)(W:World)(ha:W.cell? a=some (.pointer (some p))):
  (ReflectliteValue.method (ReflectliteValue.valueError "reflectlite.Value.Elem" 0) ReflectliteValue.elem #[.agg #[.pointer (some ⟨1,160,none⟩),.pointer (some a),.int .u64 150]]).run Tryz.prog W
   = .ok (.agg #[.pointer (some ⟨1,65,none⟩),.pointer (some p),.int .u64 390]) W:=by
 rw[X4];simp only[Sem.run_bind,Jr,Result.andThen];simp[ReflectliteValue.elem,loadVar,isAgg,underlying,Tryz.underlying160,ha,Result.andThen,MB,Rn]
theorem Qi(a:Addr)(w:World):(ReflectliteValue.parts (.agg #[.pointer (some ⟨1,65,none⟩),.pointer (some a),.int .u64 390])).run Tryz.prog w=.ok (some (65,a,390)) w:=by kernel_rfl
theorem TS(a:Addr)(w:World):(ReflectliteValue.parts (.agg #[.pointer (some ⟨1,65,none⟩),.pointer (some a),.int .u64 134])).run Tryz.prog w=.ok (some (65,a,134)) w:=by kernel_rfl
theorem Pj(w:World):(Rtype.directlyAssignable 65 65).run Tryz.prog w=.ok true w:=by kernel_rfl
theorem Cv(w:World):(ReflectliteType.relation "AssignableTo" ReflectliteType.assignableTo #[.agg #[.pointer (some ⟨1,129,none⟩)],.iface 244 (.agg #[.pointer (some ⟨1,65,none⟩)])]).run Tryz.prog w=.ok (.bool false) w:=by kernel_rfl
theorem Ru(w:World):(sizeOf 129).run Tryz.prog w=.ok 7 w:=by kernel_rfl
theorem Xl(w:World):(sizeOf 65).run Tryz.prog w=.ok 1 w:=by kernel_rfl
theorem Tm(w:World):(isAgg 129).run Tryz.prog w=.ok true w:=by kernel_rfl
theorem Tk(w:World):(isAgg 65).run Tryz.prog w=.ok false w:=by kernel_rfl
theorem Oi(y0 y1 y2 y3 y4 y5 y6:Value)(w:World):(ReflectliteValue.unpack (.iface 129 (.agg #[y0,y1,y2,y3,y4,y5,y6]))).run Tryz.prog w
  = .ok (.agg #[.pointer (some ⟨1,129,none⟩),.pointer (some ⟨w.1.size,0,none⟩),.int .u64 153]) (w.alloc (.cells #[y0,y1,y2,y3,y4,y5,y6] 129)):=by kernel_rfl
theorem Oe(n:Int)(w:World):(ReflectliteValue.unpack (.iface 65 (vI n))).run Tryz.prog w
  = .ok (.agg #[.pointer (some ⟨1,65,none⟩),.pointer (some ⟨w.1.size,0,none⟩),.int .u64 134]) (w.alloc (.cells #[vI n] 65)):=by kernel_rfl
theorem NZ(t b:Nat)(ys old:List Value)(W:World)(h7:ys.length=7)(h1:∀u∈ys,u.oneCell'=true)(hb:Bx W b ys)(ho:old.length=7)(ht:Bx W t old):
  (ReflectliteValue.set #[.agg #[.pointer (some ⟨1,129,none⟩),.pointer (some ⟨t,0,none⟩),.int .u64 409],.agg #[.pointer (some ⟨1,129,none⟩),.pointer (some ⟨b,0,none⟩),.int .u64 153]]).run Tryz.prog W
   = .ok (.tuple #[]) (di W t 0 ys):=by
 have hl:(loadVar 129 ⟨b,0,none⟩).run Tryz.prog W=.ok (.agg ys.toArray) W:=by
  have:=run_loadCells Tryz.prog b W ys hb.1;rw[h7]at this;rw[loadVar,Sem.run_bind,Tm];simp only[Result.andThen,if_true];rw[Sem.run_bind,Ru];simp only[Result.andThen];rw[Sem.run_bind,this];rfl
 have hs:(storeVar 129 ⟨t,0,none⟩ (.agg ys.toArray)).run Tryz.prog W=.ok () (di W t 0 ys):=by
  have:=qp Tryz.prog t ys W 0 h1 (fun j _ hj=>⟨⟨_,ht.1 j _ (List.getElem?_eq_getElem (by omega))⟩,ht.2.1 j⟩);rw[storeVar,Sem.run_bind,Ru];simp only[Result.andThen,Value.cells];simpa[h7]using this
 rw[fm];simp only[Sem.run_bind,Qj,TT,Result.andThen];simp[ReflectliteValue.flagAddr,hl,Result.andThen,Pk,hs]
theorem ZN(t b:Nat)(n:Int)(old:Value)(W:World)(hb:W.cell? ⟨b,0,none⟩=some (vI n))(ht:W.cell? ⟨t,0,none⟩=some old)(hf:W.frozen? ⟨t,0,none⟩=false):
  (ReflectliteValue.set #[.agg #[.pointer (some ⟨1,65,none⟩),.pointer (some ⟨t,0,none⟩),.int .u64 390],.agg #[.pointer (some ⟨1,65,none⟩),.pointer (some ⟨b,0,none⟩),.int .u64 134]]).run Tryz.prog W
   = .ok (.tuple #[]) (W.setCell ⟨t,0,none⟩ (vI n)):=by
 have hl:(loadVar 65 ⟨b,0,none⟩).run Tryz.prog W=.ok (vI n) W:=by
  rw[loadVar,Sem.run_bind,Tk];simp[Result.andThen,hb]
 have hs:(storeVar 65 ⟨t,0,none⟩ (vI n)).run Tryz.prog W=.ok () (W.setCell ⟨t,0,none⟩ (vI n)):=by
  have:=qp Tryz.prog t [vI n] W 0 (fun u hu=>by simp at hu;subst hu;rfl) (fun j _ hj=>by
   obtain rfl:j=0:=by simp at hj;omega
   exact⟨⟨_,ht⟩,hf⟩)
  rw[storeVar,Sem.run_bind,Xl];simp only[Result.andThen,Value.cells];simpa[di]using this
 rw[fm];simp only[Sem.run_bind,Qi,TS,Result.andThen];simp[ReflectliteValue.flagAddr,hl,Result.andThen,Pj,hs]
end ea
end
section
open Go.RowKit Go.Extern.Stop Go.Stop Go.Extern
namespace ea
theorem Yw(t:Nat)(y0 y1 y2 y3 y4 y5 y6:Value)(old:List Value)(w:World)(hg:w.cell? ⟨0,0,none⟩=some (.iface 244 (.agg #[.pointer (some ⟨1,127,none⟩)])))(h1:∀u∈[y0,y1,y2,y3,y4,y5,y6],u.oneCell'=true)(ho:old.length=7)(ht:Bx w t old):
  Calls Tryz.prog 99 #[.iface 129 (.agg #[y0,y1,y2,y3,y4,y5,y6]),.iface 159 (.pointer (some ⟨t,0,none⟩))] w fun ev w'=>ev=.returned (.bool true)/\w'=di ((((w.alloc (.cells #[.pointer (some ⟨t,0,none⟩)] 159)).alloc (.cells #[.pointer (some ⟨1,159,none⟩),.pointer (some ⟨w.1.size,0,none⟩),.int .u64 150] 209)).alloc (.cells #[.pointer (some ⟨1,159,none⟩),.pointer (some ⟨w.1.size,0,none⟩),.int .u64 150] 209)).alloc (.cells #[y0,y1,y2,y3,y4,y5,y6] 129)) t 0 [y0,y1,y2,y3,y4,y5,y6]:=by
 have h6:=@run_callFunc_extern Tryz.prog 135 _ (fun args=>ReflectliteValue.unpack (args.getD 0 (.tuple #[]))) Tryz.func135 (by kernel_rfl) (by kernel_rfl) (by kernel_rfl) (by kernel_rfl)
 have h7:=@run_callFunc_extern Tryz.prog 136 _ (ReflectliteValue.methodAny (ReflectliteValue.valueError "reflectlite.Value.Type" 0) (fun t _ _ _=>ReflectliteType.toType t)) Tryz.func136 (by kernel_rfl) (by kernel_rfl) (by kernel_rfl) (by kernel_rfl)
 have h8:=@run_callFunc_extern Tryz.prog 137 _ (ReflectliteValue.method (ReflectliteValue.valueError "reflectlite.Value.IsNil" 0) ReflectliteValue.isNil) Tryz.func137 (by kernel_rfl) (by kernel_rfl) (by kernel_rfl) (by kernel_rfl)
 have jj:=@run_callFunc_extern Tryz.prog 279 _ (ReflectliteType.abiMethod fun t=>do pure (.int .u8 (<-Rtype.kind t))) Tryz.func279 (by kernel_rfl) (by kernel_rfl) (by kernel_rfl) (by kernel_rfl);have jt:=@run_callFunc_extern Tryz.prog 298 _ (ReflectliteType.method ReflectliteType.elem) Tryz.func298 (by kernel_rfl) (by kernel_rfl) (by kernel_rfl) (by kernel_rfl)
 have ju:=@run_callFunc_extern Tryz.prog 299 _ (ReflectliteType.relation "Implements" ReflectliteType.implements_) Tryz.func299 (by kernel_rfl) (by kernel_rfl) (by kernel_rfl) (by kernel_rfl)
 have YM:=@run_callFunc_extern Tryz.prog 160 _ ReflectliteType.typeOf Tryz.func160 (by kernel_rfl) (by kernel_rfl) (by kernel_rfl) (by kernel_rfl)
 have js:=@run_callFunc_extern Tryz.prog 296 _ (ReflectliteType.relation "AssignableTo" ReflectliteType.assignableTo) Tryz.func296 (by kernel_rfl) (by kernel_rfl) (by kernel_rfl) (by kernel_rfl)
 have XG:=@run_callFunc_extern Tryz.prog 161 _ (ReflectliteValue.method (ReflectliteValue.valueError "reflectlite.Value.Elem" 0) ReflectliteValue.elem) Tryz.func161 (by kernel_rfl) (by kernel_rfl) (by kernel_rfl) (by kernel_rfl)
 have BG:=@run_callFunc_extern Tryz.prog 162 _ ReflectliteValue.set Tryz.func162 (by kernel_rfl) (by kernel_rfl) (by kernel_rfl) (by kernel_rfl);have tO:=JB;have mA:=lS;have a25:=DZ;have v25:=Oi y0 y1 y2 y3 y4 y5 y6;have f6:=Lj;have f7:=Uo;have mK:=zy;have mE:=zx;have mI:=nG;have k27:=Tp;have k25:=WI;have e27:=R9;have i25:=EH;obtain⟨V1,ma⟩:∃V,V=w.alloc (.cells #[.pointer (some ⟨t,0,none⟩)] 159):=⟨_,rfl⟩
 have b1:Below w.1.size w V1:=by rw[ma];exact aJ.alloc aR _
 have s1:V1.1.size=w.1.size+1:=by rw[ma];simp
 have c1:V1.cell? ⟨w.1.size,0,none⟩=some (.pointer (some ⟨t,0,none⟩)):=by rw[ma];simp
 obtain⟨V2,tL⟩:∃V,V=V1.alloc (.cells #[.pointer (some ⟨1,159,none⟩),.pointer (some ⟨w.1.size,0,none⟩),.int .u64 150] 209):=⟨_,rfl⟩
 have b2:Below V1.1.size V1 V2:=by rw[tL];exact aJ.alloc aR _
 have s2:V2.1.size=V1.1.size+1:=by rw[tL];simp
 obtain⟨V3,x8⟩:∃V,V=V2.alloc (.cells #[.pointer (some ⟨1,159,none⟩),.pointer (some ⟨w.1.size,0,none⟩),.int .u64 150] 209):=⟨_,rfl⟩
 have b3:Below V2.1.size V2 V3:=by rw[x8];exact aJ.alloc aR _
 have s3:V3.1.size=V2.1.size+1:=by rw[x8];simp
 obtain⟨V4,yK⟩:∃V,V=V3.alloc (.cells #[y0,y1,y2,y3,y4,y5,y6] 129):=⟨_,rfl⟩
 have b4:Below V3.1.size V3 V4:=by rw[yK];exact aJ.alloc aR _
 have x4:Bx V4 V3.1.size [y0,y1,y2,y3,y4,y5,y6]:=by rw[yK];exact Bx.made V3 [y0,y1,y2,y3,y4,y5,y6] _
 have aN:0<w.1.size:=by
  rcases Nat.eq_zero_or_pos w.1.size with h0|h
  ·simp[World.cell?,h0]at hg
  ·exact h
 have AB:V2.cell? ⟨0,0,none⟩=some (.iface 244 (.agg #[.pointer (some ⟨1,127,none⟩)])):=(b2.cell (p:=⟨0,0,none⟩) (by show 0<V1.1.size;omega)).trans ((b1.cell (p:=⟨0,0,none⟩) aN).trans hg);have n8:=PY ⟨w.1.size,0,none⟩ ⟨t,0,none⟩ V2 ((b2.cell (p:=⟨w.1.size,0,none⟩) (by show w.1.size<V1.1.size;omega)).trans c1);have el:=Pn ⟨w.1.size,0,none⟩ ⟨t,0,none⟩ V3 ((b3.cell (p:=⟨w.1.size,0,none⟩) (by show w.1.size<V2.1.size;omega)).trans ((b2.cell (p:=⟨w.1.size,0,none⟩) (by show w.1.size<V1.1.size;omega)).trans c1));have st:=NZ t V3.1.size [y0,y1,y2,y3,y4,y5,y6] old V4 rfl h1 x4 ho ((((ht.later b1).later b2).later b3).later b4);rw[show V3.1.size=w.1.size+1+1+1 by omega]at st;rw[yK,x8,tL,ma]at st;rw[x8,tL,ma]at el;rw[tL,ma]at n8 AB;clear b1 s1 c1 b2 s2 b3 s3 b4 x4 ma tL x8 yK V1 V2 V3 V4 ht h1 ho;go_enter Tryz.func99,Tryz.ntmps99;go_wp2;refine wp_loop_rounds 1 ?_;rw[rounds_succ];go_wp2;go_ret;exact⟨rfl,rfl⟩
end ea
end
section
open Go.RowKit Go.Extern.Stop Go.Stop Go.Extern
namespace ea
theorem hM:Tryz.prog.underlying 249=some (.interface #[("As",251)]):=by kernel_rfl
theorem Qr:Tryz.prog.underlying 252=some (.interface #[("Unwrap",253)]):=by kernel_rfl
theorem Sa:Tryz.prog.underlying 127=some (.interface #[("Error",322)]):=by kernel_rfl
theorem Da(v:Value)(w:World):(Go.method 454 129 v "Unwrap").run Tryz.prog w=.ok (290,v) w:=by kernel_rfl
theorem Yv(t:Nat)(n:Int)(y1 y2 y3 y4 y5 y6 old:Value)(w:World)(hg:w.cell? ⟨0,0,none⟩=some (.iface 244 (.agg #[.pointer (some ⟨1,127,none⟩)])))(ht:w.cell? ⟨t,0,none⟩=some old)(hf:w.frozen? ⟨t,0,none⟩=false)(PN:t<w.1.size):
  Calls Tryz.prog 99 #[.iface 129 (.agg #[.iface 65 (vI n),y1,y2,y3,y4,y5,y6]),.iface 160 (.pointer (some ⟨t,0,none⟩))] w fun ev w'=>ev=.returned (.bool true)/\w'=(((((w.alloc (.cells #[.pointer (some ⟨t,0,none⟩)] 160)).alloc (.cells #[.pointer (some ⟨1,160,none⟩),.pointer (some ⟨w.1.size,0,none⟩),.int .u64 150] 209)).alloc (.cells #[.pointer (some ⟨1,160,none⟩),.pointer (some ⟨w.1.size,0,none⟩),.int .u64 150] 209)).alloc (.cells #[.iface 65 (vI n),y1,y2,y3,y4,y5,y6] 129)).alloc (.cells #[vI n] 65)).setCell ⟨t,0,none⟩ (vI n):=by
 have h6:=@run_callFunc_extern Tryz.prog 135 _ (fun args=>ReflectliteValue.unpack (args.getD 0 (.tuple #[]))) Tryz.func135 (by kernel_rfl) (by kernel_rfl) (by kernel_rfl) (by kernel_rfl)
 have h7:=@run_callFunc_extern Tryz.prog 136 _ (ReflectliteValue.methodAny (ReflectliteValue.valueError "reflectlite.Value.Type" 0) (fun t _ _ _=>ReflectliteType.toType t)) Tryz.func136 (by kernel_rfl) (by kernel_rfl) (by kernel_rfl) (by kernel_rfl)
 have h8:=@run_callFunc_extern Tryz.prog 137 _ (ReflectliteValue.method (ReflectliteValue.valueError "reflectlite.Value.IsNil" 0) ReflectliteValue.isNil) Tryz.func137 (by kernel_rfl) (by kernel_rfl) (by kernel_rfl) (by kernel_rfl)
 have jj:=@run_callFunc_extern Tryz.prog 279 _ (ReflectliteType.abiMethod fun t=>do pure (.int .u8 (<-Rtype.kind t))) Tryz.func279 (by kernel_rfl) (by kernel_rfl) (by kernel_rfl) (by kernel_rfl);have jt:=@run_callFunc_extern Tryz.prog 298 _ (ReflectliteType.method ReflectliteType.elem) Tryz.func298 (by kernel_rfl) (by kernel_rfl) (by kernel_rfl) (by kernel_rfl)
 have ju:=@run_callFunc_extern Tryz.prog 299 _ (ReflectliteType.relation "Implements" ReflectliteType.implements_) Tryz.func299 (by kernel_rfl) (by kernel_rfl) (by kernel_rfl) (by kernel_rfl)
 have YM:=@run_callFunc_extern Tryz.prog 160 _ ReflectliteType.typeOf Tryz.func160 (by kernel_rfl) (by kernel_rfl) (by kernel_rfl) (by kernel_rfl)
 have js:=@run_callFunc_extern Tryz.prog 296 _ (ReflectliteType.relation "AssignableTo" ReflectliteType.assignableTo) Tryz.func296 (by kernel_rfl) (by kernel_rfl) (by kernel_rfl) (by kernel_rfl)
 have XG:=@run_callFunc_extern Tryz.prog 161 _ (ReflectliteValue.method (ReflectliteValue.valueError "reflectlite.Value.Elem" 0) ReflectliteValue.elem) Tryz.func161 (by kernel_rfl) (by kernel_rfl) (by kernel_rfl) (by kernel_rfl)
 have BG:=@run_callFunc_extern Tryz.prog 162 _ ReflectliteValue.set Tryz.func162 (by kernel_rfl) (by kernel_rfl) (by kernel_rfl) (by kernel_rfl);have tO:=JB;have tC:=Qq;have mA:=lS;have n6:=Cv;have aC:=DY;have vC:=Oe n;have f6:=Li;have f7:=Un;have mK:=zy;have mE:=zx;have mI:=nG;have mU:=Da;have k27:=Tn;have k25:=WH;have e27:=R8;have i25:=EG;have tA:∀(v:Value) (w:World),(Instr.typeAssert (.iface 129 v) 127 249 true).run Tryz.prog w=.ok (.tuple #[.nilIface,.bool false]) w:=fun v w=>run_typeAssert_lacksB hM (by kernel_rfl) (by kernel_rfl) _ _ w
 have tU:∀(v:Value) (w:World),(Instr.typeAssert (.iface 129 v) 127 252 true).run Tryz.prog w=.ok (.tuple #[.iface 129 v,.bool true]) w:=fun v w=>run_typeAssert_hasB Qr (by kernel_rfl) _ _ w
 obtain⟨V1,ma⟩:∃V,V=w.alloc (.cells #[.pointer (some ⟨t,0,none⟩)] 160):=⟨_,rfl⟩
 have b1:Below w.1.size w V1:=by rw[ma];exact aJ.alloc aR _
 have s1:V1.1.size=w.1.size+1:=by rw[ma];simp
 have c1:V1.cell? ⟨w.1.size,0,none⟩=some (.pointer (some ⟨t,0,none⟩)):=by rw[ma];simp
 obtain⟨V2,tL⟩:∃V,V=V1.alloc (.cells #[.pointer (some ⟨1,160,none⟩),.pointer (some ⟨w.1.size,0,none⟩),.int .u64 150] 209):=⟨_,rfl⟩
 have b2:Below V1.1.size V1 V2:=by rw[tL];exact aJ.alloc aR _
 have s2:V2.1.size=V1.1.size+1:=by rw[tL];simp
 obtain⟨V3,x8⟩:∃V,V=V2.alloc (.cells #[.pointer (some ⟨1,160,none⟩),.pointer (some ⟨w.1.size,0,none⟩),.int .u64 150] 209):=⟨_,rfl⟩
 have b3:Below V2.1.size V2 V3:=by rw[x8];exact aJ.alloc aR _
 have s3:V3.1.size=V2.1.size+1:=by rw[x8];simp
 obtain⟨V4,yK⟩:∃V,V=V3.alloc (.cells #[.iface 65 (vI n),y1,y2,y3,y4,y5,y6] 129):=⟨_,rfl⟩
 have b4:Below V3.1.size V3 V4:=by rw[yK];exact aJ.alloc aR _
 have s4:V4.1.size=V3.1.size+1:=by rw[yK];simp
 obtain⟨V5,QJ⟩:∃V,V=V4.alloc (.cells #[vI n] 65):=⟨_,rfl⟩
 have b5:Below V4.1.size V4 V5:=by rw[QJ];exact aJ.alloc aR _
 have c5:V5.cell? ⟨V4.1.size,0,none⟩=some (vI n):=by rw[QJ];simp
 have aN:0<w.1.size:=by omega
 have AB:V2.cell? ⟨0,0,none⟩=some (.iface 244 (.agg #[.pointer (some ⟨1,127,none⟩)])):=(b2.cell (p:=⟨0,0,none⟩) (by show 0<V1.1.size;omega)).trans ((b1.cell (p:=⟨0,0,none⟩) aN).trans hg);have q2:=(b2.cell (p:=⟨w.1.size,0,none⟩) (by show w.1.size<V1.1.size;omega)).trans c1;have q3:=(b3.cell (p:=⟨w.1.size,0,none⟩) (by show w.1.size<V2.1.size;omega)).trans q2;have q4:=(b4.cell (p:=⟨w.1.size,0,none⟩) (by show w.1.size<V3.1.size;omega)).trans q3;have n8:=PX ⟨w.1.size,0,none⟩ ⟨t,0,none⟩ V2 q2;have el:=Pm ⟨w.1.size,0,none⟩ ⟨t,0,none⟩ V4 q4;have b15:Below w.1.size w V5:=ay (ay (ay (ay b1 b2) b3) b4) b5;have st:=ZN t V4.1.size n old V5 c5 ((b15.cell (p:=⟨t,0,none⟩) PN).trans ht) ((World.frozen?_of_block (a:=⟨t,0,none⟩) (b15.block t PN)).trans hf);rw[show V4.1.size=w.1.size+1+1+1+1 by omega]at st;rw[QJ,yK,x8,tL,ma]at st;rw[yK,x8,tL,ma]at el;rw[tL,ma]at n8 AB;clear b1 s1 c1 b2 s2 b3 s3 b4 s4 b5 c5 b15 q2 q3 q4 ma tL x8 yK QJ V1 V2 V3 V4 V5 ht hf;go_enter Tryz.func99,Tryz.ntmps99;go_wp2;refine wp_loop_rounds 2 ?_;rw[rounds_succ];go_wp2;rw[rounds_succ];go_wp2;go_ret;exact⟨rfl,rfl⟩
end ea
end
section
variable {P:Program}{Q:Exit->Act->World->Prop}{a:Act}{f i s:Nat}{md:Region.Mode}{o:Oper}{ops:Array Oper}{rs:List Nat}{v:Value}{w:World}
def iB(P:Program)(md:Region.Mode)(ops:Array Oper)(Q:Exit->Act->World->Prop)(S:World->Prop)(s:Nat):Nat->Array Bool->Act->World->Prop
 | 0,L,a,w=>Region.ready md ops L=[]/\Q .normal a w
 | f+1,L,a,w=>(Region.ready md ops L=[]->Q .normal a w)/\∀i∈Region.ready md ops L,wpOp P ops Q i (fun a' w'=>(i≠s->S w')/\iB P md ops Q S s f (L.setIfInBounds i true) a' w') a w
theorem Af{S:World->Prop}:∀(f:Nat) (L:Array Bool) (a:Act) (w:World),iB P md ops Q S s f L a w->wpAny P md ops Q f L a w:=by
 intro f
 induction f with
 | zero=>exact fun _ _ _ h=>h
 | succ f ih=>exact fun L a w h=>⟨h.1,fun i hi=>wpOp_mono (fun a' w' k=>ih _ a' w' k.2) (h.2 i hi)⟩
def wJ(md:Region.Mode)(ops:Array Oper)(s i:Nat):Bool:=match ops[s]? with
 | some o=>o.after.any fun e=>Region.binds md e&&e.on==i
 | none=>false
theorem BS{j:Nat}{oj:Oper}{L:Array Bool}(hr:i∈Region.ready md ops L)(aP:∀e∈oj.after,Region.binds md e=true->L.getD e.on false=true)(hj:ops[j]?=some oj)(hw:wJ md ops j i=true):False:=by
 simp only[wJ,hj,Array.any_eq_true,Bool.and_eq_true,beq_iff_eq]at hw;obtain⟨k,hk,hb,he⟩:=hw;have h1:=aP _ (Array.getElem_mem hk) hb;have h0:=(mem_ready.1 hr).1;rw[he]at h1;rcases Nat.lt_or_ge i L.size with h|h
 ·simp[h]at h0 h1;rw[h0]at h1;cases h1
 ·simp[Array.getElem?_eq_none h]at h1
theorem Bp{S:World->Prop}(ho:ops[i]?=some o)(hw:wJ md ops s i=true)(EB:∀(j:Nat) (o:Oper) cs b,ops[j]?=some o->o.op≠.select cs b)(hQ:∀c a w,Q (.panic c) (a.put o.dst v) w->Q (.panic c) a w):
  ∀(f:Nat) (L:Array Bool) (a:Act) (w:World),
   (∀j oj,ops[j]?=some oj->j≠i->L.getD j true=false->(∀e∈oj.after,Region.binds md e=true->e.on≠i)->o.apart ops oj=true)->
   i∈Region.ready md ops L->YieldsIf P ops S o v a->S w->iB P md ops Q S s f (L.setIfInBounds i true) (a.put o.dst v) w->iB P md ops Q S s (f+1) L a w:=by
 intro f
 induction f with
 | zero=>
  intro L a w _ hr hy hS H;refine⟨fun h=>absurd hr (by rw[h];simp),fun j hj=>?_⟩;by_cases e:j=i
  ·rw[e];exact hy.wpOp ho hS ⟨fun _=>hS,H⟩
  ·have:=ready_mono hj e;rw[H.1]at this
   cases this
 | succ f ih=>
  intro L a w wQ hr hy hS H;refine⟨fun h=>absurd hr (by rw[h];simp),fun j hj=>?_⟩;by_cases e:j=i
  ·rw[e];exact hy.wpOp ho hS ⟨fun _=>hS,H⟩
  ·obtain⟨Q4,oj,Al,aP⟩:=mem_ready.1 hj;have XP:j≠s:=fun e'=>by rw[e']at Al;exact BS hr aP Al hw
   have qK:∀x∈oj.after,Region.binds md x=true->x.on≠i:=fun x hx hb he=>BS hr aP Al (by
    simp only[wJ,Al,Array.any_eq_true,Bool.and_eq_true,beq_iff_eq];obtain⟨k,hk,rfl⟩:=Array.getElem_of_mem hx
    exact⟨k,hk,hb,he⟩)
   have step:=wpOp_putIf Al (wQ j oj Al e Q4 qK) (fun cs b=>EB i o cs b ho) (fun cs b=>EB j oj cs b Al) hQ hy (H.2 j (ready_mono hj e));refine wpOp_mono (fun a' w' k=>⟨k.2.1,ih _ a' w' (fun x ox hx Wz Q8 WB=>wQ x ox hx Wz ?_ WB) (ready_mono hr (Ne.symm e)) k.1 (k.2.1 XP) ?_⟩) step
   ·by_cases h:j=x
    ·rw[<-h];exact Q4
    ·rw[getD_set_ne true h]at Q8;exact Q8
   ·rw[Array.setIfInBounds_comm _ _ e];exact k.2.2
theorem Du{S:World->Prop}{L:Array Bool}(ho:ops[i]?=some o)(hc:(wJ md ops s i&&Region.noSelect ops&&Region.free md ops L i&&(Region.ready md ops L).contains i)=true)
  (hQ:∀c a w,Q (.panic c) (a.put o.dst v) w->Q (.panic c) a w) (hy:YieldsIf P ops S o v a) (hS:S w) (h:iB P md ops Q S s f (L.setIfInBounds i true) (a.put o.dst v) w):iB P md ops Q S s (f+1) L a w:=by
 simp only[Bool.and_eq_true]at hc;obtain⟨⟨⟨h1,h2⟩,h3⟩,h4⟩:=hc;exact Bp ho h1 (Region.noSelect_spec h2) hQ f L a w (Region.free_spec ho h3) (by simpa using h4) hy hS h
def pg(P:Program)(md:Region.Mode)(ops:Array Oper)(Q:Exit->Act->World->Prop)(S:World->Prop)(s f:Nat)(L:Array Bool)(a:Act)(w:World)(rs:List Nat):Prop:=
 ∀i∈rs,wpOp P ops Q i (fun a' w'=>(i≠s->S w')/\iB P md ops Q S s f (L.setIfInBounds i true) a' w') a w
theorem pg.nil{S:World->Prop}{L:Array Bool}:pg P md ops Q S s f L a w []:=fun _ h=>by cases h
theorem pg.cons{S:World->Prop}{L:Array Bool}(ho:ops[i]?=some o)
  (h:∀K':Act->World->Prop,Shut (∀a w,(i≠s->S w)->iB P md ops Q S s f (L.setIfInBounds i true) a w->K' a w)->if Region.wanted o (yielded ops a.tmps)=true then Oper.wp P o a w K' Q else K' (a.put o.dst undef) w)
  (hs:pg P md ops Q S s f L a w rs):pg P md ops Q S s f L a w (i::rs):=fun j hj=>by
 rcases List.mem_cons.1 hj with rfl|hj
 ·exact wpOp_step ho (fun K' hK=>h K' (fun a w hS hW=>hK a w ⟨hS,hW⟩))
 ·exact hs j hj
theorem kD{S:World->Prop}{L:Array Bool}(hr:Region.ready md ops L=rs)(fF:rs≠[])(h:pg P md ops Q S s f L a w rs):iB P md ops Q S s (f+1) L a w:=
 ⟨fun h0=>absurd (hr.symm.trans h0) fF,fun i hi=>h i (by rw[<-hr];exact hi)⟩
theorem bS{S:World->Prop}{L:Array Bool}(hr:Region.ready md ops L=[])(h:Q .normal a w)(f:Nat):iB P md ops Q S s f L a w:=by
 cases f with
 | zero=>exact⟨hr,h⟩
 | succ f=>exact⟨fun _=>h,fun i hi=>by rw[hr]at hi;cases hi⟩
theorem bL{id:Nat}(s:Nat)(S:World->Prop)(hm:P.follows .mixedOrders=true)(h:iB P .any ops Q S s ops.size (Array.replicate ops.size false) a w.drew):(Code.region id ops true).wp P Q a w:=
 wp_region_any hm (Af _ _ _ _ h)
theorem eQ{S:World->Prop}(i:Nat)(v:Value){L:Array Bool}(ho:ops[i]?=some o)(hy:∀w,S w->(execOp a.eval o).run P w=.ok (.value v) w)(hS:S w)(h:iB P md ops Q S s f (L.setIfInBounds i true) (a.put o.dst v) w)(hc:(wJ md ops s i&&Region.noSelect ops&&Region.free md ops L i&&(Region.ready md ops L).contains i)=true:=by kernel_rfl)(hQ:∀c a w,Q (.panic c) (a.put o.dst v) w->Q (.panic c) a w:=by exact fun _ _ _ h=>h)(hw:Region.wanted o (yielded ops a.tmps)=true:=by rfl):iB P md ops Q S s (f+1) L a w:=Du ho hc hQ (Or.inl ⟨hw,hy⟩) hS h
theorem dX{S:World->Prop}(i:Nat){L:Array Bool}(ho:ops[i]?=some o)(h:∀K':Act->World->Prop,Shut (∀a w,(i≠s->S w)->iB P md ops Q S s f (L.setIfInBounds i true) a w->K' a w)->if Region.wanted o (yielded ops a.tmps)=true then Oper.wp P o a w K' Q else K' (a.put o.dst undef) w)(hr:Region.ready md ops L=[i]:=by kernel_rfl):iB P md ops Q S s (f+1) L a w:=kD hr (by simp) (pg.cons ho h pg.nil)
end
def HG(w:World):Prop:=w.cell? ⟨0,0,none⟩=some (.iface 244 (.agg #[.pointer (some ⟨1,127,none⟩)]))
theorem HG.later{w w':World}(h:HG w)(b:Below w.1.size w w'):HG w':=by
 have aN:0<w.1.size:=by
  rcases Nat.eq_zero_or_pos w.1.size with h0|h'
  ·simp[HG,World.cell?,h0]at h
  ·exact h'
 exact(b.cell (p:=⟨0,0,none⟩) aN).trans h
theorem oF(w:World)(n:Int)(y1 y2 y3 y4 y5 y6:Value):Calls Tryz.prog 26 #[vI n,.agg #[y1,y2,y3,y4,y5,y6]] w fun e w'=>e=.panicked [{ v:=.iface 129 (.agg #[.iface 65 (vI n),y1,y2,y3,y4,y5,y6]),recovered:=false }]/\w'=w.alloc (.cells #[y1,y2,y3,y4,y5,y6] 32):=by
 go_enter Tryz.func26,Tryz.ntmps26;go_wp2;exact⟨rfl,rfl,rfl⟩
theorem isErr(w:World)(v:Value):(Instr.typeAssert (.iface 129 v) 20 127 true).run Tryz.prog w=.ok (.tuple #[.iface 129 v,.bool true]) w:=run_typeAssert_hasB ea.Sa (by kernel_rfl) _ _ w
theorem Fv(w:World)(n:Int)(y1 y2:Int)(a3:Option Addr)(n3 c3:Nat)(a4:Option Addr)(n4 c4:Nat)(a5:Option Addr)(n5 c5:Nat)(y6:Bool)(hg:HG w):
  Calls Tryz.prog 57 #[.iface 129 (.agg #[.iface 65 (vI n),vI y1,vI y2,.slice a3 n3 c3,.slice a4 n4 c4,.slice a5 n5 c5,.bool y6])] w fun e w'=>e=.returned (.tuple #[.agg #[vI y1,vI y2,.slice a3 n3 c3,.slice a4 n4 c4,.slice a5 n5 c5,.bool y6],vI n])/\Below w.1.size w w':=by
 have hE:=isErr;obtain⟨V1,ma⟩:∃V,V=((w.alloc (.cells #[vI 0,vI 0,.slice none 0 0,.slice none 0 0,.slice none 0 0,.bool false] 32)).alloc (.cells #[.nilIface,vI 0,vI 0,.slice none 0 0,.slice none 0 0,.slice none 0 0,.bool false] 129)).alloc (.cells #[vI 0] 65):=⟨_,rfl⟩
 have b1:Below w.1.size w V1:=by rw[ma];exact((aJ.alloc aR _).alloc (by simp) _).alloc (by simp;omega) _
 have s1:V1.1.size=w.1.size+3:=by rw[ma];simp
 have x0:Bx V1 w.1.size kv:=by
  have:=(Bx.made w kv 32).later (aJ.alloc aR (.cells #[.nilIface,vI 0,vI 0,.slice none 0 0,.slice none 0 0,.slice none 0 0,.bool false] 129));have:=this.later (aJ.alloc aR (.cells #[vI 0] 65));rw[ma];exact this
 have x1:Bx V1 (w.1.size+1) [.nilIface,vI 0,vI 0,.slice none 0 0,.slice none 0 0,.slice none 0 0,.bool false]:=by
  have h:=Bx.made (w.alloc (.cells #[vI 0,vI 0,.slice none 0 0,.slice none 0 0,.slice none 0 0,.bool false] 32)) [.nilIface,vI 0,vI 0,.slice none 0 0,.slice none 0 0,.slice none 0 0,.bool false] 129;rw[show(w.alloc (.cells #[vI 0,vI 0,.slice none 0 0,.slice none 0 0,.slice none 0 0,.bool false] 32)).1.size=w.1.size+1 by simp]at h;have:=h.later (aJ.alloc aR (.cells #[vI 0] 65));rw[ma];exact this
 have x2:Bx V1 (w.1.size+2) [vI 0]:=by
  have h:=Bx.made ((w.alloc (.cells #[vI 0,vI 0,.slice none 0 0,.slice none 0 0,.slice none 0 0,.bool false] 32)).alloc (.cells #[.nilIface,vI 0,vI 0,.slice none 0 0,.slice none 0 0,.slice none 0 0,.bool false] 129)) [vI 0] 65;rw[show((w.alloc (.cells #[vI 0,vI 0,.slice none 0 0,.slice none 0 0,.slice none 0 0,.bool false] 32)).alloc (.cells #[.nilIface,vI 0,vI 0,.slice none 0 0,.slice none 0 0,.slice none 0 0,.bool false] 129)).1.size=w.1.size+2 by simp]at h;rw[ma];exact h
 obtain⟨YS,kc⟩:∃l:List Value,l=[.iface 65 (vI n),vI y1,vI y2,.slice a3 n3 c3,.slice a4 n4 c4,.slice a5 n5 c5,.bool y6]:=⟨_,rfl⟩
 have cR:=ea.Yw (w.1.size+1) (.iface 65 (vI n)) (vI y1) (vI y2) (.slice a3 n3 c3) (.slice a4 n4 c4) (.slice a5 n5 c5) (.bool y6) [.nilIface,vI 0,vI 0,.slice none 0 0,.slice none 0 0,.slice none 0 0,.bool false] V1 (hg.later b1) (by intro u hu;simp only[List.mem_cons,List.not_mem_nil,or_false]at hu;rcases hu with rfl|rfl|rfl|rfl|rfl|rfl|rfl<;>rfl) rfl x1;have K:Hid (Below w.1.size w V1/\V1.1.size=w.1.size+3/\Bx V1 w.1.size kv/\Bx V1 (w.1.size+1) [.nilIface,vI 0,vI 0,.slice none 0 0,.slice none 0 0,.slice none 0 0,.bool false]/\Bx V1 (w.1.size+2) [vI 0]/\HG V1):=⟨b1,s1,x0,x1,x2,hg.later b1⟩
 clear b1 s1 x0 x1 x2 kc YS;go_enter Tryz.func57,Tryz.ntmps57;go_wp2_with fail;rw[<-ma];clear ma;refine cR.mono ?_;clear cR;rintro e w1 ⟨rfl,Q7⟩;obtain⟨V4,yK⟩:∃V,V=(((V1.alloc (.cells #[.pointer (some ⟨w.1.size+1,0,none⟩)] 159)).alloc (.cells #[.pointer (some ⟨1,159,none⟩),.pointer (some ⟨V1.1.size,0,none⟩),.int .u64 150] 209)).alloc (.cells #[.pointer (some ⟨1,159,none⟩),.pointer (some ⟨V1.1.size,0,none⟩),.int .u64 150] 209)).alloc (.cells #[.iface 65 (vI n),vI y1,vI y2,.slice a3 n3 c3,.slice a4 n4 c4,.slice a5 n5 c5,.bool y6] 129):=⟨_,rfl⟩
 rw[<-yK]at Q7;have b4:Below V1.1.size V1 V4:=by rw[yK];exact(((aJ.alloc aR _).alloc (by simp) _).alloc (by simp;omega) _).alloc (by simp;omega) _
 obtain⟨k1,k2,k3,k4,k5,k6⟩:=K.out;have gX:w1.1.size=V4.1.size:=by rw[Q7];exact bf _ _ _ _
 have jU:∀q,q≠w.1.size+1->w1.1[q]?=V4.1[q]?:=fun q hq=>by rw[Q7];exact aV hq _ _ _
 have bw:Below w.1.size w w1:=by rw[Q7];exact aU (w:=w) (by omega) _ _ _ (ay k1 b4)
 have z0:Bx w1 w.1.size kv:=(k3.later b4).aj (jU _ (by omega)) (by omega);have z2:Bx w1 (w.1.size+2) [vI 0]:=(k5.later b4).aj (jU _ (by omega)) (by omega);have z1:Bx w1 (w.1.size+1) [.iface 65 (vI n),vI y1,vI y2,.slice a3 n3 c3,.slice a4 n4 c4,.slice a5 n5 c5,.bool y6]:=by rw[Q7];exact(k4.later b4).put _ rfl
 have g1:HG w1:=by
  have h4:=k6.later b4;have aN:0<V1.1.size:=by omega
  exact(World.cell?_of_block (a:=⟨0,0,none⟩) (jU 0 (by omega))).trans h4
 have cC:=ea.Yv (w.1.size+2) n (vI y1) (vI y2) (.slice a3 n3 c3) (.slice a4 n4 c4) (.slice a5 n5 c5) (.bool y6) (vI 0) w1 g1 (z2.1 0 _ rfl) (z2.2.1 0) z2.2.2;have K1:Hid (Below w.1.size w w1/\Bx w1 w.1.size kv/\Bx w1 (w.1.size+1) [.iface 65 (vI n),vI y1,vI y2,.slice a3 n3 c3,.slice a4 n4 c4,.slice a5 n5 c5,.bool y6]/\Bx w1 (w.1.size+2) [vI 0]/\w.1.size+3<=w1.1.size):=⟨bw,z0,z1,z2,by have:=b4.size;omega⟩
 clear Q7 yK b4 k1 k2 k3 k4 k5 k6 gX jU bw z0 z1 z2 g1 K V4;go_wp2_with fail;refine cC.mono ?_;clear cC;rintro e w2 ⟨rfl,UY⟩;obtain⟨V5,QJ⟩:∃V,V=((((w1.alloc (.cells #[.pointer (some ⟨w.1.size+2,0,none⟩)] 160)).alloc (.cells #[.pointer (some ⟨1,160,none⟩),.pointer (some ⟨w1.1.size,0,none⟩),.int .u64 150] 209)).alloc (.cells #[.pointer (some ⟨1,160,none⟩),.pointer (some ⟨w1.1.size,0,none⟩),.int .u64 150] 209)).alloc (.cells #[.iface 65 (vI n),vI y1,vI y2,.slice a3 n3 c3,.slice a4 n4 c4,.slice a5 n5 c5,.bool y6] 129)).alloc (.cells #[vI n] 65):=⟨_,rfl⟩
 rw[<-QJ]at UY;have b5:Below w1.1.size w1 V5:=by rw[QJ];exact((((aJ.alloc aR _).alloc (by simp) _).alloc (by simp;omega) _).alloc (by simp;omega) _).alloc (by simp;omega) _
 obtain⟨k1,k2,k3,k4,k5⟩:=K1.out;have jU:∀q,q≠w.1.size+2->w2.1[q]?=V5.1[q]?:=fun q hq=>by rw[UY];exact Below.heap_setCell _ _ _ _ hq
 have gY:w2.1.size=V5.1.size:=by rw[UY];simp[World.setCell]
 have z0:Bx w2 w.1.size kv:=(k2.later b5).aj (jU _ (by omega)) (by omega);have z1:Bx w2 (w.1.size+1) [.iface 65 (vI n),vI y1,vI y2,.slice a3 n3 c3,.slice a4 n4 c4,.slice a5 n5 c5,.bool y6]:=(k3.later b5).aj (jU _ (by omega)) (by omega);have z2:w2.cell? ⟨w.1.size+2,0,none⟩=some (vI n):=by rw[UY];exact az ((k4.later b5).1 0 _ rfl)
 have bw:Below w.1.size w w2:=by rw[UY];exact(ay k1 b5).setCell (p:=⟨w.1.size+2,0,none⟩) (by show w.1.size<=w.1.size+2;omega) _
 have BW:Hid (Below w.1.size w w2):=bw;have Z0:Hid (Bx w2 w.1.size kv):=z0;have Z1:Hid (Bx w2 (w.1.size+1) [.iface 65 (vI n),vI y1,vI y2,.slice a3 n3 c3,.slice a4 n4 c4,.slice a5 n5 c5,.bool y6]):=z1;clear UY QJ b5 k1 k2 k3 k4 k5 jU gY z0 z1 bw K1 V5;go_wp2_with fail;refine bL 4 (fun X:World=>Bx X (w.1.size+1) [.iface 65 (vI n),vI y1,vI y2,.slice a3 n3 c3,.slice a4 n4 c4,.slice a5 n5 c5,.bool y6]/\X.cell? ⟨w.1.size+2,0,none⟩=some (vI n)) (by kernel_rfl) ?_;have dW:(fun X:World=>Bx X (w.1.size+1) [.iface 65 (vI n),vI y1,vI y2,.slice a3 n3 c3,.slice a4 n4 c4,.slice a5 n5 c5,.bool y6]/\X.cell? ⟨w.1.size+2,0,none⟩=some (vI n)) w2.drew:=⟨Z1.out.later aJ.drew,z2⟩
 have BD:Hid (Below w.1.size w w2.drew):=BW.out.drew;have ZD:Hid (Bx w2.drew w.1.size kv):=Z0.out.later aJ.drew;clear z2 Z0 Z1 BW;generalize w2.drew=XD at *;refine eQ 0 ?_ rfl ?_ dW ?_;rotate_left
 ·(intro w aG;go_simp;first|done|with_reducible rfl)
 simp only[Act.put];refine eQ 1 ?_ rfl ?_ dW ?_;rotate_left
 ·(intro w aG;have q1:=aG.1.1 1 _ rfl;have q2:=aG.1.1 2 _ rfl;have q3:=aG.1.1 3 _ rfl;have q4:=aG.1.1 4 _ rfl;have q5:=aG.1.1 5 _ rfl;have q6:=aG.1.1 6 _ rfl;go_simp;first|done|with_reducible rfl|rfl)
 simp only[Act.put];refine eQ 2 ?_ rfl ?_ dW ?_;rotate_left
 ·(intro w aG;have q:=aG.2;go_simp;first|done|with_reducible rfl|exact q)
 simp only[Act.put];refine dX 3 rfl (fun K hK=>?_);obtain⟨Y,hY⟩:∃Y,Y=di XD w.1.size 0 [vI y1,vI y2,.slice a3 n3 c3,.slice a4 n4 c4,.slice a5 n5 c5,.bool y6]:=⟨_,rfl⟩
 have Ai:(fun X:World=>Bx X (w.1.size+1) [.iface 65 (vI n),vI y1,vI y2,.slice a3 n3 c3,.slice a4 n4 c4,.slice a5 n5 c5,.bool y6]/\X.cell? ⟨w.1.size+2,0,none⟩=some (vI n)) Y:=by
  rw[hY];exact⟨dW.1.aj (aV (by omega) _ _ _) (by rw[bf];exact Nat.le_refl _),(World.cell?_of_block (a:=⟨w.1.size+2,0,none⟩) (aV (show w.1.size+2≠w.1.size by omega) _ _ _)).trans dW.2⟩
 have KY:Hid (Below w.1.size w Y/\Bx Y w.1.size [vI y1,vI y2,.slice a3 n3 c3,.slice a4 n4 c4,.slice a5 n5 c5,.bool y6]):=⟨by rw[hY];exact aU (w:=w) aR _ _ _ BD.out,by rw[hY];exact ZD.out.put _ rfl⟩
 have r0:=ZD.out.1 0 _ rfl;have r1:=ZD.out.1 1 _ rfl;have r2:=ZD.out.1 2 _ rfl;have r3:=ZD.out.1 3 _ rfl;have r4:=ZD.out.1 4 _ rfl;have r5:=ZD.out.1 5 _ rfl;have f0:=ZD.out.2.1 0;have f1:=ZD.out.2.1 1;have f2:=ZD.out.2.1 2;have f3:=ZD.out.2.1 3;have f4:=ZD.out.2.1 4;have f5:=ZD.out.2.1 5;simp only[di]at hY;go_simp;rw[<-hY];refine hK.out _ _ (fun _=>Ai) ?_;clear hK K hY r0 r1 r2 r3 r4 r5 f0 f1 f2 f3 f4 f5 dW ZD BD;refine dX 4 rfl (fun K hK=>?_);go_simp;refine hK.out _ _ (fun h=>absurd rfl h) ?_;clear hK K;refine bS (by kernel_rfl) ?_ _;have o0:=KY.out.2.1 0 _ rfl;have o1:=KY.out.2.1 1 _ rfl;have o2:=KY.out.2.1 2 _ rfl;have o3:=KY.out.2.1 3 _ rfl;have o4:=KY.out.2.1 4 _ rfl;have o5:=KY.out.2.1 5 _ rfl;go_wp2;refine bodyPost_ret (v:=.tuple #[.agg #[vI y1,vI y2,.slice a3 n3 c3,.slice a4 n4 c4,.slice a5 n5 c5,.bool y6],vI n]) (by simp[results,Tryz.results57,go_sem,o0,o1,o2,o3,o4,o5]) rfl ?_;exact⟨rfl,KY.out.1⟩
section
variable {B b m n q:Nat}{P:Nat->Prop}{X Y:World}{a:Option Addr}{g:Nat->Nat->Prop}
theorem Fy{w w':World}(h:Room w b m)(e:w'.1[b]?=w.1[b]?):Room w' b m:=fun j hj=>by
 obtain⟨v,h1,h2⟩:=h j hj;exact⟨v,(World.cell?_of_block (a:=⟨b,j,none⟩) e).trans h1,(World.frozen?_of_block (a:=⟨b,j,none⟩) e).trans h2⟩
def At(X:World)(b o:Nat)(cs:List Value):Prop:=∀j u,cs[j]?=some u->X.cell? ⟨b,o+j,none⟩=some u
theorem At.aj{o:Nat}{cs:List Value}(h:At X b o cs)(e:Y.1[b]?=X.1[b]?):At Y b o cs:=fun j u hu=>(World.cell?_of_block (a:=⟨b,o+j,none⟩) e).trans (h j u hu)
structure Kd(D V:Type) where
 n:Nat
 cells:V->D->List Value
 len:∀v d,(cells v d).length=n
 Rd:World->V->D->Prop
 Ow:World->Nat->V->D->(Nat->Prop)->Prop
 later:∀{w w':World}{v:V}{d:D},Rd w v d->Below w.1.size w w'->Rd w' v d
 sl:∀{w:World}{B:Nat}{v:V}{d:D}{P:Nat->Prop},Ow w B v d P->Rd w v d
 of:∀{w:World}{B:Nat}{v:V}{d:D}{P:Nat->Prop}{q:Nat},Ow w B v d P->P q->B<=q/\q<w.1.size
 aQ:∀{w w':World}{B:Nat}{v:V}{d:D}{P:Nat->Prop},Ow w B v d P->w.1.size<=w'.1.size->(∀q,P q->w'.1[q]?=w.1[q]?)->Ow w' B v d P
 low:∀{w:World}{B B':Nat}{v:V}{d:D}{P:Nat->Prop},Ow w B v d P->B'<=B->Ow w B' v d P
def Kd.qM{D V:Type}(K:Kd D V)(X:World)(a:Option Addr)(xs:List D):Prop:=xs=[]\/∃b off,a=some ⟨b,off,none⟩/\b<X.1.size/\∀i d,xs[i]?=some d->∃v,At X b (off+i*K.n) (K.cells v d)/\K.Rd X v d
theorem Kd.qM.later{D V:Type}{K:Kd D V}{X Y:World}{a:Option Addr}{xs:List D}(h:K.qM X a xs)(hb:Below X.1.size X Y):K.qM Y a xs:=by
 rcases h with h|⟨b,off,e,hl,h⟩
 ·exact .inl h
 ·refine .inr ⟨b,off,e,Nat.lt_of_lt_of_le hl hb.size,fun i d hi=>?_⟩;obtain⟨v,h1,h2⟩:=h i d hi;exact⟨v,h1.aj (hb.block b hl),K.later h2 hb⟩
structure Kd.Part{D V:Type}(K:Kd D V)(X:World)(B b n:Nat)(ys:List D)(g:Nat->Nat->Prop):Prop where
 rm:Room X b (n*K.n)
 at_:∀i d,ys[i]?=some d->∃v,At X b (i*K.n) (K.cells v d)/\K.Ow X B v d (g i)
 ne:∀i q,i<ys.length->g i q->q≠b
 ap:∀i j q,i<ys.length->j<ys.length->i≠j->g i q->¬g j q
theorem Kd.Part.gq{D V:Type}{K:Kd D V}{ys:List D}(h:K.Part X B b n ys g){i:Nat}(hi:i<ys.length)(hq:g i q):B<=q/\q<X.1.size:=by
 obtain⟨v,_,ho⟩:=h.at_ i _ (List.getElem?_eq_getElem hi);exact K.of ho hq
theorem Kd.Part.aQ{D V:Type}{K:Kd D V}{X Y:World}{B b n:Nat}{ys:List D}{g:Nat->Nat->Prop}(h:K.Part X B b n ys g)(hs:X.1.size<=Y.1.size)(hb:Y.1[b]?=X.1[b]?)(hk:∀i q,i<ys.length->g i q->Y.1[q]?=X.1[q]?):K.Part Y B b n ys g:=by
 refine⟨Fy h.rm hb,fun i d hi=>?_,h.ne,h.ap⟩;obtain⟨v,h1,h2⟩:=h.at_ i d hi;exact⟨v,h1.aj hb,K.aQ h2 hs (fun q hq=>hk i q (List.getElem?_eq_some_iff.1 hi).1 hq)⟩
theorem Kd.Part.later{D V:Type}{K:Kd D V}{ys:List D}(h:K.Part X B b n ys g)(hb:Below X.1.size X Y)(hl:b<X.1.size):K.Part Y B b n ys g:=h.aQ hb.size (hb.block b hl) (fun _ q hi hq=>hb.block q (h.gq hi hq).2)
theorem Kd.Part.nil{D V:Type}(K:Kd D V)(g:Nat->Nat->Prop)(h:Room X b (n*K.n)):K.Part X B b n [] g:=⟨h,fun i d hi=>by simp at hi,fun i q hi=>by simp at hi,fun i j q hi=>by simp at hi⟩
theorem Fs{s j:Nat}(cs:List Value):∀(X:World) (i:Nat),(j<i\/i+cs.length<=j)->(di X s i cs).cell? ⟨s,j,none⟩=X.cell? ⟨s,j,none⟩:=by
 induction cs with
 | nil=>intro X i _;rfl
 | cons c cs ih=>intro X i h;simp only[List.length_cons]at h;rw[di,ih _ _ (by omega)];exact ae (by omega)
theorem Ce(cs:List Value):∀(X:World) (i:Nat),Room X b m->Room (di X b i cs) b m:=by
 induction cs with
 | nil=>intro X i h;exact h
 | cons c cs ih=>intro X i h;exact ih _ _ (h.set _)
theorem Kd.Part.push{D V:Type}{K:Kd D V}{ys:List D}(h:K.Part X B b n ys g)(hn:ys.length<n)(v:V)(d:D)(P:Nat->Prop)(ho:K.Ow X B v d P)(fF:∀q,P q->q≠b)(Sr:∀i q,i<ys.length->g i q->¬P q):
  K.Part (di X b (ys.length*K.n) (K.cells v d)) B b n (ys++[d]) (fun i=>if i=ys.length then P else g i):=by
 have hc:ys.length*K.n+K.n<=n*K.n:=by rw[<-Nat.succ_mul];exact Nat.mul_le_mul_right _ hn
 have hs:(di X b (ys.length*K.n) (K.cells v d)).1.size=X.1.size:=bf _ _ _ _;have hk:∀q,q≠b->(di X b (ys.length*K.n) (K.cells v d)).1[q]?=X.1[q]?:=fun q hq=>aV hq _ _ _
 refine⟨Ce _ _ _ h.rm,fun i e hi=>?_,fun i q hi hq=>?_,fun i j q hi hj Eu h1 h2=>?_⟩
 ·by_cases hl:i<ys.length
  ·rw[List.getElem?_append_left hl]at hi;obtain⟨v',h1,h2⟩:=h.at_ i e hi;have e0:i≠ys.length:=by omega
   refine⟨v',fun j u hu=>?_,by simp only[if_neg e0];exact K.aQ h2 (Nat.le_of_eq hs.symm) (fun q hq=>hk q (h.ne i q hl hq))⟩;have hj:j<K.n:=by have:=(List.getElem?_eq_some_iff.1 hu).1;rwa[K.len]at this
   have hm:i*K.n+K.n<=ys.length*K.n:=by rw[<-Nat.succ_mul];exact Nat.mul_le_mul_right _ hl
   exact(Fs _ _ _ (by omega)).trans (h1 j u hu)
  ·have he:i=ys.length:=by
    have:=(List.getElem?_eq_some_iff.1 hi).1;simp at this;omega
   subst he;rw[List.getElem?_append_right aR]at hi;simp at hi;subst hi;refine⟨v,fun j u hu=>?_,by simp only[if_pos];exact K.aQ ho (Nat.le_of_eq hs.symm) (fun q hq=>hk q (fF q hq))⟩;refine wm _ _ _ (fun j h1 h2=>?_) j u hu;rw[K.len]at h2;obtain⟨z,hz,_⟩:=h.rm j (by omega);exact⟨z,hz⟩
 ·by_cases e:i=ys.length
  ·simp only[if_pos e]at hq;exact fF q hq
  ·simp only[if_neg e]at hq;simp at hi;exact h.ne i q (by omega) hq
 ·simp only[List.length_append,List.length_cons,List.length_nil]at hi hj;by_cases e1:i=ys.length
  ·by_cases e2:j=ys.length
   ·omega
   ·simp only[if_pos e1]at h1;simp only[if_neg e2]at h2;exact Sr j q (by omega) h2 h1
  ·by_cases e2:j=ys.length
   ·simp only[if_neg e1]at h1;simp only[if_pos e2]at h2;exact Sr i q (by omega) h1 h2
   ·simp only[if_neg e1]at h1;simp only[if_neg e2]at h2;exact h.ap i j q (by omega) (by omega) Eu h1 h2
def Kd.nP{D V:Type}(K:Kd D V)(X:World)(B:Nat)(a:Option Addr)(xs:List D)(P:Nat->Prop):Prop:=(xs=[]\/∃b g,a=some ⟨b,0,none⟩/\P b/\K.Part X B b xs.length xs g/\(∀i q,i<xs.length->g i q->P q))/\(∀q,P q->B<=q/\q<X.1.size)
theorem Kd.nP.of{D V:Type}{K:Kd D V}{xs:List D}(h:K.nP X B a xs P)(hq:P q):B<=q/\q<X.1.size:=h.2 q hq
theorem Kd.nP.sl{D V:Type}{K:Kd D V}{X:World}{B:Nat}{a:Option Addr}{xs:List D}{P:Nat->Prop}(h:K.nP X B a xs P):K.qM X a xs:=by
 rcases h with ⟨h|⟨b,g,e,hp,h,_⟩,hb⟩
 ·exact .inl h
 ·refine .inr ⟨b,0,e,(hb b hp).2,fun i d hi=>?_⟩;obtain⟨v,h1,h2⟩:=h.at_ i d hi;exact⟨v,by rw[Nat.zero_add];exact h1,K.sl h2⟩
theorem Kd.nP.aQ{D V:Type}{K:Kd D V}{X Y:World}{B:Nat}{a:Option Addr}{xs:List D}{P:Nat->Prop}(h:K.nP X B a xs P)(hs:X.1.size<=Y.1.size)(hk:∀q,P q->Y.1[q]?=X.1[q]?):K.nP Y B a xs P:=by
 rcases h with ⟨h|⟨b,g,e,hp,h,hg⟩,hb⟩
 ·exact⟨.inl h,fun q hq=>⟨(hb q hq).1,Nat.lt_of_lt_of_le (hb q hq).2 hs⟩⟩
 ·exact⟨.inr ⟨b,g,e,hp,h.aQ hs (hk b hp) (fun i q hi hq=>hk q (hg i q hi hq)),hg⟩,fun q hq=>⟨(hb q hq).1,Nat.lt_of_lt_of_le (hb q hq).2 hs⟩⟩
theorem Kd.nP.later{D V:Type}{K:Kd D V}{xs:List D}(h:K.nP X B a xs P)(hb:Below X.1.size X Y):K.nP Y B a xs P:=h.aQ hb.size (fun q hq=>hb.block q (h.of hq).2)
theorem Kd.nP.low{D V:Type}{K:Kd D V}{X:World}{B B':Nat}{a:Option Addr}{xs:List D}{P:Nat->Prop}(h:K.nP X B a xs P)(hb:B'<=B):K.nP X B' a xs P:=by
 rcases h with ⟨h|⟨b,g,e,hp,h,hg⟩,hq⟩
 ·exact⟨.inl h,fun q h'=>⟨Nat.le_trans hb (hq q h').1,(hq q h').2⟩⟩
 ·refine⟨.inr ⟨b,g,e,hp,⟨h.rm,fun i d hi=>?_,h.ne,h.ap⟩,hg⟩,fun q h'=>⟨Nat.le_trans hb (hq q h').1,(hq q h').2⟩⟩;obtain⟨v,h1,h2⟩:=h.at_ i d hi;exact⟨v,h1,K.low h2 hb⟩
theorem Kd.Part.own{D V:Type}{K:Kd D V}{xs:List D}(h:K.Part X B b xs.length xs g)(hB:B<=b)(hb:b<X.1.size):K.nP X B (some ⟨b,0,none⟩) xs (fun q=>q=b\/∃i,i<xs.length/\g i q):=
 ⟨.inr ⟨b,g,rfl,.inl rfl,h,fun i q hi hq=>.inr ⟨i,hi,hq⟩⟩,fun q hq=>by rcases hq with rfl|⟨i,hi,hq⟩;exact⟨hB,hb⟩;exact h.gq hi hq⟩
end
section
variable {hi lo x:Int}
def aY(lo hi x:Int):Bool:=decide (lo<=x)&&decide (x<=hi)
theorem iN(h:lo<=x)(h':x<=hi):aY lo hi x=true:=by simp[aY,h,h']
theorem dm:aY lo hi x=true↔lo<=x/\x<=hi:=by simp[aY]
theorem dU{b b':Bool}(h:b=true↔b'=true):Ending.returned (Value.bool b)=Ending.returned (Value.bool b'):=by rw[Bool.eq_iff_iff.2 h]
theorem fw(w:World)(x lo hi:Int):Calls Tryz.prog 44 #[vI x,vI lo,vI hi] w fun e w'=>e=.returned (.bool (aY lo hi x))/\w'=w:=by
 go_enter Tryz.func44,Tryz.ntmps44;go_wp2;all_goals (go_ret;refine⟨dU ?_,rfl⟩;simp[dm];try omega)
end
structure S5 where
 b:Int
 e:Int
 g:Int
 i:Bool
 j:Int
def dw(s:S5):Bool:=aY 0 5 s.b&&aY 0 5 s.e&&aY (-1000000000) 1000000000 s.g&&aY 0 999999 s.j
theorem lU(w:World)(x:Int):Calls Tryz.prog 125 #[vI x] w fun e w'=>e=.returned (.bool (aY 0 5 x))/\w'=w:=by
 go_enter Tryz.func125,Tryz.ntmps125;go_wp2_with (go_at_call 44;refine(fw _ _ _ _).mono ?_;rintro e w' ⟨rfl,rfl⟩);go_ret;exact⟨rfl,rfl⟩
theorem Ac(w:World)(x:Int):Calls Tryz.prog 45 #[vI x] w fun e w'=>e=.returned (.bool (aY 0 5 x))/\w'=w:=by
 go_enter Tryz.func45,Tryz.ntmps45;go_wp2_with (go_at_call 44;refine(fw _ _ _ _).mono ?_;rintro e w' ⟨rfl,rfl⟩);go_ret;exact⟨rfl,rfl⟩
theorem wH(w:World)(x:Int):Calls Tryz.prog 130 #[vI x] w fun e w'=>e=.returned (.bool (aY (-1000000000) 1000000000 x))/\w'=w:=by
 go_enter Tryz.func130,Tryz.ntmps130;go_wp2_with (go_at_call 44;refine(fw _ _ _ _).mono ?_;rintro e w' ⟨rfl,rfl⟩);go_ret;exact⟨rfl,rfl⟩
theorem gH(w:World)(x:Int):Calls Tryz.prog 234 #[vI x] w fun e w'=>e=.returned (.bool (aY 0 5 x))/\w'=w:=by
 go_enter Tryz.func234,Tryz.ntmps234;go_wp2;all_goals (go_ret;refine⟨dU ?_,rfl⟩;simp[dm];try omega)
theorem qc(w:World)(x:Int):Calls Tryz.prog 64 #[vI x] w fun e w'=>e=.returned (.bool (aY 0 5 x))/\w'=w:=by
 go_enter Tryz.func64,Tryz.ntmps64;go_wp2;all_goals (go_ret;refine⟨dU ?_,rfl⟩;simp[dm];try omega)
theorem vL(w:World)(x:Int):Calls Tryz.prog 226 #[vI x] w fun e w'=>e=.returned (.bool (aY (-1000000000) 1000000000 x))/\w'=w:=by
 go_enter Tryz.func226,Tryz.ntmps226;go_wp2;all_goals (go_ret;refine⟨dU ?_,rfl⟩;simp[dm];try omega)
theorem Ci(w:World)(s:S5):Calls Tryz.prog 134 #[.agg #[vI s.b,vI s.e,vI s.g,.bool s.i,vI s.j]] w fun e w'=>
  e=.returned (.agg #[vI s.b,vI s.e,vI s.g,.bool s.i,vI s.j])/\Below w.1.size w w':=by
 obtain⟨r,l,v,u,x⟩:=s;go_enter Tryz.func134,Tryz.ntmps134;go_wp2;refine bodyPost_ret (v:=.agg #[vI r,vI l,vI v,.bool u,vI x]) (by simp[results,Tryz.results134,go_sem]) rfl ⟨rfl,?_⟩;exact((aJ.alloc aR _).alloc (by simp) _).alloc (by simp;omega) _
theorem qG(w:World)(s:S5):Calls Tryz.prog 128 #[.agg #[vI s.b,vI s.e,vI s.g,.bool s.i,vI s.j]] w fun e w'=>e=.returned (.bool (dw s))/\Below w.1.size w w':=by
 obtain⟨r,l,v,u,x⟩:=s;go_enter Tryz.func128,Tryz.ntmps128
 cases h1:aY 0 5 r<;>cases h2:aY 0 5 l<;>cases h3:aY (-1000000000) 1000000000 v;all_goals go_wp2_with (first|(go_at_call 44;refine(fw _ _ _ _).mono ?_;rintro e w' ⟨rfl,rfl⟩)|(go_at_call 125;refine(lU _ _).mono ?_;rintro e w' ⟨rfl,rfl⟩)|(go_at_call 45;refine(Ac _ _).mono ?_;rintro e w' ⟨rfl,rfl⟩)|(go_at_call 130;refine(wH _ _).mono ?_;rintro e w' ⟨rfl,rfl⟩))
 all_goals (go_ret;refine⟨dU ?_,aJ.alloc aR _⟩;simp only[dw,h1,h2,h3,Bool.and_true,Bool.and_false,Bool.false_and,Bool.true_and];try simp[dm];try omega)
theorem vK(w:World)(s:S5):Calls Tryz.prog 233 #[.agg #[vI s.b,vI s.e,vI s.g,.bool s.i,vI s.j]] w fun e w'=>e=.returned (.bool (dw s))/\Below w.1.size w w':=by
 obtain⟨r,l,v,u,x⟩:=s;go_enter Tryz.func233,Tryz.ntmps233
 cases h1:aY 0 5 r<;>cases h2:aY 0 5 l<;>cases h3:aY (-1000000000) 1000000000 v;all_goals go_wp2_with (first|(go_at_call 234;refine(gH _ _).mono ?_;rintro e w' ⟨rfl,rfl⟩)|(go_at_call 64;refine(qc _ _).mono ?_;rintro e w' ⟨rfl,rfl⟩)|(go_at_call 226;refine(vL _ _).mono ?_;rintro e w' ⟨rfl,rfl⟩))
 all_goals (go_ret;refine⟨dU ?_,aJ.alloc aR _⟩;simp only[dw,h1,h2,h3,Bool.and_true,Bool.and_false,Bool.false_and,Bool.true_and];try simp[dm];try omega)
section
variable {B b o off:Nat}{s:S5}{w w':World}{xs:List S5}
structure dI(w:World)(b o:Nat)(s:S5):Prop where
 c0:w.cell? ⟨b,o,none⟩=some (vI s.b)
 c1:w.cell? ⟨b,o+1,none⟩=some (vI s.e)
 c2:w.cell? ⟨b,o+2,none⟩=some (vI s.g)
 c3:w.cell? ⟨b,o+3,none⟩=some (.bool s.i)
 c4:w.cell? ⟨b,o+4,none⟩=some (vI s.j)
theorem dI.below(h:dI w b o s)(hb:Below B w w')(hB:b<B):dI w' b o s:=
 ⟨by rw[hb.cell hB];exact h.c0,by rw[hb.cell hB];exact h.c1,by rw[hb.cell hB];exact h.c2,by rw[hb.cell hB];exact h.c3,by rw[hb.cell hB];exact h.c4⟩
def aX(w:World)(b off:Nat)(xs:List S5):Prop:=∀i s,xs[i]?=some s->dI w b (off+i*5) s
theorem aX.below(h:aX w b off xs)(hb:Below B w w')(hB:b<B):aX w' b off xs:=fun i s e=>(h i s e).below hb hB
def Sl(w:World)(B:Nat)(a:Option Addr)(n:Nat)(xs:List S5):Prop:=xs.length=n/\(n=0\/∃b off,a=some ⟨b,off,none⟩/\b<B/\aX w b off xs)
theorem Sl.below{w w':World}{B:Nat}{a:Option Addr}{n:Nat}{xs:List S5}(h:Sl w B a n xs)(hb:Below B w w'):Sl w' B a n xs:=by
 obtain⟨h1,h2⟩:=h;refine⟨h1,?_⟩;rcases h2 with h2|⟨b,off,ha,hB,hx⟩
 ·exact .inl h2
 ·exact .inr ⟨b,off,ha,hB,hx.below hb hB⟩
theorem Sl.mono{B':Nat}{a:Option Addr}{n:Nat}(h:Sl w B a n xs)(hB:B<=B'):Sl w B' a n xs:=by
 obtain⟨h1,h2⟩:=h;refine⟨h1,?_⟩;rcases h2 with h2|⟨b,off,ha,hb,hx⟩
 ·exact .inl h2
 ·exact .inr ⟨b,off,ha,by omega,hx⟩
theorem aX.dZ(h:aX w b off xs){p:Addr}(hp:p.block≠b)(v:Value):aX (w.setCell p v) b off xs:=fun i s e=>
 ⟨by rw[aI hp];exact(h i s e).c0,by rw[aI hp];exact(h i s e).c1,by rw[aI hp];exact(h i s e).c2,by rw[aI hp];exact(h i s e).c3,by rw[aI hp];exact(h i s e).c4⟩
theorem dI.set{p:Nat}(h:dI w b o s)(hp:p<o\/o+5<=p)(v:Value):dI (w.setCell ⟨b,p,none⟩ v) b o s:=
 ⟨by rw[ae (by omega)];exact h.c0,by rw[ae (by omega)];exact h.c1,by rw[ae (by omega)];exact h.c2,by rw[ae (by omega)];exact h.c3,by rw[ae (by omega)];exact h.c4⟩
theorem yZ:(Tryz.prog.info? 100).map (fun i=>(i.zero,i.size,i.bytes))=some (some (.agg #[vI 0,vI 0,vI 0,.bool false,vI 0]),5,40):=by kernel_rfl
theorem nE(n:Nat)(hn:n<=1048576)(w:World):(Instr.makeSlice 48 (vI (n:Int)) (vI (n:Int))).run Tryz.prog w=.ok (.slice (some ⟨w.1.size,0,none⟩) n n) (w.alloc (.cells (madeCells #[vI 0,vI 0,vI 0,.bool false,vI 0] (n*5)) 100)):=by
 obtain⟨i,hi,mR⟩:=Option.map_eq_some_iff.1 yZ;simp only[Prod.mk.injEq]at mR;obtain⟨hz,hs,hb⟩:=mR;have:=run_make (P:=Tryz.prog) w 48 100 i _ Tryz.underlying48 hi hz .i64 .i64 (n:Int) (n:Int) (by omega) (by omega) (by rw[hb];omega) (by omega);rw[hs]at this;simpa[Value.cells]using this
theorem dI.put{v0 v1 v2 v3 v4:Value}(s:S5)(h0:w.cell? ⟨b,o,none⟩=some v0)(h1:w.cell? ⟨b,o+1,none⟩=some v1)(h2:w.cell? ⟨b,o+2,none⟩=some v2)(h3:w.cell? ⟨b,o+3,none⟩=some v3)(h4:w.cell? ⟨b,o+4,none⟩=some v4):
  dI (((((w.setCell ⟨b,o,none⟩ (vI s.b)).setCell ⟨b,o+1,none⟩ (vI s.e)).setCell ⟨b,o+2,none⟩ (vI s.g)).setCell ⟨b,o+3,none⟩ (.bool s.i)).setCell ⟨b,o+4,none⟩ (vI s.j)) b o s:=by
 refine⟨?_,?_,?_,?_,?_⟩
 ·rw[ae (by omega),ae (by omega),ae (by omega),ae (by omega)];exact az h0
 ·rw[ae (by omega),ae (by omega),ae (by omega)];exact az (by rw[ae (by omega)];exact h1)
 ·rw[ae (by omega),ae (by omega)];exact az (by rw[ae (by omega),ae (by omega)];exact h2)
 ·rw[ae (by omega)];exact az (by rw[ae (by omega),ae (by omega),ae (by omega)];exact h3)
 ·exact az (by rw[ae (by omega),ae (by omega),ae (by omega),ae (by omega)];exact h4)
theorem aX.put{w:World}{b k:Nat}{xs:List S5}{s:S5}(h:aX w b 0 (xs.take k))(hs:xs[k]?=some s){m:Nat}(hr:Room w b m)(hm:k*5+5<=m):
  aX (((((w.setCell ⟨b,k*5,none⟩ (vI s.b)).setCell ⟨b,k*5+1,none⟩ (vI s.e)).setCell ⟨b,k*5+2,none⟩ (vI s.g)).setCell ⟨b,k*5+3,none⟩ (.bool s.i)).setCell ⟨b,k*5+4,none⟩ (vI s.j)) b 0 (xs.take (k+1)):=by
 intro i t e;rw[List.getElem?_take]at e;split at e
 ·rename_i hi;by_cases Gv:i=k
  ·subst Gv;rw[hs]at e;obtain rfl:=Option.some.inj e;obtain⟨v0,d0,_⟩:=hr (i*5) (by omega);obtain⟨v1,d1,_⟩:=hr (i*5+1) (by omega);obtain⟨v2,d2,_⟩:=hr (i*5+2) (by omega);obtain⟨v3,d3,_⟩:=hr (i*5+3) (by omega);obtain⟨v4,d4,_⟩:=hr (i*5+4) (by omega);simpa using dI.put s d0 d1 d2 d3 d4
  ·have:=h i t (by rw[List.getElem?_take,if_pos (by omega)];exact e);exact((((this.set (by omega) _).set (by omega) _).set (by omega) _).set (by omega) _).set (by omega) _
 ·cases e
theorem qA(w:World)(a:Option Addr)(cap:Nat):Calls Tryz.prog 98 #[.slice a 0 cap] w fun e w'=>
  e=.returned (.slice (some ⟨w.1.size,0,none⟩) 0 0)/\Below w.1.size w w'/\w.1.size<w'.1.size:=by
 have nX:∀w:World,(Instr.makeSlice 48 (vI 0) (vI 0)).run Tryz.prog w=.ok (.slice (some ⟨w.1.size,0,none⟩) 0 0) (w.alloc (.cells (madeCells #[vI 0,vI 0,vI 0,.bool false,vI 0] 0) 100)):=fun w=>by simpa using nE 0 (by omega) w
 go_enter Tryz.func98,Tryz.ntmps98;go_wp2;go_loopw[4] (fun i wr=>i=vI 0/\Below w.1.size w wr/\w.1.size<wr.1.size) (fun _ _=>0)
 case atStart=>exact⟨rfl,aJ.alloc aR _,by simp⟩
 case round=>
  obtain⟨rfl,aF,dQ⟩:=hrel;go_wp2;go_ret;exact⟨rfl,aF,dQ⟩
end
section
variable {B b i n o off:Nat}{a:Option Addr}{w w':World}
structure C2 where
 head:Int
 g:Int
def C2.cells(s:C2):List Value:=[vI s.head,vI s.g]
structure jK(w:World)(b o:Nat)(s:C2):Prop where
 c0:w.cell? ⟨b,o,none⟩=some (vI s.head)
 c1:w.cell? ⟨b,o+1,none⟩=some (vI s.g)
theorem jK.below{s:C2}(h:jK w b o s)(hb:Below B w w')(hB:b<B):jK w' b o s:=
 ⟨by rw[hb.cell hB];exact h.c0,by rw[hb.cell hB];exact h.c1⟩
theorem jK.gP{s:C2}(h:jK w b o s)(d:Nat)(os:Array Obj):jK (grow (redrawn w d) os) b o s:=
 ⟨cell_regrown h.c0 d os,cell_regrown h.c1 d os⟩
def bJ(w:World)(b off:Nat)(xs:List C2):Prop:=∀i s,xs[i]?=some s->jK w b (off+i*2) s
theorem bJ.below{xs:List C2}(h:bJ w b off xs)(hb:Below B w w')(hB:b<B):bJ w' b off xs:=fun i s e=>(h i s e).below hb hB
def pE(w:World)(B:Nat)(a:Option Addr)(n:Nat)(xs:List C2):Prop:=xs.length=n/\(n=0\/∃b off,a=some ⟨b,off,none⟩/\b<B/\bJ w b off xs)
theorem pE.below{w w':World}{B:Nat}{a:Option Addr}{n:Nat}{xs:List C2}(h:pE w B a n xs)(hb:Below B w w'):pE w' B a n xs:=by
 obtain⟨h1,h2⟩:=h;refine⟨h1,?_⟩;rcases h2 with h2|⟨b,off,ha,hB,hx⟩
 ·exact .inl h2
 ·exact .inr ⟨b,off,ha,hB,hx.below hb hB⟩
theorem pE.mono{B':Nat}{xs:List C2}(h:pE w B a n xs)(hB:B<=B'):pE w B' a n xs:=by
 obtain⟨h1,h2⟩:=h;refine⟨h1,?_⟩;rcases h2 with h2|⟨b,off,ha,hb,hx⟩
 ·exact .inl h2
 ·exact .inr ⟨b,off,ha,by omega,hx⟩
theorem pE.later{xs:List C2}(h:pE w w.1.size a n xs)(hb:Below w.1.size w w'):pE w' w'.1.size a n xs:=(h.below hb).mono hb.size
theorem bJ.dZ{xs:List C2}(h:bJ w b off xs){p:Addr}(hp:p.block≠b)(v:Value):bJ (w.setCell p v) b off xs:=fun i s e=>
 ⟨by rw[aI hp];exact(h i s e).c0,by rw[aI hp];exact(h i s e).c1⟩
theorem jK.set{p:Nat}{s:C2}(h:jK w b o s)(hp:p<o\/o+2<=p)(v:Value):jK (w.setCell ⟨b,p,none⟩ v) b o s:=
 ⟨by rw[ae (by omega)];exact h.c0,by rw[ae (by omega)];exact h.c1⟩
theorem BK:(Tryz.prog.info? 104).map (fun i=>(i.zero,i.size,i.bytes))=some (some (.agg #[vI 0,vI 0]),2,16):=by kernel_rfl
theorem zk(n:Nat)(hn:n<=1048576)(w:World):(Instr.makeSlice 105 (vI (n:Int)) (vI (n:Int))).run Tryz.prog w=.ok (.slice (some ⟨w.1.size,0,none⟩) n n) (w.alloc (.cells (madeCells #[vI 0,vI 0] (n*2)) 104)):=by
 obtain⟨i,hi,mR⟩:=Option.map_eq_some_iff.1 BK;simp only[Prod.mk.injEq]at mR;obtain⟨hz,hs,hb⟩:=mR;have:=run_make (P:=Tryz.prog) w 105 104 i _ Tryz.underlying105 hi hz .i64 .i64 (n:Int) (n:Int) (by omega) (by omega) (by rw[hb];omega) (by omega);rw[hs]at this;simpa[Value.cells]using this
theorem jK.put{v0 v1:Value}(s:C2)(h0:w.cell? ⟨b,o,none⟩=some v0)(h1:w.cell? ⟨b,o+1,none⟩=some v1):
  jK ((w.setCell ⟨b,o,none⟩ (vI s.head)).setCell ⟨b,o+1,none⟩ (vI s.g)) b o s:=by
 refine⟨?_,?_⟩
 ·rw[ae (by omega)];exact az h0
 ·exact az (by rw[ae (by omega)];exact h1)
theorem bJ.put{w:World}{b k:Nat}{xs:List C2}{s:C2}(h:bJ w b 0 (xs.take k))(hs:xs[k]?=some s){m:Nat}(hr:Room w b m)(hm:k*2+2<=m):
  bJ ((w.setCell ⟨b,k*2,none⟩ (vI s.head)).setCell ⟨b,k*2+1,none⟩ (vI s.g)) b 0 (xs.take (k+1)):=by
 intro i t e;rw[List.getElem?_take]at e;split at e
 ·rename_i hi;by_cases Gv:i=k
  ·subst Gv;rw[hs]at e;obtain rfl:=Option.some.inj e;obtain⟨v0,d0,_⟩:=hr (i*2) (by omega);obtain⟨v1,d1,_⟩:=hr (i*2+1) (by omega);simpa using jK.put s d0 d1
  ·have:=h i t (by rw[List.getElem?_take,if_pos (by omega)];exact e);exact(this.set (by omega) _).set (by omega) _
 ·cases e
def at2(xs:List C2)(i:Nat):C2:=xs[i]?.getD ⟨0,0⟩
theorem L6{xs:List C2}(h:i<xs.length):xs[i]?=some (at2 xs i):=by
 simp[at2,List.getElem?_eq_getElem h]
theorem bJ.get{xs:List C2}(h:bJ w b off xs)(hi:i<xs.length):jK w b (off+i*2) (at2 xs i):=h i _ (L6 hi)
theorem Il(w:World)(s:C2):Calls Tryz.prog 184 #[.agg #[vI s.head,vI s.g]] w fun e w'=>
  e=.returned (.agg #[vI s.head,vI s.g])/\Below w.1.size w w':=by
 obtain⟨h,v⟩:=s;go_enter Tryz.func184,Tryz.ntmps184;go_wp2;refine bodyPost_ret (v:=.agg #[vI h,vI v]) (by simp[results,Tryz.results184,go_sem]) rfl ⟨rfl,?_⟩;exact((aJ.alloc aR _).alloc (by simp) _).alloc (by simp;omega) _
theorem Dn(w:World)(a:Option Addr)(cap:Nat):Calls Tryz.prog 159 #[.slice a 0 cap] w fun e w'=>
  e=.returned (.slice (some ⟨w.1.size,0,none⟩) 0 0)/\Below w.1.size w w'/\w.1.size<w'.1.size:=by
 have nX:∀w:World,(Instr.makeSlice 105 (vI 0) (vI 0)).run Tryz.prog w=.ok (.slice (some ⟨w.1.size,0,none⟩) 0 0) (w.alloc (.cells (madeCells #[vI 0,vI 0] 0) 104)):=fun w=>by simpa using zk 0 (by omega) w
 go_enter Tryz.func159,Tryz.ntmps159;go_wp2;go_loopw[4] (fun i wr=>i=vI 0/\Below w.1.size w wr/\w.1.size<wr.1.size) (fun _ _=>0)
 case atStart=>exact⟨rfl,aJ.alloc aR _,by simp⟩
 case round=>
  obtain⟨rfl,aF,dQ⟩:=hrel;go_wp2;go_ret;exact⟨rfl,aF,dQ⟩
theorem Ee(w:World)(s:C2):Calls Tryz.prog 215 #[.agg #[vI s.head,vI s.g],.agg #[vI s.head,vI s.g]] w fun e w'=>
  e=.returned (.bool true)/\Below w.1.size w w':=by
 obtain⟨h,v⟩:=s;go_enter Tryz.func215,Tryz.ntmps215;go_wp2;go_ret;exact⟨rfl,(aJ.alloc aR _).alloc (by simp) _⟩
theorem CK(w:World)(b off cap b' bG aZ n:Nat)(xs:List C2)(hx:xs.length=n)(hn:n<=maxLen)(h1:bJ w b off xs)(hb:b<w.1.size)(h2:bJ w b' bG xs)(fC:b'<w.1.size):
  Calls Tryz.prog 183 #[.slice (some ⟨b,off,none⟩) n cap,.slice (some ⟨b',bG,none⟩) n aZ] w fun e w'=>e=.returned (.bool true)/\Below w.1.size w w':=by
 unfold maxLen at hn;go_enter Tryz.func183,Tryz.ntmps183;go_wp2;go_loopw[5] (fun i wr=>∃k:Nat,k<=n/\i=vI k/\Below w.1.size w wr) (fun i _=>n-(intOf i).toNat)
 case atStart=>exact⟨0,Nat.zero_le _,rfl,aJ⟩
 case round=>
  obtain⟨k,hk,rfl,aF⟩:=hrel;by_cases aN:k<n
  ·obtain⟨s,gu⟩:∃s,xs[k]?=some s:=⟨xs[k]'(by omega),by simp⟩
   have t1:=(((h1 k s gu).below aF hb).gP)
   have t2:=(((h2 k s gu).below aF fC).gP)
   have c0:=fun d os=>(t1 d os).c0
   have c1:=fun d os=>(t1 d os).c1
   have e0:=fun d os=>(t2 d os).c0
   have e1:=fun d os=>(t2 d os).c1
   have cQ:∀d os,Calls Tryz.prog 215 #[.agg #[vI s.head,vI s.g],.agg #[vI s.head,vI s.g]] (grow (redrawn wr d) os) fun e fq=>e=.returned (.bool true)/\∃p:Regrown,fq=grow (redrawn wr p.d) p.os:=fun d os=>Calls.regrown_of (Ee _ s)
   have K:Hid (Below w.1.size w wr):=aF;clear t1 t2 aF gu h1 h2;go_wp2_with fail;refine wp_region_quiet_below (by kernel_rfl) (by kernel_rfl) ?_;repeat (quiet_step (exact cQ _ _))
   refine wpQuiet_nil ?_;intro _ dD;obtain⟨⟨dq,bI⟩,aT⟩:=dD;subst aT;have bq:=below_regrown wr dq bI;go_wp2;exact⟨⟨k+1,by omega,by simp,K.out.trans (bq.mono K.out.size)⟩,by simp[intOf];omega⟩
  ·have:k=n:=by omega
   subst this;have hd:decide (k<k)=false:=by simp
   go_wp2;go_ret;exact⟨rfl,aF⟩
theorem tu(w:World)(a a':Option Addr)(cap aZ:Nat):Calls Tryz.prog 183 #[.slice a 0 cap,.slice a' 0 aZ] w fun e w'=>e=.returned (.bool true)/\Below w.1.size w w':=by
 go_enter Tryz.func183,Tryz.ntmps183;go_wp2;go_loopw[5] (fun i wr=>i=vI 0/\Below w.1.size w wr) (fun _ _=>0)
 case atStart=>exact⟨rfl,aJ⟩
 case round=>
  obtain⟨rfl,aF⟩:=hrel;go_wp2;go_ret;exact⟨rfl,aF⟩
theorem Ed(w:World)(a a':Option Addr)(n cap aZ:Nat)(xs:List C2)(hn:n<=maxLen)(h1:pE w w.1.size a n xs)(h2:pE w w.1.size a' n xs):
  Calls Tryz.prog 183 #[.slice a n cap,.slice a' n aZ] w fun e w'=>e=.returned (.bool true)/\Below w.1.size w w':=by
 obtain⟨hx,h1⟩:=h1;obtain⟨_,h2⟩:=h2;rcases h1 with rfl|⟨b,off,rfl,hb,h1⟩
 ·exact tu w a a' cap aZ
 ·rcases h2 with rfl|⟨b',bG,rfl,fC,h2⟩
  ·exact tu w _ a' cap aZ
  ·exact CK w b off cap b' bG aZ n xs hx hn h1 hb h2 fC
end
section
variable {B b i:Nat}{w w':World}{z:Int}{zs:List Int}
theorem mY{a:World}(h:Below B a w)(n:Nat):Below B a (w.drewN n):=⟨h.os,h.tape,h.output,h.size,h.block⟩
def dV(w:World)(b off:Nat)(zs:List Int):Prop:=∀i z,zs[i]?=some z->w.cell? ⟨b,off+i,none⟩=some (vI z)
theorem dV.below{off:Nat}(h:dV w b off zs)(hb:Below B w w')(hB:b<B):dV w' b off zs:=fun i z e=>by rw[hb.cell (p:=⟨b,off+i,none⟩) hB];exact h i z e
def mP(w:World)(B:Nat)(a:Option Addr)(n:Nat)(zs:List Int):Prop:=zs.length=n/\(n=0\/∃b off,a=some ⟨b,off,none⟩/\b<B/\dV w b off zs)
theorem mP.later{a:Option Addr}{n:Nat}(h:mP w w.1.size a n zs)(hb:Below w.1.size w w'):mP w' w'.1.size a n zs:=by
 obtain⟨h1,h2⟩:=h;refine⟨h1,?_⟩;rcases h2 with h2|⟨b,off,ha,hB,hx⟩
 ·exact .inl h2
 ·exact .inr ⟨b,off,ha,Nat.lt_of_lt_of_le hB hb.size,hx.below hb hB⟩
def eU(zs:List Int)(i:Nat):Int:=zs[i]?.getD 0
theorem iJ(h:i<zs.length):zs[i]?=some (eU zs i):=by simp[eU,List.getElem?_eq_getElem h]
def hasB(zs:List Int)(z:Int):Bool:=zs.any (fun y=>decide (y=z))
theorem Ja(hi:i<zs.length)(h:eU zs i=z):hasB zs z=true:=by
 rw[hasB,List.any_eq_true];exact⟨eU zs i,List.mem_of_getElem? (iJ hi),by simp[h]⟩
theorem MO(h:∀i,i<zs.length->eU zs i≠z):hasB zs z=false:=by
 rw[hasB,List.any_eq_false];intro y hy;obtain⟨i,hi,rfl⟩:=List.getElem_of_mem hy;have:=h i hi;rw[eU,List.getElem?_eq_getElem hi]at this;simpa using this
theorem Kk(n:Nat)(hn:n<=1048576)(w:World):(Instr.makeSlice 74 (vI (n:Int)) (vI (n:Int))).run Tryz.prog w=.ok (.slice (some ⟨w.1.size,0,none⟩) n n) (w.alloc (.cells (madeCells #[vI 0] n) 2)):=by
 have info:(Tryz.prog.info? 2).map (fun i=>(i.zero,i.size,i.bytes))=some (some (vI 0),1,8):=by kernel_rfl
 obtain⟨i,hi,mR⟩:=Option.map_eq_some_iff.1 info;simp only[Prod.mk.injEq]at mR;obtain⟨hz,hs,hb⟩:=mR;have:=run_make (P:=Tryz.prog) w 74 2 i _ Tryz.underlying74 hi hz .i64 .i64 (n:Int) (n:Int) (by omega) (by omega) (by rw[hb];omega) (by omega);rw[hs]at this;simpa[Value.cells]using this
theorem dV.put{k:Nat}(h:dV w b 0 (zs.take k))(hz:zs[k]?=some z){v:Value}(hv:w.cell? ⟨b,k,none⟩=some v):dV (w.setCell ⟨b,k,none⟩ (vI z)) b 0 (zs.take (k+1)):=by
 intro i t e;rw[List.getElem?_take]at e;split at e
 ·rename_i hi;by_cases Gv:i=k
  ·subst Gv;rw[hz]at e;obtain rfl:=Option.some.inj e;simpa using az hv
  ·have:=h i t (by rw[List.getElem?_take,if_pos (by omega)];exact e);rw[ae (by omega)];exact this
 ·cases e
theorem uJ(w:World)(a:Option Addr)(n cap:Nat)(zs:List Int)(hn:n<=1048576)(hs:mP w w.1.size a n zs):Calls Tryz.prog 94 #[.slice a n cap] w fun e w'=>
  e=.returned (.slice (some ⟨w.1.size,0,none⟩) n n)/\Below w.1.size w w'/\w.1.size<w'.1.size/\dV w' w.1.size 0 zs/\Room w' w.1.size n:=by
 obtain⟨hx,hs⟩:=hs;have nX:=Kk n hn;go_enter Tryz.func94,Tryz.ntmps94;go_wp2;go_loopw[4] (fun i wr=>∃k:Nat,k<=n/\i=vI k/\Below w.1.size w wr/\w.1.size<wr.1.size/\Room wr w.1.size n/\dV wr w.1.size 0 (zs.take k)) (fun i _=>n-(intOf i).toNat)
 case atStart=>exact⟨0,Nat.zero_le _,rfl,aJ.alloc aR _,by simp,gU _ _ _ _,fun i s e=>by simp at e⟩
 case round=>
  obtain⟨k,hk,rfl,aF,dQ,ed,kP⟩:=hrel;by_cases aN:k<n
  ·rcases hs with hs|⟨b,off,rfl,hb,h1⟩
   ·omega
   ·have c:=(aF.cell (p:=⟨b,off+k,none⟩) hb).trans (h1 k _ (iJ (by omega)));obtain⟨v,d,f⟩:=ed k aN;have K:Hid (Room wr w.1.size n/\dV wr w.1.size 0 (zs.take k)/\zs[k]?=some (eU zs k)/\Below w.1.size w wr):=⟨ed,kP,iJ (by omega),aF⟩
    clear ed kP aF nX h1 hx;go_wp2;obtain⟨ed,kP,hz,aF⟩:=K.out;exact⟨⟨k+1,by omega,by simp,aF.setCell (p:=⟨w.1.size,k,none⟩) aR _,by simpa[World.setCell]using dQ,ed.set _,kP.put hz d⟩,by simp[intOf];omega⟩
  ·have:k=n:=by omega
   subst this;have hd:decide (k<k)=false:=by simp
   rw[<-hx,List.take_length]at kP;have K:Hid (dV wr w.1.size 0 zs/\Room wr w.1.size k):=⟨kP,ed⟩
   clear kP hs ed;go_wp2;go_ret;exact⟨rfl,aF,dQ,K.out.1,K.out.2⟩
theorem tF(w:World)(a a':Option Addr)(n cap aZ:Nat)(zs:List Int)(hn:n<=maxLen)(h1:mP w w.1.size a n zs)(h2:mP w w.1.size a' n zs):
  Calls Tryz.prog 113 #[.slice a n cap,.slice a' n aZ] w fun e w'=>e=.returned (.bool true)/\Below w.1.size w w':=by
 unfold maxLen at hn;obtain⟨hx,h1⟩:=h1;obtain⟨_,h2⟩:=h2;go_enter Tryz.func113,Tryz.ntmps113;go_wp2;go_loopw[5] (fun i wr=>∃k:Nat,k<=n/\i=vI k/\Below w.1.size w wr) (fun i _=>n-(intOf i).toNat)
 case atStart=>exact⟨0,Nat.zero_le _,rfl,aJ⟩
 case round=>
  obtain⟨k,hk,rfl,aF⟩:=hrel;by_cases aN:k<n
  ·rcases h1 with h1|⟨b,off,rfl,hb,h1⟩
   ·omega
   ·rcases h2 with h2|⟨b',bG,rfl,fC,h2⟩
    ·omega
    ·have c1:=(aF.cell (p:=⟨b,off+k,none⟩) hb).trans (h1 k _ (iJ (by omega)));have c2:=(aF.cell (p:=⟨b',bG+k,none⟩) fC).trans (h2 k _ (iJ (by omega)));have Gx:(k:Int)<(n:Int):=by omega
     have K:Hid (Below w.1.size w wr):=aF;clear h1 h2 aF hx;go_wp2_with fail;go_quiet (fail);go_wp2;exact⟨⟨k+1,by omega,by simp,mY K.out _⟩,by simp[intOf];omega⟩
  ·have:k=n:=by omega
   subst this;have hd:decide (k<k)=false:=by simp
   clear h1 h2;go_wp2;go_ret;exact⟨rfl,aF⟩
end
def marks:Nat->Int->List Int
 | 0,_=>[]
 | n+1,k=>k::marks n (k+1)
theorem lv:∀(n:Nat) (k:Int),(marks n k).length=n
 | 0,_=>rfl
 | n+1,k=>by simp[marks,lv n]
theorem zw:∀(n:Nat) (k:Int) (i:Nat),i<n->(marks n k)[i]?=some (k+i)
 | 0,_,_,h=>by omega
 | n+1,k,0,_=>by simp[marks]
 | n+1,k,i+1,h=>by
  rw[marks,List.getElem?_cons_succ,zw n (k+1) i (by omega)];congr 1;omega
theorem qd(w:World)(g n cap:Nat)(k:Int)(hn:n<=1048576)(hk:0<=k)(ni:k<=1000000000)(hr:Room w g n):
  Calls Tryz.prog 69 #[.slice (some ⟨g,0,none⟩) n cap,vI k] w fun e w'=>e=.returned (vI (k+n))/\aW g w w'/\dV w' g 0 (marks n k)/\Room w' g n:=by
 go_enter Tryz.func69,Tryz.ntmps69;go_wp2;go_loopw[1,5] (fun v1 v5 wr=>∃j:Nat,j<=n/\v5=vI j/\v1=vI (k+j)/\aW g w wr/\Room wr g n/\dV wr g 0 ((marks n k).take j)) (fun _ v5 _=>n-(intOf v5).toNat)
 case atStart=>exact⟨0,Nat.zero_le _,rfl,by simp,aW.refl _ _,hr,fun i s e=>by simp at e⟩
 case round=>
  obtain⟨j,hj,rfl,rfl,ho,ed,kP⟩:=hrel;by_cases aN:j<n
  ·obtain⟨v,d,f⟩:=ed j aN;have K:Hid (aW g w wr/\Room wr g n/\dV wr g 0 ((marks n k).take j)):=⟨ho,ed,kP⟩
   clear ho ed kP hr;go_wp2;obtain⟨ho,ed,kP⟩:=K.out;exact⟨⟨j+1,by omega,by simp,by simp;omega,ho.setCell _ _,ed.set _,kP.put (zw n k j aN) d⟩,by simp[intOf];omega⟩
  ·have:j=n:=by omega
   subst this;have hd:decide ((j:Int)<(j:Int))=false:=by simp
   rw[show(marks j k).take j=marks j k from List.take_of_length_le (by rw[lv];omega)]at kP;have K:Hid (aW g w wr/\dV wr g 0 (marks j k)/\Room wr g j):=⟨ho,kP,ed⟩
   clear ho kP ed hr;go_wp2;go_ret;exact⟨by simp,K.out.1,K.out.2.1,K.out.2.2⟩
theorem xH(w:World)(a:Option Addr)(cap:Nat)(k:Int):Calls Tryz.prog 69 #[.slice a 0 cap,vI k] w fun e w'=>e=.returned (vI k)/\w'=w:=by
 go_enter Tryz.func69,Tryz.ntmps69;go_wp2;go_loop[1,5] (fun v1 v5=>v5=vI 0/\v1=vI k) (fun _ _=>0)
 case atStart=>exact⟨rfl,rfl⟩
 case round=>
  obtain⟨rfl,rfl⟩:=hrel;go_wp2;go_ret;exact⟨rfl,rfl⟩
section
variable {a:Option Addr}{aO:List (List Int)}{b j n:Nat}{g:Nat->Nat}{w w':World}{zs:List Int}
def wM(w:World)(B b off:Nat)(aO:List (List Int)):Prop:=∀i zs,aO[i]?=some zs->∃a cap,w.cell? ⟨b,off+i,none⟩=some (.slice a zs.length cap)/\mP w B a zs.length zs/\zs.length<=cap
def uS(w:World)(B:Nat)(a:Option Addr)(n:Nat)(aO:List (List Int)):Prop:=aO.length=n/\(n=0\/∃b off,a=some ⟨b,off,none⟩/\b<B/\wM w B b off aO)
theorem mP.below{w w':World}{B:Nat}{a:Option Addr}{n:Nat}{zs:List Int}(h:mP w B a n zs)(hb:Below B w w'):mP w' B a n zs:=by
 obtain⟨h1,h2⟩:=h;refine⟨h1,?_⟩;rcases h2 with h2|⟨b,off,ha,hB,hx⟩
 ·exact .inl h2
 ·exact .inr ⟨b,off,ha,hB,hx.below hb hB⟩
theorem mP.mono{B B':Nat}(h:mP w B a n zs)(hB:B<=B'):mP w B' a n zs:=by
 obtain⟨h1,h2⟩:=h;refine⟨h1,?_⟩;rcases h2 with h2|⟨b,off,ha,hb,hx⟩
 ·exact .inl h2
 ·exact .inr ⟨b,off,ha,by omega,hx⟩
theorem wM.below{w w':World}{B b off:Nat}{aO:List (List Int)}(h:wM w B b off aO)(hb:Below B w w')(hB:b<B):wM w' B b off aO:=fun i zs e=>by
 obtain⟨a,cap,h1,h2,h3⟩:=h i zs e;exact⟨a,cap,(hb.cell (p:=⟨b,off+i,none⟩) hB).trans h1,h2.below hb,h3⟩
theorem wM.mono{w:World}{B B' b off:Nat}{aO:List (List Int)}(h:wM w B b off aO)(hB:B<=B'):wM w B' b off aO:=fun i zs e=>by
 obtain⟨a,cap,h1,h2,h3⟩:=h i zs e;exact⟨a,cap,h1,h2.mono hB,h3⟩
theorem uS.below{w w':World}{B:Nat}{a:Option Addr}{n:Nat}{aO:List (List Int)}(h:uS w B a n aO)(hb:Below B w w'):uS w' B a n aO:=by
 obtain⟨h1,h2⟩:=h;refine⟨h1,?_⟩;rcases h2 with h2|⟨b,off,ha,hB,hx⟩
 ·exact .inl h2
 ·exact .inr ⟨b,off,ha,hB,hx.below hb hB⟩
theorem uS.mono{w:World}{B B':Nat}{a:Option Addr}{n:Nat}{aO:List (List Int)}(h:uS w B a n aO)(hB:B<=B'):uS w B' a n aO:=by
 obtain⟨h1,h2⟩:=h;refine⟨h1,?_⟩;rcases h2 with h2|⟨b,off,ha,hb,hx⟩
 ·exact .inl h2
 ·exact .inr ⟨b,off,ha,by omega,hx.mono hB⟩
theorem uS.later(h:uS w w.1.size a n aO)(hb:Below w.1.size w w'):uS w' w'.1.size a n aO:=(h.below hb).mono hb.size
def dR(aO:List (List Int))(i:Nat):List Int:=aO[i]?.getD []
theorem fI{i:Nat}(h:i<aO.length):aO[i]?=some (dR aO i):=by simp[dR,List.getElem?_eq_getElem h]
def lens(aO:List (List Int)):Nat:=(aO.map List.length).sum
theorem lens_take_succ(h:j<aO.length):lens (aO.take (j+1))=lens (aO.take j)+(dR aO j).length:=by
 rw[List.take_add_one,fI h];simp[lens]
theorem lens_take_le(aO:List (List Int))(j:Nat):lens (aO.take j)<=lens aO:=by
 have e:lens aO=lens (aO.take j)+lens (aO.drop j):=by
  rw[lens,lens,lens,<-List.sum_append,<-List.map_append,List.take_append_drop]
 omega
theorem Np(h:zs∈aO):zs.length<=lens aO:=by
 obtain⟨i,hi,rfl⟩:=List.getElem_of_mem h;have h1:=lens_take_succ hi;have h2:=lens_take_le aO (i+1);have e:dR aO i=aO[i]:=by simp[dR,hi]
 rw[e]at h1;omega
structure kE(w:World)(base b n:Nat)(aO:List (List Int))(g:Nat->Nat):Prop where
 len:aO.length=n
 cell:∀i zs,aO[i]?=some zs->∃cap,w.cell? ⟨b,i,none⟩=some (.slice (some ⟨g i,0,none⟩) zs.length cap)/\zs.length<=cap
 low:∀i,i<n->base<=g i
 lt:∀i,i<n->g i<w.1.size
 ne:∀i,i<n->g i≠b
 nums:∀i zs,aO[i]?=some zs->dV w (g i) 0 zs
 room:∀i zs,aO[i]?=some zs->Room w (g i) zs.length
 inj:∀i j,i<n->j<n->g i=g j->i=j
theorem kE.at{base:Nat}(h:kE w base b n aO g)(B:Nat)(hB:w.1.size<=B):wM w B b 0 aO:=fun i zs e=>by
 obtain⟨cap,hc,jJ⟩:=h.cell i zs e;have hi:i<n:=by have:=(List.getElem?_eq_some_iff.1 e).1;have:=h.len;omega
 exact⟨_,cap,by rw[Nat.zero_add];exact hc,⟨rfl,.inr ⟨g i,0,rfl,by have:=h.lt i hi;omega,h.nums i zs e⟩⟩,jJ⟩
theorem kE.sl{base:Nat}(h:kE w base b n aO g)(hb:b<w.1.size):uS w w.1.size (some ⟨b,0,none⟩) n aO:=
 ⟨h.len,.inr ⟨b,0,rfl,hb,h.at _ aR⟩⟩
theorem dV.aj{off:Nat}(h:dV w b off zs)(e:w'.1[b]?=w.1[b]?):dV w' b off zs:=fun i z hz=>(World.cell?_of_block (a:=⟨b,off+i,none⟩) e).trans (h i z hz)
theorem Room.aj{m:Nat}(h:Room w b m)(e:w'.1[b]?=w.1[b]?):Room w' b m:=fun j hj=>by
 obtain⟨v,h1,h2⟩:=h j hj;exact⟨v,(World.cell?_of_block (a:=⟨b,j,none⟩) e).trans h1,(World.frozen?_of_block (a:=⟨b,j,none⟩) e).trans h2⟩
theorem kE.iF{base:Nat}(h:kE w base b n aO g)(hs:w.1.size<=w'.1.size)(eb:w'.1[b]?=w.1[b]?)(eg:∀i,i<n->w'.1[g i]?=w.1[g i]?):kE w' base b n aO g:=by
 have hi:∀i zs,aO[i]?=some zs->i<n:=fun i zs e=>by have:=(List.getElem?_eq_some_iff.1 e).1;have:=h.len;omega
 refine⟨h.len,fun i zs e=>?_,h.low,fun i hi=>Nat.lt_of_lt_of_le (h.lt i hi) hs,h.ne,fun i zs e=>(h.nums i zs e).aj (eg i (hi i zs e)),fun i zs e=>(h.room i zs e).aj (eg i (hi i zs e)),h.inj⟩;obtain⟨cap,hc,jJ⟩:=h.cell i zs e;exact⟨cap,(World.cell?_of_block (a:=⟨b,i,none⟩) eb).trans hc,jJ⟩
theorem kE.later{base:Nat}(h:kE w base b n aO g)(hb:Below w.1.size w w')(aN:b<w.1.size):kE w' base b n aO g:=
 h.iF hb.size (hb.block b aN) (fun i hi=>hb.block _ (h.lt i hi))
theorem kE.snoc{base:Nat}{q cap:Nat}(h:kE w base b j aO g)(hc:w.cell? ⟨b,j,none⟩=some (.slice (some ⟨q,0,none⟩) zs.length cap))(jJ:zs.length<=cap)
  (hq:base<=q) (hl:q<w.1.size) (hn:q≠b) (hx:dV w q 0 zs) (hr:Room w q zs.length) (hf:∀i,i<j->g i≠q):kE w base b (j+1) (aO++[zs]) (fun i=>if i=j then q else g i):=by
 have hlen:=h.len
 have split:∀i ys,(aO++[zs])[i]?=some ys->(i<j/\aO[i]?=some ys)\/(i=j/\ys=zs):=fun i ys e=>by
  by_cases hi:i<aO.length
  ·rw[List.getElem?_append_left hi]at e;exact .inl ⟨by omega,e⟩
  ·rw[List.getElem?_append_right (by omega)]at e
   have h0:i-aO.length=0:=by
    rcases Nat.eq_zero_or_pos (i-aO.length)with h|h
    ·exact h
    ·rw[List.getElem?_eq_none (by simp;omega)]at e;cases e
   rw[h0]at e;simp at e;exact .inr ⟨by omega,e.symm⟩
 refine⟨by simp[hlen],fun i ys e=>?_,fun i hi=>?_,fun i hi=>?_,fun i hi=>?_,fun i ys e=>?_,fun i ys e=>?_,fun i k hi hk e=>?_⟩
 ·rcases split i ys e with ⟨hi,e⟩|⟨rfl,rfl⟩
  ·rw[if_neg (by omega)];exact h.cell i ys e
  ·rw[if_pos rfl];exact⟨cap,hc,jJ⟩
 ·by_cases e:i=j
  ·rw[if_pos e];exact hq
  ·rw[if_neg e];exact h.low i (by omega)
 ·by_cases e:i=j
  ·rw[if_pos e];exact hl
  ·rw[if_neg e];exact h.lt i (by omega)
 ·by_cases e:i=j
  ·rw[if_pos e];exact hn
  ·rw[if_neg e];exact h.ne i (by omega)
 ·rcases split i ys e with ⟨hi,e⟩|⟨rfl,rfl⟩
  ·rw[if_neg (by omega)];exact h.nums i ys e
  ·rw[if_pos rfl];exact hx
 ·rcases split i ys e with ⟨hi,e⟩|⟨rfl,rfl⟩
  ·rw[if_neg (by omega)];exact h.room i ys e
  ·rw[if_pos rfl];exact hr
 ·by_cases ei:i=j<;>by_cases ek:k=j
  ·omega
  ·simp only[if_pos ei,if_neg ek]at e;exact absurd e.symm (hf k (by omega))
  ·simp only[if_neg ei,if_pos ek]at e;exact absurd e (hf i (by omega))
  ·simp only[if_neg ei,if_neg ek]at e;exact h.inj i k (by omega) (by omega) e
theorem kE.nil(w:World)(base b:Nat)(g:Nat->Nat):kE w base b 0 [] g:=
 ⟨rfl,fun i zs e=>by simp at e,fun i h=>by omega,fun i h=>by omega,fun i h=>by omega,fun i zs e=>by simp at e,fun i zs e=>by simp at e,fun i j h=>by omega⟩
end
section
variable {a:Option Addr}{i n x:Nat}{ns:List Nat}{w w':World}
structure R4 where
 kind:Int
 tx:Int
 b:Int
 ag:List S5
structure K2 where
 b:Int
 cells:List C2
structure M4 where
 x:Bool
 af:List K2
 h:List R4
 ai:List Int
structure yu(w:World)(B b o:Nat)(r:R4):Prop where
 c0:w.cell? ⟨b,o,none⟩=some (vI r.kind)
 c1:w.cell? ⟨b,o+1,none⟩=some (vI r.tx)
 c2:w.cell? ⟨b,o+2,none⟩=some (vI r.b)
 c3:∃a cap,w.cell? ⟨b,o+3,none⟩=some (.slice a r.ag.length cap)/\Sl w B a r.ag.length r.ag/\r.ag.length<=cap
theorem yu.below{w w':World}{B b o:Nat}{r:R4}(h:yu w B b o r)(hb:Below B w w')(hB:b<B):yu w' B b o r:=
 ⟨(hb.cell (p:=⟨b,o,none⟩) hB).trans h.c0,(hb.cell (p:=⟨b,o+1,none⟩) hB).trans h.c1,(hb.cell (p:=⟨b,o+2,none⟩) hB).trans h.c2,by
  obtain⟨a,cap,h1,h2,h3⟩:=h.c3
  exact⟨a,cap,(hb.cell (p:=⟨b,o+3,none⟩) hB).trans h1,h2.below hb,h3⟩⟩
theorem yu.mono{w:World}{B B' b o:Nat}{r:R4}(h:yu w B b o r)(hB:B<=B'):yu w B' b o r:=
 ⟨h.c0,h.c1,h.c2,by
  obtain⟨a,cap,h1,h2,h3⟩:=h.c3
  exact⟨a,cap,h1,h2.mono hB,h3⟩⟩
def RN(w:World)(B b off:Nat)(rs:List R4):Prop:=∀i r,rs[i]?=some r->yu w B b (off+i*4) r
def Gg(w:World)(B:Nat)(a:Option Addr)(n:Nat)(rs:List R4):Prop:=rs.length=n/\(n=0\/∃b off,a=some ⟨b,off,none⟩/\b<B/\RN w B b off rs)
theorem Gg.later{rs:List R4}(h:Gg w w.1.size a n rs)(hb:Below w.1.size w w'):Gg w' w'.1.size a n rs:=by
 obtain⟨h1,h2⟩:=h;refine⟨h1,h2.imp id ?_⟩;rintro ⟨b,off,ha,hB,hx⟩;exact⟨b,off,ha,Nat.lt_of_lt_of_le hB hb.size,fun i r e=>((hx i r e).below hb hB).mono hb.size⟩
structure yt(w:World)(B b o:Nat)(k:K2):Prop where
 c0:w.cell? ⟨b,o,none⟩=some (vI k.b)
 c1:∃a cap,w.cell? ⟨b,o+1,none⟩=some (.slice a k.cells.length cap)/\pE w B a k.cells.length k.cells/\k.cells.length<=cap
theorem yt.below{w w':World}{B b o:Nat}{k:K2}(h:yt w B b o k)(hb:Below B w w')(hB:b<B):yt w' B b o k:=
 ⟨(hb.cell (p:=⟨b,o,none⟩) hB).trans h.c0,by
  obtain⟨a,cap,h1,h2,h3⟩:=h.c1
  exact⟨a,cap,(hb.cell (p:=⟨b,o+1,none⟩) hB).trans h1,h2.below hb,h3⟩⟩
theorem yt.mono{w:World}{B B' b o:Nat}{k:K2}(h:yt w B b o k)(hB:B<=B'):yt w B' b o k:=
 ⟨h.c0,by
  obtain⟨a,cap,h1,h2,h3⟩:=h.c1
  exact⟨a,cap,h1,h2.mono hB,h3⟩⟩
def RF(w:World)(B b off:Nat)(ks:List K2):Prop:=∀i k,ks[i]?=some k->yt w B b (off+i*2) k
def xe(w:World)(B:Nat)(a:Option Addr)(n:Nat)(ks:List K2):Prop:=ks.length=n/\(n=0\/∃b off,a=some ⟨b,off,none⟩/\b<B/\RF w B b off ks)
theorem xe.later{ks:List K2}(h:xe w w.1.size a n ks)(hb:Below w.1.size w w'):xe w' w'.1.size a n ks:=by
 obtain⟨h1,h2⟩:=h;refine⟨h1,h2.imp id ?_⟩;rintro ⟨b,off,ha,hB,hx⟩;exact⟨b,off,ha,Nat.lt_of_lt_of_le hB hb.size,fun i k e=>((hx i k e).below hb hB).mono hb.size⟩
def atR(rs:List R4)(i:Nat):R4:=rs[i]?.getD ⟨0,0,0,[]⟩
theorem iV{rs:List R4}(h:i<rs.length):rs[i]?=some (atR rs i):=by simp[atR,List.getElem?_eq_getElem h]
def cO(ks:List K2)(i:Nat):K2:=ks[i]?.getD ⟨0,[]⟩
theorem eX{ks:List K2}(h:i<ks.length):ks[i]?=some (cO ks i):=by simp[cO,List.getElem?_eq_getElem h]
structure MV where
 ac:Option Addr
 cc:Nat
 al:Option Addr
 cl:Nat
 ad:Option Addr
 cd:Nat
def MV.val(v:MV)(m:M4):Value:=.agg #[.bool m.x,.slice v.ac m.af.length v.cc,.slice v.al m.h.length v.cl,.slice v.ad m.ai.length v.cd]
structure pF(w:World)(v:MV)(m:M4):Prop where
 k:xe w w.1.size v.ac m.af.length m.af
 r:Gg w w.1.size v.al m.h.length m.h
 n:mP w w.1.size v.ad m.ai.length m.ai
theorem pF.later{v:MV}{m:M4}(h:pF w v m)(hb:Below w.1.size w w'):pF w' v m:=⟨h.k.later hb,h.r.later hb,h.n.later hb⟩
def jF(rs:List R4):Nat:=(rs.map fun r=>r.ag.length).sum
def jv(ks:List K2):Nat:=(ks.map fun k=>k.cells.length).sum
theorem jy{j:Nat}(h:ns[j]?=some x):(ns.take (j+1)).sum=(ns.take j).sum+x:=by
 rw[List.take_add_one,h];simp
theorem kK(ns:List Nat)(j:Nat):(ns.take j).sum<=ns.sum:=by
 conv=>rhs;rw[<-List.take_append_drop j ns,List.sum_append]
 omega
theorem Jz(h:x∈ns):x<=ns.sum:=by
 induction ns with
 | nil=>cases h
 | cons y r ih=>
  rcases List.mem_cons.1 h with rfl|h
  ·simp
  ·have:=ih h;simp;omega
end
section
variable {b n:Nat}{g:Nat->Nat}{w w':World}
structure fu{α:Type}(sz:Nat)(hd:α->List Int)(ln:α->Nat)(At:World->Nat->α->Prop)(w:World)(base b n:Nat)(rs:List α)(g:Nat->Nat):Prop where
 len:rs.length=n
 head:∀i r,rs[i]?=some r->∀t z,(hd r)[t]?=some z->w.cell? ⟨b,i*sz+t,none⟩=some (vI z)
 tail:∀i r,rs[i]?=some r->∃cap,w.cell? ⟨b,i*sz+(sz-1),none⟩=some (.slice (some ⟨g i,0,none⟩) (ln r) cap)/\ln r<=cap
 low:∀i,i<n->base<=g i
 lt:∀i,i<n->g i<w.1.size
 ne:∀i,i<n->g i≠b
 sub:∀i r,rs[i]?=some r->At w (g i) r
 inj:∀i j,i<n->j<n->g i=g j->i=j
theorem fu.idx{α:Type}{sz:Nat}{hd:α->List Int}{ln:α->Nat}{At:World->Nat->α->Prop}{base:Nat}{rs:List α}(h:fu sz hd ln At w base b n rs g){i:Nat}{r:α}(e:rs[i]?=some r):i<n:=by
 have:=(List.getElem?_eq_some_iff.1 e).1;have:=h.len;omega
theorem fu.nil{α:Type}{sz:Nat}{hd:α->List Int}{ln:α->Nat}{At:World->Nat->α->Prop}(w:World)(base b:Nat)(g:Nat->Nat):fu sz hd ln At w base b 0 [] g:=
 ⟨rfl,fun i r e=>by simp at e,fun i r e=>by simp at e,fun i h=>by omega,fun i h=>by omega,fun i h=>by omega,fun i r e=>by simp at e,fun i j h=>by omega⟩
theorem fu.iF{α:Type}{sz:Nat}{hd:α->List Int}{ln:α->Nat}{At:World->Nat->α->Prop}(I9:∀(w w':World) (b:Nat) (r:α),w'.1[b]?=w.1[b]?->At w b r->At w' b r){base:Nat}{rs:List α}(h:fu sz hd ln At w base b n rs g)(hs:w.1.size<=w'.1.size)(eb:w'.1[b]?=w.1[b]?)(eg:∀i,i<n->w'.1[g i]?=w.1[g i]?):fu sz hd ln At w' base b n rs g:=by
 refine⟨h.len,fun i r e t z ht=>(World.cell?_of_block (a:=⟨b,i*sz+t,none⟩) eb).trans (h.head i r e t z ht),fun i r e=>?_,h.low,fun i hi=>Nat.lt_of_lt_of_le (h.lt i hi) hs,h.ne,fun i r e=>I9 _ _ _ _ (eg i (h.idx e)) (h.sub i r e),h.inj⟩;obtain⟨cap,h1,h2⟩:=h.tail i r e;exact⟨cap,(World.cell?_of_block (a:=⟨b,i*sz+(sz-1),none⟩) eb).trans h1,h2⟩
theorem fu.later{α:Type}{sz:Nat}{hd:α->List Int}{ln:α->Nat}{At:World->Nat->α->Prop}(I9:∀(w w':World) (b:Nat) (r:α),w'.1[b]?=w.1[b]?->At w b r->At w' b r){base:Nat}{rs:List α}(h:fu sz hd ln At w base b n rs g)(hb:Below w.1.size w w')(aN:b<w.1.size):fu sz hd ln At w' base b n rs g:=
 h.iF I9 hb.size (hb.block b aN) (fun i hi=>hb.block _ (h.lt i hi))
theorem fu.next{α:Type}{sz:Nat}{hd:α->List Int}{ln:α->Nat}{At:World->Nat->α->Prop}(I9:∀(w w':World) (b:Nat) (r:α),w'.1[b]?=w.1[b]?->At w b r->At w' b r){V:World}{base j:Nat}{rs:List α}{r:α}{q cap:Nat}(h:fu sz hd ln At w base b j rs g)(hz:0<sz)(hh:∀r:α,(hd r).length<sz)
  (hs:w.1.size<=V.1.size) (hb:∀x,x≠b->V.1[x]?=w.1[x]?) (hold:∀o,o<j*sz->V.cell? ⟨b,o,none⟩=w.cell? ⟨b,o,none⟩) (Y8:∀t z,(hd r)[t]?=some z->V.cell? ⟨b,j*sz+t,none⟩=some (vI z)) (PN:V.cell? ⟨b,j*sz+(sz-1),none⟩=some (.slice (some ⟨q,0,none⟩) (ln r) cap)) (jJ:ln r<=cap)
  (hq:base<=q) (hl:q<V.1.size) (hn:q≠b) (bg:At V q r) (hf:∀i,i<j->g i≠q):fu sz hd ln At V base b (j+1) (rs++[r]) (fun i=>if i=j then q else g i):=by
 have hlen:=h.len
 have lo:∀i t,i<j->t<sz->i*sz+t<j*sz:=fun i t hi ht=>by
  have:(i+1)*sz<=j*sz:=Nat.mul_le_mul_right sz (by omega);rw[Nat.add_mul]at this;omega
 have split:∀i y,(rs++[r])[i]?=some y->(i<j/\rs[i]?=some y)\/(i=j/\y=r):=fun i y e=>by
  by_cases hi:i<rs.length
  ·rw[List.getElem?_append_left hi]at e;exact .inl ⟨by omega,e⟩
  ·rw[List.getElem?_append_right (by omega)]at e
   have h0:i-rs.length=0:=by
    rcases Nat.eq_zero_or_pos (i-rs.length)with h|h
    ·exact h
    ·rw[List.getElem?_eq_none (by simp;omega)]at e;cases e
   rw[h0]at e;simp at e;exact .inr ⟨by omega,e.symm⟩
 refine⟨by simp[hlen],fun i y e t z ht=>?_,fun i y e=>?_,fun i hi=>?_,fun i hi=>?_,fun i hi=>?_,fun i y e=>?_,fun i k hi hk e=>?_⟩
 ·rcases split i y e with ⟨hi,e⟩|⟨rfl,rfl⟩
  ·rw[hold _ (lo i t hi (Nat.lt_trans (List.getElem?_eq_some_iff.1 ht).1 (hh y)))];exact h.head i y e t z ht
  ·exact Y8 t z ht
 ·rcases split i y e with ⟨hi,e⟩|⟨rfl,rfl⟩
  ·rw[if_neg (by omega),hold _ (lo i _ hi (by omega))];exact h.tail i y e
  ·rw[if_pos rfl];exact⟨cap,PN,jJ⟩
 ·by_cases e:i=j
  ·rw[if_pos e];exact hq
  ·rw[if_neg e];exact h.low i (by omega)
 ·by_cases e:i=j
  ·rw[if_pos e];exact hl
  ·rw[if_neg e];exact Nat.lt_of_lt_of_le (h.lt i (by omega)) hs
 ·by_cases e:i=j
  ·rw[if_pos e];exact hn
  ·rw[if_neg e];exact h.ne i (by omega)
 ·rcases split i y e with ⟨hi,e⟩|⟨rfl,rfl⟩
  ·rw[if_neg (by omega)];exact I9 _ _ _ _ (hb _ (h.ne i hi)) (h.sub i y e)
  ·rw[if_pos rfl];exact bg
 ·by_cases ei:i=j<;>by_cases ek:k=j
  ·omega
  ·simp only[if_pos ei,if_neg ek]at e;exact absurd e.symm (hf k (by omega))
  ·simp only[if_neg ei,if_pos ek]at e;exact absurd e (hf i (by omega))
  ·simp only[if_neg ei,if_neg ek]at e;exact h.inj i k (by omega) (by omega) e
end
theorem oJ(w:World)(b off n cap:Nat)(xs:List S5)(hx:xs.length=n)(hn:n<=1048576)(hb:b<w.1.size)(hs:aX w b off xs):Calls Tryz.prog 98 #[.slice (some ⟨b,off,none⟩) n cap] w fun e w'=>
  e=.returned (.slice (some ⟨w.1.size,0,none⟩) n n)/\Below w.1.size w w'/\w.1.size<w'.1.size/\aX w' w.1.size 0 xs/\Room w' w.1.size (n*5):=by
 have nX:=nE n hn;go_enter Tryz.func98,Tryz.ntmps98;go_wp2
 go_loopw[4] (fun i wr=>∃k:Nat,k<=n/\i=vI k/\Below w.1.size w wr/\w.1.size<wr.1.size/\Room wr w.1.size (n*5)/\aX wr w.1.size 0 (xs.take k))
   (fun i _=>n-(intOf i).toNat)
 case atStart=>exact⟨0,Nat.zero_le _,rfl,aJ.alloc aR _,by simp,gU _ _ _ _,fun i s e=>by simp at e⟩
 case round=>
  obtain⟨k,hk,rfl,aF,dQ,ed,kP⟩:=hrel;by_cases aN:k<n
  ·have EA:=hs.below aF hb;obtain⟨s,gu⟩:∃s,xs[k]?=some s:=⟨xs[k]'(by omega),by simp⟩
   obtain⟨c0,c1,c2,c3,c4⟩:=EA k s gu;clear EA nX;have K:Hid (Room wr w.1.size (n*5)/\aX wr w.1.size 0 (xs.take k)/\xs[k]?=some s/\Below w.1.size w wr):=⟨ed,kP,gu,aF⟩
   clear ed kP gu aF;go_wp2_with fail;refine(Ci _ s).mono ?_;rintro e w1 ⟨rfl,b1⟩;obtain⟨ed,kP,gu,aF⟩:=K.out;have gW:=ed.below b1 dQ;have nV:=kP.below b1 dQ;obtain⟨v0,d0,f0⟩:=gW (k*5) (by omega);obtain⟨v1,d1,f1⟩:=gW (k*5+1) (by omega);obtain⟨v2,d2,f2⟩:=gW (k*5+2) (by omega);obtain⟨v3,d3,f3⟩:=gW (k*5+3) (by omega);obtain⟨v4,d4,f4⟩:=gW (k*5+4) (by omega);clear ed kP gu aF;have K2:Hid (Room w1 w.1.size (n*5)/\aX w1 w.1.size 0 (xs.take k)):=⟨gW,nV⟩
   clear gW nV;go_wp2;obtain⟨ed,kP,gu,aF⟩:=K.out;obtain⟨gW,nV⟩:=K2.out;have Gt:=aF.trans (b1.mono (Nat.le_of_lt dQ))
   refine⟨⟨k+1,by omega,by simp,((((Gt.setCell (p:=⟨w.1.size,k*5,none⟩) aR _).setCell (p:=⟨w.1.size,k*5+1,none⟩) aR _).setCell (p:=⟨w.1.size,k*5+2,none⟩) aR _).setCell (p:=⟨w.1.size,k*5+3,none⟩) aR _).setCell (p:=⟨w.1.size,k*5+4,none⟩) aR _,
    by have:=b1.size;simp[World.setCell];omega,((((gW.set _).set _).set _).set _).set _,nV.put gu gW (by omega)⟩,by simp[intOf];omega⟩
  ·have:k=n:=by omega
   subst this;have hd:decide (k<k)=false:=by simp
   go_wp2;go_ret;refine⟨rfl,aF,dQ,?_,ed⟩;rw[<-hx,List.take_length]at kP;exact kP
theorem qy(w:World)(a:Option Addr)(n cap:Nat)(xs:List S5)(hn:n<=1048576)(hs:Sl w w.1.size a n xs):Calls Tryz.prog 98 #[.slice a n cap] w fun e w'=>
  e=.returned (.slice (some ⟨w.1.size,0,none⟩) n n)/\Below w.1.size w w'/\w.1.size<w'.1.size/\aX w' w.1.size 0 xs/\Room w' w.1.size (n*5):=by
 obtain⟨h1,h2⟩:=hs;rcases h2 with rfl|⟨b,off,rfl,hb,hx⟩
 ·refine(qA w a cap).mono ?_;rintro e w' ⟨rfl,h,h'⟩;exact⟨rfl,h,h',(fun i s e=>by rw[List.eq_nil_of_length_eq_zero h1]at e;simp at e),fun j hj=>by omega⟩
 ·exact oJ w b off n cap xs h1 hn hb hx
theorem Bh(w:World)(b off n cap:Nat)(xs:List C2)(hx:xs.length=n)(hn:n<=1048576)(hb:b<w.1.size)(hs:bJ w b off xs):Calls Tryz.prog 159 #[.slice (some ⟨b,off,none⟩) n cap] w fun e w'=>
  e=.returned (.slice (some ⟨w.1.size,0,none⟩) n n)/\Below w.1.size w w'/\w.1.size<w'.1.size/\bJ w' w.1.size 0 xs/\Room w' w.1.size (n*2):=by
 have nX:=zk n hn;go_enter Tryz.func159,Tryz.ntmps159;go_wp2
 go_loopw[4] (fun i wr=>∃k:Nat,k<=n/\i=vI k/\Below w.1.size w wr/\w.1.size<wr.1.size/\Room wr w.1.size (n*2)/\bJ wr w.1.size 0 (xs.take k))
   (fun i _=>n-(intOf i).toNat)
 case atStart=>exact⟨0,Nat.zero_le _,rfl,aJ.alloc aR _,by simp,gU _ _ _ _,fun i s e=>by simp at e⟩
 case round=>
  obtain⟨k,hk,rfl,aF,dQ,ed,kP⟩:=hrel;by_cases aN:k<n
  ·have EA:=hs.below aF hb;obtain⟨s,gu⟩:∃s,xs[k]?=some s:=⟨xs[k]'(by omega),by simp⟩
   obtain⟨c0,c1⟩:=EA k s gu;clear EA nX;have K:Hid (Room wr w.1.size (n*2)/\bJ wr w.1.size 0 (xs.take k)/\xs[k]?=some s/\Below w.1.size w wr):=⟨ed,kP,gu,aF⟩
   clear ed kP gu aF;go_wp2_with fail;refine(Il _ s).mono ?_;rintro e w1 ⟨rfl,b1⟩;obtain⟨ed,kP,gu,aF⟩:=K.out;have gW:=ed.below b1 dQ;have nV:=kP.below b1 dQ;obtain⟨v0,d0,f0⟩:=gW (k*2) (by omega);obtain⟨v1,d1,f1⟩:=gW (k*2+1) (by omega);clear ed kP gu aF;have K2:Hid (Room w1 w.1.size (n*2)/\bJ w1 w.1.size 0 (xs.take k)):=⟨gW,nV⟩
   clear gW nV;go_wp2;obtain⟨ed,kP,gu,aF⟩:=K.out;obtain⟨gW,nV⟩:=K2.out;have Gt:=aF.trans (b1.mono (Nat.le_of_lt dQ))
   refine⟨⟨k+1,by omega,by simp,(Gt.setCell (p:=⟨w.1.size,k*2,none⟩) aR _).setCell (p:=⟨w.1.size,k*2+1,none⟩) aR _,
    by have:=b1.size;simp[World.setCell];omega,(gW.set _).set _,nV.put gu gW (by omega)⟩,by simp[intOf];omega⟩
  ·have:k=n:=by omega
   subst this;have hd:decide (k<k)=false:=by simp
   go_wp2;go_ret;refine⟨rfl,aF,dQ,?_,ed⟩;rw[<-hx,List.take_length]at kP;exact kP
theorem Dm(w:World)(a:Option Addr)(n cap:Nat)(xs:List C2)(hn:n<=1048576)(hs:pE w w.1.size a n xs):Calls Tryz.prog 159 #[.slice a n cap] w fun e w'=>
  e=.returned (.slice (some ⟨w.1.size,0,none⟩) n n)/\Below w.1.size w w'/\w.1.size<w'.1.size/\bJ w' w.1.size 0 xs/\Room w' w.1.size (n*2):=by
 obtain⟨h1,h2⟩:=hs;rcases h2 with rfl|⟨b,off,rfl,hb,hx⟩
 ·refine(Dn w a cap).mono ?_;rintro e w' ⟨rfl,h,h'⟩;exact⟨rfl,h,h',(fun i s e=>by rw[List.eq_nil_of_length_eq_zero h1]at e;simp at e),fun j hj=>by omega⟩
 ·exact Bh w b off n cap xs h1 hn hb hx
theorem Bo(w:World)(k t r:Int)(a:Option Addr)(n cap:Nat)(xs:List S5)(hn:n<=1048576)(hs:Sl w w.1.size a n xs):Calls Tryz.prog 132 #[.agg #[vI k,vI t,vI r,.slice a n cap]] w fun e w'=>
  ∃g,e=.returned (.agg #[vI k,vI t,vI r,.slice (some ⟨g,0,none⟩) n n])/\Below w.1.size w w'/\w.1.size<=g/\g<w'.1.size/\aX w' g 0 xs/\Room w' g (n*5):=by
 go_enter Tryz.func132,Tryz.ntmps132;go_wp2_with fail;generalize hW:((w.alloc (.cells #[vI k,vI t,vI r,.slice a n cap] 194)).alloc (.cells #[vI 0,vI 0,vI 0,.slice none 0 0] 148)).alloc (.cells #[vI k,vI t,vI r,.slice none 0 0] 148)=W;have dQ:W.1.size=w.1.size+3:=by subst hW;simp
 have bW:Below w.1.size w W:=by subst hW;exact((aJ.alloc aR _).alloc (by simp) _).alloc (by simp;omega) _
 have d0:W.cell? ⟨w.1.size+1+1,0,none⟩=some (vI k):=by subst hW;go_simp
 have d1:W.cell? ⟨w.1.size+1+1,1,none⟩=some (vI t):=by subst hW;go_simp
 have d2:W.cell? ⟨w.1.size+1+1,2,none⟩=some (vI r):=by subst hW;go_simp
 have d3:W.cell? ⟨w.1.size+1+1,3,none⟩=some (.slice none 0 0):=by subst hW;go_simp
 have e0:W.cell? ⟨w.1.size+1,0,none⟩=some (vI 0):=by subst hW;go_simp
 have e1:W.cell? ⟨w.1.size+1,1,none⟩=some (vI 0):=by subst hW;go_simp
 have e2:W.cell? ⟨w.1.size+1,2,none⟩=some (vI 0):=by subst hW;go_simp
 have e3:W.cell? ⟨w.1.size+1,3,none⟩=some (.slice none 0 0):=by subst hW;go_simp
 have f3:W.frozen? ⟨w.1.size+1+1,3,none⟩=false:=by subst hW;go_simp
 have g0:∀j,W.frozen? ⟨w.1.size+1,j,none⟩=false:=by intro j;subst hW;go_simp
 clear hW;have Wq:Sl W W.1.size a n xs:=(hs.below bW).mono (by omega);refine(qy _ a n cap xs hn Wq).mono ?_;rintro e w1 ⟨rfl,b1,l1,s1,r1⟩;rw[<-b1.cell (p:=⟨w.1.size+1+1,0,none⟩) (by simp;omega)]at d0;rw[<-b1.cell (p:=⟨w.1.size+1+1,1,none⟩) (by simp;omega)]at d1;rw[<-b1.cell (p:=⟨w.1.size+1+1,2,none⟩) (by simp;omega)]at d2;rw[<-b1.cell (p:=⟨w.1.size+1+1,3,none⟩) (by simp;omega)]at d3;rw[<-b1.cell (p:=⟨w.1.size+1,0,none⟩) (by simp;omega)]at e0;rw[<-b1.cell (p:=⟨w.1.size+1,1,none⟩) (by simp;omega)]at e1;rw[<-b1.cell (p:=⟨w.1.size+1,2,none⟩) (by simp;omega)]at e2;rw[<-b1.cell (p:=⟨w.1.size+1,3,none⟩) (by simp;omega)]at e3;rw[<-b1.frozen (p:=⟨w.1.size+1+1,3,none⟩) (by simp;omega)]at f3;have g0':=(b1.frozen (p:=⟨w.1.size+1,0,none⟩) (by simp;omega)).trans (g0 0);have g1':=(b1.frozen (p:=⟨w.1.size+1,1,none⟩) (by simp;omega)).trans (g0 1);have g2':=(b1.frozen (p:=⟨w.1.size+1,2,none⟩) (by simp;omega)).trans (g0 2);have g3':=(b1.frozen (p:=⟨w.1.size+1,3,none⟩) (by simp;omega)).trans (g0 3);have K:Hid (aX w1 W.1.size 0 xs/\Room w1 W.1.size (n*5)):=⟨s1,r1⟩
 have K2:Hid (W.1.size=w.1.size+3):=dQ;clear s1 r1 g0 Wq dQ;go_wp2;have dQ:=K2.out;refine bodyPost_ret (v:=.agg #[vI k,vI t,vI r,.slice (some ⟨W.1.size,0,none⟩) n n]) (by simp[results,Tryz.results132,go_sem,e0,e1,e2,e3]) rfl ⟨W.1.size,rfl,?_,by omega,?_,?_,?_⟩
 ·exact(((((bW.trans (b1.mono (by omega))).setCell (p:=⟨_,_,none⟩) (by simp;omega) _).setCell (p:=⟨_,_,none⟩) (by simp) _).setCell (p:=⟨_,_,none⟩) (by simp) _).setCell (p:=⟨_,_,none⟩) (by simp) _).setCell (p:=⟨_,_,none⟩) (by simp) _
 ·simpa[World.setCell]using l1
 ·exact((((K.out.1.dZ (by simp;omega) _).dZ (by simp;omega) _).dZ (by simp;omega) _).dZ (by simp;omega) _).dZ (by simp;omega) _
 ·exact K.out.2.aj ((Below.heap_setCell _ _ _ _ (by simp;omega)).trans ((Below.heap_setCell _ _ _ _ (by simp;omega)).trans ((Below.heap_setCell _ _ _ _ (by simp;omega)).trans ((Below.heap_setCell _ _ _ _ (by simp;omega)).trans (Below.heap_setCell _ _ _ _ (by simp;omega))))))
section
variable {b n off:Nat}{g:Nat->Nat}{w w':World}
theorem FW(w:World)(r:Int)(a:Option Addr)(n cap:Nat)(xs:List C2)(hn:n<=1048576)(hs:pE w w.1.size a n xs):Calls Tryz.prog 131 #[.agg #[vI r,.slice a n cap]] w fun e w'=>
  ∃g,e=.returned (.agg #[vI r,.slice (some ⟨g,0,none⟩) n n])/\Below w.1.size w w'/\w.1.size<=g/\g<w'.1.size/\bJ w' g 0 xs/\Room w' g (n*2):=by
 go_enter Tryz.func131,Tryz.ntmps131;go_wp2_with fail;generalize hW:((w.alloc (.cells #[vI r,.slice a n cap] 191)).alloc (.cells #[vI 0,.slice none 0 0] 107)).alloc (.cells #[vI r,.slice none 0 0] 107)=W;have dQ:W.1.size=w.1.size+3:=by subst hW;simp
 have bW:Below w.1.size w W:=by subst hW;exact((aJ.alloc aR _).alloc (by simp) _).alloc (by simp;omega) _
 have d0:W.cell? ⟨w.1.size+1+1,0,none⟩=some (vI r):=by subst hW;go_simp
 have d1:W.cell? ⟨w.1.size+1+1,1,none⟩=some (.slice none 0 0):=by subst hW;go_simp
 have e0:W.cell? ⟨w.1.size+1,0,none⟩=some (vI 0):=by subst hW;go_simp
 have e1:W.cell? ⟨w.1.size+1,1,none⟩=some (.slice none 0 0):=by subst hW;go_simp
 have f1:W.frozen? ⟨w.1.size+1+1,1,none⟩=false:=by subst hW;go_simp
 have g0:∀j,W.frozen? ⟨w.1.size+1,j,none⟩=false:=by intro j;subst hW;go_simp
 clear hW;have Wq:pE W W.1.size a n xs:=(hs.below bW).mono (by omega);refine(Dm _ a n cap xs hn Wq).mono ?_;rintro e w1 ⟨rfl,b1,l1,s1,r1⟩;rw[<-b1.cell (p:=⟨w.1.size+1+1,0,none⟩) (by simp;omega)]at d0;rw[<-b1.cell (p:=⟨w.1.size+1+1,1,none⟩) (by simp;omega)]at d1;rw[<-b1.cell (p:=⟨w.1.size+1,0,none⟩) (by simp;omega)]at e0;rw[<-b1.cell (p:=⟨w.1.size+1,1,none⟩) (by simp;omega)]at e1;rw[<-b1.frozen (p:=⟨w.1.size+1+1,1,none⟩) (by simp;omega)]at f1;have g0':=(b1.frozen (p:=⟨w.1.size+1,0,none⟩) (by simp;omega)).trans (g0 0);have g1':=(b1.frozen (p:=⟨w.1.size+1,1,none⟩) (by simp;omega)).trans (g0 1);have K:Hid (bJ w1 W.1.size 0 xs/\Room w1 W.1.size (n*2)):=⟨s1,r1⟩
 have K2:Hid (W.1.size=w.1.size+3):=dQ;clear s1 r1 g0 Wq dQ;go_wp2;have dQ:=K2.out;refine bodyPost_ret (v:=.agg #[vI r,.slice (some ⟨W.1.size,0,none⟩) n n]) (by simp[results,Tryz.results131,go_sem,e0,e1]) rfl ⟨W.1.size,rfl,?_,by omega,?_,?_,?_⟩
 ·exact(((bW.trans (b1.mono (by omega))).setCell (p:=⟨_,_,none⟩) (by simp;omega) _).setCell (p:=⟨_,_,none⟩) (by simp) _).setCell (p:=⟨_,_,none⟩) (by simp) _
 ·simpa[World.setCell]using l1
 ·exact((K.out.1.dZ (by simp;omega) _).dZ (by simp;omega) _).dZ (by simp;omega) _
 ·exact K.out.2.aj ((Below.heap_setCell _ _ _ _ (by simp;omega)).trans ((Below.heap_setCell _ _ _ _ (by simp;omega)).trans (Below.heap_setCell _ _ _ _ (by simp;omega))))
def oZ(r:R4):List Int:=[r.kind,r.tx,r.b]
def xG(r:R4):Nat:=r.ag.length
def AtR(w:World)(b:Nat)(r:R4):Prop:=aX w b 0 r.ag/\Room w b (r.ag.length*5)
theorem aX.aj{xs:List S5}(h:aX w b off xs)(e:w'.1[b]?=w.1[b]?):aX w' b off xs:=fun i s hs=>by
 obtain⟨c0,c1,c2,c3,c4⟩:=h i s hs;exact⟨(World.cell?_of_block (a:=⟨b,_,none⟩) e).trans c0,(World.cell?_of_block (a:=⟨b,_,none⟩) e).trans c1,(World.cell?_of_block (a:=⟨b,_,none⟩) e).trans c2,(World.cell?_of_block (a:=⟨b,_,none⟩) e).trans c3,(World.cell?_of_block (a:=⟨b,_,none⟩) e).trans c4⟩
theorem bJ.aj{xs:List C2}(h:bJ w b off xs)(e:w'.1[b]?=w.1[b]?):bJ w' b off xs:=fun i s hs=>by
 obtain⟨c0,c1⟩:=h i s hs;exact⟨(World.cell?_of_block (a:=⟨b,_,none⟩) e).trans c0,(World.cell?_of_block (a:=⟨b,_,none⟩) e).trans c1⟩
theorem AtR.aj(w w':World)(b:Nat)(r:R4)(e:w'.1[b]?=w.1[b]?)(h:AtR w b r):AtR w' b r:=⟨h.1.aj e,h.2.aj e⟩
def pQ(k:K2):List Int:=[k.b]
def vN(k:K2):Nat:=k.cells.length
def lD(w:World)(b:Nat)(k:K2):Prop:=bJ w b 0 k.cells/\Room w b (k.cells.length*2)
theorem lD.aj(w w':World)(b:Nat)(r:K2)(e:w'.1[b]?=w.1[b]?)(h:lD w b r):lD w' b r:=⟨h.1.aj e,h.2.aj e⟩
theorem Qh{base:Nat}{rs:List R4}(h:fu 4 oZ xG AtR w base b n rs g)(hb:b<w.1.size):Gg w w.1.size (some ⟨b,0,none⟩) n rs:=
 ⟨h.len,.inr ⟨b,0,rfl,hb,fun i r e=>by
  rw[Nat.zero_add];obtain⟨cap,h1,h2⟩:=h.tail i r e
  exact⟨h.head i r e 0 _ rfl,h.head i r e 1 _ rfl,h.head i r e 2 _ rfl,_,cap,h1,⟨rfl,.inr ⟨_,0,rfl,h.lt i (h.idx e),(h.sub i r e).1⟩⟩,h2⟩⟩⟩
theorem Qg{base:Nat}{rs:List K2}(h:fu 2 pQ vN lD w base b n rs g)(hb:b<w.1.size):xe w w.1.size (some ⟨b,0,none⟩) n rs:=
 ⟨h.len,.inr ⟨b,0,rfl,hb,fun i r e=>by
  rw[Nat.zero_add];obtain⟨cap,h1,h2⟩:=h.tail i r e
  exact⟨h.head i r e 0 _ rfl,_,cap,h1,⟨rfl,.inr ⟨_,0,rfl,h.lt i (h.idx e),(h.sub i r e).1⟩⟩,h2⟩⟩⟩
end
theorem BM:(Tryz.prog.info? 148).map (fun i=>(i.zero,i.size,i.bytes))=some (some (.agg #[vI 0,vI 0,vI 0,.slice none 0 0]),4,48):=by kernel_rfl
theorem Kl(n:Nat)(hn:n<=1048576)(w:World):(Instr.makeSlice 90 (vI (n:Int)) (vI (n:Int))).run Tryz.prog w=.ok (.slice (some ⟨w.1.size,0,none⟩) n n) (w.alloc (.cells (madeCells #[vI 0,vI 0,vI 0,.slice none 0 0] (n*4)) 148)):=by
 obtain⟨i,hi,mR⟩:=Option.map_eq_some_iff.1 BM;simp only[Prod.mk.injEq]at mR;obtain⟨hz,hs,hb⟩:=mR;have:=run_make (P:=Tryz.prog) w 90 148 i _ Tryz.underlying90 hi hz .i64 .i64 (n:Int) (n:Int) (by omega) (by omega) (by rw[hb];omega) (by omega);rw[hs]at this;simpa[Value.cells]using this
theorem Bl(w:World)(a:Option Addr)(n cap:Nat)(rs:List R4)(hn:n<=1048576)(hl:∀r∈rs,r.ag.length<=1048576)(hs:Gg w w.1.size a n rs):Calls Tryz.prog 96 #[.slice a n cap] w fun e w'=>
  ∃g,e=.returned (.slice (some ⟨w.1.size,0,none⟩) n n)/\Below w.1.size w w'/\w.1.size<w'.1.size/\fu 4 oZ xG AtR w' w.1.size w.1.size n rs g/\Room w' w.1.size (n*4):=by
 obtain⟨hx,hs⟩:=hs;have nX:=Kl n hn;go_enter Tryz.func96,Tryz.ntmps96;go_wp2;go_loopw[4] (fun i wr=>∃(j:Nat) (g:Nat->Nat),j<=n/\i=vI j/\Below w.1.size w wr/\w.1.size<wr.1.size/\Room wr w.1.size (n*4)/\fu 4 oZ xG AtR wr w.1.size w.1.size j (rs.take j) g) (fun i _=>n-(intOf i).toNat)
 case atStart=>exact⟨0,fun _=>0,Nat.zero_le _,rfl,aJ.alloc aR _,by simp,gU _ _ _ _,by rw[List.take_zero];exact fu.nil _ _ _ _⟩
 case round=>
  obtain⟨j,g,hj,rfl,aF,dQ,ed,fB⟩:=hrel;by_cases aN:j<n
  ·rcases hs with hs|⟨b,off,rfl,hb,h1⟩
   ·omega
   ·have bg:=h1 j _ (iV (by omega));obtain⟨a',aZ,hc,gy,_⟩:=bg.c3;have e0:=(aF.cell (p:=⟨b,off+j*4,none⟩) hb).trans bg.c0;have e1:=(aF.cell (p:=⟨b,off+j*4+1,none⟩) hb).trans bg.c1;have e2:=(aF.cell (p:=⟨b,off+j*4+2,none⟩) hb).trans bg.c2;have e3:=(aF.cell (p:=⟨b,off+j*4+3,none⟩) hb).trans hc;have iM:=Bo wr (atR rs j).kind (atR rs j).tx (atR rs j).b a' (atR rs j).ag.length aZ (atR rs j).ag (hl _ (List.mem_of_getElem? (iV (by omega)))) ((gy.below aF).mono aF.size);have K:Hid (Room wr w.1.size (n*4)/\fu 4 oZ xG AtR wr w.1.size w.1.size j (rs.take j) g/\Below w.1.size w wr/\w.1.size<wr.1.size/\rs.take (j+1)=rs.take j++[atR rs j]):=⟨ed,fB,aF,dQ,by rw[List.take_add_one,iV (by omega)];rfl⟩
    clear ed fB aF nX h1 hx hl gy hc bg;generalize atR rs j=r at *;go_wp2_with fail;refine iM.mono ?_;clear iM;rintro e w1 ⟨q,rfl,b1,lq,hq,CU,pV⟩;have wR:=K.out.1.below b1 K.out.2.2.2.1;obtain⟨z0,d0,f0⟩:=wR (j*4) (by omega);obtain⟨z1,d1,f1⟩:=wR (j*4+1) (by omega);obtain⟨z2,d2,f2⟩:=wR (j*4+2) (by omega);obtain⟨z3,d3,f3⟩:=wR (j*4+3) (by omega);have K1:Hid (Below wr.1.size wr w1/\wr.1.size<=q/\q<w1.1.size/\AtR w1 q r/\Room w1 w.1.size (n*4)):=⟨b1,lq,hq,⟨CU,pV⟩,wR⟩
    clear b1 lq hq CU pV wR;go_wp2;obtain⟨ed,fB,aF,dQ,EC⟩:=K.out;obtain⟨b1,lq,hq,bg,wR⟩:=K1.out;have h1:=fB.later AtR.aj b1 dQ;obtain⟨V,hV⟩:∃V,((((w1.setCell ⟨w.1.size,j*4,none⟩ (vI r.kind)).setCell ⟨w.1.size,j*4+1,none⟩ (vI r.tx)).setCell ⟨w.1.size,j*4+2,none⟩ (vI r.b)).setCell ⟨w.1.size,j*4+3,none⟩ (.slice (some ⟨q,0,none⟩) r.ag.length r.ag.length))=V:=⟨_,rfl⟩
    have sV:V.1.size=w1.1.size:=by rw[<-hV];simp[World.setCell]
    have oV:∀x,x≠w.1.size->V.1[x]?=w1.1[x]?:=fun x hx=>by
     rw[<-hV];exact((Below.heap_setCell _ _ _ _ (fun e=>hx e)).trans ((Below.heap_setCell _ _ _ _ (fun e=>hx e)).trans ((Below.heap_setCell _ _ _ _ (fun e=>hx e)).trans (Below.heap_setCell _ _ _ _ (fun e=>hx e)))))
    have cV:∀o,o<j*4->V.cell? ⟨w.1.size,o,none⟩=w1.cell? ⟨w.1.size,o,none⟩:=fun o ho=>by
     rw[<-hV];rw[ae (by omega),ae (by omega),ae (by omega),ae (by omega)]
    have n0:V.cell? ⟨w.1.size,j*4,none⟩=some (vI r.kind):=by
     rw[<-hV];rw[ae (by omega),ae (by omega),ae (by omega)];exact az (by exact d0)
    have n1:V.cell? ⟨w.1.size,j*4+1,none⟩=some (vI r.tx):=by
     rw[<-hV];rw[ae (by omega),ae (by omega)];exact az (by rw[ae (by omega)];exact d1)
    have n2:V.cell? ⟨w.1.size,j*4+2,none⟩=some (vI r.b):=by
     rw[<-hV];rw[ae (by omega)];exact az (by rw[ae (by omega),ae (by omega)];exact d2)
    have nT:V.cell? ⟨w.1.size,j*4+(4-1),none⟩=some (.slice (some ⟨q,0,none⟩) r.ag.length r.ag.length):=by
     rw[<-hV];exact az (by rw[ae (by omega),ae (by omega),ae (by omega)];exact d3)
    have rV:Room V w.1.size (n*4):=by rw[<-hV];exact((((wR.set _).set _).set _).set _)
    have bV:Below w.1.size w V:=by rw[<-hV];exact(((((aF.trans (b1.mono aF.size)).setCell (p:=⟨w.1.size,j*4,none⟩) aR _).setCell (p:=⟨w.1.size,j*4+1,none⟩) aR _).setCell (p:=⟨w.1.size,j*4+2,none⟩) aR _).setCell (p:=⟨w.1.size,j*4+3,none⟩) aR _)
    have OJ:=h1.next AtR.aj (r:=r) (q:=q) (cap:=r.ag.length) (V:=V) (by omega) (fun r=>by simp[oZ]) (by omega) oV cV (fun t z ht=>by
     match t,ht with
     | 0,ht=>cases ht;exact n0
     | 1,ht=>cases ht;exact n1
     | 2,ht=>cases ht;exact n2
     | t+3,ht=>simp[oZ]at ht) nT aR (by omega) (by omega) (by omega) (AtR.aj _ _ _ _ (oV q (by omega)) bg) (fun i hi e=>by have:=fB.lt i hi;omega)
    rw[<-EC]at OJ;rw[hV];exact⟨⟨j+1,_,by omega,by simp,bV,by have:=b1.size;omega,rV,OJ⟩,by simp[intOf];omega⟩
  ·have:j=n:=by omega
   subst this;have hd:decide (j<j)=false:=by simp
   rw[<-hx,List.take_length,hx]at fB;have K:Hid (fu 4 oZ xG AtR wr w.1.size w.1.size j rs g/\Room wr w.1.size (j*4)):=⟨fB,ed⟩
   clear fB hs ed;go_wp2;go_ret;exact⟨g,rfl,aF,dQ,K.out.1,K.out.2⟩
theorem BL:(Tryz.prog.info? 107).map (fun i=>(i.zero,i.size,i.bytes))=some (some (.agg #[vI 0,.slice none 0 0]),2,32):=by kernel_rfl
theorem Kj(n:Nat)(hn:n<=1048576)(w:World):(Instr.makeSlice 89 (vI (n:Int)) (vI (n:Int))).run Tryz.prog w=.ok (.slice (some ⟨w.1.size,0,none⟩) n n) (w.alloc (.cells (madeCells #[vI 0,.slice none 0 0] (n*2)) 107)):=by
 obtain⟨i,hi,mR⟩:=Option.map_eq_some_iff.1 BL;simp only[Prod.mk.injEq]at mR;obtain⟨hz,hs,hb⟩:=mR;have:=run_make (P:=Tryz.prog) w 89 107 i _ Tryz.underlying89 hi hz .i64 .i64 (n:Int) (n:Int) (by omega) (by omega) (by rw[hb];omega) (by omega);rw[hs]at this;simpa[Value.cells]using this
theorem FV(w:World)(a:Option Addr)(n cap:Nat)(rs:List K2)(hn:n<=1048576)(hl:∀r∈rs,r.cells.length<=1048576)(hs:xe w w.1.size a n rs):Calls Tryz.prog 95 #[.slice a n cap] w fun e w'=>
  ∃g,e=.returned (.slice (some ⟨w.1.size,0,none⟩) n n)/\Below w.1.size w w'/\w.1.size<w'.1.size/\fu 2 pQ vN lD w' w.1.size w.1.size n rs g/\Room w' w.1.size (n*2):=by
 obtain⟨hx,hs⟩:=hs;have nX:=Kj n hn;go_enter Tryz.func95,Tryz.ntmps95;go_wp2;go_loopw[4] (fun i wr=>∃(j:Nat) (g:Nat->Nat),j<=n/\i=vI j/\Below w.1.size w wr/\w.1.size<wr.1.size/\Room wr w.1.size (n*2)/\fu 2 pQ vN lD wr w.1.size w.1.size j (rs.take j) g) (fun i _=>n-(intOf i).toNat)
 case atStart=>exact⟨0,fun _=>0,Nat.zero_le _,rfl,aJ.alloc aR _,by simp,gU _ _ _ _,by rw[List.take_zero];exact fu.nil _ _ _ _⟩
 case round=>
  obtain⟨j,g,hj,rfl,aF,dQ,ed,fB⟩:=hrel;by_cases aN:j<n
  ·rcases hs with hs|⟨b,off,rfl,hb,h1⟩
   ·omega
   ·have bg:=h1 j _ (eX (by omega));obtain⟨a',aZ,hc,gy,_⟩:=bg.c1;have e0:=(aF.cell (p:=⟨b,off+j*2,none⟩) hb).trans bg.c0;have e1:=(aF.cell (p:=⟨b,off+j*2+1,none⟩) hb).trans hc;have iM:=FW wr (cO rs j).b a' (cO rs j).cells.length aZ (cO rs j).cells (hl _ (List.mem_of_getElem? (eX (by omega)))) ((gy.below aF).mono aF.size);have K:Hid (Room wr w.1.size (n*2)/\fu 2 pQ vN lD wr w.1.size w.1.size j (rs.take j) g/\Below w.1.size w wr/\w.1.size<wr.1.size/\rs.take (j+1)=rs.take j++[cO rs j]):=⟨ed,fB,aF,dQ,by rw[List.take_add_one,eX (by omega)];rfl⟩
    clear ed fB aF nX h1 hx hl gy hc bg;generalize cO rs j=r at *;go_wp2_with fail;refine iM.mono ?_;clear iM;rintro e w1 ⟨q,rfl,b1,lq,hq,CU,pV⟩;have wR:=K.out.1.below b1 K.out.2.2.2.1;obtain⟨z0,d0,f0⟩:=wR (j*2) (by omega);obtain⟨z1,d1,f1⟩:=wR (j*2+1) (by omega);have K1:Hid (Below wr.1.size wr w1/\wr.1.size<=q/\q<w1.1.size/\lD w1 q r/\Room w1 w.1.size (n*2)):=⟨b1,lq,hq,⟨CU,pV⟩,wR⟩
    clear b1 lq hq CU pV wR;go_wp2;obtain⟨ed,fB,aF,dQ,EC⟩:=K.out;obtain⟨b1,lq,hq,bg,wR⟩:=K1.out;have h1:=fB.later lD.aj b1 dQ;obtain⟨V,hV⟩:∃V,((w1.setCell ⟨w.1.size,j*2,none⟩ (vI r.b)).setCell ⟨w.1.size,j*2+1,none⟩ (.slice (some ⟨q,0,none⟩) r.cells.length r.cells.length))=V:=⟨_,rfl⟩
    have sV:V.1.size=w1.1.size:=by rw[<-hV];simp[World.setCell]
    have oV:∀x,x≠w.1.size->V.1[x]?=w1.1[x]?:=fun x hx=>by
     rw[<-hV];exact((Below.heap_setCell _ _ _ _ (fun e=>hx e)).trans (Below.heap_setCell _ _ _ _ (fun e=>hx e)))
    have cV:∀o,o<j*2->V.cell? ⟨w.1.size,o,none⟩=w1.cell? ⟨w.1.size,o,none⟩:=fun o ho=>by
     rw[<-hV];rw[ae (by omega),ae (by omega)]
    have n0:V.cell? ⟨w.1.size,j*2,none⟩=some (vI r.b):=by
     rw[<-hV];rw[ae (by omega)];exact az (by exact d0)
    have nT:V.cell? ⟨w.1.size,j*2+(2-1),none⟩=some (.slice (some ⟨q,0,none⟩) r.cells.length r.cells.length):=by
     rw[<-hV];exact az (by rw[ae (by omega)];exact d1)
    have rV:Room V w.1.size (n*2):=by rw[<-hV];exact((wR.set _).set _)
    have bV:Below w.1.size w V:=by rw[<-hV];exact(((aF.trans (b1.mono aF.size)).setCell (p:=⟨w.1.size,j*2,none⟩) aR _).setCell (p:=⟨w.1.size,j*2+1,none⟩) aR _)
    have OJ:=h1.next lD.aj (r:=r) (q:=q) (cap:=r.cells.length) (V:=V) (by omega) (fun r=>by simp[pQ]) (by omega) oV cV (fun t z ht=>by
     match t,ht with
     | 0,ht=>cases ht;exact n0
     | t+1,ht=>simp[pQ]at ht) nT aR (by omega) (by omega) (by omega) (lD.aj _ _ _ _ (oV q (by omega)) bg) (fun i hi e=>by have:=fB.lt i hi;omega)
    rw[<-EC]at OJ;rw[hV];exact⟨⟨j+1,_,by omega,by simp,bV,by have:=b1.size;omega,rV,OJ⟩,by simp[intOf];omega⟩
  ·have:j=n:=by omega
   subst this;have hd:decide (j<j)=false:=by simp
   rw[<-hx,List.take_length,hx]at fB;have K:Hid (fu 2 pQ vN lD wr w.1.size w.1.size j rs g/\Room wr w.1.size (j*2)):=⟨fB,ed⟩
   clear fB hs ed;go_wp2;go_ret;exact⟨g,rfl,aF,dQ,K.out.1,K.out.2⟩
section
variable {X:World}{ad al s1 s2 s3:Value}{alive:Bool}{s:Nat}
structure Gf(w:World)(B0 B1 B2 B3:Nat)(v:MV)(m:M4)(gk gr:Nat->Nat):Prop where
 k:∃b,v.ac=some ⟨b,0,none⟩/\B0<=b/\b<B1/\fu 2 pQ vN lD w B0 b m.af.length m.af gk/\(∀i,i<m.af.length->gk i<B1)/\Room w b (m.af.length*2)
 r:∃b,v.al=some ⟨b,0,none⟩/\B1<=b/\b<B2/\fu 4 oZ xG AtR w B1 b m.h.length m.h gr/\(∀i,i<m.h.length->gr i<B2)/\Room w b (m.h.length*4)
 n:∃b,v.ad=some ⟨b,0,none⟩/\B2<=b/\b<B3/\dV w b 0 m.ai/\Room w b m.ai.length
 o1:B0<=B1
 o2:B1<=B2
 o3:B2<=B3
 sz:B3<=w.1.size
theorem Gf.kept{w w':World}{B0 B1 B2 B3:Nat}{v:MV}{m:M4}{gk gr:Nat->Nat}(h:Gf w B0 B1 B2 B3 v m gk gr)(hs:w.1.size<=w'.1.size)(hk:∀q,B0<=q->q<B3->w'.1[q]?=w.1[q]?):Gf w' B0 B1 B2 B3 v m gk gr:=by
 have h1:=h.o1;have h2:=h.o2;have h3:=h.o3;have h4:=h.sz;obtain⟨b,e,l1,l,o,og,rm⟩:=h.k;obtain⟨b',e',XX,l',o',XY,rm'⟩:=h.r;obtain⟨b'',JP,Tq,ZG,o'',TY⟩:=h.n;have hb:=hk b (by omega) (by omega);have fC:=hk b' (by omega) (by omega);have VG:=hk b'' (by omega) (by omega)
 exact⟨⟨b,e,l1,l,o.iF lD.aj hs hb (fun i hi=>hk _ (o.low i hi) (by have:=og i hi;omega)),og,rm.aj hb⟩,
  ⟨b',e',XX,l',o'.iF AtR.aj hs fC (fun i hi=>hk _ (by have:=o'.low i hi;omega) (by have:=XY i hi;omega)),XY,rm'.aj fC⟩,
  ⟨b'',JP,Tq,ZG,o''.aj VG,TY.aj VG⟩,h1,h2,h3,by omega⟩
structure TP(s:Nat)(alive:Bool)(al ad:Value)(X:World)(s1 s2 s3:Value):Prop where
 a2:X.cell? ⟨s,2,none⟩=some al
 a3:X.cell? ⟨s,3,none⟩=some ad
 o0:X.cell? ⟨s+1+1,0,none⟩=some (.bool alive)
 o1:X.cell? ⟨s+1+1,1,none⟩=some s1
 o2:X.cell? ⟨s+1+1,2,none⟩=some s2
 o3:X.cell? ⟨s+1+1,3,none⟩=some s3
 fo:∀j,X.frozen? ⟨s+1+1,j,none⟩=false
 r0:X.cell? ⟨s+1,0,none⟩=some (.bool false)
 r1:X.cell? ⟨s+1,1,none⟩=some (.slice none 0 0)
 r2:X.cell? ⟨s+1,2,none⟩=some (.slice none 0 0)
 r3:X.cell? ⟨s+1,3,none⟩=some (.slice none 0 0)
 fr:∀j,X.frozen? ⟨s+1,j,none⟩=false
 lt:s+2<X.1.size
theorem TP.below{Y:World}(h:TP s alive al ad X s1 s2 s3)(hb:Below X.1.size X Y):TP s alive al ad Y s1 s2 s3:=by
 have l:=h.lt;have ea:=hb.block s (by omega);have er:=hb.block (s+1) (by omega);have eo:=hb.block (s+1+1) (by omega);have c:∀{b j:Nat}{u:Value},Y.1[b]?=X.1[b]?->X.cell? ⟨b,j,none⟩=some u->Y.cell? ⟨b,j,none⟩=some u:=fun {b j u} e h=>(World.cell?_of_block (a:=⟨b,j,none⟩) e).trans h
 exact⟨c ea h.a2,c ea h.a3,c eo h.o0,c eo h.o1,c eo h.o2,c eo h.o3,fun j=>(World.frozen?_of_block (a:=⟨s+1+1,j,none⟩) eo).trans (h.fo j),c er h.r0,c er h.r1,c er h.r2,c er h.r3,fun j=>(World.frozen?_of_block (a:=⟨s+1,j,none⟩) er).trans (h.fr j),Nat.lt_of_lt_of_le l hb.size⟩
theorem TP.set1(h:TP s alive al ad X s1 s2 s3)(v:Value):TP s alive al ad (X.setCell ⟨s+1+1,1,none⟩ v) v s2 s3:=
 ⟨(aI (by show s+1+1≠s;omega) v).trans h.a2,(aI (by show s+1+1≠s;omega) v).trans h.a3,(ae (by omega)).trans h.o0,az h.o1,(ae (by omega)).trans h.o2,(ae (by omega)).trans h.o3,fun j=>by rw[World.frozen?_setCell];exact h.fo j,(aI (by simp) v).trans h.r0,(aI (by simp) v).trans h.r1,(aI (by simp) v).trans h.r2,(aI (by simp) v).trans h.r3,fun j=>by rw[World.frozen?_setCell];exact h.fr j,by simpa[World.setCell]using h.lt⟩
theorem TP.set2(h:TP s alive al ad X s1 s2 s3)(v:Value):TP s alive al ad (X.setCell ⟨s+1+1,2,none⟩ v) s1 v s3:=
 ⟨(aI (by show s+1+1≠s;omega) v).trans h.a2,(aI (by show s+1+1≠s;omega) v).trans h.a3,(ae (by omega)).trans h.o0,(ae (by omega)).trans h.o1,az h.o2,(ae (by omega)).trans h.o3,fun j=>by rw[World.frozen?_setCell];exact h.fo j,(aI (by simp) v).trans h.r0,(aI (by simp) v).trans h.r1,(aI (by simp) v).trans h.r2,(aI (by simp) v).trans h.r3,fun j=>by rw[World.frozen?_setCell];exact h.fr j,by simpa[World.setCell]using h.lt⟩
theorem Bi(w:World)(v:MV)(m:M4)(hk:m.af.length<=1048576)(yP:∀r∈m.af,r.cells.length<=1048576)(hr:m.h.length<=1048576)(ny:∀r∈m.h,r.ag.length<=1048576)(hn:m.ai.length<=1048576)(hs:pF w v m):Calls Tryz.prog 54 #[v.val m] w fun e w'=>
  ∃u B1 B2 B3 gk gr,e=.returned (u.val m)/\Gf w' (w.1.size+3) B1 B2 B3 u m gk gr/\Below w.1.size w w':=by
 obtain⟨ac,cc,al,cl,ad,cd⟩:=v;have H:Hid (pF w ⟨ac,cc,al,cl,ad,cd⟩ m/\(∀r∈m.af,r.cells.length<=1048576)/\(∀r∈m.h,r.ag.length<=1048576)):=⟨hs,yP,ny⟩
 clear hs yP ny;simp only[MV.val]
 have tp:TP w.1.size m.x (.slice al m.h.length cl) (.slice ad m.ai.length cd) (((w.alloc (.cells #[.bool m.x,.slice ac m.af.length cc,.slice al m.h.length cl,.slice ad m.ai.length cd] 81)).alloc (.cells #[.bool false,.slice none 0 0,.slice none 0 0,.slice none 0 0] 92)).alloc (.cells #[.bool m.x,.slice none 0 0,.slice none 0 0,.slice none 0 0] 92)) (.slice none 0 0) (.slice none 0 0) (.slice none 0 0):=by
  refine⟨?_,?_,?_,?_,?_,?_,?_,?_,?_,?_,?_,?_,?_⟩;all_goals first|(intro j;go_simp;done)|(go_simp;done)|(simp;done)
 have bW:Below w.1.size w (((w.alloc (.cells #[.bool m.x,.slice ac m.af.length cc,.slice al m.h.length cl,.slice ad m.ai.length cd] 81)).alloc (.cells #[.bool false,.slice none 0 0,.slice none 0 0,.slice none 0 0] 92)).alloc (.cells #[.bool m.x,.slice none 0 0,.slice none 0 0,.slice none 0 0] 92)):=((aJ.alloc aR _).alloc (by simp) _).alloc (by simp;omega) _;have dQ:(((w.alloc (.cells #[.bool m.x,.slice ac m.af.length cc,.slice al m.h.length cl,.slice ad m.ai.length cd] 81)).alloc (.cells #[.bool false,.slice none 0 0,.slice none 0 0,.slice none 0 0] 92)).alloc (.cells #[.bool m.x,.slice none 0 0,.slice none 0 0,.slice none 0 0] 92)).1.size=w.1.size+3:=by simp
 have TW:Hid (TP w.1.size m.x (.slice al m.h.length cl) (.slice ad m.ai.length cd) (((w.alloc (.cells #[.bool m.x,.slice ac m.af.length cc,.slice al m.h.length cl,.slice ad m.ai.length cd] 81)).alloc (.cells #[.bool false,.slice none 0 0,.slice none 0 0,.slice none 0 0] 92)).alloc (.cells #[.bool m.x,.slice none 0 0,.slice none 0 0,.slice none 0 0] 92)) (.slice none 0 0) (.slice none 0 0) (.slice none 0 0)/\Below w.1.size w (((w.alloc (.cells #[.bool m.x,.slice ac m.af.length cc,.slice al m.h.length cl,.slice ad m.ai.length cd] 81)).alloc (.cells #[.bool false,.slice none 0 0,.slice none 0 0,.slice none 0 0] 92)).alloc (.cells #[.bool m.x,.slice none 0 0,.slice none 0 0,.slice none 0 0] 92))/\(((w.alloc (.cells #[.bool m.x,.slice ac m.af.length cc,.slice al m.h.length cl,.slice ad m.ai.length cd] 81)).alloc (.cells #[.bool false,.slice none 0 0,.slice none 0 0,.slice none 0 0] 92)).alloc (.cells #[.bool m.x,.slice none 0 0,.slice none 0 0,.slice none 0 0] 92)).1.size=w.1.size+3):=⟨tp,bW,dQ⟩
 clear tp bW dQ;go_enter Tryz.func54,Tryz.ntmps54;go_wp2_with fail;generalize ((w.alloc (.cells #[.bool m.x,.slice ac m.af.length cc,.slice al m.h.length cl,.slice ad m.ai.length cd] 81)).alloc (.cells #[.bool false,.slice none 0 0,.slice none 0 0,.slice none 0 0] 92)).alloc (.cells #[.bool m.x,.slice none 0 0,.slice none 0 0,.slice none 0 0] 92)=W at *;refine(FV W ac m.af.length cc m.af hk H.out.2.1 (H.out.1.later TW.out.2.1).k).mono ?_;rintro e w1 ⟨gk,rfl,b1,l1,o1,fp⟩;have t1:=TW.out.1.below b1;have B1:Hid (Below w.1.size w w1/\W.1.size<w1.1.size/\fu 2 pQ vN lD w1 W.1.size W.1.size m.af.length m.af gk/\Room w1 W.1.size (m.af.length*2)):=⟨TW.out.2.1.trans (b1.mono TW.out.2.1.size),l1,o1,fp⟩
 clear b1 l1 o1 fp;have T1:Hid (TP w.1.size m.x (.slice al m.h.length cl) (.slice ad m.ai.length cd) (w1.setCell ⟨w.1.size+1+1,1,none⟩ (.slice (some ⟨W.1.size,0,none⟩) m.af.length m.af.length)) (.slice (some ⟨W.1.size,0,none⟩) m.af.length m.af.length) (.slice none 0 0) (.slice none 0 0)):=t1.set1 _;have a2:=t1.a2;have p1:=t1.o1;have f1:=t1.fo 1;clear t1;have dZ:∀(V:World) (x o:Nat) (u:Value),x≠w.1.size+1+1->(V.setCell ⟨w.1.size+1+1,o,none⟩ u).1[x]?=V.1[x]?:=fun V x o u h=>Below.heap_setCell _ _ _ _ (fun e=>h e)
 have fv:∀(V:World) (p:Addr) (u:Value),(V.setCell p u).1.size=V.1.size:=fun V p u=>by simp[World.setCell]
 have FAR:Hid (∀(V:World) (x o:Nat) (u:Value),x≠w.1.size+1+1->(V.setCell ⟨w.1.size+1+1,o,none⟩ u).1[x]?=V.1[x]?):=dZ;have Vq:Hid (∀(V:World) (p:Addr) (u:Value),(V.setCell p u).1.size=V.1.size):=fv;clear dZ fv;go_wp2_with fail;have hW:=TW.out.2.2
 have K1:Hid (Below w.1.size w (w1.setCell ⟨w.1.size+1+1,1,none⟩ (.slice (some ⟨W.1.size,0,none⟩) m.af.length m.af.length))/\W.1.size<(w1.setCell ⟨w.1.size+1+1,1,none⟩ (.slice (some ⟨W.1.size,0,none⟩) m.af.length m.af.length)).1.size/\fu 2 pQ vN lD (w1.setCell ⟨w.1.size+1+1,1,none⟩ (.slice (some ⟨W.1.size,0,none⟩) m.af.length m.af.length)) W.1.size W.1.size m.af.length m.af gk/\Room (w1.setCell ⟨w.1.size+1+1,1,none⟩ (.slice (some ⟨W.1.size,0,none⟩) m.af.length m.af.length)) W.1.size (m.af.length*2)):=
  ⟨B1.out.1.setCell (p:=⟨w.1.size+1+1,1,none⟩) (by show w.1.size<=w.1.size+1+1;omega) _,by rw[Vq.out];exact B1.out.2.1,B1.out.2.2.1.iF lD.aj (by rw[Vq.out];exact Nat.le_refl _) (FAR.out _ _ _ _ (by omega)) (fun i hi=>FAR.out _ _ _ _ (by have:=B1.out.2.2.1.low i hi;omega)),B1.out.2.2.2.aj (FAR.out _ _ _ _ (by omega))⟩
 clear hW B1 a2 p1 f1;generalize w1.setCell ⟨w.1.size+1+1,1,none⟩ (.slice (some ⟨W.1.size,0,none⟩) m.af.length m.af.length)=X1 at *;refine(Bl X1 al m.h.length cl m.h hr H.out.2.2 (H.out.1.later K1.out.1).r).mono ?_;rintro e w2 ⟨gr,rfl,b2,l2,o2,fs⟩;have t2:=T1.out.below b2
 have B2:Hid (Below w.1.size w w2/\X1.1.size<w2.1.size/\fu 4 oZ xG AtR w2 X1.1.size X1.1.size m.h.length m.h gr/\Room w2 X1.1.size (m.h.length*4)/\fu 2 pQ vN lD w2 W.1.size W.1.size m.af.length m.af gk/\Room w2 W.1.size (m.af.length*2)/\W.1.size<X1.1.size/\(∀i,i<m.af.length->gk i<X1.1.size)):=
  ⟨K1.out.1.trans (b2.mono K1.out.1.size),l2,o2,fs,K1.out.2.2.1.later lD.aj b2 K1.out.2.1,K1.out.2.2.2.below b2 K1.out.2.1,K1.out.2.1,K1.out.2.2.1.lt⟩
 clear b2 l2 o2 fs K1;have T2:Hid (TP w.1.size m.x (.slice al m.h.length cl) (.slice ad m.ai.length cd) (w2.setCell ⟨w.1.size+1+1,2,none⟩ (.slice (some ⟨X1.1.size,0,none⟩) m.h.length m.h.length)) (.slice (some ⟨W.1.size,0,none⟩) m.af.length m.af.length) (.slice (some ⟨X1.1.size,0,none⟩) m.h.length m.h.length) (.slice none 0 0)):=t2.set2 _;have a3:=t2.a3;have p2:=t2.o2;have f2:=t2.fo 2;clear t2 T1;go_wp2_with fail;have hW:=TW.out.2.2
 have K2:Hid (Below w.1.size w (w2.setCell ⟨w.1.size+1+1,2,none⟩ (.slice (some ⟨X1.1.size,0,none⟩) m.h.length m.h.length))/\X1.1.size<(w2.setCell ⟨w.1.size+1+1,2,none⟩ (.slice (some ⟨X1.1.size,0,none⟩) m.h.length m.h.length)).1.size/\fu 4 oZ xG AtR (w2.setCell ⟨w.1.size+1+1,2,none⟩ (.slice (some ⟨X1.1.size,0,none⟩) m.h.length m.h.length)) X1.1.size X1.1.size m.h.length m.h gr/\Room (w2.setCell ⟨w.1.size+1+1,2,none⟩ (.slice (some ⟨X1.1.size,0,none⟩) m.h.length m.h.length)) X1.1.size (m.h.length*4)/\fu 2 pQ vN lD (w2.setCell ⟨w.1.size+1+1,2,none⟩ (.slice (some ⟨X1.1.size,0,none⟩) m.h.length m.h.length)) W.1.size W.1.size m.af.length m.af gk/\Room (w2.setCell ⟨w.1.size+1+1,2,none⟩ (.slice (some ⟨X1.1.size,0,none⟩) m.h.length m.h.length)) W.1.size (m.af.length*2)/\W.1.size<X1.1.size/\(∀i,i<m.af.length->gk i<X1.1.size)):=by
  obtain⟨q1,q2,q3,q4,q5,q6,q7,q8⟩:=B2.out;exact⟨q1.setCell (p:=⟨w.1.size+1+1,2,none⟩) (by show w.1.size<=w.1.size+1+1;omega) _,by rw[Vq.out];exact q2,q3.iF AtR.aj (by rw[Vq.out];exact Nat.le_refl _) (FAR.out _ _ _ _ (by omega)) (fun i hi=>FAR.out _ _ _ _ (by have:=q3.low i hi;omega)),q4.aj (FAR.out _ _ _ _ (by omega)),q5.iF lD.aj (by rw[Vq.out];exact Nat.le_refl _) (FAR.out _ _ _ _ (by omega)) (fun i hi=>FAR.out _ _ _ _ (by have:=q5.low i hi;omega)),q6.aj (FAR.out _ _ _ _ (by omega)),q7,q8⟩
 clear hW B2 a3 p2 f2;generalize w2.setCell ⟨w.1.size+1+1,2,none⟩ (.slice (some ⟨X1.1.size,0,none⟩) m.h.length m.h.length)=X2 at *;refine(uJ X2 ad m.ai.length cd m.ai hn (H.out.1.later K2.out.1).n).mono ?_;rintro e w3 ⟨rfl,b3,l3,o3,ft⟩;have t3:=T2.out.below b3;have B3:Hid (Below w.1.size w w3/\X2.1.size<w3.1.size/\dV w3 X2.1.size 0 m.ai/\Room w3 X2.1.size m.ai.length/\Below X2.1.size X2 w3):=⟨K2.out.1.trans (b3.mono K2.out.1.size),l3,o3,ft,b3⟩
 clear b3 l3 o3 ft T2;have p0:=t3.o0;have p1:=t3.o1;have p2:=t3.o2;have p3:=t3.o3;have f3:=t3.fo 3;have x0:=t3.r0;have x1:=t3.r1;have x2:=t3.r2;have x3:=t3.r3;have y0:=t3.fr 0;have y1:=t3.fr 1;have y2:=t3.fr 2;have y3:=t3.fr 3;clear t3;go_wp2;obtain⟨F,hF⟩:∃F,(((((w3.setCell ⟨w.1.size+1+1,3,none⟩ (.slice (some ⟨X2.1.size,0,none⟩) m.ai.length m.ai.length)).setCell ⟨w.1.size+1,0,none⟩ (.bool m.x)).setCell ⟨w.1.size+1,1,none⟩ (.slice (some ⟨W.1.size,0,none⟩) m.af.length m.af.length)).setCell ⟨w.1.size+1,2,none⟩ (.slice (some ⟨X1.1.size,0,none⟩) m.h.length m.h.length)).setCell ⟨w.1.size+1,3,none⟩ (.slice (some ⟨X2.1.size,0,none⟩) m.ai.length m.ai.length))=F:=⟨_,rfl⟩
 have g0:F.cell? ⟨w.1.size+1,0,none⟩=some (.bool m.x):=by
  rw[<-hF,ae (by omega),ae (by omega),ae (by omega)];exact az (by rw[aI (by simp)];exact x0)
 have g1:F.cell? ⟨w.1.size+1,1,none⟩=some (.slice (some ⟨W.1.size,0,none⟩) m.af.length m.af.length):=by
  rw[<-hF,ae (by omega),ae (by omega)];exact az (by rw[ae (by omega),aI (by simp)];exact x1)
 have g2:F.cell? ⟨w.1.size+1,2,none⟩=some (.slice (some ⟨X1.1.size,0,none⟩) m.h.length m.h.length):=by
  rw[<-hF,ae (by omega)];exact az (by rw[ae (by omega),ae (by omega),aI (by simp)];exact x2)
 have g3:F.cell? ⟨w.1.size+1,3,none⟩=some (.slice (some ⟨X2.1.size,0,none⟩) m.ai.length m.ai.length):=by
  rw[<-hF];exact az (by rw[ae (by omega),ae (by omega),ae (by omega),aI (by simp)];exact x3)
 have sF:F.1.size=w3.1.size:=by rw[<-hF];simp[World.setCell]
 have eF:∀x,x≠w.1.size+1->x≠w.1.size+1+1->F.1[x]?=w3.1[x]?:=fun x h1 h2=>by
  rw[<-hF];exact(Below.heap_setCell _ _ _ _ (fun e=>h1 e)).trans ((Below.heap_setCell _ _ _ _ (fun e=>h1 e)).trans ((Below.heap_setCell _ _ _ _ (fun e=>h1 e)).trans ((Below.heap_setCell _ _ _ _ (fun e=>h1 e)).trans (Below.heap_setCell _ _ _ _ (fun e=>h2 e)))))
 have bF:Below w.1.size w F:=by
  rw[<-hF];exact((((B3.out.1.setCell (p:=⟨w.1.size+1+1,3,none⟩) (by show w.1.size<=w.1.size+1+1;omega) _).setCell (p:=⟨w.1.size+1,0,none⟩) (by show w.1.size<=w.1.size+1;omega) _).setCell (p:=⟨w.1.size+1,1,none⟩) (by show w.1.size<=w.1.size+1;omega) _).setCell (p:=⟨w.1.size+1,2,none⟩) (by show w.1.size<=w.1.size+1;omega) _).setCell (p:=⟨w.1.size+1,3,none⟩) (by show w.1.size<=w.1.size+1;omega) _
 rw[hF];refine bodyPost_ret (v:=.agg #[.bool m.x,.slice (some ⟨W.1.size,0,none⟩) m.af.length m.af.length,.slice (some ⟨X1.1.size,0,none⟩) m.h.length m.h.length,.slice (some ⟨X2.1.size,0,none⟩) m.ai.length m.ai.length]) (by simp[results,Tryz.results54,go_sem,g0,g1,g2,g3]) rfl ?_;have hW:=TW.out.2.2;obtain⟨q1,q2,q3,q4,q5,q6,q7,q8⟩:=K2.out;obtain⟨z1,z2,z3,z4,z5⟩:=B3.out
 have m1:Gf w3 (w.1.size+3) X1.1.size X2.1.size w3.1.size ⟨some ⟨W.1.size,0,none⟩,m.af.length,some ⟨X1.1.size,0,none⟩,m.h.length,some ⟨X2.1.size,0,none⟩,m.ai.length⟩ m gk gr:=
  ⟨⟨W.1.size,rfl,by omega,q7,by rw[<-hW];exact q5.later lD.aj z5 (by omega),q8,q6.below z5 (by omega)⟩,⟨X1.1.size,rfl,Nat.le_refl _,q2,q3.later AtR.aj z5 q2,q3.lt,q4.below z5 q2⟩,⟨X2.1.size,rfl,Nat.le_refl _,z2,z3,z4⟩,by omega,Nat.le_of_lt q2,Nat.le_of_lt z2,Nat.le_refl _⟩
 exact⟨⟨some ⟨W.1.size,0,none⟩,m.af.length,some ⟨X1.1.size,0,none⟩,m.h.length,some ⟨X2.1.size,0,none⟩,m.ai.length⟩,X1.1.size,X2.1.size,w3.1.size,gk,gr,rfl,m1.kept (by omega) (fun q h1 h2=>eF q (by omega) (by omega)),bF⟩
end
end Go.Proofs.YtalnmfefmiapoaaGreatDoor
