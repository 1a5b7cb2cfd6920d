import Derived.Test.YtalnmfefmiapoaaGreatDoorJ1Read
import Derived.TacticsInMore
set_option maxHeartbeats 16000000
set_option maxRecDepth 100000
namespace Go.Proofs.YtalnmfefmiapoaaGreatDoor
open Go.RowKit
open Go.Sort (grow)
theorem Nh:(Tryz.prog.info? 50).map (fun i=>(i.zero,i.size,i.bytes))=some (some (.agg #[vI 0,vI 0,vI 0,vI 0,.slice none 0 0,.slice none 0 0,vI 0]),7,88):=by kernel_rfl
theorem Nt(n:Nat)(hn:n<=1048576)(w:World):(Instr.makeSlice 30 (vI (n:Int)) (vI (n:Int))).run Tryz.prog w=.ok (.slice (some ⟨w.1.size,0,none⟩) n n) (w.alloc (.cells (madeCells #[vI 0,vI 0,vI 0,vI 0,.slice none 0 0,.slice none 0 0,vI 0] (n*7)) 50)):=by
 obtain⟨i,hi,mR⟩:=Option.map_eq_some_iff.1 Nh;simp only[Prod.mk.injEq]at mR;obtain⟨hz,hs,hb⟩:=mR;have:=run_make (P:=Tryz.prog) w 30 50 i _ Tryz.underlying30 hi hz .i64 .i64 (n:Int) (n:Int) (by omega) (by omega) (by rw[hb];omega) (by omega);rw[hs]at this;simpa[Value.cells]using this
theorem uR.to(w:World)(a:Option Addr)(cap:Nat)(xs:List tx.T7)(hn:xs.length<=1048576)(ht:∀d∈xs,KT.S d)(hs:fQ.qM w a xs):Calls Tryz.prog 20 #[.slice a xs.length cap] w fun e w'=>
  ∃P,e=.returned (.slice (some ⟨w.1.size,0,none⟩) xs.length xs.length)/\fQ.nP w' w.1.size (some ⟨w.1.size,0,none⟩) xs P/\Below w.1.size w w':=by
 have nX:=Nt xs.length hn;go_enter Tryz.func20,Tryz.ntmps20;go_wp2;go_loopw[4] (fun i wr=>∃(j:Nat) (g:Nat->Nat->Prop),j<=xs.length/\i=vI j/\Below w.1.size w wr/\w.1.size<wr.1.size/\fQ.Part wr w.1.size w.1.size xs.length (xs.take j) g) (fun i _=>xs.length-(intOf i).toNat)
 case atStart=>exact⟨0,fun _ _=>False,Nat.zero_le _,rfl,aJ.alloc aR _,by simp,by rw[List.take_zero];exact Kd.Part.nil _ _ (gU _ _ _ _)⟩
 case round=>
  obtain⟨j,g,hj,rfl,aF,dQ,vE⟩:=hrel;by_cases aN:j<xs.length
  ·obtain⟨d,hd⟩:∃d,xs[j]?=some d:=⟨_,List.getElem?_eq_getElem aN⟩
   rcases hs with hs|⟨b,off,rfl,hb,h1⟩
   ·rw[hs]at aN;simp at aN
   obtain⟨⟨c0,c1,c2,c3⟩,bg,fM⟩:=h1 j d hd;have e0:wr.cell? ⟨b,off+j*7,none⟩=some (vI d.id):=(aF.cell (p:=⟨b,off+j*7,none⟩) hb).trans (bg 0 _ rfl);have e1:wr.cell? ⟨b,off+j*7+1,none⟩=some (vI d.o):=(aF.cell (p:=⟨b,off+j*7+1,none⟩) hb).trans (bg 1 _ rfl);have e2:wr.cell? ⟨b,off+j*7+2,none⟩=some (vI d.q):=(aF.cell (p:=⟨b,off+j*7+2,none⟩) hb).trans (bg 2 _ rfl);have e3:wr.cell? ⟨b,off+j*7+3,none⟩=some (vI d.v):=(aF.cell (p:=⟨b,off+j*7+3,none⟩) hb).trans (bg 3 _ rfl);have e4:wr.cell? ⟨b,off+j*7+4,none⟩=some (.slice c0 d.a.length c1):=(aF.cell (p:=⟨b,off+j*7+4,none⟩) hb).trans (bg 4 _ rfl);have e5:wr.cell? ⟨b,off+j*7+5,none⟩=some (.slice c2 d.ag.length c3):=(aF.cell (p:=⟨b,off+j*7+5,none⟩) hb).trans (bg 5 _ rfl);have e6:wr.cell? ⟨b,off+j*7+6,none⟩=some (vI d.aA):=(aF.cell (p:=⟨b,off+j*7+6,none⟩) hb).trans (bg 6 _ rfl);have iM:=KT.to wr c0 c1 c2 c3 d (ht d (List.mem_of_getElem? hd)) (fQ.later fM aF);have KH:Hid (fQ.Part wr w.1.size w.1.size xs.length (xs.take j) g/\Below w.1.size w wr/\w.1.size<wr.1.size/\xs.take (j+1)=xs.take j++[d]/\(xs.take j).length=j):=⟨vE,aF,dQ,by rw[List.take_add_one,hd];rfl,by rw[List.length_take];omega⟩
   have jn:(j:Int)<(xs.length:Int):=by omega
   clear vE aF nX h1 ht bg fM hd;go_wp2_with fail;refine iM.mono ?_;clear iM e0 e1 e2 e3 e4 e5 e6;rintro e w1 ⟨u0,u1,u2,u3,P,rfl,ho,b1⟩;have OL:=KH.out.1.later b1 KH.out.2.2.1;have pV:=OL.rm;have Y9:j*7+7<=xs.length*7:=by omega
   obtain⟨z0,d0,f0⟩:∃v,w1.cell? ⟨w.1.size,j*7,none⟩=some v/\w1.frozen? ⟨w.1.size,j*7,none⟩=false:=pV (j*7+0) (show _<xs.length*7 by omega);obtain⟨z1,d1,f1⟩:∃v,w1.cell? ⟨w.1.size,j*7+1,none⟩=some v/\w1.frozen? ⟨w.1.size,j*7+1,none⟩=false:=pV (j*7+1) (show _<xs.length*7 by omega);obtain⟨z2,d2,f2⟩:∃v,w1.cell? ⟨w.1.size,j*7+2,none⟩=some v/\w1.frozen? ⟨w.1.size,j*7+2,none⟩=false:=pV (j*7+2) (show _<xs.length*7 by omega);obtain⟨z3,d3,f3⟩:∃v,w1.cell? ⟨w.1.size,j*7+3,none⟩=some v/\w1.frozen? ⟨w.1.size,j*7+3,none⟩=false:=pV (j*7+3) (show _<xs.length*7 by omega);obtain⟨z4,d4,f4⟩:∃v,w1.cell? ⟨w.1.size,j*7+4,none⟩=some v/\w1.frozen? ⟨w.1.size,j*7+4,none⟩=false:=pV (j*7+4) (show _<xs.length*7 by omega);obtain⟨z5,d5,f5⟩:∃v,w1.cell? ⟨w.1.size,j*7+5,none⟩=some v/\w1.frozen? ⟨w.1.size,j*7+5,none⟩=false:=pV (j*7+5) (show _<xs.length*7 by omega);obtain⟨z6,d6,f6⟩:∃v,w1.cell? ⟨w.1.size,j*7+6,none⟩=some v/\w1.frozen? ⟨w.1.size,j*7+6,none⟩=false:=pV (j*7+6) (show _<xs.length*7 by omega);have K1:Hid (fQ.Part w1 w.1.size w.1.size xs.length (xs.take j) g/\fQ.Ow w1 wr.1.size ⟨u0,u1,u2,u3⟩ d P/\Below wr.1.size wr w1):=⟨OL,ho,b1⟩
   clear OL ho b1 pV Y9;go_wp2;obtain⟨k1,k2,k3,k4,k5⟩:=KH.out;obtain⟨p1,p2,p3⟩:=K1.out;have Wi:=p1.push (by omega) ⟨u0,u1,u2,u3⟩ d P (fQ.low p2 (Nat.le_of_lt k3)) (fun q hq=>by have:=(fQ.of p2 hq).1;omega) (fun i q hi hq PL=>by have:=(k1.gq hi hq).2;have:=(fQ.of p2 PL).1;omega);rw[k5,<-k4]at Wi;have VJ:Below w.1.size w (di w1 w.1.size (j*7) (tx.iC u0 u1 u2 u3 d)):=aU aR _ _ _ (k2.trans (p3.mono k2.size));have SY:w.1.size<(di w1 w.1.size (j*7) (tx.iC u0 u1 u2 u3 d)).1.size:=by rw[bf];exact Nat.lt_of_lt_of_le k3 p3.size
   exact⟨⟨j+1,_,by omega,by simp,VJ,SY,Wi⟩,by simp[intOf];omega⟩
  ·obtain rfl:j=xs.length:=by omega
   have hd:decide ((xs.length:Int)<(xs.length:Int))=false:=by simp
   rw[List.take_length]at vE;have KH:Hid (fQ.Part wr w.1.size w.1.size xs.length xs g/\Below w.1.size w wr/\w.1.size<wr.1.size):=⟨vE,aF,dQ⟩
   clear vE aF hs nX ht;go_wp2;go_ret;exact⟨_,rfl,KH.out.1.own aR KH.out.2.2,KH.out.2.1⟩
theorem uR.eq(w:World)(a a':Option Addr)(cap aZ:Nat)(xs:List tx.T7)(hn:xs.length<=1048576)(ht:∀d∈xs,KT.S d)(h1:fQ.qM w a xs)(h2:fQ.qM w a' xs):Calls Tryz.prog 30 #[.slice a xs.length cap,.slice a' xs.length aZ] w fun e w'=>e=.returned (.bool true)/\Below w.1.size w w':=by
 go_enter Tryz.func30,Tryz.ntmps30;go_wp2;go_loopw[5] (fun i wr=>∃j:Nat,j<=xs.length/\i=vI j/\Below w.1.size w wr) (fun i _=>xs.length-(intOf i).toNat)
 case atStart=>exact⟨0,Nat.zero_le _,rfl,aJ⟩
 case round=>
  obtain⟨j,hj,rfl,aF⟩:=hrel;by_cases aN:j<xs.length
  ·obtain⟨d,hd⟩:∃d,xs[j]?=some d:=⟨_,List.getElem?_eq_getElem aN⟩
   rcases h1 with h1|⟨b,off,rfl,hb,h1⟩
   ·rw[h1]at aN;simp at aN
   ·rcases h2 with h2|⟨b',bG,rfl,fC,h2⟩
    ·rw[h2]at aN;simp at aN
    ·obtain⟨⟨c0,c1,c2,c3⟩,bg,fM⟩:=h1 j d hd;obtain⟨⟨b0,b1,b2,b3⟩,qI,pU⟩:=h2 j d hd;have x0:∀dd os,(grow (redrawn wr dd) os).cell? ⟨b,off+j*7,none⟩=some (vI d.id):=fun dd os=>((below_regrown wr dd os).cell (p:=⟨b,off+j*7,none⟩) (Nat.lt_of_lt_of_le hb aF.size)).trans ((aF.cell (p:=⟨b,off+j*7,none⟩) hb).trans (bg 0 _ rfl))
     have x1:∀dd os,(grow (redrawn wr dd) os).cell? ⟨b,off+j*7+1,none⟩=some (vI d.o):=fun dd os=>((below_regrown wr dd os).cell (p:=⟨b,off+j*7+1,none⟩) (Nat.lt_of_lt_of_le hb aF.size)).trans ((aF.cell (p:=⟨b,off+j*7+1,none⟩) hb).trans (bg 1 _ rfl))
     have x2:∀dd os,(grow (redrawn wr dd) os).cell? ⟨b,off+j*7+2,none⟩=some (vI d.q):=fun dd os=>((below_regrown wr dd os).cell (p:=⟨b,off+j*7+2,none⟩) (Nat.lt_of_lt_of_le hb aF.size)).trans ((aF.cell (p:=⟨b,off+j*7+2,none⟩) hb).trans (bg 2 _ rfl))
     have x3:∀dd os,(grow (redrawn wr dd) os).cell? ⟨b,off+j*7+3,none⟩=some (vI d.v):=fun dd os=>((below_regrown wr dd os).cell (p:=⟨b,off+j*7+3,none⟩) (Nat.lt_of_lt_of_le hb aF.size)).trans ((aF.cell (p:=⟨b,off+j*7+3,none⟩) hb).trans (bg 3 _ rfl))
     have x4:∀dd os,(grow (redrawn wr dd) os).cell? ⟨b,off+j*7+4,none⟩=some (.slice c0 d.a.length c1):=fun dd os=>((below_regrown wr dd os).cell (p:=⟨b,off+j*7+4,none⟩) (Nat.lt_of_lt_of_le hb aF.size)).trans ((aF.cell (p:=⟨b,off+j*7+4,none⟩) hb).trans (bg 4 _ rfl))
     have x5:∀dd os,(grow (redrawn wr dd) os).cell? ⟨b,off+j*7+5,none⟩=some (.slice c2 d.ag.length c3):=fun dd os=>((below_regrown wr dd os).cell (p:=⟨b,off+j*7+5,none⟩) (Nat.lt_of_lt_of_le hb aF.size)).trans ((aF.cell (p:=⟨b,off+j*7+5,none⟩) hb).trans (bg 5 _ rfl))
     have x6:∀dd os,(grow (redrawn wr dd) os).cell? ⟨b,off+j*7+6,none⟩=some (vI d.aA):=fun dd os=>((below_regrown wr dd os).cell (p:=⟨b,off+j*7+6,none⟩) (Nat.lt_of_lt_of_le hb aF.size)).trans ((aF.cell (p:=⟨b,off+j*7+6,none⟩) hb).trans (bg 6 _ rfl))
     have y0:∀dd os,(grow (redrawn wr dd) os).cell? ⟨b',bG+j*7,none⟩=some (vI d.id):=fun dd os=>((below_regrown wr dd os).cell (p:=⟨b',bG+j*7,none⟩) (Nat.lt_of_lt_of_le fC aF.size)).trans ((aF.cell (p:=⟨b',bG+j*7,none⟩) fC).trans (qI 0 _ rfl))
     have y1:∀dd os,(grow (redrawn wr dd) os).cell? ⟨b',bG+j*7+1,none⟩=some (vI d.o):=fun dd os=>((below_regrown wr dd os).cell (p:=⟨b',bG+j*7+1,none⟩) (Nat.lt_of_lt_of_le fC aF.size)).trans ((aF.cell (p:=⟨b',bG+j*7+1,none⟩) fC).trans (qI 1 _ rfl))
     have y2:∀dd os,(grow (redrawn wr dd) os).cell? ⟨b',bG+j*7+2,none⟩=some (vI d.q):=fun dd os=>((below_regrown wr dd os).cell (p:=⟨b',bG+j*7+2,none⟩) (Nat.lt_of_lt_of_le fC aF.size)).trans ((aF.cell (p:=⟨b',bG+j*7+2,none⟩) fC).trans (qI 2 _ rfl))
     have y3:∀dd os,(grow (redrawn wr dd) os).cell? ⟨b',bG+j*7+3,none⟩=some (vI d.v):=fun dd os=>((below_regrown wr dd os).cell (p:=⟨b',bG+j*7+3,none⟩) (Nat.lt_of_lt_of_le fC aF.size)).trans ((aF.cell (p:=⟨b',bG+j*7+3,none⟩) fC).trans (qI 3 _ rfl))
     have y4:∀dd os,(grow (redrawn wr dd) os).cell? ⟨b',bG+j*7+4,none⟩=some (.slice b0 d.a.length b1):=fun dd os=>((below_regrown wr dd os).cell (p:=⟨b',bG+j*7+4,none⟩) (Nat.lt_of_lt_of_le fC aF.size)).trans ((aF.cell (p:=⟨b',bG+j*7+4,none⟩) fC).trans (qI 4 _ rfl))
     have y5:∀dd os,(grow (redrawn wr dd) os).cell? ⟨b',bG+j*7+5,none⟩=some (.slice b2 d.ag.length b3):=fun dd os=>((below_regrown wr dd os).cell (p:=⟨b',bG+j*7+5,none⟩) (Nat.lt_of_lt_of_le fC aF.size)).trans ((aF.cell (p:=⟨b',bG+j*7+5,none⟩) fC).trans (qI 5 _ rfl))
     have y6:∀dd os,(grow (redrawn wr dd) os).cell? ⟨b',bG+j*7+6,none⟩=some (vI d.aA):=fun dd os=>((below_regrown wr dd os).cell (p:=⟨b',bG+j*7+6,none⟩) (Nat.lt_of_lt_of_le fC aF.size)).trans ((aF.cell (p:=⟨b',bG+j*7+6,none⟩) fC).trans (qI 6 _ rfl))
     have cQ:∀dd os,Calls Tryz.prog 68 #[.agg #[vI d.id,vI d.o,vI d.q,vI d.v,.slice c0 d.a.length c1,.slice c2 d.ag.length c3,vI d.aA],.agg #[vI d.id,vI d.o,vI d.q,vI d.v,.slice b0 d.a.length b1,.slice b2 d.ag.length b3,vI d.aA]] (grow (redrawn wr dd) os) fun e fq=>e=.returned (.bool true)/\∃p:Regrown,fq=grow (redrawn wr p.d) p.os:=fun dd os=>Calls.regrown_of (KT.eq _ c0 c1 c2 c3 b0 b1 b2 b3 d (ht d (List.mem_of_getElem? hd)) (fQ.later fM (aF.trans ((below_regrown wr dd os).mono aF.size))) (fQ.later pU (aF.trans ((below_regrown wr dd os).mono aF.size))))
     have K:Hid (Below w.1.size w wr):=aF;have jn:(j:Int)<(xs.length:Int):=by omega
     clear bg qI fM pU aF h1 h2 ht hd;go_wp2_with fail;refine wp_region_quiet_below (by kernel_rfl) (by kernel_rfl) ?_;repeat (go_big_quiet_step (exact cQ _ _))
     refine wpQuiet_nil ?_;intro _ dD;obtain⟨⟨dq,bI⟩,aT⟩:=dD;subst aT;have bq:=below_regrown wr dq bI;go_wp2;exact⟨⟨j+1,by omega,by simp,K.out.trans (bq.mono K.out.size)⟩,by simp[intOf];omega⟩
  ·obtain rfl:j=xs.length:=by omega
   have hd:decide ((xs.length:Int)<(xs.length:Int))=false:=by simp
   clear h1 h2 ht;go_wp2;go_ret;exact⟨rfl,aF⟩
def uR.l9(xs:List tx.T7):Nat:=(xs.map fun d=>tx.yn d).sum
theorem uR.sz(w:World)(a:Option Addr)(cap:Nat)(xs:List tx.T7)(l:Nat)(Gw:l<=1048576)(hn:xs.length<=maxLen)(hl:∀d∈xs,tx.TL d)(hs:fQ.qM w a xs):
  Calls Tryz.prog 13 #[.slice a xs.length cap,vI (l:Int)] w fun e w'=>e=.returned (vI (fK l (xs.length+uR.l9 xs)))/\Below w.1.size w w':=by
 have Ey:=hn;unfold maxLen at Ey;by_cases h0:xs.length<=l
 ·have d0:decide ((l:Int)-(xs.length:Int)<0)=false:=by simp;omega
  go_enter Tryz.func13,Tryz.ntmps13;go_wp2;go_loopw[1,5] (fun v1 v5 wr=>∃j:Nat,j<=xs.length/\v5=vI j/\xs.length+uR.l9 (xs.take j)<=l/\v1=vI ((l-(xs.length+uR.l9 (xs.take j)):Nat):Int)/\Below w.1.size w wr) (fun _ v5 _=>xs.length-(intOf v5).toNat)
  case atStart=>exact⟨0,Nat.zero_le _,rfl,by simpa[uR.l9]using h0,by simp[uR.l9];try omega,aJ⟩
  case round=>
   obtain⟨j,hj,rfl,hle,rfl,aF⟩:=hrel;have KL:Hid (xs.length+uR.l9 (xs.take j)<=l):=hle;by_cases aN:j<xs.length
   ·obtain⟨d,hd⟩:∃d,xs[j]?=some d:=⟨_,List.getElem?_eq_getElem aN⟩
    rcases hs with hs|⟨b,off,rfl,hb,h1⟩
    ·rw[hs]at aN;simp at aN
    obtain⟨⟨c0,c1,c2,c3⟩,bg,fM⟩:=h1 j d hd;have e0:wr.cell? ⟨b,off+j*7,none⟩=some (vI d.id):=(aF.cell (p:=⟨b,off+j*7,none⟩) hb).trans (bg 0 _ rfl);have e1:wr.cell? ⟨b,off+j*7+1,none⟩=some (vI d.o):=(aF.cell (p:=⟨b,off+j*7+1,none⟩) hb).trans (bg 1 _ rfl);have e2:wr.cell? ⟨b,off+j*7+2,none⟩=some (vI d.q):=(aF.cell (p:=⟨b,off+j*7+2,none⟩) hb).trans (bg 2 _ rfl);have e3:wr.cell? ⟨b,off+j*7+3,none⟩=some (vI d.v):=(aF.cell (p:=⟨b,off+j*7+3,none⟩) hb).trans (bg 3 _ rfl);have e4:wr.cell? ⟨b,off+j*7+4,none⟩=some (.slice c0 d.a.length c1):=(aF.cell (p:=⟨b,off+j*7+4,none⟩) hb).trans (bg 4 _ rfl);have e5:wr.cell? ⟨b,off+j*7+5,none⟩=some (.slice c2 d.ag.length c3):=(aF.cell (p:=⟨b,off+j*7+5,none⟩) hb).trans (bg 5 _ rfl);have e6:wr.cell? ⟨b,off+j*7+6,none⟩=some (vI d.aA):=(aF.cell (p:=⟨b,off+j*7+6,none⟩) hb).trans (bg 6 _ rfl);have hz:=KT.ZO wr c0 c1 c2 c3 d (l-(xs.length+uR.l9 (xs.take j))) (by omega) (hl d (List.mem_of_getElem? hd))
    have Cs:Hid (uR.l9 (xs.take (j+1))=uR.l9 (xs.take j)+tx.yn d):=by
     unfold Hid uR.l9;rw[List.map_take,List.map_take];exact jy (by rw[List.getElem?_map,hd];rfl)
    have OW:Hid (uR.l9 (xs.take (j+1))<=uR.l9 xs):=by unfold Hid uR.l9;rw[List.map_take];exact kK _ _
    have KB:Hid (Below w.1.size w wr):=aF;have jn:(j:Int)<(xs.length:Int):=by omega
    generalize XH:uR.l9 (xs.take j)=LL at *;generalize tx.yn d=m at *;clear h1 aF hl hle bg fM hd;by_cases tT:m<=l-(xs.length+LL)
    ·rw[bO tT]at hz;have d1:decide (((l-(xs.length+LL)-m:Nat):Int)<0)=false:=by simp
     go_wp2_with fail;refine hz.mono ?_;clear hz;rintro e w1 ⟨rfl,b1⟩;go_wp2;have h1:=KL.out;refine⟨⟨j+1,by omega,by simp,by rw[Cs.out];omega,by rw[Cs.out];congr 2;omega,KB.out.trans (b1.mono KB.out.size)⟩,by simp[intOf];omega⟩
    ·rw[bH tT]at hz;go_wp2_with fail;refine hz.mono ?_;clear hz;rintro e w1 ⟨rfl,b1⟩;go_wp2;go_ret;have h2:=Cs.out;have h3:=OW.out;refine⟨by rw[bH (by omega)];rfl,KB.out.trans (b1.mono KB.out.size)⟩
   ·obtain rfl:j=xs.length:=by omega
    have hd:decide ((xs.length:Int)<(xs.length:Int))=false:=by simp
    rw[List.take_length]at hle ⊢;clear hs hl KL;go_wp2;go_ret;exact⟨by rw[bO hle];rfl,aF⟩
 ·have d0:decide ((l:Int)-(xs.length:Int)<0)=true:=by simp;omega
  go_enter Tryz.func13,Tryz.ntmps13;go_wp2;go_ret;exact⟨by rw[bH (by omega)];rfl,aJ⟩
section
variable {a:Option Addr}{aO:List (List Int)}{g:Nat->Nat}{n:Nat}{w:World}
def mF(w:World)(base:Nat)(a:Option Addr)(n:Nat)(aO:List (List Int))(g:Nat->Nat):Prop:=
 (a=none/\n=0/\aO=[])\/∃b,a=some ⟨b,0,none⟩/\base<=b/\b<w.1.size/\kE w base b n aO g
theorem mF.sl{w:World}{base:Nat}{a:Option Addr}{n:Nat}{aO:List (List Int)}{g:Nat->Nat}(h:mF w base a n aO g):uS w w.1.size a n aO:=by
 rcases h with ⟨rfl,rfl,rfl⟩|⟨b,rfl,_,hb,ho⟩
 ·exact⟨rfl,.inl rfl⟩
 ·exact ho.sl hb
theorem mF.later{w w':World}{base:Nat}{a:Option Addr}{n:Nat}{aO:List (List Int)}{g:Nat->Nat}(h:mF w base a n aO g)(hb:Below w.1.size w w'):mF w' base a n aO g:=by
 rcases h with h|⟨b,rfl,Ep,ky,ho⟩
 ·exact .inl h
 ·exact .inr ⟨b,rfl,Ep,Nat.lt_of_lt_of_le ky hb.size,ho.later hb ky⟩
theorem mF.low{w:World}{base:Nat}{a:Option Addr}{n:Nat}{aO:List (List Int)}{g:Nat->Nat}(h:mF w base a n aO g):∀i,i<n->base<=g i:=by
 rcases h with ⟨_,rfl,_⟩|⟨b,rfl,_,_,ho⟩
 ·intro i hi;omega
 ·exact ho.low
theorem mF.lt{w:World}{base:Nat}{a:Option Addr}{n:Nat}{aO:List (List Int)}{g:Nat->Nat}(h:mF w base a n aO g):∀i,i<n->g i<w.1.size:=by
 rcases h with ⟨_,rfl,_⟩|⟨b,rfl,_,_,ho⟩
 ·intro i hi;omega
 ·exact ho.lt
theorem mF.kept{w':World}{base:Nat}(h:mF w base a n aO g)(hs:w.1.size<=w'.1.size)(eb:∀b,a=some ⟨b,0,none⟩->w'.1[b]?=w.1[b]?)(eg:∀i,i<n->w'.1[g i]?=w.1[g i]?):mF w' base a n aO g:=by
 rcases h with h|⟨b,rfl,Ep,ky,ho⟩
 ·exact .inl h
 ·exact .inr ⟨b,rfl,Ep,Nat.lt_of_lt_of_le ky hs,ho.iF hs (eb b rfl) eg⟩
theorem mF.lower{base base':Nat}(h:mF w base a n aO g)(hb:base'<=base):mF w base' a n aO g:=by
 rcases h with h|⟨b,e,h1,h2,o⟩
 ·exact .inl h
 ·exact .inr ⟨b,e,Nat.le_trans hb h1,h2,⟨o.len,o.cell,fun i hi=>Nat.le_trans hb (o.low i hi),o.lt,o.ne,o.nums,o.room,o.inj⟩⟩
end
theorem FY(w:World)(a:Option Addr)(n cap:Nat)(zs:List Int)(hn:n<=1048576)(hs:mP w w.1.size a n zs):Calls Tryz.prog 53 #[.agg #[.slice a n cap]] w fun e w'=>
  ∃g,e=.returned (.agg #[.slice (some ⟨g,0,none⟩) n n])/\Below w.1.size w w'/\w.1.size<=g/\g<w'.1.size/\dV w' g 0 zs/\Room w' g n:=by
 go_enter Tryz.func53,Tryz.ntmps53;go_wp2_with fail;obtain⟨W,hW⟩:∃W,W=((w.alloc (.cells #[.slice a n cap] 76)).alloc (.cells #[.slice none 0 0] 93)).alloc (.cells #[.slice none 0 0] 93):=⟨_,rfl⟩
 have bW:Below w.1.size w W:=by rw[hW];exact((aJ.alloc aR _).alloc (by simp) _).alloc (by simp;omega) _
 have zW:W.1.size=w.1.size+3:=by rw[hW];simp
 have c1:W.cell? ⟨w.1.size+1,0,none⟩=some (.slice none 0 0):=by rw[hW];go_simp
 have c2:W.cell? ⟨w.1.size+2,0,none⟩=some (.slice none 0 0):=by rw[hW];go_simp
 have f1:W.frozen? ⟨w.1.size+1,0,none⟩=false:=by rw[hW];go_simp
 have f2:W.frozen? ⟨w.1.size+2,0,none⟩=false:=by rw[hW];go_simp
 rw[<-hW];clear hW;refine(uJ W a n cap zs hn (hs.later bW)).mono ?_;rintro e w1 ⟨rfl,b1,l1,n1,r1⟩;have c1:=(b1.cell (p:=⟨w.1.size+1,0,none⟩) (by simp;omega)).trans c1;have c2:=(b1.cell (p:=⟨w.1.size+2,0,none⟩) (by simp;omega)).trans c2;have f1:=(b1.frozen (p:=⟨w.1.size+1,0,none⟩) (by simp;omega)).trans f1;have f2:=(b1.frozen (p:=⟨w.1.size+2,0,none⟩) (by simp;omega)).trans f2;have K:Hid (Below w.1.size w w1/\W.1.size<w1.1.size/\dV w1 W.1.size 0 zs/\Room w1 W.1.size n/\W.1.size=w.1.size+3):=⟨bW.trans (b1.mono bW.size),l1,n1,r1,zW⟩
 clear bW zW b1 l1 n1 r1 hs;generalize W.1.size=g at *;go_wp2;refine bodyPost_ret (v:=.agg #[.slice (some ⟨g,0,none⟩) n n]) (by simp[results,Tryz.results53,go_sem,c1]) rfl ?_;obtain⟨b1,l1,n1,r1,zW⟩:=K.out;have dZ:∀(V:World) (q o:Nat) (v:Value),q≠g->(V.setCell ⟨q,o,none⟩ v).1[g]?=V.1[g]?:=fun V q o v h=>Below.heap_setCell _ _ _ _ (fun e=>h e.symm)
 have he:=(dZ (w1.setCell ⟨w.1.size+2,0,none⟩ (.slice (some ⟨g,0,none⟩) n n)) (w.1.size+1) 0 (.slice (some ⟨g,0,none⟩) n n) (by omega)).trans (dZ w1 (w.1.size+2) 0 (.slice (some ⟨g,0,none⟩) n n) (by omega));exact⟨g,rfl,(b1.setCell (p:=⟨w.1.size+2,0,none⟩) (by simp) _).setCell (p:=⟨w.1.size+1,0,none⟩) (by simp) _,by omega,by simpa[World.setCell]using l1,n1.aj he,r1.aj he⟩
theorem EO(n:Nat)(hn:n<=1048576)(w:World):(Instr.makeSlice 28 (vI (n:Int)) (vI (n:Int))).run Tryz.prog w=.ok (.slice (some ⟨w.1.size,0,none⟩) n n) (w.alloc (.cells (madeCells #[.slice none 0 0] n) 93)):=by
 have info:(Tryz.prog.info? 93).map (fun i=>(i.zero,i.size,i.bytes))=some (some (.agg #[.slice none 0 0]),1,24):=by kernel_rfl
 obtain⟨i,hi,mR⟩:=Option.map_eq_some_iff.1 info;simp only[Prod.mk.injEq]at mR;obtain⟨hz,hs,hb⟩:=mR;have:=run_make (P:=Tryz.prog) w 28 93 i _ Tryz.underlying28 hi hz .i64 .i64 (n:Int) (n:Int) (by omega) (by omega) (by rw[hb];omega) (by omega);rw[hs]at this;simpa[Value.cells]using this
theorem Dr(w:World)(a:Option Addr)(n cap:Nat)(aO:List (List Int))(hn:n<=1048576)(hl:∀zs∈aO,zs.length<=1048576)(hs:uS w w.1.size a n aO):Calls Tryz.prog 18 #[.slice a n cap] w fun e w'=>
  ∃g,e=.returned (.slice (some ⟨w.1.size,0,none⟩) n n)/\Below w.1.size w w'/\w.1.size<w'.1.size/\kE w' w.1.size w.1.size n aO g:=by
 obtain⟨hx,hs⟩:=hs;have nX:=EO n hn;go_enter Tryz.func18,Tryz.ntmps18;go_wp2;go_loopw[4] (fun i wr=>∃(j:Nat) (g:Nat->Nat),j<=n/\i=vI j/\Below w.1.size w wr/\w.1.size<wr.1.size/\Room wr w.1.size n/\kE wr w.1.size w.1.size j (aO.take j) g) (fun i _=>n-(intOf i).toNat)
 case atStart=>exact⟨0,fun _=>0,Nat.zero_le _,rfl,aJ.alloc aR _,by simp,gU _ _ _ _,by rw[List.take_zero];exact kE.nil _ _ _ _⟩
 case round=>
  obtain⟨j,g,hj,rfl,aF,dQ,ed,fB⟩:=hrel;by_cases aN:j<n
  ·rcases hs with hs|⟨b,off,rfl,hb,h1⟩
   ·omega
   ·obtain⟨a',aZ,hc,gy,_⟩:=h1 j _ (fI (by omega));have c:=(aF.cell (p:=⟨b,off+j,none⟩) hb).trans hc;have iM:=FY wr a' (dR aO j).length aZ (dR aO j) (hl _ (List.mem_of_getElem? (fI (by omega)))) ((gy.below aF).mono aF.size);have K:Hid (Room wr w.1.size n/\kE wr w.1.size w.1.size j (aO.take j) g/\Below w.1.size w wr/\w.1.size<wr.1.size/\aO.take (j+1)=aO.take j++[dR aO j]):=⟨ed,fB,aF,dQ,by rw[List.take_add_one,fI (by omega)];rfl⟩
    clear ed fB aF nX h1 hx hl gy hc;go_wp2_with fail;refine iM.mono ?_;clear iM;rintro e w1 ⟨q,rfl,b1,lq,hq,CU,pV⟩;obtain⟨v,d,f⟩:=(K.out.1.below b1 K.out.2.2.2.1) j aN;have K1:Hid (Below wr.1.size wr w1/\wr.1.size<=q/\q<w1.1.size/\dV w1 q 0 (dR aO j)/\Room w1 q (dR aO j).length):=⟨b1,lq,hq,CU,pV⟩
    clear b1 lq hq CU pV;go_wp2;obtain⟨ed,fB,aF,dQ,EC⟩:=K.out;obtain⟨b1,lq,hq,CU,pV⟩:=K1.out;have dZ:∀(V:World) (x o:Nat) (v:Value),x≠w.1.size->(V.setCell ⟨w.1.size,o,none⟩ v).1[x]?=V.1[x]?:=fun V x o v h=>Below.heap_setCell _ _ _ _ h
    have Zt:w.1.size<w1.1.size:=Nat.lt_of_lt_of_le dQ b1.size
    have SQ:kE (w1.setCell ⟨w.1.size,j,none⟩ (.slice (some ⟨q,0,none⟩) (dR aO j).length (dR aO j).length)) w.1.size w.1.size j (aO.take j) g:=by
     have h1:=fB.later b1 dQ;refine⟨h1.len,fun i zs e=>?_,h1.low,fun i hi=>by simpa[World.setCell]using h1.lt i hi,h1.ne,fun i zs e=>(h1.nums i zs e).aj (dZ _ _ _ _ (h1.ne i ?_)),fun i zs e=>(h1.room i zs e).aj (dZ _ _ _ _ (h1.ne i ?_)),h1.inj⟩
     ·obtain⟨cp,Su,jJ⟩:=h1.cell i zs e;have hi:i<j:=by have:=(List.getElem?_eq_some_iff.1 e).1;have:=h1.len;omega
      exact⟨cp,by rw[ae (by omega)];exact Su,jJ⟩
     ·have:=(List.getElem?_eq_some_iff.1 e).1;have:=h1.len;omega
     ·have:=(List.getElem?_eq_some_iff.1 e).1;have:=h1.len;omega
    have OJ:=SQ.snoc (zs:=dR aO j) (q:=q) (cap:=(dR aO j).length) (az d) aR (by omega) (by simpa[World.setCell]using hq) (by omega) (CU.aj (dZ _ _ _ _ (by omega))) (pV.aj (dZ _ _ _ _ (by omega))) (fun i hi e=>by have:=fB.lt i hi;omega);rw[<-EC]at OJ;exact⟨⟨j+1,_,by omega,by simp,(aF.trans (b1.mono aF.size)).setCell (p:=⟨w.1.size,j,none⟩) aR _,by simpa[World.setCell]using Zt,(ed.below b1 dQ).set _,OJ⟩,by simp[intOf];omega⟩
  ·have:j=n:=by omega
   subst this;have hd:decide (j<j)=false:=by simp
   rw[<-hx,List.take_length,hx]at fB;have K:Hid (kE wr w.1.size w.1.size j aO g):=fB;clear fB hs ed;go_wp2;go_ret;exact⟨g,rfl,aF,dQ,K.out⟩
theorem CP(w:World)(a a':Option Addr)(n cap aZ:Nat)(zs:List Int)(hn:n<=maxLen)(h1:mP w w.1.size a n zs)(h2:mP w w.1.size a' n zs):
  Calls Tryz.prog 66 #[.agg #[.slice a n cap],.agg #[.slice a' n aZ]] w fun e w'=>e=.returned (.bool true)/\Below w.1.size w w':=by
 go_enter Tryz.func66,Tryz.ntmps66;go_wp2_with fail;have b0:Below w.1.size w ((w.alloc (.cells #[.slice a n cap] 93)).alloc (.cells #[.slice a' n aZ] 93)):=(aJ.alloc aR _).alloc (by simp) _;refine(tF _ a a' n cap aZ zs hn (h1.later b0) (h2.later b0)).mono ?_;rintro e w' ⟨rfl,b1⟩;go_wp2;go_ret;exact⟨rfl,b0.trans (b1.mono b0.size)⟩
theorem CO(w:World)(a a':Option Addr)(n cap aZ:Nat)(aO:List (List Int))(hn:n<=maxLen)(hl:∀zs∈aO,zs.length<=maxLen)(h1:uS w w.1.size a n aO)(h2:uS w w.1.size a' n aO):
  Calls Tryz.prog 28 #[.slice a n cap,.slice a' n aZ] w fun e w'=>e=.returned (.bool true)/\Below w.1.size w w':=by
 unfold maxLen at hn;obtain⟨hx,h1⟩:=h1;obtain⟨_,h2⟩:=h2;go_enter Tryz.func28,Tryz.ntmps28;go_wp2;go_loopw[5] (fun i wr=>∃k:Nat,k<=n/\i=vI k/\Below w.1.size w wr) (fun i _=>n-(intOf i).toNat)
 case atStart=>exact⟨0,Nat.zero_le _,rfl,aJ⟩
 case round=>
  obtain⟨k,hk,rfl,aF⟩:=hrel;by_cases aN:k<n
  ·rcases h1 with h1|⟨b,off,rfl,hb,h1⟩
   ·omega
   ·rcases h2 with h2|⟨b',bG,rfl,fC,h2⟩
    ·omega
    ·obtain⟨a1,k1,d1,s1,_⟩:=h1 k _ (fI (by omega));obtain⟨a2,k2,d2,s2,_⟩:=h2 k _ (fI (by omega));have QU:=hl _ (List.mem_of_getElem? (fI (aO:=aO) (i:=k) (by omega)));have qJ:b<wr.1.size:=Nat.lt_of_lt_of_le hb aF.size;have CQ:b'<wr.1.size:=Nat.lt_of_lt_of_le fC aF.size;have e1:=(aF.cell (p:=⟨b,off+k,none⟩) hb).trans d1;have e2:=(aF.cell (p:=⟨b',bG+k,none⟩) fC).trans d2;have c1:∀d os,(grow (redrawn wr d) os).cell? ⟨b,off+k,none⟩=some (.slice a1 (dR aO k).length k1):=fun d os=>((below_regrown wr d os).cell (p:=⟨b,off+k,none⟩) qJ).trans e1
     have c2:∀d os,(grow (redrawn wr d) os).cell? ⟨b',bG+k,none⟩=some (.slice a2 (dR aO k).length k2):=fun d os=>((below_regrown wr d os).cell (p:=⟨b',bG+k,none⟩) CQ).trans e2
     have t1:mP wr wr.1.size a1 (dR aO k).length (dR aO k):=(s1.below aF).mono aF.size;have t2:mP wr wr.1.size a2 (dR aO k).length (dR aO k):=(s2.below aF).mono aF.size;have cQ:∀d os,Calls Tryz.prog 66 #[.agg #[.slice a1 (dR aO k).length k1],.agg #[.slice a2 (dR aO k).length k2]] (grow (redrawn wr d) os) fun e fq=>e=.returned (.bool true)/\∃p:Regrown,fq=grow (redrawn wr p.d) p.os:=fun d os=>Calls.regrown_of (CP _ a1 a2 _ k1 k2 (dR aO k) QU (t1.later (below_regrown wr d os)) (t2.later (below_regrown wr d os)))
     have K:Hid (Below w.1.size w wr):=aF;clear t1 t2 aF h1 h2 s1 s2 e1 e2 d1 d2 hl QU hx;go_wp2_with fail;refine wp_region_quiet_below (by kernel_rfl) (by kernel_rfl) ?_;repeat (go_big_quiet_step (exact cQ _ _))
     refine wpQuiet_nil ?_;intro _ dD;obtain⟨⟨dq,bI⟩,aT⟩:=dD;subst aT;have bq:=below_regrown wr dq bI;go_wp2;exact⟨⟨k+1,by omega,by simp,K.out.trans (bq.mono K.out.size)⟩,by simp[intOf];omega⟩
  ·have:k=n:=by omega
   subst this;have hd:decide (k<k)=false:=by simp
   clear h1 h2;go_wp2;go_ret;exact⟨rfl,aF⟩
section
variable {B c1 c2 c3 q:Nat}{P:Nat->Prop}{a a1 a2 a3:Option Addr}{aO:List (List Int)}{w w':World}
structure C6 where
 u:Int
 l:Int
 f:List (List Int)
 aa:List M4
 c:List tx.T7
 w:Bool
abbrev dJ(a:Option Addr)(c:Nat)(b:Option Addr)(d:Nat)(e:Option Addr)(f:Nat)(k:C6):List Value:=[vI k.u,vI k.l,.slice a k.f.length c,.slice b k.aa.length d,.slice e k.c.length f,.bool k.w]
def KP.Ow(w:World)(B:Nat)(a:Option Addr)(aO:List (List Int))(P:Nat->Prop):Prop:=(∃g,mF w B a aO.length aO g/\(∀b,a=some ⟨b,0,none⟩->P b)/\(∀i,i<aO.length->P (g i)))/\(∀q,P q->B<=q/\q<w.1.size)
theorem KP.Ow.of(h:KP.Ow w B a aO P)(hq:P q):B<=q/\q<w.1.size:=h.2 q hq
theorem KP.Ow.sl(h:KP.Ow w B a aO P):uS w w.1.size a aO.length aO:=by obtain⟨⟨g,h,_⟩,_⟩:=h;exact h.sl
theorem KP.Ow.aQ(h:KP.Ow w B a aO P)(hs:w.1.size<=w'.1.size)(hk:∀q,P q->w'.1[q]?=w.1[q]?):KP.Ow w' B a aO P:=by
 obtain⟨⟨g,h1,h2,h3⟩,h4⟩:=h;exact⟨⟨g,h1.kept hs (fun b e=>hk b (h2 b e)) (fun i hi=>hk _ (h3 i hi)),h2,h3⟩,fun q hq=>⟨(h4 q hq).1,Nat.lt_of_lt_of_le (h4 q hq).2 hs⟩⟩
theorem KP.Ow.later(h:KP.Ow w B a aO P)(hb:Below w.1.size w w'):KP.Ow w' B a aO P:=h.aQ hb.size (fun q hq=>hb.block q (h.of hq).2)
theorem KP.to(w:World)(a:Option Addr)(cap:Nat)(aO:List (List Int))(hn:aO.length<=1048576)(hl:∀zs∈aO,zs.length<=1048576)(hs:uS w w.1.size a aO.length aO):Calls Tryz.prog 18 #[.slice a aO.length cap] w fun e w'=>
  ∃P,e=.returned (.slice (some ⟨w.1.size,0,none⟩) aO.length aO.length)/\KP.Ow w' w.1.size (some ⟨w.1.size,0,none⟩) aO P/\Below w.1.size w w':=by
 refine(Dr w a aO.length cap aO hn hl hs).mono ?_;rintro e w' ⟨g,rfl,b,aN,ho⟩;have hq:mF w' w.1.size (some ⟨w.1.size,0,none⟩) aO.length aO g:=.inr ⟨w.1.size,rfl,Nat.le_refl _,aN,ho⟩;refine⟨fun q=>q=w.1.size\/∃i,i<aO.length/\g i=q,rfl,⟨⟨g,hq,fun b e=>.inl (by cases e;rfl),fun i hi=>.inr ⟨i,hi,rfl⟩⟩,fun q h=>?_⟩,b⟩;rcases h with rfl|⟨i,hi,rfl⟩
 ·exact⟨Nat.le_refl _,aN⟩
 ·exact⟨hq.low i hi,hq.lt i hi⟩
structure bK.Rd(X:World)(a1:Option Addr)(_:Nat)(a2:Option Addr)(_:Nat)(a3:Option Addr)(_:Nat)(k:C6):Prop where
 p:uS X X.1.size a1 k.f.length k.f
 m:fZ.qM X a2 k.aa
 t:fQ.qM X a3 k.c
theorem bK.Rd.later{X Y:World}{k:C6}(h:bK.Rd X a1 c1 a2 c2 a3 c3 k)(b:Below X.1.size X Y):bK.Rd Y a1 c1 a2 c2 a3 c3 k:=⟨h.p.later b,h.m.later b,h.t.later b⟩
def bK.Ow(w:World)(B:Nat)(a1:Option Addr)(_:Nat)(a2:Option Addr)(_:Nat)(a3:Option Addr)(_:Nat)(k:C6)(P:Nat->Prop):Prop:=(∃P1 P2 P3,KP.Ow w B a1 k.f P1/\fZ.nP w B a2 k.aa P2/\fQ.nP w B a3 k.c P3/\(∀q,P1 q->P q)/\(∀q,P2 q->P q)/\(∀q,P3 q->P q)/\(∀q,P1 q->¬P2 q)/\(∀q,P1 q->¬P3 q)/\(∀q,P2 q->¬P3 q))/\(∀q,P q->B<=q/\q<w.1.size)
theorem bK.Ow.of{k:C6}(h:bK.Ow w B a1 c1 a2 c2 a3 c3 k P)(hq:P q):B<=q/\q<w.1.size:=h.2 q hq
theorem bK.Ow.sl{k:C6}(h:bK.Ow w B a1 c1 a2 c2 a3 c3 k P):bK.Rd w a1 c1 a2 c2 a3 c3 k:=by obtain⟨⟨_,_,_,h1,h2,h3,_⟩,_⟩:=h;exact⟨h1.sl,h2.sl,h3.sl⟩
theorem bK.Ow.aQ{w:World}{B:Nat}{a1:Option Addr}{c1:Nat}{a2:Option Addr}{c2:Nat}{a3:Option Addr}{c3:Nat}{k:C6}{P:Nat->Prop}{w':World}(h:bK.Ow w B a1 c1 a2 c2 a3 c3 k P)(hs:w.1.size<=w'.1.size)(hk:∀q,P q->w'.1[q]?=w.1[q]?):bK.Ow w' B a1 c1 a2 c2 a3 c3 k P:=by
 obtain⟨⟨P1,P2,P3,h1,h2,h3,p1,p2,p3,h4⟩,h5⟩:=h;exact⟨⟨P1,P2,P3,h1.aQ hs (fun q hq=>hk q (p1 q hq)),h2.aQ hs (fun q hq=>hk q (p2 q hq)),h3.aQ hs (fun q hq=>hk q (p3 q hq)),p1,p2,p3,h4⟩,fun q hq=>⟨(h5 q hq).1,Nat.lt_of_lt_of_le (h5 q hq).2 hs⟩⟩
theorem bK.Ow.later{k:C6}(h:bK.Ow w B a1 c1 a2 c2 a3 c3 k P)(hb:Below w.1.size w w'):bK.Ow w' B a1 c1 a2 c2 a3 c3 k P:=h.aQ hb.size (fun q hq=>hb.block q (h.of hq).2)
structure bK.S(k:C6):Prop where
 p:k.f.length<=1048576
 ps:∀zs∈k.f,zs.length<=1048576
 m:k.aa.length<=1048576
 ms:∀m∈k.aa,MT m
 t:k.c.length<=1048576
 ts:∀t∈k.c,KT.S t
end
theorem WK(v:Value)(w:World):(binOp .neq 20 (.iface 129 v) .nilIface).run Tryz.prog w=.ok (.bool true) w:=by kernel_rfl
theorem xh(p q:Nat)(n:Int)(y1 y2:Int)(a3:Option Addr)(n3 c3:Nat)(a4:Option Addr)(n4 c4:Nat)(a5:Option Addr)(n5 c5:Nat)(y6:Bool)(old:List Value)(o1:Value)(w:World)(hg:HG w)(ho:old.length=6)(hp:Bx w p old)(hq:Bx w q [o1])(mc:p≠q):
  CallsD Tryz.prog 56 #[.pointer (some ⟨p,0,none⟩),.pointer (some ⟨q,0,none⟩)] (.panicking [{ v:=.iface 129 (.agg #[.iface 65 (vI n),vI y1,vI y2,.slice a3 n3 c3,.slice a4 n4 c4,.slice a5 n5 c5,.bool y6]),recovered:=false }]) w fun e u' w'=>
   e=.returned (.tuple #[])/\u'=.panicking [{ v:=.iface 129 (.agg #[.iface 65 (vI n),vI y1,vI y2,.slice a3 n3 c3,.slice a4 n4 c4,.slice a5 n5 c5,.bool y6]),recovered:=true }]/\∃X,Below w.1.size w X/\w'=(di X p 0 [vI y1,vI y2,.slice a3 n3 c3,.slice a4 n4 c4,.slice a5 n5 c5,.bool y6]).setCell ⟨q,0,none⟩ (vI n):=by
 have hN:=WK;have cR:=Fv w n y1 y2 a3 n3 c3 a4 n4 c4 a5 n5 c5 y6 hg;refine callsD_of_wpS Tryz.func56 rfl fun c₀ cs hu=>?_
 apply wpS_seq;apply wpS_region;simp[wpOpsS,go_sem,recoverD,hu,Tryz.ntmps56,Exit.thenS];refine wpS_of_wp ?_;go_wp2_with fail;refine cR.mono ?_;clear cR;rintro e X ⟨rfl,bX⟩;have xp:=hp.later bX;have xq:=hq.later bX;obtain⟨v0,r0⟩:∃v,X.cell? ⟨p,0,none⟩=some v:=⟨_,xp.1 0 _ (List.getElem?_eq_getElem (by omega))⟩
 obtain⟨v1,r1⟩:∃v,X.cell? ⟨p,1,none⟩=some v:=⟨_,xp.1 1 _ (List.getElem?_eq_getElem (by omega))⟩
 obtain⟨v2,r2⟩:∃v,X.cell? ⟨p,2,none⟩=some v:=⟨_,xp.1 2 _ (List.getElem?_eq_getElem (by omega))⟩
 obtain⟨v3,r3⟩:∃v,X.cell? ⟨p,3,none⟩=some v:=⟨_,xp.1 3 _ (List.getElem?_eq_getElem (by omega))⟩
 obtain⟨v4,r4⟩:∃v,X.cell? ⟨p,4,none⟩=some v:=⟨_,xp.1 4 _ (List.getElem?_eq_getElem (by omega))⟩
 obtain⟨v5,r5⟩:∃v,X.cell? ⟨p,5,none⟩=some v:=⟨_,xp.1 5 _ (List.getElem?_eq_getElem (by omega))⟩
 have f0:=xp.2.1 0;have f1:=xp.2.1 1;have f2:=xp.2.1 2;have f3:=xp.2.1 3;have f4:=xp.2.1 4;have f5:=xp.2.1 5;have s0:=xq.1 0 _ rfl;have g0:=xq.2.1 0;have pe:q≠p:=fun e=>mc e.symm
 have BX:Hid (Below w.1.size w X):=bX;clear xp xq bX hp hq hg ho;go_wp2;exact⟨rfl,_,rfl,.tuple #[],by simp[results,Tryz.results56],rfl,rfl,X,BX.out,rfl⟩
theorem Gp(p q:Nat)(w:World):
  CallsD Tryz.prog 56 #[.pointer (some ⟨p,0,none⟩),.pointer (some ⟨q,0,none⟩)] .returning w fun e u' w'=>e=.returned (.tuple #[])/\u'=.returning/\w'=w:=by
 have hN:∀w:World,(binOp .neq 20 .nilIface .nilIface).run Tryz.prog w=.ok (.bool false) w:=fun w=>by kernel_rfl
 refine callsD_of_wpS Tryz.func56 rfl fun c₀ cs hu=>?_
 apply wpS_seq;apply wpS_region;simp[wpOpsS,go_sem,recoverD,hu,Tryz.ntmps56,Exit.thenS];refine wpS_of_wp ?_;go_wp2
 cases c₀;simp only at hu;subst hu;exact⟨rfl,_,rfl,.tuple #[],by simp[results,Tryz.results56],rfl,rfl,rfl⟩
def Vg(X:World)(k:C6)(n:Int)(e:Ending)(w':World):Prop:=∃(a1:Option Addr) (c1:Nat) (a2:Option Addr) (c2:Nat) (a3:Option Addr) (c3:Nat) (P:Nat->Prop),e=.returned (.tuple #[.agg #[vI k.u,vI k.l,.slice a1 k.f.length c1,.slice a2 k.aa.length c2,.slice a3 k.c.length c3,.bool k.w],vI n])/\bK.Ow w' X.1.size a1 c1 a2 c2 a3 c3 k P/\Below X.1.size X w'
theorem KP.Ow.low{w:World}{B B':Nat}{a:Option Addr}{aO:List (List Int)}{P:Nat->Prop}(h:KP.Ow w B a aO P)(hb:B'<=B):KP.Ow w B' a aO P:=by
 obtain⟨⟨g,h1,h2,h3⟩,h4⟩:=h;exact⟨⟨g,h1.lower hb,h2,h3⟩,fun q hq=>⟨Nat.le_trans hb (h4 q hq).1,(h4 q hq).2⟩⟩
theorem bK.to(X:World)(a1:Option Addr)(c1:Nat)(a2:Option Addr)(c2:Nat)(a3:Option Addr)(c3:Nat)(k:C6)(ht:bK.S k)(h:bK.Rd X a1 c1 a2 c2 a3 c3 k):Calls Tryz.prog 6 #[.agg #[vI k.u,vI k.l,.slice a1 k.f.length c1,.slice a2 k.aa.length c2,.slice a3 k.c.length c3,.bool k.w]] X fun e w'=>
  ∃(a1:Option Addr) (c1:Nat) (a2:Option Addr) (c2:Nat) (a3:Option Addr) (c3:Nat) (P:Nat->Prop),e=.returned (.agg #[vI k.u,vI k.l,.slice a1 k.f.length c1,.slice a2 k.aa.length c2,.slice a3 k.c.length c3,.bool k.w])/\bK.Ow w' X.1.size a1 c1 a2 c2 a3 c3 k P/\Below X.1.size X w':=by
 obtain⟨U0,iQ⟩:∃Y,Y=X.alloc (.cells #[vI k.u,vI k.l,.slice a1 k.f.length c1,.slice a2 k.aa.length c2,.slice a3 k.c.length c3,.bool k.w] 26):=⟨_,rfl⟩
 have b0:Below X.1.size X U0:=by rw[iQ];exact aJ.alloc aR _
 have x0:Bx U0 X.1.size (dJ a1 c1 a2 c2 a3 c3 k):=by rw[iQ];exact Bx.made X (dJ a1 c1 a2 c2 a3 c3 k) _
 have z0:U0.1.size=X.1.size+1:=by rw[iQ];simp
 obtain⟨U1,kG⟩:∃Y,Y=U0.alloc (.cells #[vI 0,vI 0,.slice none 0 0,.slice none 0 0,.slice none 0 0,.bool false] 32):=⟨_,rfl⟩
 have b1:Below U0.1.size U0 U1:=by rw[kG];exact aJ.alloc aR _
 have x1:Bx U1 U0.1.size kv:=by rw[kG];exact Bx.made U0 kv _
 have z1:U1.1.size=X.1.size+2:=by rw[kG];simp[z0]
 obtain⟨V0,Si⟩:∃Y,Y=U1.alloc (.cells #[vI k.u,vI k.l,.slice none 0 0,.slice none 0 0,.slice none 0 0,.bool false] 32):=⟨_,rfl⟩
 have b2:Below U1.1.size U1 V0:=by rw[Si];exact aJ.alloc aR _
 have x2:Bx V0 U1.1.size [vI k.u,vI k.l,.slice none 0 0,.slice none 0 0,.slice none 0 0,.bool false]:=by rw[Si];exact Bx.made U1 [vI k.u,vI k.l,.slice none 0 0,.slice none 0 0,.slice none 0 0,.bool false] _
 have zU:V0.1.size=X.1.size+3:=by rw[Si];simp[z1]
 rw[z0]at x1;rw[z1]at x2;have bU:Below X.1.size X V0:=ay (ay b0 b1) b2;have FA:Hid (Bx V0 X.1.size (dJ a1 c1 a2 c2 a3 c3 k)):=(x0.later b1).later b2;have FZ:Hid (Bx V0 (X.1.size+1) kv):=x1.later b2;have Y0:Hid (Bx V0 (X.1.size+2) [vI k.u,vI k.l,.slice none 0 0,.slice none 0 0,.slice none 0 0,.bool false]):=x2;have E0:Hid (Below (X.1.size+2) V0 V0/\Below X.1.size X V0/\V0.1.size<=V0.1.size):=⟨aJ,bU,Nat.le_refl _⟩
 have HZ:Hid (V0.1.size=X.1.size+3):=zU;have HR:Hid (bK.Rd X a1 c1 a2 c2 a3 c3 k/\bK.S k):=⟨h,ht⟩
 rw[kG,iQ]at Si;clear b0 x0 z0 b1 x1 z1 b2 x2 zU bU iQ kG h ht;have q:=KP.to V0 a1 c1 k.f HR.out.2.p HR.out.2.ps (HR.out.1.later E0.out.2.1).p;have A0:=(FA.out.under E0.out.1 (by omega)).1 0 _ rfl;have A1:=(FA.out.under E0.out.1 (by omega)).1 1 _ rfl;have A2:=(FA.out.under E0.out.1 (by omega)).1 2 _ rfl;rw[Si]at A0 A1 A2;go_enter Tryz.func6,Tryz.ntmps6;go_wp2_with fail;rw[<-Si];clear Si A0 A1 A2;refine q.mono ?_;clear q;rintro e w1 ⟨P1,rfl,o1,b⟩;obtain⟨V1,ma⟩:∃Y,Y=w1.setCell ⟨X.1.size+2,2,none⟩ (.slice (some ⟨V0.1.size,0,none⟩) k.f.length k.f.length):=⟨_,rfl⟩
 have sV:V1.1.size=w1.1.size:=by rw[ma];simp[World.setCell]
 have kV:∀q,q≠X.1.size+2->V1.1[q]?=w1.1[q]?:=fun q hq=>by rw[ma];exact Below.heap_setCell _ _ _ _ hq
 have lV:X.1.size+3<=V0.1.size:=by have:=E0.out.2.2;have:=HZ.out;omega
 have u:=(Y0.out.later b).1 2 _ rfl;have uf:=(Y0.out.later b).2.1 2
 have E1:Hid (Below (X.1.size+2) V0 V1/\Below X.1.size X V1/\V0.1.size<=V1.1.size):=by
  refine⟨?_,?_,by have:=b.size;have:=E0.out.2.2;omega⟩
  ·rw[ma];exact(E0.out.1.trans (b.mono (by omega))).setCell (p:=⟨X.1.size+2,2,none⟩) aR _
  ·rw[ma];exact(E0.out.2.1.trans (b.mono (by omega))).setCell (p:=⟨X.1.size+2,2,none⟩) (by show X.1.size<=X.1.size+2;omega) _
 have Y1:Hid (Bx V1 (X.1.size+2) [vI k.u,vI k.l,.slice (some ⟨V0.1.size,0,none⟩) k.f.length k.f.length,.slice none 0 0,.slice none 0 0,.bool false]):=by rw[ma];exact(Y0.out.later b).set (i:=2) (by simp) _
 have QH:Hid (KP.Ow V1 V0.1.size (some ⟨V0.1.size,0,none⟩) k.f P1):=o1.aQ (Nat.le_of_eq sV.symm) (fun q hq=>kV q (by have:=(o1.of hq).1;have:=HZ.out;have:=E0.out.2.2;omega));have O1:=QH;clear QH;have gw:Hid (V0.1.size<=w1.1.size/\w1.1.size=V1.1.size/\(∀q,P1 q->V0.1.size<=q/\q<w1.1.size)):=⟨b.size,sV.symm,fun q hq=>o1.of hq⟩
 clear o1 b sV kV lV;have q:=uQ.to V1 a2 c2 k.aa HR.out.2.m HR.out.2.ms (HR.out.1.later E1.out.2.1).m;have A3:=(FA.out.under E1.out.1 (by omega)).1 3 _ rfl;rw[ma]at A3;go_wp2_with fail;rw[<-ma];clear ma A3 u uf;refine q.mono ?_;clear q;rintro e w2 ⟨P2,rfl,o2,b⟩;obtain⟨V2,tL⟩:∃Y,Y=w2.setCell ⟨X.1.size+2,3,none⟩ (.slice (some ⟨V1.1.size,0,none⟩) k.aa.length k.aa.length):=⟨_,rfl⟩
 have sV:V2.1.size=w2.1.size:=by rw[tL];simp[World.setCell]
 have kV:∀q,q≠X.1.size+2->V2.1[q]?=w2.1[q]?:=fun q hq=>by rw[tL];exact Below.heap_setCell _ _ _ _ hq
 have lV:X.1.size+3<=V1.1.size:=by have:=E1.out.2.2;have:=HZ.out;omega
 have u:=(Y1.out.later b).1 3 _ rfl;have uf:=(Y1.out.later b).2.1 3
 have E2:Hid (Below (X.1.size+2) V0 V2/\Below X.1.size X V2/\V0.1.size<=V2.1.size):=by
  refine⟨?_,?_,by have:=b.size;have:=E1.out.2.2;omega⟩
  ·rw[tL];exact(E1.out.1.trans (b.mono (by omega))).setCell (p:=⟨X.1.size+2,3,none⟩) aR _
  ·rw[tL];exact(E1.out.2.1.trans (b.mono (by omega))).setCell (p:=⟨X.1.size+2,3,none⟩) (by show X.1.size<=X.1.size+2;omega) _
 have Y2:Hid (Bx V2 (X.1.size+2) [vI k.u,vI k.l,.slice (some ⟨V0.1.size,0,none⟩) k.f.length k.f.length,.slice (some ⟨V1.1.size,0,none⟩) k.aa.length k.aa.length,.slice none 0 0,.bool false]):=by rw[tL];exact(Y1.out.later b).set (i:=3) (by simp) _
 have QH:Hid (KP.Ow V2 V0.1.size (some ⟨V0.1.size,0,none⟩) k.f P1):=(O1.out.later b).aQ (Nat.le_of_eq sV.symm) (fun q hq=>kV q (by have:=((O1.out.later b).of hq).1;have:=HZ.out;have:=E0.out.2.2;omega));have Vm:Hid (fZ.nP V2 V1.1.size (some ⟨V1.1.size,0,none⟩) k.aa P2):=o2.aQ (Nat.le_of_eq sV.symm) (fun q hq=>kV q (by have:=(o2.of hq).1;have:=HZ.out;have:=E1.out.2.2;omega));have O1:=QH;clear QH;have O2:=Vm;clear Vm;have gx:Hid (V1.1.size<=w2.1.size/\w2.1.size=V2.1.size/\(∀q,P2 q->V1.1.size<=q/\q<w2.1.size)):=⟨b.size,sV.symm,fun q hq=>o2.of hq⟩
 clear o2 b sV kV lV;have q:=uR.to V2 a3 c3 k.c HR.out.2.t HR.out.2.ts (HR.out.1.later E2.out.2.1).t;have A4:=(FA.out.under E2.out.1 (by omega)).1 4 _ rfl;rw[tL]at A4;go_wp2_with fail;rw[<-tL];clear tL A4 u uf;refine q.mono ?_;clear q;rintro e w3 ⟨P3,rfl,o3,b⟩;obtain⟨V3,x8⟩:∃Y,Y=w3.setCell ⟨X.1.size+2,4,none⟩ (.slice (some ⟨V2.1.size,0,none⟩) k.c.length k.c.length):=⟨_,rfl⟩
 have sV:V3.1.size=w3.1.size:=by rw[x8];simp[World.setCell]
 have kV:∀q,q≠X.1.size+2->V3.1[q]?=w3.1[q]?:=fun q hq=>by rw[x8];exact Below.heap_setCell _ _ _ _ hq
 have lV:X.1.size+3<=V2.1.size:=by have:=E2.out.2.2;have:=HZ.out;omega
 have u:=(Y2.out.later b).1 4 _ rfl;have uf:=(Y2.out.later b).2.1 4
 have E3:Hid (Below (X.1.size+2) V0 V3/\Below X.1.size X V3/\V0.1.size<=V3.1.size):=by
  refine⟨?_,?_,by have:=b.size;have:=E2.out.2.2;omega⟩
  ·rw[x8];exact(E2.out.1.trans (b.mono (by omega))).setCell (p:=⟨X.1.size+2,4,none⟩) aR _
  ·rw[x8];exact(E2.out.2.1.trans (b.mono (by omega))).setCell (p:=⟨X.1.size+2,4,none⟩) (by show X.1.size<=X.1.size+2;omega) _
 have Y3:Hid (Bx V3 (X.1.size+2) [vI k.u,vI k.l,.slice (some ⟨V0.1.size,0,none⟩) k.f.length k.f.length,.slice (some ⟨V1.1.size,0,none⟩) k.aa.length k.aa.length,.slice (some ⟨V2.1.size,0,none⟩) k.c.length k.c.length,.bool false]):=by rw[x8];exact(Y2.out.later b).set (i:=4) (by simp) _
 have QH:Hid (KP.Ow V3 V0.1.size (some ⟨V0.1.size,0,none⟩) k.f P1):=(O1.out.later b).aQ (Nat.le_of_eq sV.symm) (fun q hq=>kV q (by have:=((O1.out.later b).of hq).1;have:=HZ.out;have:=E0.out.2.2;omega));have Vm:Hid (fZ.nP V3 V1.1.size (some ⟨V1.1.size,0,none⟩) k.aa P2):=(O2.out.later b).aQ (Nat.le_of_eq sV.symm) (fun q hq=>kV q (by have:=((O2.out.later b).of hq).1;have:=HZ.out;have:=E1.out.2.2;omega));have aq:Hid (fQ.nP V3 V2.1.size (some ⟨V2.1.size,0,none⟩) k.c P3):=o3.aQ (Nat.le_of_eq sV.symm) (fun q hq=>kV q (by have:=(o3.of hq).1;have:=HZ.out;have:=E2.out.2.2;omega));have O1:=QH;clear QH;have O2:=Vm;clear Vm;have O3:=aq;clear aq;have gA:Hid (V2.1.size<=w3.1.size/\w3.1.size=V3.1.size/\(∀q,P3 q->V2.1.size<=q/\q<w3.1.size)):=⟨b.size,sV.symm,fun q hq=>o3.of hq⟩
 clear o3 b sV kV lV;have A5:=(FA.out.under E3.out.1 (by omega)).1 5 _ rfl;rw[x8]at A5;obtain⟨V4,yK⟩:∃Y,Y=V3.setCell ⟨X.1.size+2,5,none⟩ (.bool k.w):=⟨_,rfl⟩
 have Y4:Hid (Bx V4 (X.1.size+2) (dJ (some ⟨V0.1.size,0,none⟩) k.f.length (some ⟨V1.1.size,0,none⟩) k.aa.length (some ⟨V2.1.size,0,none⟩) k.c.length k)):=by rw[yK];exact Y3.out.set (i:=5) (by simp) _
 have v5:=Y3.out.1 5 _ rfl;have fy:=Y3.out.2.1 5;rw[x8]at v5 fy yK;have ZZ:Hid (Bx V4 (X.1.size+1) kv):=by rw[yK,<-x8];exact(FZ.out.under E3.out.1 (by omega)).dZ (by omega) _
 have s4:V4.1.size=V3.1.size:=by rw[yK,<-x8];simp[World.setCell]
 have k4:∀q,q≠X.1.size+2->V4.1[q]?=V3.1[q]?:=fun q hq=>by rw[yK,<-x8];exact Below.heap_setCell _ _ _ _ hq
 have B4:Hid (Below X.1.size X V4):=by rw[yK,<-x8];exact E3.out.2.1.setCell (p:=⟨X.1.size+2,5,none⟩) (by show X.1.size<=X.1.size+2;omega) _
 have KK:Hid (V4.1.size=V3.1.size/\(∀q,q≠X.1.size+2->V4.1[q]?=V3.1[q]?)):=⟨s4,k4⟩
 clear s4 k4;go_upto_region 8 with fail
 rw[<-yK];clear yK x8 A5 v5 fy u uf;have y0:=Y4.out.1 0 _ rfl;have z0:=ZZ.out.1 0 _ rfl;have ZV:=ZZ.out.2.1 0;have y1:=Y4.out.1 1 _ rfl;have z1:=ZZ.out.1 1 _ rfl;have ZW:=ZZ.out.2.1 1;have y2:=Y4.out.1 2 _ rfl;have z2:=ZZ.out.1 2 _ rfl;have ZX:=ZZ.out.2.1 2;have y3:=Y4.out.1 3 _ rfl;have z3:=ZZ.out.1 3 _ rfl;have ZY:=ZZ.out.2.1 3;have y4:=Y4.out.1 4 _ rfl;have z4:=ZZ.out.1 4 _ rfl;have pj:=ZZ.out.2.1 4;have y5:=Y4.out.1 5 _ rfl;have z5:=ZZ.out.1 5 _ rfl;have pk:=ZZ.out.2.1 5;have BP:=ZZ.out.put (dJ (some ⟨V0.1.size,0,none⟩) k.f.length (some ⟨V1.1.size,0,none⟩) k.aa.length (some ⟨V2.1.size,0,none⟩) k.c.length k) rfl;have r0:=BP.1 0 _ rfl;have r1:=BP.1 1 _ rfl;have r2:=BP.1 2 _ rfl;have r3:=BP.1 3 _ rfl;have r4:=BP.1 4 _ rfl;have r5:=BP.1 5 _ rfl;simp only[di,Nat.zero_add]at r0 r1 r2 r3 r4 r5;have KR:=tx.aB (And.intro r0 (And.intro r1 (And.intro r2 (And.intro r3 (And.intro r4 r5)))));clear BP r0 r1 r2 r3 r4 r5;go_wp2;obtain⟨r0,r1,r2,r3,r4,r5⟩:=KR.out;refine bodyPost_ret (v:=.agg #[vI k.u,vI k.l,.slice (some ⟨V0.1.size,0,none⟩) k.f.length k.f.length,.slice (some ⟨V1.1.size,0,none⟩) k.aa.length k.aa.length,.slice (some ⟨V2.1.size,0,none⟩) k.c.length k.c.length,.bool k.w]) (by simp[results,Tryz.results6,go_sem,r0,r1,r2,r3,r4,r5]) rfl ?_;obtain⟨s4,k4⟩:=KK.out;obtain⟨n1,n2,n3⟩:=gw.out;obtain⟨m1,m2,m3⟩:=gx.out;obtain⟨l1,l2,l3⟩:=gA.out;have hz:=HZ.out
 have hw:∀q,q≠X.1.size+1->q≠X.1.size+2->(di V4 (X.1.size+1) 0 (dJ (some ⟨V0.1.size,0,none⟩) k.f.length (some ⟨V1.1.size,0,none⟩) k.aa.length (some ⟨V2.1.size,0,none⟩) k.c.length k)).1[q]?=V3.1[q]?:=fun q h1 h2=>(aV h1 _ _ _).trans (k4 q h2)
 have Wx:V3.1.size<=(di V4 (X.1.size+1) 0 (dJ (some ⟨V0.1.size,0,none⟩) k.f.length (some ⟨V1.1.size,0,none⟩) k.aa.length (some ⟨V2.1.size,0,none⟩) k.c.length k)).1.size:=by rw[bf];omega
 refine⟨_,_,_,_,_,_,fun q=>P1 q\/P2 q\/P3 q,rfl,⟨⟨P1,P2,P3,?_,?_,?_,fun q h=>.inl h,fun q h=>.inr (.inl h),fun q h=>.inr (.inr h),fun q h h'=>?_,fun q h h'=>?_,fun q h h'=>?_⟩,fun q hq=>?_⟩,aU (by omega) (dJ (some ⟨V0.1.size,0,none⟩) k.f.length (some ⟨V1.1.size,0,none⟩) k.aa.length (some ⟨V2.1.size,0,none⟩) k.c.length k) _ _ B4.out⟩
 ·exact(O1.out.aQ (w':=di V4 (X.1.size+1) 0 (dJ (some ⟨V0.1.size,0,none⟩) k.f.length (some ⟨V1.1.size,0,none⟩) k.aa.length (some ⟨V2.1.size,0,none⟩) k.c.length k)) Wx (fun q hq=>by have:=n3 q hq;exact hw q (by omega) (by omega))).low (by omega)
 ·exact(O2.out.aQ (Y:=di V4 (X.1.size+1) 0 (dJ (some ⟨V0.1.size,0,none⟩) k.f.length (some ⟨V1.1.size,0,none⟩) k.aa.length (some ⟨V2.1.size,0,none⟩) k.c.length k)) Wx (fun q hq=>by have:=m3 q hq;exact hw q (by omega) (by omega))).low (by omega)
 ·exact(O3.out.aQ (Y:=di V4 (X.1.size+1) 0 (dJ (some ⟨V0.1.size,0,none⟩) k.f.length (some ⟨V1.1.size,0,none⟩) k.aa.length (some ⟨V2.1.size,0,none⟩) k.c.length k)) Wx (fun q hq=>by have:=l3 q hq;exact hw q (by omega) (by omega))).low (by omega)
 ·have:=n3 q h;have:=m3 q h';omega
 ·have:=n3 q h;have:=l3 q h';omega
 ·have:=m3 q h;have:=l3 q h';omega
 ·show X.1.size<=q/\q<(di V4 (X.1.size+1) 0 (dJ (some ⟨V0.1.size,0,none⟩) k.f.length (some ⟨V1.1.size,0,none⟩) k.aa.length (some ⟨V2.1.size,0,none⟩) k.c.length k)).1.size
  rw[bf];rcases hq with hq|hq|hq
  ·have:=n3 q hq;omega
  ·have:=m3 q hq;omega
  ·have:=l3 q hq;omega
theorem bK.eq(X:World)(a1:Option Addr)(c1:Nat)(a2:Option Addr)(c2:Nat)(a3:Option Addr)(c3:Nat)(a1':Option Addr)(c1':Nat)(QI:Option Addr)(c2':Nat)(a3':Option Addr)(c3':Nat)(k:C6)(ht:bK.S k)(h1:bK.Rd X a1 c1 a2 c2 a3 c3 k)(h2:bK.Rd X a1' c1' QI c2' a3' c3' k):Calls Tryz.prog 8 #[.agg #[vI k.u,vI k.l,.slice a1 k.f.length c1,.slice a2 k.aa.length c2,.slice a3 k.c.length c3,.bool k.w],.agg #[vI k.u,vI k.l,.slice a1' k.f.length c1',.slice QI k.aa.length c2',.slice a3' k.c.length c3',.bool k.w]] X fun e w'=>e=.returned (.bool true)/\Below X.1.size X w':=by
 obtain⟨U0,iQ⟩:∃Y,Y=X.alloc (.cells #[vI k.u,vI k.l,.slice a1 k.f.length c1,.slice a2 k.aa.length c2,.slice a3 k.c.length c3,.bool k.w] 32):=⟨_,rfl⟩
 have b0:Below X.1.size X U0:=by rw[iQ];exact aJ.alloc aR _
 have x0:Bx U0 X.1.size (dJ a1 c1 a2 c2 a3 c3 k):=by rw[iQ];exact Bx.made X (dJ a1 c1 a2 c2 a3 c3 k) _
 have z0:U0.1.size=X.1.size+1:=by rw[iQ];simp
 obtain⟨U,hU⟩:∃Y,Y=U0.alloc (.cells #[vI k.u,vI k.l,.slice a1' k.f.length c1',.slice QI k.aa.length c2',.slice a3' k.c.length c3',.bool k.w] 32):=⟨_,rfl⟩
 have b1:Below U0.1.size U0 U:=by rw[hU];exact aJ.alloc aR _
 have x1:Bx U U0.1.size (dJ a1' c1' QI c2' a3' c3' k):=by rw[hU];exact Bx.made U0 (dJ a1' c1' QI c2' a3' c3' k) _
 rw[z0]at x1;have bU:Below X.1.size X U:=ay b0 b1;have FA:Hid (Bx U X.1.size (dJ a1 c1 a2 c2 a3 c3 k)):=x0.later b1;have FB:Hid (Bx U (X.1.size+1) (dJ a1' c1' QI c2' a3' c3' k)):=x1;have HR:Hid (bK.Rd U a1 c1 a2 c2 a3 c3 k/\bK.Rd U a1' c1' QI c2' a3' c3' k/\bK.S k/\Below X.1.size X U):=⟨h1.later bU,h2.later bU,ht,bU⟩
 rw[iQ]at hU;clear b0 x0 z0 b1 x1 bU iQ h1 h2 ht;have d0:(k.u != k.u)=false:=by simp
 have d1:(k.l != k.l)=false:=by simp
 have d5:(k.w != k.w)=false:=by simp
 have p0:=FA.out.1 0 _ rfl;have p1:=FA.out.1 1 _ rfl;have p2:=FA.out.1 2 _ rfl;have r0:=FB.out.1 0 _ rfl;have r1:=FB.out.1 1 _ rfl;have r2:=FB.out.1 2 _ rfl;rw[hU]at p0 p1 p2 r0 r1 r2;go_enter Tryz.func8,Tryz.ntmps8;go_wp2_with fail;rw[<-hU];clear hU p0 p1 p2 r0 r1 r2;refine(CO U a1 a1' k.f.length c1 c1' k.f (by have:=HR.out.2.2.1.p;unfold maxLen;omega) (fun z hz=>by have:=HR.out.2.2.1.ps z hz;unfold maxLen;omega) HR.out.1.p HR.out.2.1.p).mono ?_;rintro e w1 ⟨rfl,b1⟩;have B1:=tx.aB b1;clear b1;have p3:=(FA.out.later B1.out).1 3 _ rfl;have r3:=(FB.out.later B1.out).1 3 _ rfl;go_wp2_with fail;refine(uQ.eq w1 a2 QI c2 c2' k.aa HR.out.2.2.1.m HR.out.2.2.1.ms (HR.out.1.later B1.out).m (HR.out.2.1.later B1.out).m).mono ?_;rintro e w2 ⟨rfl,b2⟩;have B2:Hid (Below U.1.size U w2):=ay B1.out b2;clear b2 p3 r3;have p4:=(FA.out.later B2.out).1 4 _ rfl;have r4:=(FB.out.later B2.out).1 4 _ rfl;go_wp2_with fail;refine(uR.eq w2 a3 a3' c3 c3' k.c HR.out.2.2.1.t HR.out.2.2.1.ts (HR.out.1.later B2.out).t (HR.out.2.1.later B2.out).t).mono ?_;rintro e w3 ⟨rfl,b3⟩;have B3:Hid (Below U.1.size U w3):=ay B2.out b3;clear b3 p4 r4;have p5:=(FA.out.later B3.out).1 5 _ rfl;have r5:=(FB.out.later B3.out).1 5 _ rfl;go_wp2;go_ret;exact⟨rfl,ay HR.out.2.2.2 B3.out⟩
theorem bK.Ow.low{w:World}{B B':Nat}{a1:Option Addr}{c1:Nat}{a2:Option Addr}{c2:Nat}{a3:Option Addr}{c3:Nat}{k:C6}{P:Nat->Prop}(h:bK.Ow w B a1 c1 a2 c2 a3 c3 k P)(hb:B'<=B):bK.Ow w B' a1 c1 a2 c2 a3 c3 k P:=by
 obtain⟨⟨P1,P2,P3,h1,h2,h3,h4⟩,h5⟩:=h;exact⟨⟨P1,P2,P3,h1.low hb,h2.low hb,h3.low hb,h4⟩,fun q hq=>⟨Nat.le_trans hb (h5 q hq).1,(h5 q hq).2⟩⟩
section
variable {g:Nat->Nat}{v:Value}{w:World}
def gQ{α:Type}(hd:α->List Int)(ln:α->Nat)(r:α)(q cap:Nat):List Value:=(hd r).map (Value.int .i64)++[.slice (some ⟨q,0,none⟩) (ln r) cap]
def yJ{α:Type}(hd:α->List Int)(ln:α->Nat)(rs:List α)(g l7:Nat->Nat):List Value:=rs.zipIdx.flatMap fun p=>gQ hd ln p.1 (g p.2) (l7 p.2)
theorem iZ{β:Type}{f:β->List Value}{sz:Nat}:∀{l:List β} (_:∀x∈l,(f x).length=sz){i t:Nat}{x:β},l[i]?=some x->t<sz->(l.flatMap f)[i*sz+t]?=(f x)[t]?
 | [],_,i,t,x,h,_=>by simp at h
 | y::l,hf,0,t,x,h,ht=>by
  simp at h;subst h;rw[List.flatMap_cons,List.getElem?_append_left (by rw[hf y (by simp)];omega)];simp
 | y::l,hf,i+1,t,x,h,ht=>by
  have hl:=hf y (by simp);rw[List.flatMap_cons,List.getElem?_append_right (by rw[hl,Nat.add_mul];omega),hl,show(i+1)*sz+t-sz=i*sz+t by rw[Nat.add_mul];omega];exact iZ (fun x hx=>hf x (by simp[hx])) (by simpa using h) ht
theorem MF{α:Type}{hd:α->List Int}{ln:α->Nat}{sz:Nat}(hh:∀r,(hd r).length+1=sz){rs:List α}{l7:Nat->Nat}{i t:Nat}{r:α}(h:rs[i]?=some r)(ht:t<sz):(yJ hd ln rs g l7)[i*sz+t]?=(gQ hd ln r (g i) (l7 i))[t]?:=by
 have h':rs.zipIdx[i]?=some (r,i):=by simp[h]
 exact iZ (f:=fun p:α×Nat=>gQ hd ln p.1 (g p.2) (l7 p.2)) (fun x _=>by simp[gQ,hh]) h' ht
theorem BC{β:Type}{f f':β->List Value}:∀{l:List β},(∀x∈l,f x=f' x)->l.flatMap f=l.flatMap f'
 | [],_=>rfl
 | y::l,h=>by rw[List.flatMap_cons,List.flatMap_cons,h y (by simp),BC (fun x hx=>h x (by simp[hx]))]
theorem Gr{α:Type}{hd:α->List Int}{ln:α->Nat}(rs:List α)(r:α)(g l7:Nat->Nat)(q cap:Nat):yJ hd ln (rs++[r]) (fun i=>if i=rs.length then q else g i) (fun i=>if i=rs.length then cap else l7 i)=yJ hd ln rs g l7++gQ hd ln r q cap:=by
 unfold yJ;rw[List.zipIdx_append,List.flatMap_append];congr 1
 ·have:∀p∈rs.zipIdx,p.2<rs.length:=fun p hp=>by
   have:=List.snd_lt_of_mem_zipIdx hp;omega
  refine BC fun p hp=>?_
  have:=this p hp;simp only[if_neg (show p.2≠rs.length by omega)]
 ·simp
structure gZ{α:Type}(T:TypeId)(sz:Nat)(hd:α->List Int)(ln:α->Nat)(At:World->Nat->α->Prop)(w:World)(base:Nat)(v:Value)(rs:List α)(g:Nat->Nat):Prop where
 row:∃l7:Nat->Nat,w.ownsRow base T sz v rs.length (yJ hd ln rs g l7)/\∀i r,rs[i]?=some r->ln r<=l7 i
 low:∀i,i<rs.length->base<=g i
 lt:∀i,i<rs.length->g i<w.1.size
 ne:∀i,i<rs.length->v.ownBlock≠some (g i)
 sub:∀i r,rs[i]?=some r->At w (g i) r
 inj:∀i j,i<rs.length->j<rs.length->g i=g j->i=j
theorem gZ.nil{α:Type}{T:TypeId}{sz:Nat}{hd:α->List Int}{ln:α->Nat}{At:World->Nat->α->Prop}(w:World)(base:Nat)(g:Nat->Nat):gZ T sz hd ln At w base (.slice none 0 0) [] g:=
 ⟨⟨fun _=>0,⟨by simp[yJ],.inl ⟨rfl,rfl⟩⟩,fun i r e=>by simp at e⟩,fun i h=>by simp at h,fun i h=>by simp at h,fun i h=>by simp at h,fun i r e=>by simp at e,fun i j h=>by simp at h⟩
theorem gZ.lies{α:Type}{T:TypeId}{sz:Nat}{hd:α->List Int}{ln:α->Nat}{At:World->Nat->α->Prop}{base:Nat}{rs:List α}(h:gZ T sz hd ln At w base v rs g){q:Nat}(e:v.ownBlock=some q):base<=q/\q<w.1.size:=by
 obtain⟨l7,ho,_⟩:=h.row;exact World.ownsRow.lt ho q e
theorem gZ.aQ{α:Type}{T:TypeId}{sz:Nat}{hd:α->List Int}{ln:α->Nat}{At:World->Nat->α->Prop}(I9:∀(w w':World) (b:Nat) (r:α),w'.1[b]?=w.1[b]?->At w b r->At w' b r){w':World}{base:Nat}{rs:List α}(h:gZ T sz hd ln At w base v rs g)(dQ:w.1.size<=w'.1.size)(hs:∀q,q<w.1.size->(v.ownBlock=some q\/∃i,i<rs.length/\g i=q)->w'.1[q]?=w.1[q]?):gZ T sz hd ln At w' base v rs g:=by
 obtain⟨l7,ho,hc⟩:=h.row;refine⟨⟨l7,⟨ho.1,ho.2.imp id ?_⟩,hc⟩,h.low,fun i hi=>Nat.lt_of_lt_of_le (h.lt i hi) dQ,h.ne,fun i r e=>?_,h.inj⟩
 ·rintro ⟨q,cap,cur,rfl,l,hg,r⟩;exact⟨q,cap,cur,rfl,l,(hs q (World.ownsRow.lt ho q rfl).2 (.inl rfl)).trans hg,r⟩
 ·have hi:=(List.getElem?_eq_some_iff.1 e).1;exact I9 _ _ _ _ (hs _ (h.lt i hi) (.inr ⟨i,hi,rfl⟩)) (h.sub i r e)
theorem gZ.own{α:Type}{T:TypeId}{sz:Nat}{hd:α->List Int}{ln:α->Nat}{At:World->Nat->α->Prop}(hh:∀r,(hd r).length+1=sz){base:Nat}{rs:List α}(h:gZ T sz hd ln At w base v rs g)(fF:rs≠[]):
  ∃b cap,v=.slice (some ⟨b,0,none⟩) rs.length cap/\base<=b/\b<w.1.size/\rs.length<=cap/\Room w b (rs.length*sz)/\fu sz hd ln At w base b rs.length rs g:=by
 obtain⟨l7,ho,hc⟩:=h.row;have rF:0<rs.length:=List.length_pos_iff.2 fF
 have yM:∃b cap,v=.slice (some ⟨b,0,none⟩) rs.length cap/\rs.length<=cap:=by
  rcases ho.2 with ⟨_,h0⟩|⟨b,cap,cur,rfl,_,_,hl,_⟩
  ·omega
  ·exact⟨b,cap,rfl,hl⟩
 obtain⟨b,cap,rfl,hl⟩:=yM;have hb:=World.ownsRow.lt ho b rfl;have hlen:∀i r,rs[i]?=some r->i<rs.length:=fun i r e=>(List.getElem?_eq_some_iff.1 e).1
 have bg:∀i r t,rs[i]?=some r->t<sz->w.cell? ⟨b,i*sz+t,none⟩=(gQ hd ln r (g i) (l7 i))[t]?:=fun i r t e ht=>by
  have:(i+1)*sz<=rs.length*sz:=Nat.mul_le_mul_right sz (hlen i r e);rw[Nat.add_mul]at this;rw[World.ownsRow.cellAt ho _ (by omega)];exact MF hh e ht
 refine⟨b,cap,rfl,hb.1,hb.2,hl,fun j hj=>?_,⟨rfl,fun i r e t z ht=>?_,fun i r e=>?_,h.low,h.lt,fun i hi e=>h.ne i hi (by rw[e];rfl),h.sub,h.inj⟩⟩
 ·have hx:j<(yJ hd ln rs g l7).length:=by rw[ho.1];exact hj
  exact⟨_,by rw[World.ownsRow.cellAt ho j hj];exact List.getElem?_eq_getElem hx,World.ownsRow.frozenAt ho j⟩
 ·have PN:=(List.getElem?_eq_some_iff.1 ht).1;have:=hh r;rw[bg i r t e (by omega),gQ,List.getElem?_append_left (by simpa using PN),List.getElem?_map,ht];rfl
 ·have:=hh r;refine⟨l7 i,?_,hc i r e⟩;rw[bg i r (sz-1) e (by omega),gQ,List.getElem?_append_right (by simp;omega)];simp[show sz-1-(hd r).length=0 by omega]
theorem gZ.push{α:Type}{T ST:TypeId}{sz xY:Nat}{hd:α->List Int}{ln:α->Nat}{At:World->Nat->α->Prop}(I9:∀(w w':World) (b:Nat) (r:α),w'.1[b]?=w.1[b]?->At w b r->At w' b r)(hh:∀r,(hd r).length+1=sz){P:Program}{i0:TypeInfo}{z:Value}(ht:P.underlying ST=some (.slice T))(hi:P.info? T=some i0)(hz:i0.zero=some z)(hs:i0.size=sz)(Pv:i0.bytes=xY)(qL:z.cells.size=sz)(iE:xY<=1000)
  {W:World}{base e:Nat}{v:Value}{rs:List α}{g:Nat->Nat} (h:gZ T sz hd ln At W base v rs g) (r:α) (q cap:Nat) (hm:rs.length<=100000) (ty:TypeId)
  (he:∀j u,(gQ hd ln r q cap)[j]?=some u->W.cell? ⟨e,j,none⟩=some u) (bg:At W q r) (hc:ln r<=cap) (hq:base<=q) (SX:q<W.1.size) (hn:v.ownBlock≠some q) (hf:∀i,i<rs.length->g i≠q) (gF:base<=W.1.size):
  ∃v' W',(Builtin.append_ #[ST,ST] ty #[v,.slice (some ⟨e,0,none⟩) 1 1]).run P W=.ok v' W'/\gZ T sz hd ln At W' base v' (rs++[r]) (fun i=>if i=rs.length then q else g i)/\W.grownBy W' v.ownBlock/\(v'.ownBlock=v.ownBlock\/v'.ownBlock=some W.1.size):=by
 obtain⟨l7,ho,sH⟩:=h.row;have rz:∀(b o j:Nat),(⟨b,o,none⟩:Addr).add j=⟨b,o+j,none⟩:=fun b o j=>by unfold Addr.add;split<;>simp_all
 obtain⟨v',W',jN,fB,hg,PG,jd⟩:=run_append_own_at (P:=P) W base ST ty T i0 z sz xY ht hi hz hs Pv qL (by have:=hh r;omega)
  v rs.length _ ho ⟨e,0,none⟩ 1 1 (gQ hd ln r q cap) (by simp[gQ,hh]) (fun j u hu=>by rw[rz,Nat.zero_add];exact he j u hu)
  (fun u hu=>by
   simp only[gQ,List.mem_append,List.mem_map,List.mem_singleton]at hu
   rcases hu with ⟨x,_,rfl⟩|rfl<;>rfl) (by unfold maxLen;omega) (by
   have:(rs.length+1)*xY<=100001*1000:=Nat.mul_le_mul (by omega) iE
   omega) gF
 have dZ:∀x,x<W.1.size->v.ownBlock≠some x->W'.1[x]?=W.1[x]?:=fun x hx fF=>hg.block x hx (fun e'=>fF e'.symm)
 have WL:∀x,x<W.1.size->v.ownBlock≠some x->v'.ownBlock≠some x:=fun x hx fF=>by
  rcases jd with e'|e'
  ·rw[e'];exact fF
  ·rw[e'];intro JP;cases JP;omega
 have split:∀i y,(rs++[r])[i]?=some y->(i<rs.length/\rs[i]?=some y)\/(i=rs.length/\y=r):=fun i y e=>by
  by_cases hi:i<rs.length
  ·rw[List.getElem?_append_left hi]at e;exact .inl ⟨hi,e⟩
  ·rw[List.getElem?_append_right (by omega)]at e
   have h0:i-rs.length=0:=by
    rcases Nat.eq_zero_or_pos (i-rs.length)with h|h
    ·exact h
    ·rw[List.getElem?_eq_none (by simp;omega)]at e;cases e
   rw[h0]at e;simp at e;exact .inr ⟨by omega,e.symm⟩
 have hlen:(rs++[r]).length=rs.length+1:=by simp
 refine⟨v',W',jN,⟨⟨fun i=>if i=rs.length then cap else l7 i,by rw[Gr,hlen];exact fB,fun i y e'=>?_⟩,fun i Aj=>?_,fun i Aj=>?_,fun i Aj=>?_,fun i y e'=>?_,fun i j Aj OH ee=>?_⟩,hg,jd⟩
 ·rcases split i y e' with ⟨Aj,e'⟩|⟨rfl,rfl⟩
  ·show ln y<=if i=rs.length then cap else l7 i
   rw[if_neg (by omega)];exact sH i y e'
  ·show ln y<=if rs.length=rs.length then cap else l7 rs.length
   rw[if_pos rfl];exact hc
 ·by_cases e':i=rs.length
  ·rw[if_pos e'];exact hq
  ·rw[if_neg e'];exact h.low i (by omega)
 ·by_cases e':i=rs.length
  ·rw[if_pos e'];exact Nat.lt_of_lt_of_le SX hg.size
  ·rw[if_neg e'];exact Nat.lt_of_lt_of_le (h.lt i (by omega)) hg.size
 ·by_cases e':i=rs.length
  ·rw[if_pos e'];exact WL q SX hn
  ·rw[if_neg e'];exact WL _ (h.lt i (by omega)) (h.ne i (by omega))
 ·rcases split i y e' with ⟨Aj,e'⟩|⟨rfl,rfl⟩
  ·rw[if_neg (by omega)];exact I9 _ _ _ _ (dZ _ (h.lt i Aj) (h.ne i Aj)) (h.sub i y e')
  ·rw[if_pos rfl];exact I9 _ _ _ _ (dZ _ SX hn) bg
 ·by_cases ei:i=rs.length<;>by_cases ek:j=rs.length
  ·omega
  ·simp only[if_pos ei,if_neg ek]at ee;exact absurd ee.symm (hf j (by omega))
  ·simp only[if_neg ei,if_pos ek]at ee;exact absurd ee (hf i (by omega))
  ·simp only[if_neg ei,if_neg ek]at ee;exact h.inj i j (by omega) (by omega) ee
end
section
variable {B m q:Nat}{X:World}{a:Option Addr}{g:Nat->Nat->Prop}{v:Value}
def Kd.flat{D V:Type}(K:Kd D V)(ps:List (V×D)):List Value:=ps.flatMap fun p=>K.cells p.1 p.2
theorem Kd.tJ{D V:Type}(K:Kd D V)(ps:List (V×D)):(K.flat ps).length=ps.length*K.n:=by
 induction ps with
 | nil=>simp[Kd.flat]
 | cons p ps ih=>
  unfold Kd.flat at ih ⊢;rw[List.flatMap_cons,List.length_append,ih,K.len,List.length_cons,Nat.add_mul];omega
theorem Kd.iZ{D V:Type}(K:Kd D V){ps:List (V×D)}{i t:Nat}{p:V×D}(h:ps[i]?=some p)(ht:t<K.n):(K.flat ps)[i*K.n+t]?=(K.cells p.1 p.2)[t]?:=Go.Proofs.YtalnmfefmiapoaaGreatDoor.iZ (f:=fun p:V×D=>K.cells p.1 p.2) (fun _ _=>K.len _ _) h ht
theorem Kd.JS{D V:Type}(K:Kd D V)(ps:List (V×D))(p:V×D):K.flat (ps++[p])=K.flat ps++K.cells p.1 p.2:=by simp[Kd.flat]
structure Kd.Grow{D V:Type}(K:Kd D V)(T:TypeId)(X:World)(B:Nat)(v:Value)(ps:List (V×D))(g:Nat->Nat->Prop):Prop where
 row:X.ownsRow B T K.n v ps.length (K.flat ps)
 sub:∀i p,ps[i]?=some p->K.Ow X B p.1 p.2 (g i)
 ne:∀i q,i<ps.length->g i q->v.ownBlock≠some q
 ap:∀i j q,i<ps.length->j<ps.length->i≠j->g i q->¬g j q
def Kd.jU{D V:Type}(v:Value)(ps:List (V×D))(g:Nat->Nat->Prop)(q:Nat):Prop:=v.ownBlock=some q\/∃i,i<ps.length/\g i q
theorem Kd.Grow.nil{D V:Type}(K:Kd D V)(T:TypeId)(X:World)(B:Nat)(g:Nat->Nat->Prop):K.Grow T X B (.slice none 0 0) [] g:=
 ⟨⟨by simp[Kd.flat],.inl ⟨rfl,rfl⟩⟩,fun i p e=>by simp at e,fun i q h=>by simp at h,fun i j q h=>by simp at h⟩
theorem Kd.Grow.blocks{D V:Type}{K:Kd D V}{T:TypeId}{ps:List (V×D)}(h:K.Grow T X B v ps g)(hq:Kd.jU v ps g q):B<=q/\q<X.1.size:=by
 rcases hq with e|⟨i,hi,hq⟩
 ·exact World.ownsRow.lt h.row q e
 ·exact K.of (h.sub i _ (List.getElem?_eq_getElem hi)) hq
theorem Kd.Grow.aQ{D V:Type}{K:Kd D V}{T:TypeId}{X Y:World}{B:Nat}{v:Value}{ps:List (V×D)}{g:Nat->Nat->Prop}(h:K.Grow T X B v ps g)(hs:X.1.size<=Y.1.size)(hk:∀q,Kd.jU v ps g q->Y.1[q]?=X.1[q]?):K.Grow T Y B v ps g:=by
 refine⟨⟨h.row.1,h.row.2.imp id ?_⟩,fun i p e=>K.aQ (h.sub i p e) hs (fun q hq=>hk q (.inr ⟨i,(List.getElem?_eq_some_iff.1 e).1,hq⟩)),h.ne,h.ap⟩;rintro ⟨q,cap,cur,rfl,l,hg,r⟩;exact⟨q,cap,cur,rfl,l,(hk q (.inl rfl)).trans hg,r⟩
theorem Kd.Grow.form{D V:Type}{K:Kd D V}{T:TypeId}{ps:List (V×D)}(h:K.Grow T X B v ps g):∃a cap,v=.slice a ps.length cap:=by
 rcases h.row.2 with ⟨rfl,h0⟩|⟨q,cap,cur,rfl,_⟩
 ·exact⟨none,0,by rw[h0]⟩
 ·exact⟨_,_,rfl⟩
theorem Kd.Grow.part{D V:Type}{K:Kd D V}{T:TypeId}{cap:Nat}{ps:List (V×D)}(h:K.Grow T X B (.slice a m cap) ps g){ds:List D}(hd:ps.map (·.2)=ds)(e:ps≠[]):∃b,a=some ⟨b,0,none⟩/\K.Part X B b ds.length ds g/\∀i p,ps[i]?=some p->At X b (i*K.n) (K.cells p.1 p.2):=by
 have rF:0<ps.length:=List.length_pos_iff.2 e;obtain⟨b,aZ,ev,hB,aN⟩:=World.ownsRow.form h.row rF;have hl:ds.length=ps.length:=by rw[<-hd];simp
 have kH:=h.row;rw[ev]at kH;have ea:a=some ⟨b,0,none⟩:=by injection ev
 have eb:(Value.slice a m cap).ownBlock=some b:=by rw[ea];rfl
 have bg:∀i p,ps[i]?=some p->At X b (i*K.n) (K.cells p.1 p.2):=fun i p hp t u hu=>by
  have o7:=(List.getElem?_eq_some_iff.1 hp).1;have ht:t<K.n:=by have:=(List.getElem?_eq_some_iff.1 hu).1;rwa[K.len]at this
  have hm:i*K.n+K.n<=ps.length*K.n:=by rw[<-Nat.succ_mul];exact Nat.mul_le_mul_right _ o7
  rw[World.ownsRow.cellAt kH _ (by omega),K.iZ hp ht];exact hu
 refine⟨b,ea,⟨fun j hj=>?_,fun i d hi=>?_,fun i q hi hq e'=>?_,fun i j q hi hj=>h.ap i j q (by omega) (by omega)⟩,bg⟩
 ·rw[hl]at hj;have hx:j<(K.flat ps).length:=by rw[K.tJ];exact hj
  exact⟨_,by rw[World.ownsRow.cellAt kH j hj];exact List.getElem?_eq_getElem hx,World.ownsRow.frozenAt kH j⟩
 ·have o7:i<ps.length:=by have:=(List.getElem?_eq_some_iff.1 hi).1;omega
  have hp:=List.getElem?_eq_getElem o7
  have cG:(ps[i]).2=d:=by
   rw[<-hd,List.getElem?_map,hp]at hi;simpa using hi
  exact⟨(ps[i]).1,by rw[<-cG];exact bg i _ hp,by rw[<-cG];exact h.sub i _ hp⟩
 ·subst e';exact h.ne i q (by omega) hq eb
theorem Kd.Grow.own{D V:Type}{K:Kd D V}{T:TypeId}{cap:Nat}{ps:List (V×D)}(h:K.Grow T X B (.slice a m cap) ps g){ds:List D}(hd:ps.map (·.2)=ds):K.nP X B a ds (Kd.jU (.slice a m cap) ps g):=by
 refine⟨?_,fun q hq=>h.blocks hq⟩;by_cases e:ps=[]
 ·left;rw[<-hd,e];rfl
 have hl:ds.length=ps.length:=by rw[<-hd];simp
 obtain⟨b,rfl,hp,_⟩:=h.part hd e;exact .inr ⟨b,g,rfl,.inl rfl,hp,fun i q hi hq=>.inr ⟨i,by omega,hq⟩⟩
theorem Kd.Grow.push{D V:Type}{K:Kd D V}{T ST:TypeId}{xY:Nat}{P:Program}{i0:TypeInfo}{z:Value}(ht:P.underlying ST=some (.slice T))(hi:P.info? T=some i0)(hz:i0.zero=some z)(hs:i0.size=K.n)(Pv:i0.bytes=xY)(qL:z.cells.size=K.n)(iE:xY<=1000)(lE:0<K.n)
  {W:World}{B e:Nat}{v:Value}{ps:List (V×D)}{g:Nat->Nat->Prop} (h:K.Grow T W B v ps g) (x:V) (d:D) (Q:Nat->Prop) (hm:ps.length<=1100000) (ty:TypeId)
  (he:∀j u,(K.cells x d)[j]?=some u->W.cell? ⟨e,j,none⟩=some u) (h1:∀u∈K.cells x d,u.oneCell'=true) (ho:K.Ow W B x d Q) (hf:∀q,Q q->¬Kd.jU v ps g q) (hB:B<=W.1.size):
  ∃v' W',(Builtin.append_ #[ST,ST] ty #[v,.slice (some ⟨e,0,none⟩) 1 1]).run P W=.ok v' W'/\K.Grow T W' B v' (ps++[(x,d)]) (fun i=>if i=ps.length then Q else g i)/\W.grownBy W' v.ownBlock/\(v'.ownBlock=v.ownBlock\/v'.ownBlock=some W.1.size):=by
 have rz:∀(b o j:Nat),(⟨b,o,none⟩:Addr).add j=⟨b,o+j,none⟩:=fun b o j=>by unfold Addr.add;split<;>simp_all
 obtain⟨v',W',jN,fB,hg,PG,jd⟩:=run_append_own_at (P:=P) W B ST ty T i0 z K.n xY ht hi hz hs Pv qL lE
  v ps.length _ h.row ⟨e,0,none⟩ 1 1 (K.cells x d) (by rw[K.len];omega) (fun j u hu=>by rw[rz,Nat.zero_add];exact he j u hu) h1 (by unfold maxLen;omega) (by
   have:(ps.length+1)*xY<=1100001*1000:=Nat.mul_le_mul (by omega) iE
   omega) hB
 have dZ:∀q,q<W.1.size->v.ownBlock≠some q->W'.1[q]?=W.1[q]?:=fun q hq fF=>hg.block q hq (fun e'=>fF e'.symm)
 have WL:∀q,q<W.1.size->v.ownBlock≠some q->v'.ownBlock≠some q:=fun q hq fF=>by
  rcases jd with e'|e'
  ·rw[e'];exact fF
  ·rw[e'];intro JP;cases JP;omega
 have hlen:(ps++[(x,d)]).length=ps.length+1:=by simp
 refine⟨v',W',jN,⟨by rw[K.JS,hlen];exact fB,fun i p e'=>?_,fun i q Aj hq=>?_,fun i j q Aj OH Eu h1 h2=>?_⟩,hg,jd⟩
 ·by_cases hl:i<ps.length
  ·rw[List.getElem?_append_left hl]at e';simp only[if_neg (show i≠ps.length by omega)];have jX:=h.sub i p e';exact K.aQ jX hg.size (fun q hq=>dZ q (K.of jX hq).2 (h.ne i q hl hq))
  ·have XN:i=ps.length:=by have:=(List.getElem?_eq_some_iff.1 e').1;omega
   subst XN;rw[List.getElem?_append_right aR]at e';simp at e';subst e';simp only[if_pos];exact K.aQ ho hg.size (fun q hq=>dZ q (K.of ho hq).2 (fun JP=>hf q hq (.inl JP)))
 ·by_cases e1:i=ps.length
  ·simp only[if_pos e1]at hq;exact WL q (K.of ho hq).2 (fun JP=>hf q hq (.inl JP))
  ·simp only[if_neg e1]at hq;have XN:i<ps.length:=by omega
   exact WL q (h.blocks (.inr ⟨i,XN,hq⟩)).2 (h.ne i q XN hq)
 ·by_cases e1:i=ps.length
  ·by_cases e2:j=ps.length
   ·omega
   ·simp only[if_pos e1]at h1;simp only[if_neg e2]at h2;exact hf q h1 (.inr ⟨j,by omega,h2⟩)
  ·by_cases e2:j=ps.length
   ·simp only[if_neg e1]at h1;simp only[if_pos e2]at h2;exact hf q h2 (.inr ⟨i,by omega,h1⟩)
   ·simp only[if_neg e1]at h1;simp only[if_neg e2]at h2;exact h.ap i j q (by omega) (by omega) Eu h1 h2
theorem Kd.yC{D V:Type}{v':Value}{ps:List (V×D)}{p:V×D}{Q:Nat->Prop}{S:Nat}(hl:v'.ownBlock=v.ownBlock\/v'.ownBlock=some S)(h:Kd.jU v' (ps++[p]) (fun i=>if i=ps.length then Q else g i) q):Kd.jU v ps g q\/Q q\/q=S:=by
 rcases h with h|⟨i,hi,h⟩
 ·rcases hl with e|e
  ·rw[e]at h;exact .inl (.inl h)
  ·rw[e]at h;exact .inr (.inr (Option.some.inj h).symm)
 ·by_cases e:i=ps.length
  ·simp only[if_pos e]at h;exact .inr (.inl h)
  ·simp only[if_neg e]at h;simp at hi;exact .inl (.inr ⟨i,by omega,h⟩)
end
def R4.val(r:R4)(a:Option Addr)(cap:Nat):Value:=.agg #[vI r.kind,vI r.tx,vI r.b,.slice a r.ag.length cap]
def K2.val(k:K2)(a:Option Addr)(cap:Nat):Value:=.agg #[vI k.b,.slice a k.cells.length cap]
def eH(f:Nat->Bool)(n:Nat)(i:Int):Prop:=(i=-1/\∀j,j<n->f j=false)\/∃k:Nat,i=(k:Int)/\k<n/\f k=true/\∀j,j<k->f j=false
theorem gT{f:Nat->Bool}{n:Nat}{i:Int}(h:eH f n i):decide (0<=i)=!((List.range n).all fun j=>!f j):=by
 rcases h with ⟨rfl,h⟩|⟨k,rfl,hk,h,_⟩
 ·have:((List.range n).all fun j=>!f j)=true:=by
   rw[List.all_eq_true];intro j hj;rw[h j (List.mem_range.1 hj)];rfl
  rw[this];rfl
 ·have:((List.range n).all fun j=>!f j)=false:=by
   rw[List.all_eq_false];exact⟨k,List.mem_range.2 hk,by simp[h]⟩
  rw[this];simp
theorem aB{p:Prop}(h:p):Hid p:=h
def Jf(w:World)(n:Nat)(rs:List R4)(f:Nat->Bool):Prop:=
 ∀(X:World) (i:Nat) (a':Option Addr) (aZ:Nat),Below w.1.size w X->i<n->Sl X X.1.size a' (atR rs i).ag.length (atR rs i).ag->Calls Tryz.prog 242 #[(atR rs i).val a' aZ] X fun e w'=>e=.returned (.bool (f i))/\Below X.1.size X w'
theorem Tg(w:World)(a:Option Addr)(n cap:Nat)(rs:List R4)(f:Nat->Bool)(hn:n<=maxLen)(hs:Gg w w.1.size a n rs)(hf:Jf w n rs  f):
  Calls Tryz.prog 261 #[.slice a n cap,.func (.func 242) #[] #[]] w fun e w'=>(∃i:Int,e=.returned (vI i)/\eH f n i)/\Below w.1.size w w':=by
 unfold maxLen at hn;obtain⟨hx,hs⟩:=hs;have HF:=aB hf;clear hf;go_enter Tryz.func261,Tryz.ntmps261;go_wp2;go_loopw[8] (fun v wr=>∃j:Nat,j<=n/\v=vI j/\Below w.1.size w wr/\∀i,i<j->f i=false) (fun v _=>n-(intOf v).toNat)
 case atStart=>exact⟨0,Nat.zero_le _,rfl,aJ,fun i h=>absurd h (by omega)⟩
 case round=>
  obtain⟨j,hj,rfl,aF,aP⟩:=hrel;by_cases aN:j<n
  ·rcases hs with hs|⟨b,off,rfl,hb,h1⟩
   ·omega
   ·have hr:=(h1 j _ (iV (by omega))).below aF hb;have c0:=hr.c0;have c1:=hr.c1;have c2:=hr.c2;obtain⟨a',aZ,c3,gy,jJ⟩:=hr.c3;have KA:Hid ((∀i,i<j->f i=false)/\Below w.1.size w wr):=⟨aP,aF⟩
    have hw:=HF.out wr j a' aZ aF aN (gy.mono aF.size);simp only[R4.val]at hw;clear h1 hr aP gy aF jJ;generalize (atR rs j).ag.length=ln at *
    cases hp:f j with
    | true=>
     rw[hp]at hw;go_wp2_with fail;refine hw.mono ?_;clear hw;rintro e w1 ⟨rfl,b1⟩;go_wp2;go_ret;exact⟨⟨_,rfl,.inr ⟨j,rfl,aN,hp,KA.out.1⟩⟩,KA.out.2.trans (b1.mono KA.out.2.size)⟩
    | false=>
     rw[hp]at hw;go_wp2_with fail;refine hw.mono ?_;clear hw;rintro e w1 ⟨rfl,b1⟩;go_wp2
     exact⟨⟨j+1,by omega,by simp,KA.out.2.trans (b1.mono KA.out.2.size),fun i hi=>by
      by_cases e:i=j
      ·rw[e];exact hp
      ·exact KA.out.1 i (by omega)⟩,by simp[intOf];omega⟩
  ·have:j=n:=by omega
   subst this;have hd:decide ((j:Int)<(j:Int))=false:=by simp
   have KA:Hid (∀i,i<j->f i=false):=aP;clear hs aP;go_wp2;go_ret;exact⟨⟨_,rfl,.inl ⟨rfl,KA.out⟩⟩,aF⟩
theorem J7(w:World)(a:Option Addr)(n cap:Nat)(rs:List R4)(f:Nat->Bool)(hn:n<=maxLen)(hs:Gg w w.1.size a n rs)(hf:Jf w n rs f):
  Calls Tryz.prog 244 #[.slice a n cap,.func (.func 242) #[] #[]] w fun e w'=>e=.returned (.bool (!((List.range n).all fun j=>!f j)))/\Below w.1.size w w':=by
 have hi:=Tg w a n cap rs f hn hs hf;clear hs hf;go_enter Tryz.func244,Tryz.ntmps244;go_wp2_with fail;refine hi.mono ?_;clear hi;rintro e w1 ⟨⟨i,rfl,qO⟩,b1⟩;have hb:=gT qO;clear qO;generalize hV:(!((List.range n).all fun j=>!f j))=V at hb;go_wp2;go_ret;exact⟨by rw[hV];rfl,b1⟩
def Je(w:World)(n:Nat)(rs:List K2)(f:Nat->Bool):Prop:=
 ∀(X:World) (i:Nat) (a':Option Addr) (aZ:Nat),Below w.1.size w X->i<n->pE X X.1.size a' (cO rs i).cells.length (cO rs i).cells->Calls Tryz.prog 238 #[(cO rs i).val a' aZ] X fun e w'=>e=.returned (.bool (f i))/\Below X.1.size X w'
theorem Tf(w:World)(a:Option Addr)(n cap:Nat)(rs:List K2)(f:Nat->Bool)(hn:n<=maxLen)(hs:xe w w.1.size a n rs)(hf:Je w n rs  f):
  Calls Tryz.prog 258 #[.slice a n cap,.func (.func 238) #[] #[]] w fun e w'=>(∃i:Int,e=.returned (vI i)/\eH f n i)/\Below w.1.size w w':=by
 unfold maxLen at hn;obtain⟨hx,hs⟩:=hs;have HF:=aB hf;clear hf;go_enter Tryz.func258,Tryz.ntmps258;go_wp2;go_loopw[8] (fun v wr=>∃j:Nat,j<=n/\v=vI j/\Below w.1.size w wr/\∀i,i<j->f i=false) (fun v _=>n-(intOf v).toNat)
 case atStart=>exact⟨0,Nat.zero_le _,rfl,aJ,fun i h=>absurd h (by omega)⟩
 case round=>
  obtain⟨j,hj,rfl,aF,aP⟩:=hrel;by_cases aN:j<n
  ·rcases hs with hs|⟨b,off,rfl,hb,h1⟩
   ·omega
   ·have hr:=(h1 j _ (eX (by omega))).below aF hb;have c0:=hr.c0;obtain⟨a',aZ,c1,gy,jJ⟩:=hr.c1;have KA:Hid ((∀i,i<j->f i=false)/\Below w.1.size w wr):=⟨aP,aF⟩
    have hw:=HF.out wr j a' aZ aF aN (gy.mono aF.size);simp only[K2.val]at hw;clear h1 hr aP gy aF jJ;generalize (cO rs j).cells.length=ln at *
    cases hp:f j with
    | true=>
     rw[hp]at hw;go_wp2_with fail;refine hw.mono ?_;clear hw;rintro e w1 ⟨rfl,b1⟩;go_wp2;go_ret;exact⟨⟨_,rfl,.inr ⟨j,rfl,aN,hp,KA.out.1⟩⟩,KA.out.2.trans (b1.mono KA.out.2.size)⟩
    | false=>
     rw[hp]at hw;go_wp2_with fail;refine hw.mono ?_;clear hw;rintro e w1 ⟨rfl,b1⟩;go_wp2
     exact⟨⟨j+1,by omega,by simp,KA.out.2.trans (b1.mono KA.out.2.size),fun i hi=>by
      by_cases e:i=j
      ·rw[e];exact hp
      ·exact KA.out.1 i (by omega)⟩,by simp[intOf];omega⟩
  ·have:j=n:=by omega
   subst this;have hd:decide ((j:Int)<(j:Int))=false:=by simp
   have KA:Hid (∀i,i<j->f i=false):=aP;clear hs aP;go_wp2;go_ret;exact⟨⟨_,rfl,.inl ⟨rfl,KA.out⟩⟩,aF⟩
theorem J6(w:World)(a:Option Addr)(n cap:Nat)(rs:List K2)(f:Nat->Bool)(hn:n<=maxLen)(hs:xe w w.1.size a n rs)(hf:Je w n rs f):
  Calls Tryz.prog 241 #[.slice a n cap,.func (.func 238) #[] #[]] w fun e w'=>e=.returned (.bool (!((List.range n).all fun j=>!f j)))/\Below w.1.size w w':=by
 have hi:=Tf w a n cap rs f hn hs hf;clear hs hf;go_enter Tryz.func241,Tryz.ntmps241;go_wp2_with fail;refine hi.mono ?_;clear hi;rintro e w1 ⟨⟨i,rfl,qO⟩,b1⟩;have hb:=gT qO;clear qO;generalize hV:(!((List.range n).all fun j=>!f j))=V at hb;go_wp2;go_ret;exact⟨by rw[hV];rfl,b1⟩
def Jg(w:World)(n:Nat)(rs:List Int)(f:Nat->Bool):Prop:=
 ∀(X:World) (i:Nat) ,Below w.1.size w X->i<n->True->Calls Tryz.prog 245 #[vI (eU rs i)] X fun e w'=>e=.returned (.bool (f i))/\Below X.1.size X w'
theorem Ti(w:World)(a:Option Addr)(n cap:Nat)(rs:List Int)(f:Nat->Bool)(hn:n<=maxLen)(hs:mP w w.1.size a n rs)(hf:Jg w n rs  f):
  Calls Tryz.prog 262 #[.slice a n cap,.func (.func 245) #[] #[]] w fun e w'=>(∃i:Int,e=.returned (vI i)/\eH f n i)/\Below w.1.size w w':=by
 unfold maxLen at hn;obtain⟨hx,hs⟩:=hs;have HF:=aB hf;clear hf;go_enter Tryz.func262,Tryz.ntmps262;go_wp2;go_loopw[8] (fun v wr=>∃j:Nat,j<=n/\v=vI j/\Below w.1.size w wr/\∀i,i<j->f i=false) (fun v _=>n-(intOf v).toNat)
 case atStart=>exact⟨0,Nat.zero_le _,rfl,aJ,fun i h=>absurd h (by omega)⟩
 case round=>
  obtain⟨j,hj,rfl,aF,aP⟩:=hrel;by_cases aN:j<n
  ·rcases hs with hs|⟨b,off,rfl,hb,h1⟩
   ·omega
   ·have c0:=(aF.cell (p:=⟨b,off+j,none⟩) hb).trans (h1 j _ (iJ (by omega)));have KA:Hid ((∀i,i<j->f i=false)/\Below w.1.size w wr):=⟨aP,aF⟩
    have hw:=HF.out wr j aF aN trivial;clear h1 aP aF
    cases hp:f j with
    | true=>
     rw[hp]at hw;go_wp2_with fail;refine hw.mono ?_;clear hw;rintro e w1 ⟨rfl,b1⟩;go_wp2;go_ret;exact⟨⟨_,rfl,.inr ⟨j,rfl,aN,hp,KA.out.1⟩⟩,KA.out.2.trans (b1.mono KA.out.2.size)⟩
    | false=>
     rw[hp]at hw;go_wp2_with fail;refine hw.mono ?_;clear hw;rintro e w1 ⟨rfl,b1⟩;go_wp2
     exact⟨⟨j+1,by omega,by simp,KA.out.2.trans (b1.mono KA.out.2.size),fun i hi=>by
      by_cases e:i=j
      ·rw[e];exact hp
      ·exact KA.out.1 i (by omega)⟩,by simp[intOf];omega⟩
  ·have:j=n:=by omega
   subst this;have hd:decide ((j:Int)<(j:Int))=false:=by simp
   have KA:Hid (∀i,i<j->f i=false):=aP;clear hs aP;go_wp2;go_ret;exact⟨⟨_,rfl,.inl ⟨rfl,KA.out⟩⟩,aF⟩
theorem J8(w:World)(a:Option Addr)(n cap:Nat)(rs:List Int)(f:Nat->Bool)(hn:n<=maxLen)(hs:mP w w.1.size a n rs)(hf:Jg w n rs f):
  Calls Tryz.prog 248 #[.slice a n cap,.func (.func 245) #[] #[]] w fun e w'=>e=.returned (.bool (!((List.range n).all fun j=>!f j)))/\Below w.1.size w w':=by
 have hi:=Ti w a n cap rs f hn hs hf;clear hs hf;go_enter Tryz.func248,Tryz.ntmps248;go_wp2_with fail;refine hi.mono ?_;clear hi;rintro e w1 ⟨⟨i,rfl,qO⟩,b1⟩;have hb:=gT qO;clear qO;generalize hV:(!((List.range n).all fun j=>!f j))=V at hb;go_wp2;go_ret;exact⟨by rw[hV];rfl,b1⟩
section
variable {P:Program}{z:Value}
theorem sN{α:Type}{cells:α->List Value}{T ST:TypeId}{sz xY:Nat}(hl:∀s,(cells s).length=sz)(h1:∀s,∀u∈cells s,u.oneCell'=true)(dQ:0<sz){i0:TypeInfo}(ht:P.underlying ST=some (.slice T))(hi:P.info? T=some i0)(hz:i0.zero=some z)(hs:i0.size=sz)(Pv:i0.bytes=xY)(qL:z.cells.size=sz)(iE:xY<=1000)
  {W:World}{base:Nat}{v:Value} (h:W.ownsRow base T sz v 0 []) (xs:List α) (hx:0<xs.length) (hm:xs.length<=1048576) (ty:TypeId) (b off k:Nat) (src:∀i s,xs[i]?=some s->∀t u,(cells s)[t]?=some u->W.cell? ⟨b,off+i*sz+t,none⟩=some u) (gF:base<=W.1.size):
  ∃q cap W',(Builtin.append_ #[ST,ST] ty #[v,.slice (some ⟨b,off,none⟩) xs.length k]).run P W=.ok (.slice (some ⟨q,0,none⟩) xs.length cap) W'/\base<=q/\q<W'.1.size/\xs.length<=cap/\(∀i s,xs[i]?=some s->∀t u,(cells s)[t]?=some u->W'.cell? ⟨q,i*sz+t,none⟩=some u)/\Room W' q (xs.length*sz)/\W.grownBy W' v.ownBlock/\(v.ownBlock=some q\/q=W.1.size)/\W'.ownsRow base T sz (.slice (some ⟨q,0,none⟩) xs.length cap) xs.length (xs.flatMap cells):=by
 have rz:∀(b o j:Nat),(⟨b,o,none⟩:Addr).add j=⟨b,o+j,none⟩:=fun b o j=>by unfold Addr.add;split<;>simp_all
 have SB:∀l:List α,(l.flatMap cells).length=l.length*sz:=fun l=>by
  induction l with
  | nil=>simp
  | cons y l ih=>rw[List.flatMap_cons,List.length_append,ih,hl,List.length_cons,Nat.add_mul];omega
 obtain⟨v',W',jN,fB,hg,PG,jd⟩:=run_append_own_at (P:=P) W base ST ty T i0 z sz xY ht hi hz hs Pv qL dQ
  v 0 [] h ⟨b,off,none⟩ xs.length k (xs.flatMap cells) (SB xs) (fun j u hu=>by
   have hj:j<xs.length*sz:=by rw[<-SB];exact(List.getElem?_eq_some_iff.1 hu).1
   have hi:j/sz<xs.length:=Nat.div_lt_of_lt_mul (by rw[Nat.mul_comm];exact hj);have oN:=List.getElem?_eq_getElem hi;have QR:j/sz*sz+j%sz=j:=Nat.div_add_mod' j sz;have:=iZ (f:=cells) (l:=xs) (fun x _=>hl x) oN (Nat.mod_lt j dQ);rw[QR]at this;rw[rz,<-QR,<-Nat.add_assoc]
   exact src _ _ oN _ u (by rw[<-this];exact hu))
  (fun u hu=>by obtain⟨s,_,hs⟩:=List.mem_flatMap.1 hu;exact h1 s u hs) (by unfold maxLen;omega) (by
   have:(0+xs.length)*xY<=1048576*1000:=Nat.mul_le_mul (by omega) iE
   omega) gF
 rw[Nat.zero_add,List.nil_append]at fB
 have yM:∃q cap,v'=.slice (some ⟨q,0,none⟩) xs.length cap/\xs.length<=cap:=by
  rcases fB.2 with ⟨_,h0⟩|⟨q,cap,cur,rfl,_,_,hl,_⟩
  ·omega
  ·exact⟨q,cap,rfl,hl⟩
 obtain⟨q,cap,rfl,hc⟩:=yM;have hb:=World.ownsRow.lt fB q rfl;refine⟨q,cap,W',jN,hb.1,hb.2,hc,fun i s e t u hu=>?_,fun j hj=>?_,hg,?_,fB⟩
 ·have hi:=(List.getElem?_eq_some_iff.1 e).1;have ht:=(List.getElem?_eq_some_iff.1 hu).1;rw[hl]at ht;have:(i+1)*sz<=xs.length*sz:=Nat.mul_le_mul_right sz hi;rw[Nat.add_mul]at this;rw[World.ownsRow.cellAt fB _ (by omega),iZ (fun x _=>hl x) e ht];exact hu
 ·exact⟨_,by rw[World.ownsRow.cellAt fB j hj];exact List.getElem?_eq_getElem (by rw[SB];exact hj),World.ownsRow.frozenAt fB j⟩
 ·rcases jd with e|e
  ·exact .inl e.symm
  ·exact .inr (Option.some.inj e)
theorem ui:(Tryz.prog.info? 100).map (fun i=>(i.zero,i.size,i.bytes))=some (some (.agg #[vI 0,vI 0,vI 0,.bool false,vI 0]),5,40):=by kernel_rfl
theorem PV:(Tryz.prog.info? 2).map (fun i=>(i.zero,i.size,i.bytes))=some (some (vI 0),1,8):=by kernel_rfl
theorem partsOf{t:TypeId}{s b:Nat}(h:(P.info? t).map (fun i=>(i.zero,i.size,i.bytes))=some (some z,s,b)):∃i,P.info? t=some i/\i.zero=some z/\i.size=s/\i.bytes=b:=by
 obtain⟨i,hi,mR⟩:=Option.map_eq_some_iff.1 h;simp only[Prod.mk.injEq]at mR;exact⟨i,hi,mR.1,mR.2.1,mR.2.2⟩
theorem IV(W:World)(base:Nat)(v:Value)(h:W.ownsRow base 104 2 v 0 [])(xs:List C2)(hx:0<xs.length)(hm:xs.length<=1048576)(ty:TypeId)(b off k:Nat)(src:bJ W b off xs)(gF:base<=W.1.size):
  ∃q cap W',(Builtin.append_ #[105,105] ty #[v,.slice (some ⟨b,off,none⟩) xs.length k]).run Tryz.prog W=.ok (.slice (some ⟨q,0,none⟩) xs.length cap) W'/\base<=q/\q<W'.1.size/\xs.length<=cap/\bJ W' q 0 xs/\Room W' q (xs.length*2)/\W.grownBy W' v.ownBlock/\(v.ownBlock=some q\/q=W.1.size):=by
 obtain⟨i0,qP,rH,lY,nY⟩:=partsOf BK
 obtain⟨q,cap,W',h1,h2,h3,h4,h5,h6,h7,h8,_⟩:=sN (cells:=C2.cells) (fun _=>rfl) (fun s u hu=>by
  simp only[C2.cells,List.mem_cons,List.not_mem_nil,or_false]at hu
  rcases hu with rfl|rfl<;>rfl) (by omega) Tryz.underlying105 qP rH lY nY rfl (by omega) h xs hx hm ty b off k (fun i s e t u hu=>by
   obtain⟨c0,c1⟩:=src i s e;rcases t with _|_|t
   ·simp[C2.cells]at hu;subst hu;exact c0
   ·simp[C2.cells]at hu;subst hu;exact c1
   ·simp[C2.cells]at hu) gF
 refine⟨q,cap,W',h1,h2,h3,h4,fun i s e=>⟨?_,?_⟩,h6,h7,h8⟩
 ·rw[Nat.zero_add];exact h5 i s e 0 _ rfl
 ·rw[Nat.zero_add];exact h5 i s e 1 _ rfl
def S5.pI(s:S5):List Value:=[vI s.b,vI s.e,vI s.g,.bool s.i,vI s.j]
theorem Cu(W:World)(base:Nat)(v:Value)(h:W.ownsRow base 100 5 v 0 [])(xs:List S5)(hx:0<xs.length)(hm:xs.length<=1048576)(ty:TypeId)(b off k:Nat)(src:aX W b off xs)(gF:base<=W.1.size):
  ∃q cap W',(Builtin.append_ #[48,48] ty #[v,.slice (some ⟨b,off,none⟩) xs.length k]).run Tryz.prog W=.ok (.slice (some ⟨q,0,none⟩) xs.length cap) W'/\base<=q/\q<W'.1.size/\xs.length<=cap/\aX W' q 0 xs/\Room W' q (xs.length*5)/\W.grownBy W' v.ownBlock/\(v.ownBlock=some q\/q=W.1.size):=by
 obtain⟨i0,qP,rH,lY,nY⟩:=partsOf ui
 obtain⟨q,cap,W',h1,h2,h3,h4,h5,h6,h7,h8,_⟩:=sN (cells:=S5.pI) (fun _=>rfl) (fun s u hu=>by
  simp only[S5.pI,List.mem_cons,List.not_mem_nil,or_false]at hu
  rcases hu with rfl|rfl|rfl|rfl|rfl<;>rfl) (by omega) Tryz.underlying48 qP rH lY nY rfl (by omega) h xs hx hm ty b off k (fun i s e t u hu=>by
   obtain⟨c0,c1,c2,c3,c4⟩:=src i s e;rcases t with _|_|_|_|_|t
   ·simp[S5.pI]at hu;subst hu;exact c0
   ·simp[S5.pI]at hu;subst hu;exact c1
   ·simp[S5.pI]at hu;subst hu;exact c2
   ·simp[S5.pI]at hu;subst hu;exact c3
   ·simp[S5.pI]at hu;subst hu;exact c4
   ·simp[S5.pI]at hu) gF
 refine⟨q,cap,W',h1,h2,h3,h4,fun i s e=>⟨?_,?_,?_,?_,?_⟩,h6,h7,h8⟩
 ·rw[Nat.zero_add];exact h5 i s e 0 _ rfl
 ·rw[Nat.zero_add];exact h5 i s e 1 _ rfl
 ·rw[Nat.zero_add];exact h5 i s e 2 _ rfl
 ·rw[Nat.zero_add];exact h5 i s e 3 _ rfl
 ·rw[Nat.zero_add];exact h5 i s e 4 _ rfl
theorem uw(W:World)(base:Nat)(T:TypeId)(sz:Nat):W.ownsRow base T sz (.slice none 0 0) 0 []:=⟨by simp,.inl ⟨rfl,rfl⟩⟩
theorem uu(w:World)(a:Option Addr)(cap:Nat)(xs:List C2)(hx:0<xs.length)(hm:xs.length<=1048576)(hs:pE w w.1.size a xs.length xs):
  Calls Tryz.prog 151 #[.slice a xs.length cap] w fun e w'=>∃q cp,e=.returned (.slice (some ⟨q,0,none⟩) xs.length cp)/\w.1.size<=q/\q<w'.1.size/\xs.length<=cp/\bJ w' q 0 xs/\Room w' q (xs.length*2)/\Below w.1.size w w':=by
 obtain⟨_,hs⟩:=hs;rcases hs with hs|⟨b,off,rfl,hb,h1⟩
 ·omega
 obtain⟨q,cp,W',hr,h2,h3,h4,h5,h6,h7,h8⟩:=IV w w.1.size (.slice none 0 0) (uw _ _ _ _) xs hx hm 105 b off cap h1 aR;have K:Hid (w.1.size<=q/\q<W'.1.size/\xs.length<=cp/\bJ W' q 0 xs/\Room W' q (xs.length*2)/\Below w.1.size w W'):=⟨h2,h3,h4,h5,h6,aJ.grown h7 aR (fun k h=>by cases h)⟩
 clear h1 h2 h3 h4 h5 h6 h7 h8 hx hm;generalize xs.length=n at *;go_enter Tryz.func151,Tryz.ntmps151;go_wp2_with (at_builtin;refine eO _ rfl (.const (.slice none 0 0)) (.tmp 3) 105 rfl _ _ _ _ rfl rfl hr ?_);go_ret;exact⟨q,cp,rfl,K.out.1,K.out.2.1,K.out.2.2.1,K.out.2.2.2.1,K.out.2.2.2.2.1,K.out.2.2.2.2.2⟩
theorem GG(w:World)(a:Option Addr)(cap:Nat)(xs:List C2)(hx:0<xs.length)(hm:xs.length<=1048576)(hs:pE w w.1.size a xs.length xs):
  Calls Tryz.prog 89 #[.slice a xs.length cap] w fun e w'=>∃q cp,e=.returned (.slice (some ⟨q,0,none⟩) xs.length cp)/\w.1.size<=q/\q<w'.1.size/\xs.length<=cp/\bJ w' q 0 xs/\Room w' q (xs.length*2)/\Below w.1.size w w':=by
 obtain⟨_,hs⟩:=hs;rcases hs with hs|⟨b,off,rfl,hb,h1⟩
 ·omega
 have b0:Below w.1.size w (w.alloc (.cells #[] 104)):=aJ.alloc aR _;obtain⟨q,cp,W',hr,h2,h3,h4,h5,h6,h7,h8⟩:=IV (w.alloc (.cells #[] 104)) w.1.size (.slice (some ⟨w.1.size,0,none⟩) 0 0) (World.ownsRow_made w #[] 0 aR (Nat.zero_le _) rfl) xs hx hm 105 b off cap (h1.below b0 hb) b0.size;have K:Hid (w.1.size<=q/\q<W'.1.size/\xs.length<=cp/\bJ W' q 0 xs/\Room W' q (xs.length*2)/\Below w.1.size w W'):=⟨h2,h3,h4,h5,h6,b0.grown h7 b0.size (fun k h=>by cases h;exact Nat.le_refl _)⟩
 clear h1 h2 h3 h4 h5 h6 h7 h8 hx hm b0;generalize xs.length=n at *;go_enter Tryz.func89,Tryz.ntmps89;go_wp2_with (at_builtin;refine eO _ rfl (.tmp 3) (.tmp 4) 105 rfl _ _ _ _ rfl rfl hr ?_);go_ret;exact⟨q,cp,rfl,K.out.1,K.out.2.1,K.out.2.2.1,K.out.2.2.2.1,K.out.2.2.2.2.1,K.out.2.2.2.2.2⟩
end
structure TR(s:Nat)(k t r:Int)(u:Value)(X:World):Prop where
 d0:X.cell? ⟨s,0,none⟩=some (vI k)
 d1:X.cell? ⟨s,1,none⟩=some (vI t)
 d2:X.cell? ⟨s,2,none⟩=some (vI r)
 d3:X.cell? ⟨s,3,none⟩=some u
 fd:∀j,X.frozen? ⟨s,j,none⟩=false
 e0:X.cell? ⟨s+1,0,none⟩=some (vI 0)
 e1:X.cell? ⟨s+1,1,none⟩=some (vI 0)
 e2:X.cell? ⟨s+1,2,none⟩=some (vI 0)
 e3:X.cell? ⟨s+1,3,none⟩=some (.slice none 0 0)
 fe:∀j,X.frozen? ⟨s+1,j,none⟩=false
theorem TR.aQ{s:Nat}{k t r:Int}{u:Value}{X Y:World}(h:TR s k t r u X)(ea:Y.1[s]?=X.1[s]?)(eb:Y.1[s+1]?=X.1[s+1]?):TR s k t r u Y:=by
 have c:∀{b j:Nat}{u:Value},Y.1[b]?=X.1[b]?->X.cell? ⟨b,j,none⟩=some u->Y.cell? ⟨b,j,none⟩=some u:=fun {b j u} e h=>(World.cell?_of_block (a:=⟨b,j,none⟩) e).trans h
 exact⟨c ea h.d0,c ea h.d1,c ea h.d2,c ea h.d3,fun j=>(World.frozen?_of_block (a:=⟨s,j,none⟩) ea).trans (h.fd j),c eb h.e0,c eb h.e1,c eb h.e2,c eb h.e3,fun j=>(World.frozen?_of_block (a:=⟨s+1,j,none⟩) eb).trans (h.fe j)⟩
theorem AtR.dZ{w:World}{q:Nat}{r:R4}(h:AtR w q r){p:Addr}(hp:p.block≠q)(v:Value):AtR (w.setCell p v) q r:=AtR.aj _ _ _ _ (Below.heap_setCell _ _ _ _ (fun e=>hp e.symm)) h
theorem Bb(w:World)(r:R4)(a:Option Addr)(cap:Nat)(hx:0<r.ag.length)(hm:r.ag.length<=1048576)(hs:Sl w w.1.size a r.ag.length r.ag):
  Calls Tryz.prog 152 #[r.val a cap] w fun e w'=>∃q cp,e=.returned (r.val (some ⟨q,0,none⟩) cp)/\w.1.size<=q/\q<w'.1.size/\r.ag.length<=cp/\AtR w' q r/\Below w.1.size w w':=by
 simp only[R4.val];obtain⟨_,hs⟩:=hs;rcases hs with hs|⟨b,off,rfl,hb,h1⟩
 ·omega
 obtain⟨W,hW⟩:∃W,W=(w.alloc (.cells #[vI r.kind,vI r.tx,vI r.b,.slice (some ⟨b,off,none⟩) r.ag.length cap] 148)).alloc (.cells #[vI 0,vI 0,vI 0,.slice none 0 0] 148):=⟨_,rfl⟩
 have dQ:W.1.size=w.1.size+2:=by subst hW;simp
 have bW:Below w.1.size w W:=by subst hW;exact(aJ.alloc aR _).alloc (by simp) _
 have tW:TR w.1.size r.kind r.tx r.b (.slice (some ⟨b,off,none⟩) r.ag.length cap) W:=by
  subst hW;refine⟨?_,?_,?_,?_,?_,?_,?_,?_,?_,?_⟩;all_goals first|(intro j;go_simp;done)|(go_simp;done)
 obtain⟨q,cp,W',hr,h2,h3,h4,h5,h6,h7,h8⟩:=Cu W W.1.size (.slice none 0 0) (uw _ _ _ _) r.ag hx hm 48 b off cap (h1.below bW hb) aR;have b7:Below W.1.size W W':=aJ.grown h7 aR (fun k h=>by cases h);have ZP:=tW.aQ (Y:=W') (b7.block _ (by omega)) (b7.block _ (by omega));have K:Hid (w.1.size+2<=q/\q<W'.1.size/\r.ag.length<=cp/\AtR W' q r/\Below w.1.size w W'):=⟨by omega,h3,h4,⟨h5,h6⟩,bW.trans (b7.mono bW.size)⟩
 obtain⟨d0,d1,d2,d3,fd,e0,e1,e2,e3,fe⟩:=ZP;have z3:=tW.d3;have f3:=fd 3;have g0:=fe 0;have g1:=fe 1;have g2:=fe 2;have g3:=fe 3;clear h1 h2 h3 h4 h5 h6 h7 h8 hx hm bW tW b7 dQ fd fe;generalize r.ag.length=n at *;subst hW;go_enter Tryz.func152,Tryz.ntmps152;go_wp2_with (at_builtin;refine eO _ rfl (.const (.slice none 0 0)) (.tmp 4) 48 rfl _ _ _ _ rfl rfl hr ?_);obtain⟨k1,k2,k3,k4,k5⟩:=K.out;refine bodyPost_ret (v:=.agg #[vI r.kind,vI r.tx,vI r.b,.slice (some ⟨q,0,none⟩) n cp]) (by simp[results,Tryz.results152,go_sem,e0,e1,e2,e3]) rfl ⟨q,cp,rfl,by omega,?_,k3,?_,?_⟩
 ·simpa[World.setCell]using k2
 ·exact((((k4.dZ (by simp;omega) _).dZ (by simp;omega) _).dZ (by simp;omega) _).dZ (by simp;omega) _).dZ (by simp;omega) _
 ·exact((((k5.setCell (p:=⟨_,_,none⟩) (by simp) _).setCell (p:=⟨_,_,none⟩) (by simp) _).setCell (p:=⟨_,_,none⟩) (by simp) _).setCell (p:=⟨_,_,none⟩) (by simp) _).setCell (p:=⟨_,_,none⟩) (by simp) _
theorem C9(w:World)(r:R4)(a:Option Addr)(cap:Nat)(hx:0<r.ag.length)(hm:r.ag.length<=1048576)(hs:Sl w w.1.size a r.ag.length r.ag):
  Calls Tryz.prog 90 #[r.val a cap] w fun e w'=>∃q cp,e=.returned (r.val (some ⟨q,0,none⟩) cp)/\w.1.size<=q/\q<w'.1.size/\r.ag.length<=cp/\AtR w' q r/\Below w.1.size w w':=by
 simp only[R4.val];obtain⟨_,hs⟩:=hs;rcases hs with hs|⟨b,off,rfl,hb,h1⟩
 ·omega
 obtain⟨W0,eB⟩:∃W0,W0=(w.alloc (.cells #[vI r.kind,vI r.tx,vI r.b,.slice (some ⟨b,off,none⟩) r.ag.length cap] 148)).alloc (.cells #[vI 0,vI 0,vI 0,.slice none 0 0] 148):=⟨_,rfl⟩
 have dQ:W0.1.size=w.1.size+2:=by subst eB;simp
 have bW:Below w.1.size w W0:=by subst eB;exact(aJ.alloc aR _).alloc (by simp) _
 have tW:TR w.1.size r.kind r.tx r.b (.slice (some ⟨b,off,none⟩) r.ag.length cap) W0:=by
  subst eB;refine⟨?_,?_,?_,?_,?_,?_,?_,?_,?_,?_⟩;all_goals first|(intro j;go_simp;done)|(go_simp;done)
 have b0:Below W0.1.size W0 (W0.alloc (.cells #[] 100)):=aJ.alloc aR _;have kH:(W0.alloc (.cells #[] 100)).ownsRow W0.1.size 100 5 (.slice (some ⟨W0.1.size,0,none⟩) 0 0) 0 []:=World.ownsRow_made W0 #[] 0 aR (Nat.zero_le _) rfl;obtain⟨q,cp,W',hr,h2,h3,h4,h5,h6,h7,h8⟩:=Cu (W0.alloc (.cells #[] 100)) W0.1.size _ kH r.ag hx hm 48 b off cap ((h1.below bW hb).below b0 (Nat.lt_of_lt_of_le hb bW.size)) b0.size;have b7:Below W0.1.size W0 W':=b0.grown h7 b0.size (fun k h=>by cases h;exact Nat.le_refl _);have tA:=tW.aQ (Y:=W0.alloc (.cells #[] 100)) (b0.block _ (by omega)) (b0.block _ (by omega));have ZP:=tW.aQ (Y:=W') (b7.block _ (by omega)) (b7.block _ (by omega));have K:Hid (w.1.size+2<=q/\q<W'.1.size/\r.ag.length<=cp/\AtR W' q r/\Below w.1.size w W'):=⟨by omega,h3,h4,⟨h5,h6⟩,bW.trans (b7.mono bW.size)⟩
 obtain⟨d0,d1,d2,d3,fd,e0,e1,e2,e3,fe⟩:=ZP;have z3:=tA.d3;have f3:=fd 3;have g0:=fe 0;have g1:=fe 1;have g2:=fe 2;have g3:=fe 3;rw[dQ]at hr;clear h1 h2 h3 h4 h5 h6 h7 h8 hx hm bW tW tA b7 b0 kH dQ fd fe;generalize r.ag.length=n at *;subst eB;go_enter Tryz.func90,Tryz.ntmps90;go_wp2_with (at_builtin;refine eO _ rfl (.tmp 3) (.tmp 5) 48 rfl _ _ _ _ rfl rfl hr ?_);obtain⟨k1,k2,k3,k4,k5⟩:=K.out;refine bodyPost_ret (v:=.agg #[vI r.kind,vI r.tx,vI r.b,.slice (some ⟨q,0,none⟩) n cp]) (by simp[results,Tryz.results90,go_sem,e0,e1,e2,e3]) rfl ⟨q,cp,rfl,by omega,?_,k3,?_,?_⟩
 ·simpa[World.setCell]using k2
 ·exact((((k4.dZ (by simp;omega) _).dZ (by simp;omega) _).dZ (by simp;omega) _).dZ (by simp;omega) _).dZ (by simp;omega) _
 ·exact((((k5.setCell (p:=⟨_,_,none⟩) (by simp) _).setCell (p:=⟨_,_,none⟩) (by simp) _).setCell (p:=⟨_,_,none⟩) (by simp) _).setCell (p:=⟨_,_,none⟩) (by simp) _).setCell (p:=⟨_,_,none⟩) (by simp) _
section
variable {W X:World}{g gk gr:Nat->Nat}{ks:List K2}{p q:Nat}{rs:List R4}{v vd vk vr:Value}{zs:List Int}
def gB{α:Type}(v:Value)(rs:List α)(g:Nat->Nat)(q:Nat):Prop:=v.ownBlock=some q\/∃i,i<rs.length/\g i=q
theorem gZ.blocks{α:Type}{T:TypeId}{sz:Nat}{hd:α->List Int}{ln:α->Nat}{At:World->Nat->α->Prop}{w:World}{base:Nat}{rs:List α}(h:gZ T sz hd ln At w base v rs g)(hq:gB v rs g q):base<=q/\q<w.1.size:=by
 rcases hq with hq|⟨i,hi,rfl⟩
 ·exact h.lies hq
 ·exact⟨h.low i hi,h.lt i hi⟩
theorem wN{α:Type}{v':Value}{rs:List α}{r:α}{S:Nat}(hl:v'.ownBlock=v.ownBlock\/v'.ownBlock=some S){x:Nat}(h:gB v' (rs++[r]) (fun i=>if i=rs.length then q else g i) x):gB v rs g x\/x=q\/x=S:=by
 rcases h with h|⟨i,hi,h⟩
 ·rcases hl with e|e
  ·rw[e]at h;exact .inl (.inl h)
  ·rw[e]at h;exact .inr (.inr (Option.some.inj h).symm)
 ·by_cases e:i=rs.length
  ·simp only[if_pos e]at h;exact .inr (.inl h.symm)
  ·simp only[if_neg e]at h;simp at hi;exact .inl (.inr ⟨i,by omega,h⟩)
structure MR(base p:Nat)(X:World)(vk vr vd:Value)(ks:List K2)(rs:List R4)(zs:List Int)(gk gr:Nat->Nat):Prop where
 gK:gZ 107 2 pQ vN lD X base vk ks gk
 gR:gZ 148 4 oZ xG AtR X base vr rs gr
 gD:X.ownsRow base 2 1 vd zs.length (zs.map (Value.int .i64))
 kr:∀q,gB vk ks gk q->¬gB vr rs gr q
 kd:∀q,gB vk ks gk q->vd.ownBlock≠some q
 rd:∀q,gB vr rs gr q->vd.ownBlock≠some q
 kp:∀q,gB vk ks gk q->q≠p
 rp:∀q,gB vr rs gr q->q≠p
 dp:vd.ownBlock≠some p
theorem MR.aQ{base p:Nat}{X Y:World}{vk vr vd:Value}{ks:List K2}{rs:List R4}{zs:List Int}{gk gr:Nat->Nat}(h:MR base p X vk vr vd ks rs zs gk gr)(hs:X.1.size<=Y.1.size)(hk:∀q,q<X.1.size->base<=q->q≠p->Y.1[q]?=X.1[q]?):MR base p Y vk vr vd ks rs zs gk gr:=by
 refine⟨h.gK.aQ lD.aj hs (fun q hq hb=>hk q hq (h.gK.blocks hb).1 (h.kp q hb)),h.gR.aQ AtR.aj hs (fun q hq hb=>hk q hq (h.gR.blocks hb).1 (h.rp q hb)),⟨h.gD.1,h.gD.2.imp id ?_⟩,h.kr,h.kd,h.rd,h.kp,h.rp,h.dp⟩;rintro ⟨q,cap,cur,rfl,l,hg,r⟩;exact⟨q,cap,cur,rfl,l,(hk q (World.ownsRow.lt h.gD q rfl).2 l (fun e=>h.dp (by rw[<-e];rfl))).trans hg,r⟩
theorem MR.later{base:Nat}{Y:World}(h:MR base p X vk vr vd ks rs zs gk gr)(hb:Below X.1.size X Y):MR base p Y vk vr vd ks rs zs gk gr:=h.aQ hb.size (fun q hq _ _=>hb.block q hq)
theorem MR.set{base o:Nat}{u:Value}(h:MR base p X vk vr vd ks rs zs gk gr):MR base p (X.setCell ⟨p,o,none⟩ u) vk vr vd ks rs zs gk gr:=h.aQ (by simp[World.setCell]) (fun q _ _ hp=>Below.heap_setCell _ _ _ _ hp)
theorem MR.Rp{base:Nat}(h:MR base p X vk vr vd ks rs zs gk gr)(hb:Below X.1.size X W)(hX:base<=X.1.size)(QX:p<X.1.size)(k:K2)(q cap e:Nat)(hm:ks.length<=100000)(ty:TypeId)
  (e0:W.cell? ⟨e,0,none⟩=some (vI k.b)) (e1:W.cell? ⟨e,1,none⟩=some (.slice (some ⟨q,0,none⟩) k.cells.length cap)) (bg:lD W q k) (hc:k.cells.length<=cap) (hq:X.1.size<=q) (SX:q<W.1.size):
  ∃v' Y,(Builtin.append_ #[89,89] ty #[vk,.slice (some ⟨e,0,none⟩) 1 1]).run Tryz.prog W=.ok v' Y/\MR base p Y v' vr vd (ks++[k]) rs zs (fun i=>if i=ks.length then q else gk i) gr/\W.grownBy Y vk.ownBlock/\(∀x,vk.ownBlock=some x->base<=x/\x<X.1.size/\x≠p):=by
 have hW:=h.later hb;obtain⟨i0,qP,rH,lY,nY⟩:=partsOf BL;have old:∀x,gB vk ks gk x->x<X.1.size:=fun x hx=>(h.gK.blocks hx).2
 obtain⟨v',Y,hr,hg,iT,hl⟩:=gZ.push (hd:=pQ) (ln:=vN) (sz:=2) (e:=e) lD.aj (fun _=>rfl) Tryz.underlying89 qP rH lY nY rfl (by omega) hW.gK k q cap hm ty (fun j u hu=>by
  rcases j with _|_|j
  ·simp[gQ,pQ]at hu;subst hu;exact e0
  ·simp[gQ,pQ,vN]at hu;subst hu;exact e1
  ·simp[gQ,pQ]at hu) bg hc (by omega) SX (fun e'=>by have:=old q (.inl e');omega) (fun i hi e'=>by have:=old q (.inr ⟨i,hi,e'⟩);omega) (Nat.le_trans hX hb.size)
 have new:∀x,gB v' (ks++[k]) (fun i=>if i=ks.length then q else gk i) x->gB vk ks gk x\/X.1.size<=x:=fun x hx=>by
  rcases wN hl hx with h|h|h
  ·exact .inl h
  ·exact .inr (by omega)
  ·exact .inr (by have:=hb.size;omega)
 have fR:∀x,x<W.1.size->vk.ownBlock≠some x->Y.1[x]?=W.1[x]?:=fun x hx fF=>iT.block x hx (fun e'=>fF e'.symm)
 refine⟨v',Y,hr,⟨hg,hW.gR.aQ AtR.aj iT.size (fun x hx bC=>fR x hx (fun e'=>h.kr x (.inl e') bC)),⟨hW.gD.1,hW.gD.2.imp id ?_⟩,fun x hx bC=>?_,fun x hx bC=>?_,h.rd,fun x hx bC=>?_,h.rp,h.dp⟩,iT,fun x hx=>⟨(h.gK.lies hx).1,(h.gK.lies hx).2,h.kp x (.inl hx)⟩⟩
 ·rintro ⟨x,cp,cur,rfl,l,Y7,r⟩;exact⟨x,cp,cur,rfl,l,(fR x (World.ownsRow.lt hW.gD x rfl).2 (fun e'=>h.kd x (.inl e') rfl)).trans Y7,r⟩
 ·rcases new x hx with hn|hn
  ·exact h.kr x hn bC
  ·have:=(h.gR.blocks bC).2;omega
 ·rcases new x hx with hn|hn
  ·exact h.kd x hn bC
  ·have:=(World.ownsRow.lt h.gD x bC).2;omega
 ·rcases new x hx with hn|hn
  ·exact h.kp x hn bC
  ·omega
theorem MR.Rq{base:Nat}(h:MR base p X vk vr vd ks rs zs gk gr)(hb:Below X.1.size X W)(hX:base<=X.1.size)(QX:p<X.1.size)(k:R4)(q cap e:Nat)(hm:rs.length<=100000)(ty:TypeId)
  (e0:W.cell? ⟨e,0,none⟩=some (vI k.kind)) (e1:W.cell? ⟨e,1,none⟩=some (vI k.tx)) (e2:W.cell? ⟨e,2,none⟩=some (vI k.b)) (e3:W.cell? ⟨e,3,none⟩=some (.slice (some ⟨q,0,none⟩) k.ag.length cap)) (bg:AtR W q k) (hc:k.ag.length<=cap) (hq:X.1.size<=q) (SX:q<W.1.size):
  ∃v' Y,(Builtin.append_ #[90,90] ty #[vr,.slice (some ⟨e,0,none⟩) 1 1]).run Tryz.prog W=.ok v' Y/\MR base p Y vk v' vd ks (rs++[k]) zs gk (fun i=>if i=rs.length then q else gr i)/\W.grownBy Y vr.ownBlock/\(∀x,vr.ownBlock=some x->base<=x/\x<X.1.size/\x≠p):=by
 have hW:=h.later hb;obtain⟨i0,qP,rH,lY,nY⟩:=partsOf BM;have old:∀x,gB vr rs gr x->x<X.1.size:=fun x hx=>(h.gR.blocks hx).2
 obtain⟨v',Y,hr,hg,iT,hl⟩:=gZ.push (hd:=oZ) (ln:=xG) (sz:=4) (e:=e) AtR.aj (fun _=>rfl) Tryz.underlying90 qP rH lY nY rfl (by omega) hW.gR k q cap hm ty (fun j u hu=>by
  rcases j with _|_|_|_|j
  ·simp[gQ,oZ]at hu;subst hu;exact e0
  ·simp[gQ,oZ]at hu;subst hu;exact e1
  ·simp[gQ,oZ]at hu;subst hu;exact e2
  ·simp[gQ,oZ,xG]at hu;subst hu;exact e3
  ·simp[gQ,oZ]at hu) bg hc (by omega) SX (fun e'=>by have:=old q (.inl e');omega) (fun i hi e'=>by have:=old q (.inr ⟨i,hi,e'⟩);omega) (Nat.le_trans hX hb.size)
 have new:∀x,gB v' (rs++[k]) (fun i=>if i=rs.length then q else gr i) x->gB vr rs gr x\/X.1.size<=x:=fun x hx=>by
  rcases wN hl hx with h|h|h
  ·exact .inl h
  ·exact .inr (by omega)
  ·exact .inr (by have:=hb.size;omega)
 have fR:∀x,x<W.1.size->vr.ownBlock≠some x->Y.1[x]?=W.1[x]?:=fun x hx fF=>iT.block x hx (fun e'=>fF e'.symm)
 refine⟨v',Y,hr,⟨hW.gK.aQ lD.aj iT.size (fun x hx bC=>fR x hx (fun e'=>h.kr x bC (.inl e'))),hg,⟨hW.gD.1,hW.gD.2.imp id ?_⟩,fun x bC hx=>?_,h.kd,fun x hx bC=>?_,h.kp,fun x hx bC=>?_,h.dp⟩,iT,fun x hx=>⟨(h.gR.lies hx).1,(h.gR.lies hx).2,h.rp x (.inl hx)⟩⟩
 ·rintro ⟨x,cp,cur,rfl,l,Y7,r⟩;exact⟨x,cp,cur,rfl,l,(fR x (World.ownsRow.lt hW.gD x rfl).2 (fun e'=>h.rd x (.inl e') rfl)).trans Y7,r⟩
 ·rcases new x hx with hn|hn
  ·exact h.kr x bC hn
  ·have:=(h.gK.blocks bC).2;omega
 ·rcases new x hx with hn|hn
  ·exact h.rd x hn bC
  ·have:=(World.ownsRow.lt h.gD x bC).2;omega
 ·rcases new x hx with hn|hn
  ·exact h.rp x hn bC
  ·omega
theorem MR.om{base:Nat}{v:MV}{m:M4}(h:MR base p X (.slice v.ac m.af.length v.cc) (.slice v.al m.h.length v.cl) (.slice v.ad m.ai.length v.cd) m.af m.h m.ai gk gr):
  OM X base v m (gB (.slice v.ac m.af.length v.cc) m.af gk) (gB (.slice v.al m.h.length v.cl) m.h gr) (fun q=>(Value.slice v.ad m.ai.length v.cd).ownBlock=some q):=by
 refine⟨?_,?_,?_,h.kr,h.kd,h.rd,fun q hq=>(h.gK.blocks hq).1,fun q hq=>(h.gR.blocks hq).1,fun q hq=>(World.ownsRow.lt h.gD q hq).1⟩
 ·by_cases e:m.af=[]
  ·exact .inl e
  ·obtain⟨b,cap,ev,h1,h2,h3,h4,h5⟩:=gZ.own (hd:=pQ) (sz:=2) (fun _=>rfl) h.gK e;have ea:v.ac=some ⟨b,0,none⟩:=by injection ev
   exact .inr ⟨b,gk,ea,.inl (by rw[ea];rfl),fun i hi=>.inr ⟨i,hi,rfl⟩,h2,h4,h5.base⟩
 ·by_cases e:m.h=[]
  ·exact .inl e
  ·obtain⟨b,cap,ev,h1,h2,h3,h4,h5⟩:=gZ.own (hd:=oZ) (sz:=4) (fun _=>rfl) h.gR e;have ea:v.al=some ⟨b,0,none⟩:=by injection ev
   exact .inr ⟨b,gr,ea,.inl (by rw[ea];rfl),fun i hi=>.inr ⟨i,hi,rfl⟩,h2,h4,h5.base⟩
 ·by_cases e:m.ai=[]
  ·exact .inl e
  ·have rF:0<m.ai.length:=List.length_pos_iff.2 e;obtain⟨b,cap,ev,h1,h2⟩:=World.ownsRow.form h.gD rF;have ea:v.ad=some ⟨b,0,none⟩:=by injection ev
   have ec:v.cd=cap:=by injection ev
   have hg:=h.gD;rw[ea]at hg;refine .inr ⟨b,ea,by rw[ea];rfl,h2,fun i z ez=>?_,fun j hj=>⟨vI (m.ai[j]'hj),?_,World.ownsRow.frozenAt hg j⟩⟩
   ·have hi:=(List.getElem?_eq_some_iff.1 ez).1;rw[Nat.zero_add,World.ownsRow.cellAt hg i (by omega),List.getElem?_map,ez];rfl
   ·rw[World.ownsRow.cellAt hg j (by omega),List.getElem?_map,List.getElem?_eq_getElem hj];rfl
end
section
variable {W X:World}{gm gp gt:Nat->Nat->Prop}{ms:List (MV×M4)}{p:Nat}{ps:List ((Nat×Nat)×List Int)}{ts:List (tx.TV×tx.T7)}{vm vp vt:Value}
def ao.Ow(w:World)(B:Nat)(v:Nat×Nat)(zs:List Int)(P:Nat->Prop):Prop:=(P v.1/\dV w v.1 0 zs/\Room w v.1 zs.length/\zs.length<=v.2)/\(∀q,P q->B<=q/\q<w.1.size)
def Ag:Kd (List Int) (Nat×Nat) where
 n:=1
 cells v zs:=[.slice (some ⟨v.1,0,none⟩) zs.length v.2]
 len:=fun _ _=>rfl
 Rd X v zs:=v.1<X.1.size/\dV X v.1 0 zs
 Ow:=ao.Ow
 later:=fun h b=>⟨Nat.lt_of_lt_of_le h.1 b.size,h.2.aj (b.block _ h.1)⟩
 sl:=fun h=>⟨(h.2 _ h.1.1).2,h.1.2.1⟩
 of:=fun h hq=>h.2 _ hq
 aQ:=fun h hs hk=>⟨⟨h.1.1,h.1.2.1.aj (hk _ h.1.1),h.1.2.2.1.aj (hk _ h.1.1),h.1.2.2.2⟩,fun q hq=>⟨(h.2 q hq).1,Nat.lt_of_lt_of_le (h.2 q hq).2 hs⟩⟩
 low:=fun h hb=>⟨h.1,fun q hq=>⟨Nat.le_trans hb (h.2 q hq).1,(h.2 q hq).2⟩⟩
theorem Cb{B:Nat}{a:Option Addr}{m cap:Nat}{g:Nat->Nat->Prop}(h:Ag.Grow 93 X B (.slice a m cap) ps g){aO:List (List Int)}(hd:ps.map (·.2)=aO):KP.Ow X B a aO (Kd.jU (.slice a m cap) ps g):=by
 refine⟨?_,fun q hq=>h.blocks hq⟩;have hl:aO.length=ps.length:=by rw[<-hd];simp
 by_cases e:ps=[]
 ·refine⟨fun _=>0,?_,fun b e'=>.inl (by rw[e'];rfl),fun i hi=>by rw[hl,e]at hi;simp at hi⟩;have hz:aO=[]:=by rw[<-hd,e];rfl
  rcases h.row.2 with ⟨e',_⟩|⟨q,aZ,cur,e',hB,hg,r⟩
  ·left;exact⟨by injection e',by rw[hz];rfl,hz⟩
  ·right;have ea:a=some ⟨q,0,none⟩:=by injection e'
   refine⟨q,ea,hB,(World.ownsRow.lt h.row q (by rw[e'];rfl)).2,?_⟩;rw[hz];exact kE.nil X B q _
 have rF:0<ps.length:=List.length_pos_iff.2 e;obtain⟨b,aZ,ev,hB,aN⟩:=World.ownsRow.form h.row rF;have kH:=h.row;rw[ev]at kH;have ea:a=some ⟨b,0,none⟩:=by injection ev
 have eb:(Value.slice a m cap).ownBlock=some b:=by rw[ea];rfl
 have hx:∀i zs,aO[i]?=some zs->∃hi:i<ps.length,(ps[i]).2=zs:=fun i zs hi=>by
  have o7:i<ps.length:=by have:=(List.getElem?_eq_some_iff.1 hi).1;omega
  refine⟨o7,?_⟩;rw[<-hd,List.getElem?_map,List.getElem?_eq_getElem o7]at hi;simpa using hi
 have hs:∀i (hi:i<ps.length),ao.Ow X B (ps[i]).1 (ps[i]).2 (g i):=fun i hi=>h.sub i _ (List.getElem?_eq_getElem hi)
 have gq:∀i (hi:i<ps.length),(ps[i]?.getD ((0,0),[])).1.1=(ps[i]).1.1:=fun i hi=>by simp[List.getElem?_eq_getElem hi]
 refine⟨fun i=>((ps[i]?.getD ((0,0),[])).1.1),.inr ⟨b,ea,hB,aN,⟨rfl,fun i zs hi=>?_,fun i hi=>?_,fun i hi=>?_,fun i hi=>?_,fun i zs hi=>?_,fun i zs hi=>?_,fun i j hi hj ee=>?_⟩⟩,fun b' e'=>.inl (by rw[e'];rfl),fun i hi=>?_⟩
 ·obtain⟨o7,hz⟩:=hx i zs hi;refine⟨(ps[i]).1.2,?_,?_⟩
  ·rw[gq i o7,<-hz];have hc:=World.ownsRow.cellAt kH i (by show i<ps.length*1;omega);rw[hc];have:=Ag.iZ (t:=0) (List.getElem?_eq_getElem o7) (by decide);simpa[Ag]using this
  ·rw[<-hz];exact(hs i o7).1.2.2.2
 ·have o7:i<ps.length:=by omega
  rw[gq i o7];exact((hs i o7).2 _ (hs i o7).1.1).1
 ·have o7:i<ps.length:=by omega
  rw[gq i o7];exact((hs i o7).2 _ (hs i o7).1.1).2
 ·have o7:i<ps.length:=by omega
  rw[gq i o7];intro e';exact h.ne i b o7 (by rw[<-e'];exact(hs i o7).1.1) eb
 ·obtain⟨o7,hz⟩:=hx i zs hi;rw[gq i o7,<-hz];exact(hs i o7).1.2.1
 ·obtain⟨o7,hz⟩:=hx i zs hi;rw[gq i o7,<-hz];exact(hs i o7).1.2.2.1
 ·have o7:i<ps.length:=by omega
  have Za:j<ps.length:=by omega
  rw[gq i o7,gq j Za]at ee;by_cases Eu:i=j
  ·exact Eu
  ·exact absurd (by rw[ee];exact(hs j Za).1.1) (h.ap i j _ o7 Za Eu (hs i o7).1.1)
 ·have o7:i<ps.length:=by omega
  show Kd.jU _ _ _ ((ps[i]?.getD ((0,0),[])).1.1)
  rw[gq i o7];exact .inr ⟨i,o7,(hs i o7).1.1⟩
structure su(base p:Nat)(X:World)(vp vm vt:Value)(ps:List ((Nat×Nat)×List Int))(gp:Nat->Nat->Prop)(ms:List (MV×M4))(gm:Nat->Nat->Prop)(ts:List (tx.TV×tx.T7))(gt:Nat->Nat->Prop):Prop where
 P:Ag.Grow 93 X base vp ps gp
 M:fZ.Grow 92 X base vm ms gm
 T:fQ.Grow 50 X base vt ts gt
 pm:∀q,Kd.jU vp ps gp q->¬Kd.jU vm ms gm q
 pt:∀q,Kd.jU vp ps gp q->¬Kd.jU vt ts gt q
 mt:∀q,Kd.jU vm ms gm q->¬Kd.jU vt ts gt q
 pp:∀q,Kd.jU vp ps gp q->q≠p
 mp:∀q,Kd.jU vm ms gm q->q≠p
 tp:∀q,Kd.jU vt ts gt q->q≠p
theorem su.aQ{base p:Nat}{X Y:World}{vp vm vt:Value}{ps:List ((Nat×Nat)×List Int)}{gp:Nat->Nat->Prop}{ms:List (MV×M4)}{gm:Nat->Nat->Prop}{ts:List (tx.TV×tx.T7)}{gt:Nat->Nat->Prop}(h:su base p X vp vm vt ps gp ms gm ts gt)(hs:X.1.size<=Y.1.size)(hk:∀q,q<X.1.size->base<=q->q≠p->Y.1[q]?=X.1[q]?):su base p Y vp vm vt ps gp ms gm ts gt:=
 ⟨h.P.aQ hs (fun q hq=>hk q (h.P.blocks hq).2 (h.P.blocks hq).1 (h.pp q hq)),h.M.aQ hs (fun q hq=>hk q (h.M.blocks hq).2 (h.M.blocks hq).1 (h.mp q hq)),h.T.aQ hs (fun q hq=>hk q (h.T.blocks hq).2 (h.T.blocks hq).1 (h.tp q hq)),h.pm,h.pt,h.mt,h.pp,h.mp,h.tp⟩
theorem su.later{base:Nat}{Y:World}(h:su base p X vp vm vt ps gp ms gm ts gt)(hb:Below X.1.size X Y):su base p Y vp vm vt ps gp ms gm ts gt:=h.aQ hb.size (fun q hq _ _=>hb.block q hq)
theorem su.set{base o:Nat}{u:Value}(h:su base p X vp vm vt ps gp ms gm ts gt):su base p (X.setCell ⟨p,o,none⟩ u) vp vm vt ps gp ms gm ts gt:=h.aQ (by simp[World.setCell]) (fun q _ _ hp=>Below.heap_setCell _ _ _ _ hp)
def jb:Nat->Nat->Prop:=fun _ _=>False
theorem qD{D V:Type}{q:Nat}(h:Kd.jU (D:=D) (V:=V) (.slice none 0 0) [] jb q):False:=by
 rcases h with h|⟨i,hi,_⟩
 ·cases h
 ·simp at hi
theorem su.nil(base p:Nat)(X:World):su base p X (.slice none 0 0) (.slice none 0 0) (.slice none 0 0) [] jb [] jb [] jb:=
 ⟨Kd.Grow.nil _ _ _ _ _,Kd.Grow.nil _ _ _ _ _,Kd.Grow.nil _ _ _ _ _,fun _ h=>(qD h).elim,fun _ h=>(qD h).elim,fun _ h=>(qD h).elim,fun _ h=>(qD h).elim,fun _ h=>(qD h).elim,fun _ h=>(qD h).elim⟩
theorem su.ow{base:Nat}{a1:Option Addr}{c1:Nat}{a2:Option Addr}{c2:Nat}{a3:Option Addr}{c3:Nat}{k:C6}(h:su base p X (.slice a1 k.f.length c1) (.slice a2 k.aa.length c2) (.slice a3 k.c.length c3) ps gp ms gm ts gt)(e1:ps.map (·.2)=k.f)(e2:ms.map (·.2)=k.aa)(e3:ts.map (·.2)=k.c):
  bK.Ow X base a1 c1 a2 c2 a3 c3 k (fun q=>Kd.jU (.slice a1 k.f.length c1) ps gp q\/Kd.jU (.slice a2 k.aa.length c2) ms gm q\/Kd.jU (.slice a3 k.c.length c3) ts gt q):=
 ⟨⟨_,_,_,Cb h.P e1,h.M.own e2,h.T.own e3,fun _ hq=>.inl hq,fun _ hq=>.inr (.inl hq),fun _ hq=>.inr (.inr hq),h.pm,h.pt,h.mt⟩,fun q hq=>by rcases hq with hq|hq|hq;exact h.P.blocks hq;exact h.M.blocks hq;exact h.T.blocks hq⟩
theorem Ka:(Tryz.prog.info? 93).map (fun i=>(i.zero,i.size,i.bytes))=some (some (.agg #[.slice none 0 0]),1,24):=by kernel_rfl
theorem EI:(Tryz.prog.info? 92).map (fun i=>(i.zero,i.size,i.bytes))=some (some (.agg #[.bool false,.slice none 0 0,.slice none 0 0,.slice none 0 0]),4,80):=by kernel_rfl
theorem Tj:(Tryz.prog.info? 50).map (fun i=>(i.zero,i.size,i.bytes))=some (some (.agg #[vI 0,vI 0,vI 0,vI 0,.slice none 0 0,.slice none 0 0,vI 0]),7,88):=by kernel_rfl
theorem su.Ju{base:Nat}(h:su base p X vp vm vt ps gp ms gm ts gt)(hb:Below X.1.size X W)(hX:base<=X.1.size)(QX:p<X.1.size)(x:Nat×Nat)(d:List Int)(Q:Nat->Prop)(e:Nat)(hm:ps.length<=1000)(ty:TypeId)
  (he:∀j u,(Ag.cells x d)[j]?=some u->W.cell? ⟨e,j,none⟩=some u) (ho:Ag.Ow W X.1.size x d Q):
  ∃v' Y,(Builtin.append_ #[28,28] ty #[vp,.slice (some ⟨e,0,none⟩) 1 1]).run Tryz.prog W=.ok v' Y/\su base p Y v' vm vt (ps++[(x,d)]) (fun i=>if i=ps.length then Q else gp i) ms gm ts gt/\W.grownBy Y vp.ownBlock/\(∀y,vp.ownBlock=some y->base<=y/\y<X.1.size/\y≠p):=by
 have hW:=h.later hb;obtain⟨i0,qP,rH,lY,nY⟩:=partsOf Ka;have old:∀y,Kd.jU vp ps gp y->y<X.1.size:=fun y hy=>(h.P.blocks hy).2
 obtain⟨v',Y,hr,hg,iT,hl⟩:=Kd.Grow.push (K:=Ag) (e:=e) Tryz.underlying28 qP rH lY nY rfl (by omega) (by decide) hW.P x d Q (by omega) ty he (by intro u hu;simp only[Ag,List.mem_cons,List.not_mem_nil,or_false]at hu;subst hu;rfl) (Ag.low ho hX) (fun y hy fC=>by have:=(Ag.of ho hy).1;have:=old y fC;omega) (Nat.le_trans hX hb.size)
 have new:∀y,Kd.jU v' (ps++[(x,d)]) (fun i=>if i=ps.length then Q else gp i) y->Kd.jU vp ps gp y\/X.1.size<=y:=fun y hy=>by
  rcases Kd.yC hl hy with h'|h'|h'
  ·exact .inl h'
  ·exact .inr (Ag.of ho h').1
  ·exact .inr (by have:=hb.size;omega)
 have dZ:∀y,y<W.1.size->vp.ownBlock≠some y->Y.1[y]?=W.1[y]?:=fun y hy fF=>iT.block y hy (fun e'=>fF e'.symm)
 exact⟨v',Y,hr,⟨hg,hW.M.aQ iT.size (fun y hy=>dZ y (hW.M.blocks hy).2 (fun e'=>h.pm y (.inl e') hy)),hW.T.aQ iT.size (fun y hy=>dZ y (hW.T.blocks hy).2 (fun e'=>h.pt y (.inl e') hy)),fun y hy hz=>by rcases new y hy with hn|hn;exact h.pm y hn hz;have:=(h.M.blocks hz).2;omega,fun y hy hz=>by rcases new y hy with hn|hn;exact h.pt y hn hz;have:=(h.T.blocks hz).2;omega,h.mt,fun y hy=>by rcases new y hy with hn|hn;exact h.pp y hn;omega,h.mp,h.tp⟩,iT,fun y hy=>⟨(h.P.blocks (.inl hy)).1,(h.P.blocks (.inl hy)).2,h.pp y (.inl hy)⟩⟩
theorem su.Jt{base:Nat}(h:su base p X vp vm vt ps gp ms gm ts gt)(hb:Below X.1.size X W)(hX:base<=X.1.size)(QX:p<X.1.size)(x:MV)(d:M4)(Q:Nat->Prop)(e:Nat)(hm:ms.length<=1000)(ty:TypeId)
  (he:∀j u,(fZ.cells x d)[j]?=some u->W.cell? ⟨e,j,none⟩=some u) (ho:fZ.Ow W X.1.size x d Q):
  ∃v' Y,(Builtin.append_ #[29,29] ty #[vm,.slice (some ⟨e,0,none⟩) 1 1]).run Tryz.prog W=.ok v' Y/\su base p Y vp v' vt ps gp (ms++[(x,d)]) (fun i=>if i=ms.length then Q else gm i) ts gt/\W.grownBy Y vm.ownBlock/\(∀y,vm.ownBlock=some y->base<=y/\y<X.1.size/\y≠p):=by
 have hW:=h.later hb;obtain⟨i0,qP,rH,lY,nY⟩:=partsOf EI;have old:∀y,Kd.jU vm ms gm y->y<X.1.size:=fun y hy=>(h.M.blocks hy).2
 obtain⟨v',Y,hr,hg,iT,hl⟩:=Kd.Grow.push (K:=fZ) (e:=e) Tryz.underlying29 qP rH lY nY rfl (by omega) (by decide) hW.M x d Q (by omega) ty he (by intro u hu;simp only[fZ,List.mem_cons,List.not_mem_nil,or_false]at hu;rcases hu with rfl|rfl|rfl|rfl<;>rfl) (fZ.low ho hX) (fun y hy fC=>by have:=(fZ.of ho hy).1;have:=old y fC;omega) (Nat.le_trans hX hb.size)
 have new:∀y,Kd.jU v' (ms++[(x,d)]) (fun i=>if i=ms.length then Q else gm i) y->Kd.jU vm ms gm y\/X.1.size<=y:=fun y hy=>by
  rcases Kd.yC hl hy with h'|h'|h'
  ·exact .inl h'
  ·exact .inr (fZ.of ho h').1
  ·exact .inr (by have:=hb.size;omega)
 have dZ:∀y,y<W.1.size->vm.ownBlock≠some y->Y.1[y]?=W.1[y]?:=fun y hy fF=>iT.block y hy (fun e'=>fF e'.symm)
 exact⟨v',Y,hr,⟨hW.P.aQ iT.size (fun y hy=>dZ y (hW.P.blocks hy).2 (fun e'=>h.pm y hy (.inl e'))),hg,hW.T.aQ iT.size (fun y hy=>dZ y (hW.T.blocks hy).2 (fun e'=>h.mt y (.inl e') hy)),fun y hy hz=>by rcases new y hz with hn|hn;exact h.pm y hy hn;have:=(h.P.blocks hy).2;omega,h.pt,fun y hy hz=>by rcases new y hy with hn|hn;exact h.mt y hn hz;have:=(h.T.blocks hz).2;omega,h.pp,fun y hy=>by rcases new y hy with hn|hn;exact h.mp y hn;omega,h.tp⟩,iT,fun y hy=>⟨(h.M.blocks (.inl hy)).1,(h.M.blocks (.inl hy)).2,h.mp y (.inl hy)⟩⟩
theorem su.Jv{base:Nat}(h:su base p X vp vm vt ps gp ms gm ts gt)(hb:Below X.1.size X W)(hX:base<=X.1.size)(QX:p<X.1.size)(x:tx.TV)(d:tx.T7)(Q:Nat->Prop)(e:Nat)(hm:ts.length<=1000)(ty:TypeId)
  (he:∀j u,(fQ.cells x d)[j]?=some u->W.cell? ⟨e,j,none⟩=some u) (ho:fQ.Ow W X.1.size x d Q):
  ∃v' Y,(Builtin.append_ #[30,30] ty #[vt,.slice (some ⟨e,0,none⟩) 1 1]).run Tryz.prog W=.ok v' Y/\su base p Y vp vm v' ps gp ms gm (ts++[(x,d)]) (fun i=>if i=ts.length then Q else gt i)/\W.grownBy Y vt.ownBlock/\(∀y,vt.ownBlock=some y->base<=y/\y<X.1.size/\y≠p):=by
 have hW:=h.later hb;obtain⟨i0,qP,rH,lY,nY⟩:=partsOf Tj;have old:∀y,Kd.jU vt ts gt y->y<X.1.size:=fun y hy=>(h.T.blocks hy).2
 obtain⟨v',Y,hr,hg,iT,hl⟩:=Kd.Grow.push (K:=fQ) (e:=e) Tryz.underlying30 qP rH lY nY rfl (by omega) (by decide) hW.T x d Q (by omega) ty he (by intro u hu;simp only[fQ,List.mem_cons,List.not_mem_nil,or_false]at hu;rcases hu with rfl|rfl|rfl|rfl|rfl|rfl|rfl<;>rfl) (fQ.low ho hX) (fun y hy fC=>by have:=(fQ.of ho hy).1;have:=old y fC;omega) (Nat.le_trans hX hb.size)
 have new:∀y,Kd.jU v' (ts++[(x,d)]) (fun i=>if i=ts.length then Q else gt i) y->Kd.jU vt ts gt y\/X.1.size<=y:=fun y hy=>by
  rcases Kd.yC hl hy with h'|h'|h'
  ·exact .inl h'
  ·exact .inr (fQ.of ho h').1
  ·exact .inr (by have:=hb.size;omega)
 have dZ:∀y,y<W.1.size->vt.ownBlock≠some y->Y.1[y]?=W.1[y]?:=fun y hy fF=>iT.block y hy (fun e'=>fF e'.symm)
 exact⟨v',Y,hr,⟨hW.P.aQ iT.size (fun y hy=>dZ y (hW.P.blocks hy).2 (fun e'=>h.pt y hy (.inl e'))),hW.M.aQ iT.size (fun y hy=>dZ y (hW.M.blocks hy).2 (fun e'=>h.mt y hy (.inl e'))),hg,h.pm,fun y hy hz=>by rcases new y hz with hn|hn;exact h.pt y hy hn;have:=(h.P.blocks hy).2;omega,fun y hy hz=>by rcases new y hz with hn|hn;exact h.mt y hy hn;have:=(h.M.blocks hy).2;omega,h.pp,h.mp,fun y hy=>by rcases new y hy with hn|hn;exact h.tp y hn;omega⟩,iT,fun y hy=>⟨(h.T.blocks (.inl hy)).1,(h.T.blocks (.inl hy)).2,h.tp y (.inl hy)⟩⟩
end
theorem uI(w:World)(a:Option Addr)(n cap:Nat)(l:Nat)(hn:n<=maxLen)(hl:l<=1048576):Calls Tryz.prog 79 #[.slice a n cap,vI (l:Int)] w fun e w'=>e=.returned (vI (if n<=l then((l-n:Nat):Int)else -1))/\w'=w:=by
 unfold maxLen at hn;by_cases h:n<=l
 ·rw[if_pos h];have d0:decide ((l:Int)-(n:Int)<0)=false:=by simp;omega
  go_enter Tryz.func79,Tryz.ntmps79;go_wp2;go_ret;have e:((l-n:Nat):Int)=(l:Int)-(n:Int):=by omega
  exact⟨by rw[e];rfl,rfl⟩
 ·rw[if_neg h];have d0:decide ((l:Int)-(n:Int)<0)=true:=by simp;omega
  go_enter Tryz.func79,Tryz.ntmps79;go_wp2;go_ret;exact⟨rfl,rfl⟩
theorem FR(w:World)(a:Option Addr)(n cap:Nat)(l:Nat)(hn:n<=maxLen)(hl:l<=1048576):Calls Tryz.prog 37 #[.agg #[.slice a n cap],vI (l:Int)] w fun e w'=>e=.returned (vI (if n<=l then((l-n:Nat):Int)else -1))/\Below w.1.size w w':=by
 by_cases h:n<=l
 ·rw[if_pos h];go_enter Tryz.func37,Tryz.ntmps37;go_wp2_with fail;have hz:=uI (w.alloc (.cells #[.slice a n cap] 76)) a n cap l hn hl;rw[if_pos h]at hz;refine hz.mono ?_;rintro e w1 ⟨rfl,rfl⟩;have d0:decide (((l-n:Nat):Int)<0)=false:=by simp
  go_wp2;go_ret;exact⟨rfl,aJ.alloc aR _⟩
 ·rw[if_neg h];go_enter Tryz.func37,Tryz.ntmps37;go_wp2_with fail;have hz:=uI (w.alloc (.cells #[.slice a n cap] 76)) a n cap l hn hl;rw[if_neg h]at hz;refine hz.mono ?_;rintro e w1 ⟨rfl,rfl⟩;go_wp2;go_ret;exact⟨rfl,aJ.alloc aR _⟩
def U7(n:Nat)(aO:List (List Int)):Int:=if n+lens aO<=1048576 then((1048576-(n+lens aO):Nat):Int)else -1
theorem Dl(w:World)(a:Option Addr)(n cap:Nat)(aO:List (List Int))(hn:n<=maxLen)(hs:uS w w.1.size a n aO)(hl:∀zs∈aO,zs.length<=maxLen):
  Calls Tryz.prog 11 #[.slice a n cap,vI 1048576] w fun e w'=>e=.returned (vI (U7 n aO))/\Below w.1.size w w':=by
 obtain⟨hx,hs⟩:=hs;have Ey:=hn;unfold maxLen at Ey;by_cases h0:n<=1048576
 ·have d0:decide ((1048576:Int)-(n:Int)<0)=false:=by simp;omega
  go_enter Tryz.func11,Tryz.ntmps11;go_wp2;go_loopw[1,5] (fun v1 v5 wr=>∃j:Nat,j<=n/\v5=vI j/\n+lens (aO.take j)<=1048576/\v1=vI ((1048576-(n+lens (aO.take j)):Nat):Int)/\Below w.1.size w wr) (fun _ v5 _=>n-(intOf v5).toNat)
  case atStart=>exact⟨0,Nat.zero_le _,rfl,by simpa[lens]using h0,by simp[lens];omega,aJ⟩
  case round=>
   obtain⟨j,hj,rfl,hle,rfl,aF⟩:=hrel;have KL:Hid (n+lens (aO.take j)<=1048576/\aO.length=n/\(∀zs∈aO,zs.length<=maxLen)):=⟨hle,hx,hl⟩
   by_cases aN:j<n
   ·rcases hs with hs|⟨b,off,rfl,hb,h1⟩
    ·omega
    ·obtain⟨a',aZ,hc,_,_⟩:=h1 j _ (fI (by omega));have c:=(aF.cell (p:=⟨b,off+j,none⟩) hb).trans hc;have hz:=FR wr a' (dR aO j).length aZ (1048576-(n+lens (aO.take j))) (hl _ (List.mem_of_getElem? (fI (by omega)))) (by omega);have Cs:Hid (lens (aO.take (j+1))=lens (aO.take j)+(dR aO j).length):=lens_take_succ (by omega);have OW:Hid (lens (aO.take (j+1))<=lens aO):=lens_take_le _ _;have KB:Hid (Below w.1.size w wr):=aF;generalize XH:lens (aO.take j)=LL at *;generalize (dR aO j).length=m at *;clear h1 hc aF hl hx hle;by_cases tT:m<=1048576-(n+LL)
     ·rw[if_pos tT]at hz;have d1:decide (((1048576-(n+LL)-m:Nat):Int)<0)=false:=by simp
      go_wp2_with fail;refine hz.mono ?_;clear hz;rintro e w1 ⟨rfl,b1⟩;go_wp2;have h1:=KL.out.1;refine⟨⟨j+1,by omega,by simp,by rw[Cs.out];omega,by rw[Cs.out];congr 2;omega,KB.out.trans (b1.mono KB.out.size)⟩,by simp[intOf];omega⟩
     ·rw[if_neg tT]at hz;go_wp2_with fail;refine hz.mono ?_;clear hz;rintro e w1 ⟨rfl,b1⟩;go_wp2;go_ret;have h2:=Cs.out;have h3:=OW.out;refine⟨by rw[U7,if_neg (by omega)];rfl,KB.out.trans (b1.mono KB.out.size)⟩
   ·have:j=n:=by omega
    subst this;have hd:decide ((j:Int)<(j:Int))=false:=by simp
    have ht:aO.take j=aO:=List.take_of_length_le (by omega);rw[ht]at hle ⊢;clear hs hl KL ht;go_wp2;go_ret;exact⟨by rw[U7,if_pos hle];rfl,aF⟩
 ·have d0:decide ((1048576:Int)-(n:Int)<0)=true:=by simp;omega
  go_enter Tryz.func11,Tryz.ntmps11;go_wp2;go_ret;exact⟨by rw[U7,if_neg (by omega)];rfl,aJ⟩
def Bg(k:C6):Nat:=(k.f.length+lens k.f)+(k.aa.length+uQ.l9 k.aa)+(k.c.length+uR.l9 k.c)
structure bK.L(k:C6):Prop where
 p:k.f.length<=maxLen
 ps:∀zs∈k.f,zs.length<=maxLen
 m:k.aa.length<=maxLen
 ms:∀m∈k.aa,ML m
 t:k.c.length<=maxLen
 ts:∀t∈k.c,tx.TL t
theorem Dk{α:Type}(f:α->Nat){x:α}:∀{l:List α},x∈l->f x<=(l.map f).sum
 | y::l,h=>by
  simp only[List.map_cons,List.sum_cons];rcases List.mem_cons.1 h with rfl|h
  ·omega
  ·have:=Dk f h;omega
theorem bK.S.of{k:C6}(h:Bg k<=1048576):bK.S k:=by
 unfold Bg at h;refine⟨by omega,fun zs hz=>?_,by omega,fun m hm=>MT.WY ?_,by omega,fun t ht=>?_⟩
 ·have:=Np hz;omega
 ·have:=Dk (fun m=>Ii m) hm;unfold uQ.l9 at h;omega
 ·have h1:=Dk (fun t=>tx.yn t) ht;unfold uR.l9 at h;have h2:tx.yn t=t.a.length+t.ag.length:=rfl;exact⟨by omega,by omega⟩
theorem bK.sz(X:World)(a1:Option Addr)(c1:Nat)(a2:Option Addr)(c2:Nat)(a3:Option Addr)(c3:Nat)(k:C6)(hl:bK.L k)(h:bK.Rd X a1 c1 a2 c2 a3 c3 k):Calls Tryz.prog 4 #[.agg #[vI k.u,vI k.l,.slice a1 k.f.length c1,.slice a2 k.aa.length c2,.slice a3 k.c.length c3,.bool k.w],vI 1048576] X fun e w'=>e=.returned (vI (fK 1048576 (Bg k)))/\Below X.1.size X w':=by
 obtain⟨U,hU⟩:∃Y,Y=X.alloc (.cells #[vI k.u,vI k.l,.slice a1 k.f.length c1,.slice a2 k.aa.length c2,.slice a3 k.c.length c3,.bool k.w] 26):=⟨_,rfl⟩
 have b0:Below X.1.size X U:=by rw[hU];exact aJ.alloc aR _
 have FA:Hid (Bx U X.1.size (dJ a1 c1 a2 c2 a3 c3 k)):=by rw[hU];exact Bx.made X (dJ a1 c1 a2 c2 a3 c3 k) _
 have HR:Hid (bK.Rd U a1 c1 a2 c2 a3 c3 k/\bK.L k/\Below X.1.size X U):=⟨h.later b0,hl,b0⟩
 have lY:=Dl U a1 k.f.length c1 k.f hl.p (h.later b0).p hl.ps;have e1:U7 k.f.length k.f=fK 1048576 (k.f.length+lens k.f):=by unfold U7 fK;rfl
 rw[e1]at lY;have HS:Hid (Bg k=(k.f.length+lens k.f)+(k.aa.length+uQ.l9 k.aa)+(k.c.length+uR.l9 k.c)):=rfl;have HM:Hid (∀(w:World) (l:Nat),Below U.1.size U w->l<=1048576->Calls Tryz.prog 12 #[.slice a2 k.aa.length c2,vI (l:Int)] w fun e w'=>e=.returned (vI (fK l (k.aa.length+uQ.l9 k.aa)))/\Below w.1.size w w'):=fun w l hb Gw=>uQ.sz w a2 c2 k.aa l Gw hl.m hl.ms ((h.later b0).later hb).m
 have HT:Hid (∀(w:World) (l:Nat),Below U.1.size U w->l<=1048576->Calls Tryz.prog 13 #[.slice a3 k.c.length c3,vI (l:Int)] w fun e w'=>e=.returned (vI (fK l (k.c.length+uR.l9 k.c)))/\Below w.1.size w w'):=fun w l hb Gw=>uR.sz w a3 c3 k.c l Gw hl.t hl.ts ((h.later b0).later hb).t
 rw[HS.out];generalize k.f.length+lens k.f=n1 at *;generalize k.aa.length+uQ.l9 k.aa=n2 at *;generalize k.c.length+uR.l9 k.c=n3 at *;have p2:=FA.out.1 2 _ rfl;rw[hU]at p2;clear b0 hl h e1 HS;go_enter Tryz.func4,Tryz.ntmps4;go_wp2_with fail;rw[<-hU];clear hU p2;refine lY.mono ?_;clear lY;rintro e w1 ⟨rfl,b1⟩;have B1:=tx.aB b1;clear b1;by_cases g1:n1<=1048576
 ·rw[bO g1];have d1:decide (((1048576-n1:Nat):Int)<0)=false:=by simp
  have p3:=(FA.out.later B1.out).1 3 _ rfl;have hz:=HM.out w1 (1048576-n1) B1.out (by omega);go_wp2_with fail;refine hz.mono ?_;clear hz p3;rintro e w2 ⟨rfl,b2⟩;have B2:Hid (Below U.1.size U w2):=ay B1.out b2;clear b2;by_cases g2:n2<=1048576-n1
  ·rw[bO g2];have d2:decide (((1048576-n1-n2:Nat):Int)<0)=false:=by simp
   have p4:=(FA.out.later B2.out).1 4 _ rfl;have hz:=HT.out w2 (1048576-n1-n2) B2.out (by omega);go_wp2_with fail;refine hz.mono ?_;clear hz p4;rintro e w3 ⟨rfl,b3⟩;have B3:Hid (Below U.1.size U w3):=ay B2.out b3;clear b3;by_cases g3:n3<=1048576-n1-n2
   ·rw[bO g3];have d3:decide (((1048576-n1-n2-n3:Nat):Int)<0)=false:=by simp
    go_wp2;go_ret;exact⟨by rw[bO (by omega),show 1048576-(n1+n2+n3)=1048576-n1-n2-n3 by omega];rfl,ay HR.out.2.2 B3.out⟩
   ·rw[bH g3];go_wp2;go_ret;exact⟨by rw[bH (by omega)];rfl,ay HR.out.2.2 B3.out⟩
  ·rw[bH g2];go_wp2;go_ret;exact⟨by rw[bH (by omega)];rfl,ay HR.out.2.2 B2.out⟩
 ·rw[bH g1];go_wp2;go_ret;exact⟨by rw[bH (by omega)];rfl,ay HR.out.2.2 B1.out⟩
section
variable {f:Nat->Bool}{j k:Nat}{zs:List Int}
theorem N9(w:World)(x:Int):Calls Tryz.prog 84 #[vI x] w fun e w'=>e=.returned (.bool (aY 1 1000000 x))/\Below w.1.size w w':=by
 go_enter Tryz.func84,Tryz.ntmps84;go_wp2_with (go_at_call 44;refine(fw _ _ _ _).mono ?_;rintro e w' ⟨rfl,rfl⟩);go_ret;exact⟨rfl,aJ⟩
def xw(zs:List Int)(i:Nat):Bool:=aY 1 1000000 (eU zs i)&&(decide (i=0)||decide (eU zs (i-1)<eU zs i))
def AL(zs:List Int):Bool:=(List.range zs.length).all (xw zs)
theorem lL(h:(List.range k).all f=true)(h':f k=true):(List.range (k+1)).all f=true:=by
 rw[List.range_succ,List.all_append,h];simp[h']
theorem nz{n:Nat}(hk:k<n)(h:f k=false):(List.range n).all f=false:=by
 rw[List.all_eq_false];exact⟨k,List.mem_range.2 hk,by simp[h]⟩
theorem Tc(h:aY 1 1000000 (eU zs k)=false):xw zs k=false:=by simp[xw,h]
theorem Td(h:eU zs (j+1)<=eU zs j):xw zs (j+1)=false:=by simp[xw];intro _;omega
theorem Nb(h:aY 1 1000000 (eU zs 0)=true):xw zs 0=true:=by simp[xw,h]
theorem PQ(h:aY 1 1000000 (eU zs (j+1))=true)(h':¬eU zs (j+1)<=eU zs j):xw zs (j+1)=true:=by simp[xw,h];omega
theorem EL(w:World)(a:Option Addr)(n cap:Nat)(zs:List Int)(hn:n<=maxLen)(hs:mP w w.1.size a n zs):
  Calls Tryz.prog 124 #[.slice a n cap] w fun e w'=>e=.returned (.bool (AL zs))/\Below w.1.size w w':=by
 unfold maxLen at hn;obtain⟨hx,hs⟩:=hs;go_enter Tryz.func124,Tryz.ntmps124;go_wp2;go_loopw[3] (fun i wr=>∃k:Nat,k<=n/\i=vI k/\Below w.1.size w wr/\(List.range k).all (xw zs)=true) (fun i _=>n-(intOf i).toNat)
 case atStart=>exact⟨0,Nat.zero_le _,rfl,aJ,rfl⟩
 case round=>
  obtain⟨k,hk,rfl,aF,aP⟩:=hrel;have K:Hid (Below w.1.size w wr/\(List.range k).all (xw zs)=true/\zs.length=n):=⟨aF,aP,hx⟩
  by_cases aN:k<n
  ·rcases hs with hs|⟨b,off,rfl,hb,h1⟩
   ·omega
   have qJ:b<wr.1.size:=Nat.lt_of_lt_of_le hb aF.size;have t1:=(h1.below aF hb) k _ (iJ (by omega));have c0:∀d os,(grow (redrawn wr d) os).cell? ⟨b,off+k,none⟩=some (vI (eU zs k)):=fun d os=>((below_regrown wr d os).cell (p:=⟨b,off+k,none⟩) qJ).trans t1
   have cQ:∀d os,Calls Tryz.prog 84 #[vI (eU zs k)] (grow (redrawn wr d) os) fun e fq=>e=.returned (.bool (aY 1 1000000 (eU zs k)))/\∃p:Regrown,fq=grow (redrawn wr p.d) p.os:=fun d os=>Calls.regrown_of (N9 _ (eU zs k))
   cases je:aY 1 1000000 (eU zs k)with
   | false=>
    rw[je]at cQ;clear t1 aF aP h1 hx;go_wp2_with fail;refine wp_region_quiet_below (by kernel_rfl) (by kernel_rfl) ?_;repeat (go_big_quiet_step (exact cQ _ _))
    refine wpQuiet_nil ?_;intro _ dD;obtain⟨⟨dq,bI⟩,aT⟩:=dD;subst aT;have bq:=below_regrown wr dq bI;go_wp2;go_ret;exact⟨by rw[AL,K.out.2.2,nz aN (Tc je)];rfl,K.out.1.trans (bq.mono K.out.1.size)⟩
   | true=>
    rw[je]at cQ;rcases k with _|j
    ·simp only[Nat.add_zero]at c0;clear t1 aF aP h1 hx;go_wp2_with fail;refine wp_region_quiet_below (by kernel_rfl) (by kernel_rfl) ?_;repeat (go_big_quiet_step (exact cQ _ _))
     refine wpQuiet_nil ?_;intro _ dD;obtain⟨⟨dq,bI⟩,aT⟩:=dD;subst aT;have bq:=below_regrown wr dq bI;go_wp2;exact⟨⟨1,by omega,by simp,K.out.1.trans (bq.mono K.out.1.size),lL K.out.2.1 (Nb je)⟩,by simp[intOf];omega⟩
    ·have t2:=(h1.below aF hb) j _ (iJ (by omega));have e1:∀d os,(grow (redrawn wr d) os).cell? ⟨b,off+j,none⟩=some (vI (eU zs j)):=fun d os=>((below_regrown wr d os).cell (p:=⟨b,off+j,none⟩) qJ).trans t2
     have hj:(j:Int)<(n:Int):=by omega
     by_cases hq:eU zs (j+1)<=eU zs j
     ·clear t1 t2 aF aP h1 hx;go_wp2_with fail;refine wp_region_quiet_below (by kernel_rfl) (by kernel_rfl) ?_;repeat (go_big_quiet_step (exact cQ _ _))
      refine wpQuiet_nil ?_;intro _ dD;obtain⟨⟨dq,bI⟩,aT⟩:=dD;subst aT;have bq:=below_regrown wr dq bI;go_wp2;go_ret;exact⟨by rw[AL,K.out.2.2,nz aN (Td hq)];rfl,K.out.1.trans (bq.mono K.out.1.size)⟩
     ·have PL:decide (eU zs (j+1)<=eU zs j)=false:=by simp;omega
      clear t1 t2 aF aP h1 hx;go_wp2_with fail;refine wp_region_quiet_below (by kernel_rfl) (by kernel_rfl) ?_;repeat (go_big_quiet_step (exact cQ _ _))
      refine wpQuiet_nil ?_;intro _ dD;obtain⟨⟨dq,bI⟩,aT⟩:=dD;subst aT;have bq:=below_regrown wr dq bI;go_wp2;exact⟨⟨j+1+1,by omega,by simp,K.out.1.trans (bq.mono K.out.1.size),lL K.out.2.1 (PQ je (Int.not_le.2 hq))⟩,by simp[intOf];omega⟩
  ·have:k=n:=by omega
   subst this;have hd:decide (k<k)=false:=by simp
   go_wp2;go_ret;exact⟨by rw[AL,hx,aP];rfl,aF⟩
end
theorem wrap_i64_small(n:Nat)(h:n<4294967296):IntKind.i64.wrap (n:Int)=(n:Int):=by
 simp[IntKind.wrap,IntKind.bits,IntKind.signed];omega
theorem BZ(a:Nat)(ha:a<4294967296):(BitVec.ofInt 64 (a:Int)).toNat=a:=by
 rw[BitVec.ofInt_natCast,BitVec.toNat_ofNat];exact Nat.mod_eq_of_lt (by omega)
theorem wT(a b:Nat)(ha:a<4294967296)(hb:b<4294967296):bits .and .i64 (a:Int) (b:Int)=((a &&& b:Nat):Int):=by
 have hx:a &&& b<2 ^ 32:=Nat.and_lt_two_pow _ (by omega);show IntKind.i64.wrap ((BitVec.ofInt 64 (a:Int) &&& BitVec.ofInt 64 (b:Int)).toNat:Int)=_
 rw[BitVec.toNat_and,BZ a ha,BZ b hb,wrap_i64_small _ (by omega)]
theorem and_2(x:Int)(h1:0<=x)(h2:x<=4000003):bits .and .i64 x 2=x/2%2*2:=by
 obtain⟨n,rfl⟩:=Int.eq_ofNat_of_zero_le h1;have h:=wT n 2 (by omega) (by omega);rw[show n &&& 2=n/2%2*2 from nat_bit 1 n]at h;simpa using h
theorem and_1(x:Int)(h1:0<=x)(h2:x<=4000003):bits .and .i64 x 1=x%2:=by
 obtain⟨n,rfl⟩:=Int.eq_ofNat_of_zero_le h1;have h:=wT n 1 (by omega) (by omega);rw[nat_mask1 n]at h;simpa using h
def bN(h:Int):Bool:=decide (h/2%2=1)
def jA(h:Int):Bool:=decide (h%2=1)
theorem Qs(h:Int):(h/2%2*2 != 0)=bN h:=by
 unfold bN;rw[Bool.eq_iff_iff];simp;omega
theorem Kg(h:Int):(h%2 != 0)=jA h:=by
 unfold jA;rw[Bool.eq_iff_iff];simp;omega
theorem Jw{a b:Bool}(h:a=b):Ending.returned (.bool a)=.returned (.bool b):=by rw[h]
theorem yU(h:Int)(w:World)(h1:0<=h)(h2:h<=4000003):
  Calls Tryz.prog 225 #[vI h] w fun e w'=>e=.returned (.bool true)/\w'=w:=by
 go_enter Tryz.func225,Tryz.ntmps225;go_wp2;go_ret;exact⟨by simp[*],rfl⟩
theorem AO(h:Int)(w:World)(hh:h<0\/4000003<h):
  Calls Tryz.prog 225 #[vI h] w fun e w'=>e=.returned (.bool false)/\w'=w:=by
 rcases hh with hh|hh
 all_goals
  go_enter Tryz.func225,Tryz.ntmps225;go_wp2;go_ret;exact⟨by simp;try omega,rfl⟩
theorem zZ(h:Int)(w:World)(h1:0<=h)(h2:h<=4000003):
  Calls Tryz.prog 91 #[vI h] w fun e w'=>e=.returned (.bool true)/\w'=w:=by
 go_enter Tryz.func91,Tryz.ntmps91;go_wp2;go_ret;exact⟨by simp[*],rfl⟩
theorem Bd(h:Int)(w:World)(hh:h<0\/4000003<h):
  Calls Tryz.prog 91 #[vI h] w fun e w'=>e=.returned (.bool false)/\w'=w:=by
 rcases hh with hh|hh
 all_goals
  go_enter Tryz.func91,Tryz.ntmps91;go_wp2;go_ret;exact⟨by simp;try omega,rfl⟩
theorem CY(h:Int)(w:World)(h1:0<=h)(h2:h<=4000003):
  Calls Tryz.prog 176 #[vI h] w fun e w'=>e=.returned (.bool (bN h))/\w'=w:=by
 ·have b2:=and_2 h h1 h2;go_enter Tryz.func176,Tryz.ntmps176;go_wp2;go_ret;exact⟨Jw (Qs h),rfl⟩
theorem EE(h:Int)(w:World)(hh:h<0\/4000003<h):
  Calls Tryz.prog 176 #[vI h] w fun e w'=>e=.returned (.bool false)/\w'=w:=by
 rcases hh with hh|hh
 ·have d:decide (0<=h)=false:=by simp;omega
  go_enter Tryz.func176,Tryz.ntmps176;go_wp2;go_ret;exact⟨rfl,rfl⟩
 ·have d:decide (h<=4000003)=false:=by simp;omega
  go_enter Tryz.func176,Tryz.ntmps176;go_wp2;go_ret;exact⟨rfl,rfl⟩
theorem Dj(h:Int)(w:World)(h1:0<=h)(h2:h<=4000003):
  Calls Tryz.prog 52 #[vI h] w fun e w'=>e=.returned (.bool (bN h))/\w'=w:=by
 ·go_enter Tryz.func52,Tryz.ntmps52;go_wp2;go_ret;exact⟨rfl,rfl⟩
theorem FP(h:Int)(w:World)(hh:h<0\/4000003<h):
  Calls Tryz.prog 52 #[vI h] w fun e w'=>e=.returned (.bool false)/\w'=w:=by
 rcases hh with hh|hh
 ·have d:decide (0<=h)=false:=by simp;omega
  go_enter Tryz.func52,Tryz.ntmps52;go_wp2;go_ret;exact⟨rfl,rfl⟩
 ·have d:decide (h<=4000003)=false:=by simp;omega
  go_enter Tryz.func52,Tryz.ntmps52;go_wp2;go_ret;exact⟨rfl,rfl⟩
theorem yT(h:Int)(w:World):Calls Tryz.prog 225 #[vI h] w fun e w'=>e=.returned (.bool (aY 0 4000003 h))/\w'=w:=by
 by_cases hh:0<=h/\h<=4000003
 ·rw[iN hh.1 hh.2];exact yU h w hh.1 hh.2
 ·have e:aY 0 4000003 h=false:=by simp[aY];omega
  rw[e];exact AO h w (by omega)
theorem uh(h:Int)(w:World):Calls Tryz.prog 176 #[vI h] w fun e w'=>e=.returned (.bool (aY 0 4000003 h&&bN h))/\w'=w:=by
 by_cases hh:0<=h/\h<=4000003
 ·rw[iN hh.1 hh.2,Bool.true_and];exact CY h w hh.1 hh.2
 ·have e:aY 0 4000003 h=false:=by simp[aY];omega
  rw[e,Bool.false_and];exact EE h w (by omega)
theorem zY(h:Int)(w:World):Calls Tryz.prog 91 #[vI h] w fun e w'=>e=.returned (.bool (aY 0 4000003 h))/\w'=w:=by
 by_cases hh:0<=h/\h<=4000003
 ·rw[iN hh.1 hh.2];exact zZ h w hh.1 hh.2
 ·have e:aY 0 4000003 h=false:=by simp[aY];omega
  rw[e];exact Bd h w (by omega)
theorem kZ(h:Int)(w:World):Calls Tryz.prog 52 #[vI h] w fun e w'=>e=.returned (.bool (aY 0 4000003 h&&bN h))/\w'=w:=by
 by_cases hh:0<=h/\h<=4000003
 ·rw[iN hh.1 hh.2,Bool.true_and];exact Dj h w hh.1 hh.2
 ·have e:aY 0 4000003 h=false:=by simp[aY];omega
  rw[e,Bool.false_and];exact FP h w (by omega)
section
variable {xs:List C2}
def jE(c:C2):Bool:=aY 0 4000003 c.head&&aY (-1000000000) 1000000000 c.g&&(bN c.head||decide (c.g=0))
def fJ(xs:List C2):Bool:=decide (xs.length=6)&&xs.all jE
theorem Bz(h:∀i,i<xs.length->jE (at2 xs i)=true):xs.all jE=true:=by
 rw[List.all_eq_true];intro s hs;obtain⟨i,hi,rfl⟩:=List.getElem_of_mem hs;have:=h i hi;rw[at2,List.getElem?_eq_getElem hi]at this;simpa using this
theorem BA{i:Nat}(hi:i<xs.length)(h:jE (at2 xs i)=false):xs.all jE=false:=by
 rw[List.all_eq_false];refine⟨xs[i],List.getElem_mem hi,?_⟩;rw[at2,List.getElem?_eq_getElem hi]at h;simpa using h
theorem GD(w:World)(s:C2):Calls Tryz.prog 199 #[.agg #[vI s.head,vI s.g]] w fun e w'=>e=.returned (.bool (jE s))/\Below w.1.size w w':=by
 obtain⟨h,v⟩:=s;unfold jE;go_enter Tryz.func199,Tryz.ntmps199
 cases g1:aY 0 4000003 h<;>cases g2:aY (-1000000000) 1000000000 v<;>cases g3:bN h;all_goals go_wp2_with (first|(go_at_call 225;refine(yT _ _).mono ?_;rw[g1];rintro e w' ⟨rfl,rfl⟩)|(go_at_call 226;refine(vL _ _).mono ?_;rw[g2];rintro e w' ⟨rfl,rfl⟩)|(go_at_call 176;refine(uh _ _).mono ?_;rw[g1,g3];rintro e w' ⟨rfl,rfl⟩))
 all_goals (go_ret;refine⟨dU ?_,aJ.alloc aR _⟩;simp)
theorem Cj(w:World)(s:C2):Calls Tryz.prog 198 #[.agg #[vI s.head,vI s.g]] w fun e w'=>e=.returned (.bool (!jE s))/\Below w.1.size w w':=by
 go_enter Tryz.func198,Tryz.ntmps198;go_wp2_with fail;refine(GD _ s).mono ?_;rintro e w1 ⟨rfl,b1⟩;go_wp2;go_ret;exact⟨rfl,(aJ.alloc aR _).trans (b1.mono (by simp))⟩
theorem xE(w:World)(b off cap n:Nat)(xs:List C2)(hx:xs.length=n)(hn:n<=maxLen)(h1:bJ w b off xs)(hb:b<w.1.size):
  Calls Tryz.prog 227 #[.slice (some ⟨b,off,none⟩) n cap,.func (.func 198) #[] #[]] w fun e w'=>∃i:Int,e=.returned (vI i)/\(0<=i↔xs.all jE=false)/\Below w.1.size w w':=by
 unfold maxLen at hn;go_enter Tryz.func227,Tryz.ntmps227;go_wp2;go_loopw[8] (fun i wr=>∃k:Nat,k<=n/\i=vI k/\Below w.1.size w wr/\∀i,i<k->jE (at2 xs i)=true) (fun i _=>n-(intOf i).toNat)
 case atStart=>exact⟨0,Nat.zero_le _,rfl,aJ,fun i h=>absurd h (by omega)⟩
 case round=>
  obtain⟨k,hk,rfl,aF,aP⟩:=hrel;have K:Hid (Below w.1.size w wr/\(∀i,i<k->jE (at2 xs i)=true)/\xs.length=n):=⟨aF,aP,hx⟩
  by_cases aN:k<n
  ·obtain⟨c0,c1⟩:=(h1.get (i:=k) (by omega)).below aF hb;clear aF aP h1 hx
   cases hr:jE (at2 xs k)with
   | true=>
    go_wp2_with fail;refine(Cj _ (at2 xs k)).mono ?_;rw[hr];rintro e w1 ⟨rfl,b1⟩;go_wp2;refine⟨⟨k+1,by omega,by simp,K.out.1.trans (b1.mono K.out.1.size),fun i hi=>?_⟩,by simp[intOf];omega⟩;by_cases e:i=k
    ·rw[e];exact hr
    ·exact K.out.2.1 i (by omega)
   | false=>
    go_wp2_with fail;refine(Cj _ (at2 xs k)).mono ?_;rw[hr];rintro e w1 ⟨rfl,b1⟩;go_wp2;go_ret;exact⟨(k:Int),rfl,by simp[BA (xs:=xs) (i:=k) (by rw[K.out.2.2];exact aN) hr],K.out.1.trans (b1.mono K.out.1.size)⟩
  ·have:k=n:=by omega
   subst this;have hd:decide (k<k)=false:=by simp
   go_wp2;go_ret;exact⟨-1,rfl,by simp[Bz (xs:=xs) (by rw[hx];exact aP)],aF⟩
theorem qZ(w:World)(b off cap n:Nat)(xs:List C2)(hx:xs.length=n)(hn:n<=maxLen)(h1:bJ w b off xs)(hb:b<w.1.size):
  Calls Tryz.prog 200 #[.slice (some ⟨b,off,none⟩) n cap,.func (.func 198) #[] #[]] w fun e w'=>e=.returned (.bool (!xs.all jE))/\Below w.1.size w w':=by
 go_enter Tryz.func200,Tryz.ntmps200;go_wp2_with fail;refine(xE w b off cap n xs hx hn h1 hb).mono ?_;rintro e w1 ⟨i,rfl,hi,b1⟩;have HI:Hid (0<=i↔xs.all jE=false):=hi;clear hi;go_wp2;go_ret;refine⟨dU ?_,b1⟩;rw[decide_eq_true_eq,HI.out,Bool.not_eq_true']
theorem oP(w:World)(a:Option Addr)(n cap:Nat)(xs:List C2)(hn:n<=maxLen)(hs:pE w w.1.size a n xs):
  Calls Tryz.prog 173 #[.slice a n cap] w fun e w'=>e=.returned (.bool (fJ xs))/\Below w.1.size w w':=by
 obtain⟨hx,hs⟩:=hs;unfold fJ;rw[hx];by_cases h6:n=6
 ·subst h6;rcases hs with hs|⟨b,off,rfl,hb,h1⟩
  ·omega
  ·go_enter Tryz.func173,Tryz.ntmps173;go_wp2_with fail;refine(qZ w b off cap 6 xs hx hn h1 hb).mono ?_;rintro e w1 ⟨rfl,b1⟩;go_wp2;go_ret;exact⟨dU (by simp),b1⟩
 ·have q:((n:Int)==6)=false:=by simp;omega
  go_enter Tryz.func173,Tryz.ntmps173;go_wp2;go_ret;exact⟨dU (by simp[h6]),aJ⟩
theorem xP(w:World)(b off cap:Nat)(xs:List C2)(hx:xs.length=6)(h1:bJ w b off xs)(hb:b<w.1.size):
  Calls Tryz.prog 126 #[.slice (some ⟨b,off,none⟩) 6 cap] w fun e w'=>e=.returned (.bool (xs.all jE))/\Below w.1.size w w':=by
 go_enter Tryz.func126,Tryz.ntmps126;go_wp2;go_loopw[3] (fun i wr=>∃k:Nat,k<=6/\i=vI k/\Below w.1.size w wr/\∀i,i<k->jE (at2 xs i)=true) (fun i _=>6-(intOf i).toNat)
 case atStart=>exact⟨0,Nat.zero_le _,rfl,aJ,fun i h=>absurd h (by omega)⟩
 case round=>
  obtain⟨k,hk,rfl,aF,aP⟩:=hrel;have K:Hid (Below w.1.size w wr/\(∀i,i<k->jE (at2 xs i)=true)/\xs.length=6):=⟨aF,aP,hx⟩
  by_cases aN:k<6
  ·obtain⟨c0,c1⟩:=(h1.get (i:=k) (by omega)).below aF hb;clear aF aP h1 hx;generalize hC:at2 xs k=C at c0 c1;obtain⟨h,v⟩:=C;have KC:Hid (at2 xs k=⟨h,v⟩):=hC;have Gx:(k:Int)<6:=by omega
   clear hC
   cases g1:aY 0 4000003 h<;>cases g2:aY (-1000000000) 1000000000 v<;>cases g3:bN h
   all_goals
    have HB:Hid (jE (at2 xs k)=(aY 0 4000003 h&&aY (-1000000000) 1000000000 v&&(bN h||decide (v=0)))):=by unfold Hid;rw[KC.out];rfl
    rw[g1,g2,g3]at HB;go_wp2_with (first|(go_at_call 91;refine(zY _ _).mono ?_;rw[g1];rintro e w' ⟨rfl,rfl⟩)|(go_at_call 130;refine(wH _ _).mono ?_;rw[g2];rintro e w' ⟨rfl,rfl⟩)|(go_at_call 52;refine(kZ _ _).mono ?_;rw[g1,g3];rintro e w' ⟨rfl,rfl⟩))
   all_goals first
    | (go_ret
       exact⟨by rw[BA (xs:=xs) (i:=k) (by rw[K.out.2.2];exact aN) (by rw[HB.out];simp;try simpa using ‹(v != 0)=true›)];rfl,(K.out.1.alloc K.out.1.size _)⟩)
    | (refine⟨⟨k+1,by omega,by simp,K.out.1.alloc K.out.1.size _,fun i hi=>?_⟩,by simp[intOf];omega⟩
       by_cases e:i=k
       ·rw[e,HB.out];simp;try simpa using ‹(v != 0)=false›
       ·exact K.out.2.1 i (by omega))
  ·have:k=6:=by omega
   subst this;go_wp2;go_ret;exact⟨by rw[Bz (xs:=xs) (by rw[hx];exact aP)];rfl,aF⟩
theorem xO(w:World)(a:Option Addr)(n cap:Nat)(xs:List C2)(hn:n<=maxLen)(hs:pE w w.1.size a n xs):
  Calls Tryz.prog 126 #[.slice a n cap] w fun e w'=>e=.returned (.bool (fJ xs))/\Below w.1.size w w':=by
 obtain⟨hx,hs⟩:=hs;unfold fJ;rw[hx];unfold maxLen at hn;by_cases h6:n=6
 ·subst h6;rcases hs with hs|⟨b,off,rfl,hb,h1⟩
  ·omega
  ·exact xP w b off cap xs hx h1 hb
 ·have q:((n:Int)==6)=false:=by simp;omega
  go_enter Tryz.func126,Tryz.ntmps126;go_wp2;go_ret;exact⟨dU (by simp[h6]),aJ⟩
end
end Go.Proofs.YtalnmfefmiapoaaGreatDoor
