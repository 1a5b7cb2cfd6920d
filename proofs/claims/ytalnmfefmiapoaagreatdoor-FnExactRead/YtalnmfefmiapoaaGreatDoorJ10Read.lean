import Derived.Test.YtalnmfefmiapoaaGreatDoorJ9Read
import Derived.Lib.SmallJoins
set_option maxHeartbeats 16000000
set_option maxRecDepth 100000
namespace Go.Proofs.YtalnmfefmiapoaaGreatDoor
open Go.RowKit
open Go.Sort (grow)
section
variable {A cs:List Value}{X Y w:World}{b o:Nat}
def Mg(ts:List (tx.TV×tx.T7)):Prop:=∀p∈ts,p.2.a.length<=p.1.cr
def RD(w:World)(k:C6)(e:Ending)(w':World):Prop:=∃(a1:Option Addr) (c1:Nat) (a2:Option Addr) (c2:Nat) (a3:Option Addr) (c3:Nat) (ps:List ((Nat×Nat)×List Int)) (gp:Nat->Nat->Prop) (ms:List (MV×M4)) (gm:Nat->Nat->Prop) (ts:List (tx.TV×tx.T7)) (gt:Nat->Nat->Prop),e=.returned (.agg #[vI k.u,vI k.l,.slice a1 k.f.length c1,.slice a2 k.aa.length c2,.slice a3 k.c.length c3,.bool k.w])/\su (w.1.size+3) (w.1.size+2) w' (.slice a1 k.f.length c1) (.slice a2 k.aa.length c2) (.slice a3 k.c.length c3) ps gp ms gm ts gt/\ps.map (·.2)=k.f/\ms.map (·.2)=k.aa/\ts.map (·.2)=k.c/\Below w.1.size w w'/\Mg ts
def Sp(w:World)(A:List Value)(b o:Nat)(cs:List Value)(X:World):Prop:=Bx X w.1.size A/\At X b o cs/\b<w.1.size
theorem Sp.of(h:Sp w A b o cs X)(hs:X.1.size<=Y.1.size)(hk:∀q,q<w.1.size+3->Y.1[q]?=X.1[q]?):Sp w A b o cs Y:=⟨h.1.aj (hk _ (by omega)) hs,h.2.1.aj (hk b (by have:=h.2.2;omega)),h.2.2⟩
theorem Sp.later(h:Sp w A b o cs X)(hb:Below X.1.size X Y):Sp w A b o cs Y:=⟨h.1.later hb,h.2.1.aj (hb.block b (by have:=h.2.2;have:=h.1.2.2;omega)),h.2.2⟩
theorem wV(w:World)(a1:Option Addr)(c1:Nat)(a2:Option Addr)(c2:Nat)(a3:Option Addr)(c3:Nat)(k:C6)(hk:aD k=true)(h:bK.Rd w a1 c1 a2 c2 a3 c3 k):
  Calls Tryz.prog 16 #[.agg #[vI k.u,vI k.l,.slice a1 k.f.length c1,.slice a2 k.aa.length c2,.slice a3 k.c.length c3,.bool k.w]] w (RD w k):=by
 have H:Hid (Ot k/\bK.Rd w a1 c1 a2 c2 a3 c3 k):=⟨Ot.of hk,h⟩
 clear hk h;obtain⟨W0,eB⟩:∃X,X=((w.alloc (.cells #[vI k.u,vI k.l,.slice a1 k.f.length c1,.slice a2 k.aa.length c2,.slice a3 k.c.length c3,.bool k.w] 32)).alloc (.cells #[vI 0,vI 0,.slice none 0 0,.slice none 0 0,.slice none 0 0,.bool false] 32)).alloc (.cells #[vI k.u,vI k.l,.slice none 0 0,.slice none 0 0,.slice none 0 0,.bool k.w] 32):=⟨_,rfl⟩
 have S0:Hid (Bt w (dJ a1 c1 a2 c2 a3 c3 k) kv k W0 (.slice none 0 0) (.slice none 0 0) (.slice none 0 0) [] jb [] jb [] jb):=by
  obtain⟨U1,kG⟩:∃X,X=w.alloc (.cells #[vI k.u,vI k.l,.slice a1 k.f.length c1,.slice a2 k.aa.length c2,.slice a3 k.c.length c3,.bool k.w] 32):=⟨_,rfl⟩
  have x1:Bx U1 w.1.size (dJ a1 c1 a2 c2 a3 c3 k):=by rw[kG];exact Bx.made w (dJ a1 c1 a2 c2 a3 c3 k) _
  have b1:Below w.1.size w U1:=by rw[kG];exact aJ.alloc aR _
  have z1:U1.1.size=w.1.size+1:=by rw[kG];simp
  obtain⟨U2,tK⟩:∃X,X=U1.alloc (.cells #[vI 0,vI 0,.slice none 0 0,.slice none 0 0,.slice none 0 0,.bool false] 32):=⟨_,rfl⟩
  have x2:Bx U2 U1.1.size kv:=by rw[tK];exact Bx.made U1 kv _
  have b2:Below U1.1.size U1 U2:=by rw[tK];exact aJ.alloc aR _
  have z2:U2.1.size=U1.1.size+1:=by rw[tK];simp
  have x3:Bx W0 U2.1.size [vI k.u,vI k.l,.slice none 0 0,.slice none 0 0,.slice none 0 0,.bool k.w]:=by rw[eB,tK,kG];exact Bx.made _ [vI k.u,vI k.l,.slice none 0 0,.slice none 0 0,.slice none 0 0,.bool k.w] _
  have b3:Below U2.1.size U2 W0:=by rw[eB,tK,kG];exact aJ.alloc aR _
  rw[show U2.1.size=w.1.size+2 by omega]at x3;rw[show U1.1.size=w.1.size+1 by omega]at x2;exact⟨(x1.later b2).later b3,x2.later b3,x3,su.nil _ _ _,ay (ay b1 b2) b3⟩
 have p2:=S0.out.arg.1 2 _ rfl;rw[eB]at p2;go_enter Tryz.func16,Tryz.ntmps16;go_wp2;rw[<-eB];rw[<-eB]at p2;clear eB p2;go_loopw[4] (fun v wr=>∃(j:Nat) (bP:Option Addr) (dP:Nat) (ps:List ((Nat×Nat)×List Int)) (gp:Nat->Nat->Prop),j<=k.f.length/\v=vI j/\ps.map (·.2)=k.f.take j/\Bt w (dJ a1 c1 a2 c2 a3 c3 k) kv k wr (.slice bP j dP) (.slice none 0 0) (.slice none 0 0) ps gp [] jb [] jb) (fun v _=>k.f.length-(intOf v).toNat)
 case atStart=>exact⟨0,none,0,[],jb,Nat.zero_le _,rfl,by simp,S0.out⟩
 case round=>
  obtain⟨j,bP,dP,ps,gp,hj,rfl,nk,fO⟩:=hrel;have tV:k.f.length<=1000:=by have:=H.out.1.p;omega
  have p2:=fO.arg.1 2 _ rfl;have p3:=fO.arg.1 3 _ rfl;have p4:=fO.arg.1 4 _ rfl;by_cases aN:j<k.f.length
  ·skip
   have bg:=fI aN;have Ex:ps.length=j:=by have:=congrArg List.length nk;simpa[Nat.min_eq_left hj]using this
   have fM:=H.out.2.later fO.sP;obtain⟨_,gy⟩:=fM.p;rcases gy with h0|⟨b,off,rfl,hb,gy⟩
   ·omega
   obtain⟨z0,z1,e0,⟨_,qL⟩,jJ⟩:=gy j _ bg;obtain⟨lY,GA⟩:=H.out.1.ps _ (List.mem_of_getElem? bg);rcases qL with h0|⟨zb,zo,rfl,UZ,WG⟩
   ·omega
   have OB:=e0;clear gy fM
   have kz:At wr b (off+j) [.slice (some ⟨zb,zo,none⟩) (dR k.f j).length z1]:=fun i u hu=>by
    rcases i with _|i
    ·simp at hu;subst hu;exact e0
    ·simp at hu
   have oM:b<w.1.size:=by
    rcases H.out.2.p.2 with h0|⟨b',bG,e',fC,_⟩
    ·omega
    ·cases e';exact fC
   have dW:(fun X:World=>Bx X (w.1.size+2) [vI k.u,vI k.l,(.slice bP j dP),(.slice none 0 0),(.slice none 0 0),.bool k.w]/\Sp w (dJ (some ⟨b,off,none⟩) c1 a2 c2 a3 c3 k) b (off+j) [.slice (some ⟨zb,zo,none⟩) (dR k.f j).length z1] X) wr.drew:=⟨fO.own.later aJ.drew,⟨fO.arg.later aJ.drew,kz.aj rfl,oM⟩⟩
   have HD:Hid (Below wr.1.size wr wr.drew):=aJ.drew;have jn:(j:Int)<(k.f.length:Int):=by omega
   have HN:Hid (dV wr.drew zb zo (dR k.f j)/\zb<wr.drew.1.size):=⟨WG.below (aJ.drew) UZ,UZ⟩
   have HS:=aB fO;have HM:Hid (ps.map (·.2)=k.f.take j/\ps.length=j/\k.f[j]?=some (dR k.f j)):=⟨nk,Ex,bg⟩
   clear fO nk Ex bg kz oM WG UZ jJ e0 OB;go_wp2_with fail;refine bL 14 (fun X:World=>Bx X (w.1.size+2) [vI k.u,vI k.l,(.slice bP j dP),(.slice none 0 0),(.slice none 0 0),.bool k.w]/\Sp w (dJ (some ⟨b,off,none⟩) c1 a2 c2 a3 c3 k) b (off+j) [.slice (some ⟨zb,zo,none⟩) (dR k.f j).length z1] X) (by kernel_rfl) ?_;generalize wr.drew=XD at *;refine eQ 0 ?_ rfl ?_ dW ?_;rotate_left
   ·(intro w aG;go_simp;first|done|with_reducible rfl)
   simp only[Act.put];refine eQ 1 ?_ rfl ?_ dW ?_;rotate_left
   ·(intro w aG;have q:=aG.1.1 2 _ rfl;go_simp;first|done|with_reducible rfl|exact q)
   simp only[Act.put];refine eQ 3 ?_ rfl ?_ dW ?_;rotate_left
   ·(intro w aG;go_simp;first|done|with_reducible rfl)
   simp only[Act.put];refine eQ 4 ?_ rfl ?_ dW ?_;rotate_left
   ·(intro w aG;have q:=aG.2.1.1 2 _ rfl;go_simp;first|done|with_reducible rfl|exact q)
   simp only[Act.put];refine eQ 5 ?_ rfl ?_ dW ?_;rotate_left
   ·(intro w aG;go_simp;first|done|with_reducible rfl)
   simp only[Act.put];refine eQ 6 ?_ rfl ?_ dW ?_;rotate_left
   ·(intro w aG;go_simp;first|done|with_reducible rfl|(rw[if_pos (by omega)]))
   simp only[Act.put];refine eQ 7 ?_ rfl ?_ dW ?_;rotate_left
   ·(intro w aG;go_simp;first|done|with_reducible rfl)
   simp only[Act.put];refine eQ 8 ?_ rfl ?_ dW ?_;rotate_left
   ·(intro w aG;have q0:w.cell? ⟨b,off+j,none⟩=some (.slice (some ⟨zb,zo,none⟩) (dR k.f j).length z1):=aG.2.2.1 0 _ rfl;go_simp;first|done|with_reducible rfl|rfl)
   simp only[Act.put];refine dX 2 rfl (fun K hK=>?_);go_simp;obtain⟨XE,XL⟩:∃X,X=XD.alloc (.cells #[] 2):=⟨_,rfl⟩
   have bE:Below XD.1.size XD XE:=by rw[XL];exact aJ.alloc aR _
   have Pq:(fun X:World=>Bx X (w.1.size+2) [vI k.u,vI k.l,(.slice bP j dP),(.slice none 0 0),(.slice none 0 0),.bool k.w]/\Sp w (dJ (some ⟨b,off,none⟩) c1 a2 c2 a3 c3 k) b (off+j) [.slice (some ⟨zb,zo,none⟩) (dR k.f j).length z1] X) XE:=⟨dW.1.later bE,dW.2.later bE⟩
   obtain⟨v2,X2,ey,XR,cX,de⟩:=Ca XE XD.1.size _ [] (dR k.f j) zb zo z1 74 (by rw[XL];exact ON.empty XD) (HN.out.1.below bE HN.out.2) (by simp;omega) bE.size;rw[List.nil_append]at XR;have b2:Below XD.1.size XD X2:=bE.grown cX bE.size (fun k h=>by cases h;exact Nat.le_refl _)
   obtain⟨q,cp,rfl⟩:∃g cp,v2=.slice (some ⟨g,0,none⟩) (dR k.f j).length cp:=by
    rcases XR.form with ⟨rfl,_⟩|⟨g,cp,e,_⟩
    ·rcases de with h|h<;>cases h
    ·exact⟨g,cp,e⟩
   rw[<-XL];refine hK.out _ _ (fun _=>Pq) ?_;clear hK K bE cX de XL;refine dX 9 rfl (fun K hK=>?_);refine df _ rfl (.tmp 23) (.tmp 29) 74 rfl _ _ _ _ (by first|rfl|simp[Act.eval,Act.put]) (by first|rfl|simp[Act.eval,Act.put]) ey ?_;clear ey;have hO:Ag.Ow X2 wr.1.size (q,cp) (dR k.f j) (fun x=>x=q):=Ag.low XR.kp HD.out.size;clear XR Pq HN;have QG:Hid (Below wr.1.size wr XD/\True):=⟨HD.out,trivial⟩
   have HD:=QG;clear QG;have l6:Below wr.1.size wr X2:=ay HD.out.1 b2;have iD:(fun X:World=>Bx X (w.1.size+2) [vI k.u,vI k.l,(.slice bP j dP),(.slice none 0 0),(.slice none 0 0),.bool k.w]/\Sp w (dJ (some ⟨b,off,none⟩) c1 a2 c2 a3 c3 k) b (off+j) [.slice (some ⟨zb,zo,none⟩) (dR k.f j).length z1] X) X2:=⟨dW.1.later b2,dW.2.later b2⟩
   obtain⟨X3,lX⟩:∃X,X=X2.alloc (.cells #[(.slice (some ⟨q,0,none⟩) (dR k.f j).length cp)] 93):=⟨_,rfl⟩
   have b3:Below X2.1.size X2 X3:=by rw[lX];exact aJ.alloc aR _
   have x3:Bx X3 X2.1.size [(.slice (some ⟨q,0,none⟩) (dR k.f j).length cp)]:=by rw[lX];exact Bx.made X2 [(.slice (some ⟨q,0,none⟩) (dR k.f j).length cp)] _
   have jo:(fun X:World=>Bx X (w.1.size+2) [vI k.u,vI k.l,(.slice bP j dP),(.slice none 0 0),(.slice none 0 0),.bool k.w]/\Sp w (dJ (some ⟨b,off,none⟩) c1 a2 c2 a3 c3 k) b (off+j) [.slice (some ⟨zb,zo,none⟩) (dR k.f j).length z1] X) X3:=⟨iD.1.later b3,iD.2.later b3⟩
   obtain⟨v',Y,hr,sH,jW,gL,dQ,a',c',rfl⟩:=HS.out.Ju (ay l6 b3) (q,cp) (dR k.f j) (fun x=>x=q) X2.1.size (by rw[HM.out.2.1];omega) 28 x3.1 (Ag.aQ hO b3.size (fun q hq=>b3.block q (Ag.of hO hq).2));have mQ:(fun X:World=>Bx X (w.1.size+2) [vI k.u,vI k.l,(.slice bP j dP),(.slice none 0 0),(.slice none 0 0),.bool k.w]/\Sp w (dJ (some ⟨b,off,none⟩) c1 a2 c2 a3 c3 k) b (off+j) [.slice (some ⟨zb,zo,none⟩) (dR k.f j).length z1] X) Y:=⟨jW,jo.2.of dQ (fun q hq=>gL q (.inl hq))⟩
   have HE:Hid ((ps++[((q,cp),dR k.f j)]).map (·.2)=k.f.take (j+1)):=by unfold Hid;rw[List.map_append,HM.out.1];exact lC HM.out.2.2
   rw[HM.out.2.1]at hr sH;have KE:=aB sH;refine hK.out _ _ (fun _=>iD) ?_;clear hK K b2 l6 b3 x3 sH jW gL dQ hO dW;refine eQ 10 ?_ rfl ?_ iD ?_;rotate_left
   ·(intro w aG;go_simp;first|done|with_reducible rfl)
   simp only[Act.put];refine dX 11 rfl (fun K hK=>?_);go_simp;rw[<-lX];refine hK.out _ _ (fun _=>jo) ?_;clear hK K iD;refine dX 12 rfl (fun K hK=>?_);refine df _ rfl (.tmp 22) (.tmp 32) 28 rfl _ _ _ _ (by first|rfl|simp[Act.eval,Act.put]) (by first|rfl|simp[Act.eval,Act.put]) hr ?_;refine hK.out _ _ (fun _=>mQ) ?_;clear hK K hr jo lX;simp only[Act.put];refine dX 13 rfl (fun K hK=>?_);go_simp;refine hK.out _ _ (fun _=>mQ) ?_;clear hK K;refine dX 14 rfl (fun K hK=>?_);have o2:=mQ.1.1 2 _ rfl;have XF:=mQ.1.2.1 2;go_simp;refine hK.out _ _ (fun h=>absurd rfl h) ?_;clear hK K;refine bS (by kernel_rfl) ?_ _;go_wp2;exact⟨⟨j+1,a',c',_,_,by omega,by simp,HE.out,KE.out⟩,by simp[intOf];omega⟩
  ·obtain rfl:k.f.length=j:=by omega
   have hd:decide ((k.f.length:Int)<(k.f.length:Int))=false:=by simp
   rw[List.take_length]at nk;have EP:Hid (ps.map (·.2)=k.f):=nk;have S1:=aB fO;clear nk fO hj aN tV;go_wp2;clear p2 p3 p4;generalize wr=WP at *;go_loopw[5] (fun v wr=>∃(j:Nat) (bM:Option Addr) (dM:Nat) (ms:List ((MV)×M4)) (gm:Nat->Nat->Prop),j<=k.aa.length/\v=vI j/\ms.map (·.2)=k.aa.take j/\Bt w (dJ a1 c1 a2 c2 a3 c3 k) kv k wr (.slice bP k.f.length dP) (.slice bM j dM) (.slice none 0 0) ps gp ms gm [] jb) (fun v _=>k.aa.length-(intOf v).toNat)
   case atStart=>exact⟨0,none,0,[],jb,Nat.zero_le _,rfl,by simp,S1.out⟩
   case round=>
    obtain⟨j,bM,dM,ms,gm,hj,rfl,nk,fO⟩:=hrel;have tV:k.aa.length<=1000:=by have:=H.out.1.m;omega
    have p2:=fO.arg.1 2 _ rfl;have p3:=fO.arg.1 3 _ rfl;have p4:=fO.arg.1 4 _ rfl;by_cases aN:j<k.aa.length
    ·skip
     have bg:=il aN;have Ex:ms.length=j:=by have:=congrArg List.length nk;simpa[Nat.min_eq_left hj]using this
     have fM:=H.out.2.later fO.sP;rcases fM.m with h0|⟨b,off,rfl,hb,pU⟩
     ·rw[h0]at aN;simp at aN
     obtain⟨⟨m0,m1,m2,m3,m4,m5⟩,kz,Jd⟩:=pU j _ bg;have OB:wr.cell? ⟨b,off+j*4,none⟩=some (.bool (aS k.aa j).x):=kz 0 _ rfl;have Sb:wr.cell? ⟨b,off+j*4+1,none⟩=some (.slice m0 (aS k.aa j).af.length m1):=kz 1 _ rfl;have Sc:wr.cell? ⟨b,off+j*4+2,none⟩=some (.slice m2 (aS k.aa j).h.length m3):=kz 2 _ rfl;have Sd:wr.cell? ⟨b,off+j*4+3,none⟩=some (.slice m4 (aS k.aa j).ai.length m5):=kz 3 _ rfl;clear pU fM kz
     have kz:At wr b (off+j*4) [.bool (aS k.aa j).x,.slice m0 (aS k.aa j).af.length m1,.slice m2 (aS k.aa j).h.length m3,.slice m4 (aS k.aa j).ai.length m5]:=fun i u hu=>by
      rcases i with _|_|_|_|i
      ·simp at hu;subst hu;exact OB
      ·simp at hu;subst hu;exact Sb
      ·simp at hu;subst hu;exact Sc
      ·simp at hu;subst hu;exact Sd
      ·simp at hu
     have oM:b<w.1.size:=by
      rcases H.out.2.m with h0|⟨b',bG,e',fC,_⟩
      ·rw[h0]at aN;simp at aN
      ·cases e';exact fC
     have dW:(fun X:World=>Bx X (w.1.size+2) [vI k.u,vI k.l,(.slice bP k.f.length dP),(.slice bM j dM),(.slice none 0 0),.bool k.w]/\Sp w (dJ a1 c1 (some ⟨b,off,none⟩) c2 a3 c3 k) b (off+j*4) [.bool (aS k.aa j).x,.slice m0 (aS k.aa j).af.length m1,.slice m2 (aS k.aa j).h.length m3,.slice m4 (aS k.aa j).ai.length m5] X) wr.drew:=⟨fO.own.later aJ.drew,⟨fO.arg.later aJ.drew,kz.aj rfl,oM⟩⟩
     have HD:Hid (Below wr.1.size wr wr.drew):=aJ.drew;have jn:(j:Int)<(k.aa.length:Int):=by omega
     have iM:=GH wr.drew ⟨m0,m1,m2,m3,m4,m5⟩ (aS k.aa j) (H.out.1.ms _ (List.mem_of_getElem? bg)) (pF.later Jd aJ.drew);simp only[MV.val]at iM;have HS:=aB fO;have HM:Hid (ms.map (·.2)=k.aa.take j/\ms.length=j/\k.aa[j]?=some (aS k.aa j)):=⟨nk,Ex,bg⟩
     clear fO nk Ex bg kz oM Jd OB Sb Sc Sd;go_wp2_with fail;refine bL 11 (fun X:World=>Bx X (w.1.size+2) [vI k.u,vI k.l,(.slice bP k.f.length dP),(.slice bM j dM),(.slice none 0 0),.bool k.w]/\Sp w (dJ a1 c1 (some ⟨b,off,none⟩) c2 a3 c3 k) b (off+j*4) [.bool (aS k.aa j).x,.slice m0 (aS k.aa j).af.length m1,.slice m2 (aS k.aa j).h.length m3,.slice m4 (aS k.aa j).ai.length m5] X) (by kernel_rfl) ?_;generalize wr.drew=XD at *;refine eQ 0 ?_ rfl ?_ dW ?_;rotate_left
     ·(intro w aG;go_simp;first|done|with_reducible rfl)
     simp only[Act.put];refine eQ 1 ?_ rfl ?_ dW ?_;rotate_left
     ·(intro w aG;have q:=aG.1.1 3 _ rfl;go_simp;first|done|with_reducible rfl|exact q)
     simp only[Act.put];refine eQ 2 ?_ rfl ?_ dW ?_;rotate_left
     ·(intro w aG;go_simp;first|done|with_reducible rfl)
     simp only[Act.put];refine eQ 3 ?_ rfl ?_ dW ?_;rotate_left
     ·(intro w aG;have q:=aG.2.1.1 3 _ rfl;go_simp;first|done|with_reducible rfl|exact q)
     simp only[Act.put];refine eQ 4 ?_ rfl ?_ dW ?_;rotate_left
     ·(intro w aG;go_simp;first|done|with_reducible rfl)
     simp only[Act.put];refine eQ 5 ?_ rfl ?_ dW ?_;rotate_left
     ·(intro w aG;go_simp;first|done|with_reducible rfl|(rw[if_pos (by omega)]))
     simp only[Act.put];refine eQ 6 ?_ rfl ?_ dW ?_;rotate_left
     ·(intro w aG;have q0:w.cell? ⟨b,off+j*4,none⟩=some (.bool (aS k.aa j).x):=aG.2.2.1 0 _ rfl;have q1:w.cell? ⟨b,off+j*4+1,none⟩=some (.slice m0 (aS k.aa j).af.length m1):=aG.2.2.1 1 _ rfl;have q2:w.cell? ⟨b,off+j*4+2,none⟩=some (.slice m2 (aS k.aa j).h.length m3):=aG.2.2.1 2 _ rfl;have q3:w.cell? ⟨b,off+j*4+3,none⟩=some (.slice m4 (aS k.aa j).ai.length m5):=aG.2.2.1 3 _ rfl;go_simp;first|done|with_reducible rfl|rfl)
     simp only[Act.put];refine dX 7 rfl (fun K hK=>?_);go_simp;refine iM.mono ?_;clear iM;rintro e X2 ⟨⟨u0,u1,u2,u3,u4,u5⟩,pp,gk,gr,rfl,lI,b2⟩;dsimp only;obtain⟨Q,hQ⟩:=MR.ow lI;have hO:fZ.Ow X2 wr.1.size ⟨u0,u1,u2,u3,u4,u5⟩ (aS k.aa j) Q:=fZ.low hQ (by have:=HD.out.size;omega);clear lI hQ;have QG:Hid (Below wr.1.size wr XD/\True):=⟨HD.out,trivial⟩
     have HD:=QG;clear QG;have l6:Below wr.1.size wr X2:=ay HD.out.1 b2;have iD:(fun X:World=>Bx X (w.1.size+2) [vI k.u,vI k.l,(.slice bP k.f.length dP),(.slice bM j dM),(.slice none 0 0),.bool k.w]/\Sp w (dJ a1 c1 (some ⟨b,off,none⟩) c2 a3 c3 k) b (off+j*4) [.bool (aS k.aa j).x,.slice m0 (aS k.aa j).af.length m1,.slice m2 (aS k.aa j).h.length m3,.slice m4 (aS k.aa j).ai.length m5] X) X2:=⟨dW.1.later b2,dW.2.later b2⟩
     obtain⟨X3,lX⟩:∃X,X=X2.alloc (.cells #[(.bool (aS k.aa j).x),(.slice u0 (aS k.aa j).af.length u1),(.slice u2 (aS k.aa j).h.length u3),(.slice u4 (aS k.aa j).ai.length u5)] 92):=⟨_,rfl⟩
     have b3:Below X2.1.size X2 X3:=by rw[lX];exact aJ.alloc aR _
     have x3:Bx X3 X2.1.size [(.bool (aS k.aa j).x),(.slice u0 (aS k.aa j).af.length u1),(.slice u2 (aS k.aa j).h.length u3),(.slice u4 (aS k.aa j).ai.length u5)]:=by rw[lX];exact Bx.made X2 [(.bool (aS k.aa j).x),(.slice u0 (aS k.aa j).af.length u1),(.slice u2 (aS k.aa j).h.length u3),(.slice u4 (aS k.aa j).ai.length u5)] _
     have jo:(fun X:World=>Bx X (w.1.size+2) [vI k.u,vI k.l,(.slice bP k.f.length dP),(.slice bM j dM),(.slice none 0 0),.bool k.w]/\Sp w (dJ a1 c1 (some ⟨b,off,none⟩) c2 a3 c3 k) b (off+j*4) [.bool (aS k.aa j).x,.slice m0 (aS k.aa j).af.length m1,.slice m2 (aS k.aa j).h.length m3,.slice m4 (aS k.aa j).ai.length m5] X) X3:=⟨iD.1.later b3,iD.2.later b3⟩
     obtain⟨v',Y,hr,sH,jW,gL,dQ,a',c',rfl⟩:=HS.out.Jt (ay l6 b3) (⟨u0,u1,u2,u3,u4,u5⟩:MV) (aS k.aa j) Q X2.1.size (by rw[HM.out.2.1];omega) 29 x3.1 (fZ.aQ hO b3.size (fun q hq=>b3.block q (fZ.of hO hq).2));have mQ:(fun X:World=>Bx X (w.1.size+2) [vI k.u,vI k.l,(.slice bP k.f.length dP),(.slice bM j dM),(.slice none 0 0),.bool k.w]/\Sp w (dJ a1 c1 (some ⟨b,off,none⟩) c2 a3 c3 k) b (off+j*4) [.bool (aS k.aa j).x,.slice m0 (aS k.aa j).af.length m1,.slice m2 (aS k.aa j).h.length m3,.slice m4 (aS k.aa j).ai.length m5] X) Y:=⟨jW,jo.2.of dQ (fun q hq=>gL q (.inl hq))⟩
     have HE:Hid ((ms++[((⟨u0,u1,u2,u3,u4,u5⟩:MV),aS k.aa j)]).map (·.2)=k.aa.take (j+1)):=by unfold Hid;rw[List.map_append,HM.out.1];exact lC HM.out.2.2
     rw[HM.out.2.1]at hr sH;have KE:=aB sH;refine hK.out _ _ (fun _=>iD) ?_;clear hK K b2 l6 b3 x3 sH jW gL dQ hO dW;refine dX 8 rfl (fun K hK=>?_);go_simp;rw[<-lX];refine hK.out _ _ (fun _=>jo) ?_;clear hK K iD;refine dX 9 rfl (fun K hK=>?_);refine df _ rfl (.tmp 43) (.tmp 50) 29 rfl _ _ _ _ (by first|rfl|simp[Act.eval,Act.put]) (by first|rfl|simp[Act.eval,Act.put]) hr ?_;refine hK.out _ _ (fun _=>mQ) ?_;clear hK K hr jo lX;simp only[Act.put];refine dX 10 rfl (fun K hK=>?_);go_simp;refine hK.out _ _ (fun _=>mQ) ?_;clear hK K;refine dX 11 rfl (fun K hK=>?_);have o3:=mQ.1.1 3 _ rfl;have ij:=mQ.1.2.1 3;go_simp;refine hK.out _ _ (fun h=>absurd rfl h) ?_;clear hK K;refine bS (by kernel_rfl) ?_ _;go_wp2;exact⟨⟨j+1,a',c',_,_,by omega,by simp,HE.out,KE.out⟩,by simp[intOf];omega⟩
    ·obtain rfl:k.aa.length=j:=by omega
     have hd:decide ((k.aa.length:Int)<(k.aa.length:Int))=false:=by simp
     rw[List.take_length]at nk;have EM:Hid (ms.map (·.2)=k.aa):=nk;have S1:=aB fO;clear nk fO hj aN tV;go_wp2;clear p2 p3 p4;generalize wr=WM at *;go_loopw[6] (fun v wr=>∃(j:Nat) (bT:Option Addr) (dT:Nat) (ts:List ((tx.TV)×tx.T7)) (gt:Nat->Nat->Prop),j<=k.c.length/\v=vI j/\ts.map (·.2)=k.c.take j/\Mg ts/\Bt w (dJ a1 c1 a2 c2 a3 c3 k) kv k wr (.slice bP k.f.length dP) (.slice bM k.aa.length dM) (.slice bT j dT) ps gp ms gm ts gt) (fun v _=>k.c.length-(intOf v).toNat)
     case atStart=>exact⟨0,none,0,[],jb,Nat.zero_le _,rfl,by simp,fun _ hp=>by simp at hp,S1.out⟩
     case round=>
      obtain⟨j,bT,dT,ts,gt,hj,rfl,nk,jJ,fO⟩:=hrel;have Z7:=aB jJ;clear jJ;have tV:k.c.length<=1000:=by have:=H.out.1.t;omega
      have p2:=fO.arg.1 2 _ rfl;have p3:=fO.arg.1 3 _ rfl;have p4:=fO.arg.1 4 _ rfl;by_cases aN:j<k.c.length
      ·skip
       have bg:=fV aN;have Ex:ts.length=j:=by have:=congrArg List.length nk;simpa[Nat.min_eq_left hj]using this
       have fM:=H.out.2.later fO.sP;rcases fM.t with h0|⟨b,off,rfl,hb,pU⟩
       ·rw[h0]at aN;simp at aN
       obtain⟨⟨t0,t1,t2,t3⟩,kz,Jd⟩:=pU j _ bg;have OB:wr.cell? ⟨b,off+j*7,none⟩=some (vI (aM k.c j).id):=kz 0 _ rfl;have Sb:wr.cell? ⟨b,off+j*7+1,none⟩=some (vI (aM k.c j).o):=kz 1 _ rfl;have Sc:wr.cell? ⟨b,off+j*7+2,none⟩=some (vI (aM k.c j).q):=kz 2 _ rfl;have Sd:wr.cell? ⟨b,off+j*7+3,none⟩=some (vI (aM k.c j).v):=kz 3 _ rfl;have YI:wr.cell? ⟨b,off+j*7+4,none⟩=some (.slice t0 (aM k.c j).a.length t1):=kz 4 _ rfl;have YJ:wr.cell? ⟨b,off+j*7+5,none⟩=some (.slice t2 (aM k.c j).ag.length t3):=kz 5 _ rfl;have YK:wr.cell? ⟨b,off+j*7+6,none⟩=some (vI (aM k.c j).aA):=kz 6 _ rfl;clear pU fM kz
       have kz:At wr b (off+j*7) (tx.iC t0 t1 t2 t3 (aM k.c j)):=fun i u hu=>by
        rcases i with _|_|_|_|_|_|_|i
        ·simp at hu;subst hu;exact OB
        ·simp at hu;subst hu;exact Sb
        ·simp at hu;subst hu;exact Sc
        ·simp at hu;subst hu;exact Sd
        ·simp at hu;subst hu;exact YI
        ·simp at hu;subst hu;exact YJ
        ·simp at hu;subst hu;exact YK
        ·simp at hu
       have oM:b<w.1.size:=by
        rcases H.out.2.t with h0|⟨b',bG,e',fC,_⟩
        ·rw[h0]at aN;simp at aN
        ·cases e';exact fC
       have dW:(fun X:World=>Bx X (w.1.size+2) [vI k.u,vI k.l,(.slice bP k.f.length dP),(.slice bM k.aa.length dM),(.slice bT j dT),.bool k.w]/\Sp w (dJ a1 c1 a2 c2 (some ⟨b,off,none⟩) c3 k) b (off+j*7) (tx.iC t0 t1 t2 t3 (aM k.c j)) X) wr.drew:=⟨fO.own.later aJ.drew,⟨fO.arg.later aJ.drew,kz.aj rfl,oM⟩⟩
       have HD:Hid (Below wr.1.size wr wr.drew):=aJ.drew;have jn:(j:Int)<(k.c.length:Int):=by omega
       obtain⟨l1,l2⟩:=H.out.1.ts _ (List.mem_of_getElem? bg);have iM:=tx.wU wr.drew ⟨t0,t1,t2,t3⟩ (aM k.c j) (by omega) (by omega) (tx.lW.later Jd aJ.drew);simp only[tx.TV.val]at iM;clear l1 l2;have HS:=aB fO;have HM:Hid (ts.map (·.2)=k.c.take j/\ts.length=j/\k.c[j]?=some (aM k.c j)):=⟨nk,Ex,bg⟩
       clear fO nk Ex bg kz oM Jd OB Sb Sc Sd YI YJ YK;go_wp2_with fail;refine bL 11 (fun X:World=>Bx X (w.1.size+2) [vI k.u,vI k.l,(.slice bP k.f.length dP),(.slice bM k.aa.length dM),(.slice bT j dT),.bool k.w]/\Sp w (dJ a1 c1 a2 c2 (some ⟨b,off,none⟩) c3 k) b (off+j*7) (tx.iC t0 t1 t2 t3 (aM k.c j)) X) (by kernel_rfl) ?_;generalize wr.drew=XD at *;refine eQ 0 ?_ rfl ?_ dW ?_;rotate_left
       ·(intro w aG;go_simp;first|done|with_reducible rfl)
       simp only[Act.put];refine eQ 1 ?_ rfl ?_ dW ?_;rotate_left
       ·(intro w aG;have q:=aG.1.1 4 _ rfl;go_simp;first|done|with_reducible rfl|exact q)
       simp only[Act.put];refine eQ 2 ?_ rfl ?_ dW ?_;rotate_left
       ·(intro w aG;go_simp;first|done|with_reducible rfl)
       simp only[Act.put];refine eQ 3 ?_ rfl ?_ dW ?_;rotate_left
       ·(intro w aG;have q:=aG.2.1.1 4 _ rfl;go_simp;first|done|with_reducible rfl|exact q)
       simp only[Act.put];refine eQ 4 ?_ rfl ?_ dW ?_;rotate_left
       ·(intro w aG;go_simp;first|done|with_reducible rfl)
       simp only[Act.put];refine eQ 5 ?_ rfl ?_ dW ?_;rotate_left
       ·(intro w aG;go_simp;first|done|with_reducible rfl|(rw[if_pos (by omega)]))
       simp only[Act.put];refine eQ 6 ?_ rfl ?_ dW ?_;rotate_left
       ·(intro w aG;have q0:w.cell? ⟨b,off+j*7,none⟩=some (vI (aM k.c j).id):=aG.2.2.1 0 _ rfl;have q1:w.cell? ⟨b,off+j*7+1,none⟩=some (vI (aM k.c j).o):=aG.2.2.1 1 _ rfl;have q2:w.cell? ⟨b,off+j*7+2,none⟩=some (vI (aM k.c j).q):=aG.2.2.1 2 _ rfl;have q3:w.cell? ⟨b,off+j*7+3,none⟩=some (vI (aM k.c j).v):=aG.2.2.1 3 _ rfl;have q4:w.cell? ⟨b,off+j*7+4,none⟩=some (.slice t0 (aM k.c j).a.length t1):=aG.2.2.1 4 _ rfl;have q5:w.cell? ⟨b,off+j*7+5,none⟩=some (.slice t2 (aM k.c j).ag.length t3):=aG.2.2.1 5 _ rfl;have q6:w.cell? ⟨b,off+j*7+6,none⟩=some (vI (aM k.c j).aA):=aG.2.2.1 6 _ rfl;go_simp;first|done|with_reducible rfl|rfl)
       simp only[Act.put];refine dX 7 rfl (fun K hK=>?_);go_simp;refine iM.mono ?_;clear iM;rintro e X2 ⟨u0,u1,u2,u3,PR,PS,rfl,ho,b2,cw⟩
       have ga:Hid (Mg (ts++[((⟨u0,u1,u2,u3⟩:tx.TV),aM k.c j)])):=fun p hp=>by
        rcases List.mem_append.1 hp with h|h
        ·exact Z7.out p h
        ·simp at h;subst h;exact cw
       clear cw;simp only[tx.TV.val];have hO:fQ.Ow X2 wr.1.size ⟨u0,u1,u2,u3⟩ (aM k.c j) (tx.oW PR PS):=fQ.low (KT.ow ho) HD.out.size;have QG:Hid (Below wr.1.size wr XD/\True):=⟨HD.out,trivial⟩
       have HD:=QG;clear QG;have l6:Below wr.1.size wr X2:=ay HD.out.1 b2;have iD:(fun X:World=>Bx X (w.1.size+2) [vI k.u,vI k.l,(.slice bP k.f.length dP),(.slice bM k.aa.length dM),(.slice bT j dT),.bool k.w]/\Sp w (dJ a1 c1 a2 c2 (some ⟨b,off,none⟩) c3 k) b (off+j*7) (tx.iC t0 t1 t2 t3 (aM k.c j)) X) X2:=⟨dW.1.later b2,dW.2.later b2⟩
       obtain⟨X3,lX⟩:∃X,X=X2.alloc (.cells #[(vI (aM k.c j).id),(vI (aM k.c j).o),(vI (aM k.c j).q),(vI (aM k.c j).v),(.slice u0 (aM k.c j).a.length u1),(.slice u2 (aM k.c j).ag.length u3),(vI (aM k.c j).aA)] 50):=⟨_,rfl⟩
       have b3:Below X2.1.size X2 X3:=by rw[lX];exact aJ.alloc aR _
       have x3:Bx X3 X2.1.size [(vI (aM k.c j).id),(vI (aM k.c j).o),(vI (aM k.c j).q),(vI (aM k.c j).v),(.slice u0 (aM k.c j).a.length u1),(.slice u2 (aM k.c j).ag.length u3),(vI (aM k.c j).aA)]:=by rw[lX];exact Bx.made X2 [(vI (aM k.c j).id),(vI (aM k.c j).o),(vI (aM k.c j).q),(vI (aM k.c j).v),(.slice u0 (aM k.c j).a.length u1),(.slice u2 (aM k.c j).ag.length u3),(vI (aM k.c j).aA)] _
       have jo:(fun X:World=>Bx X (w.1.size+2) [vI k.u,vI k.l,(.slice bP k.f.length dP),(.slice bM k.aa.length dM),(.slice bT j dT),.bool k.w]/\Sp w (dJ a1 c1 a2 c2 (some ⟨b,off,none⟩) c3 k) b (off+j*7) (tx.iC t0 t1 t2 t3 (aM k.c j)) X) X3:=⟨iD.1.later b3,iD.2.later b3⟩
       obtain⟨v',Y,hr,sH,jW,gL,dQ,a',c',rfl⟩:=HS.out.Jv (ay l6 b3) (⟨u0,u1,u2,u3⟩:tx.TV) (aM k.c j) (tx.oW PR PS) X2.1.size (by rw[HM.out.2.1];omega) 30 x3.1 (fQ.aQ hO b3.size (fun q hq=>b3.block q (fQ.of hO hq).2));have mQ:(fun X:World=>Bx X (w.1.size+2) [vI k.u,vI k.l,(.slice bP k.f.length dP),(.slice bM k.aa.length dM),(.slice bT j dT),.bool k.w]/\Sp w (dJ a1 c1 a2 c2 (some ⟨b,off,none⟩) c3 k) b (off+j*7) (tx.iC t0 t1 t2 t3 (aM k.c j)) X) Y:=⟨jW,jo.2.of dQ (fun q hq=>gL q (.inl hq))⟩
       have HE:Hid ((ts++[((⟨u0,u1,u2,u3⟩:tx.TV),aM k.c j)]).map (·.2)=k.c.take (j+1)):=by unfold Hid;rw[List.map_append,HM.out.1];exact lC HM.out.2.2
       rw[HM.out.2.1]at hr sH;have KE:=aB sH;refine hK.out _ _ (fun _=>iD) ?_;clear hK K b2 l6 b3 x3 sH jW gL dQ hO dW;refine dX 8 rfl (fun K hK=>?_);go_simp;rw[<-lX];refine hK.out _ _ (fun _=>jo) ?_;clear hK K iD;refine dX 9 rfl (fun K hK=>?_);refine df _ rfl (.tmp 61) (.tmp 68) 30 rfl _ _ _ _ (by first|rfl|simp[Act.eval,Act.put]) (by first|rfl|simp[Act.eval,Act.put]) hr ?_;refine hK.out _ _ (fun _=>mQ) ?_;clear hK K hr jo lX;simp only[Act.put];refine dX 10 rfl (fun K hK=>?_);go_simp;refine hK.out _ _ (fun _=>mQ) ?_;clear hK K;refine dX 11 rfl (fun K hK=>?_);have o4:=mQ.1.1 4 _ rfl;have iu:=mQ.1.2.1 4;go_simp;refine hK.out _ _ (fun h=>absurd rfl h) ?_;clear hK K;refine bS (by kernel_rfl) ?_ _;go_wp2;exact⟨⟨j+1,a',c',_,_,by omega,by simp,HE.out,ga.out,KE.out⟩,by simp[intOf];omega⟩
      ·obtain rfl:k.c.length=j:=by omega
       have hd:decide ((k.c.length:Int)<(k.c.length:Int))=false:=by simp
       rw[List.take_length]at nk;have ET:Hid (ts.map (·.2)=k.c):=nk;have S1:=aB fO;clear nk fO hj aN tV;have o0:=S1.out.own.1 0 _ rfl;have o1:=S1.out.own.1 1 _ rfl;have o2:=S1.out.own.1 2 _ rfl;have o3:=S1.out.own.1 3 _ rfl;have o4:=S1.out.own.1 4 _ rfl;have o5:=S1.out.own.1 5 _ rfl;have r0:=S1.out.res.1 0 _ rfl;have r1:=S1.out.res.1 1 _ rfl;have r2:=S1.out.res.1 2 _ rfl;have r3:=S1.out.res.1 3 _ rfl;have r4:=S1.out.res.1 4 _ rfl;have r5:=S1.out.res.1 5 _ rfl;have f0:=S1.out.res.2.1 0;have f1:=S1.out.res.2.1 1;have f2:=S1.out.res.2.1 2;have f3:=S1.out.res.2.1 3;have f4:=S1.out.res.2.1 4;have f5:=S1.out.res.2.1 5;go_wp2;refine bodyPost_ret (v:=.agg #[vI k.u,vI k.l,.slice bP k.f.length dP,.slice bM k.aa.length dM,.slice bT k.c.length dT,.bool k.w]) (by simp[results,Tryz.results16,go_sem,r0,r1,r2,r3,r4,r5]) rfl ?_;refine⟨bP,dP,bM,dM,bT,dT,ps,gp,ms,gm,ts,gt,rfl,?_,EP.out,EM.out,ET.out,?_⟩
       ·exact S1.out.rows.aQ (Y:=di wr (w.1.size+1) 0 (dJ bP dP bM dM bT dT k)) (by rw[bf];exact Nat.le_refl _) (fun q _ hb _=>aV (by omega) _ _ _)
       ·exact⟨aU (w:=w) (by omega) (dJ bP dP bM dM bT dT k) wr 0 S1.out.sP,Z7.out⟩
theorem GJ(w:World)(a1:Option Addr)(c1:Nat)(a2:Option Addr)(c2:Nat)(a3:Option Addr)(c3:Nat)(k:C6)(hk:aD k=true)(h:bK.Rd w a1 c1 a2 c2 a3 c3 k):
  Calls Tryz.prog 16 #[.agg #[vI k.u,vI k.l,.slice a1 k.f.length c1,.slice a2 k.aa.length c2,.slice a3 k.c.length c3,.bool k.w]] w (QD w k):=by
 refine(wV w a1 c1 a2 c2 a3 c3 k hk h).mono ?_;rintro e w' ⟨a,b,c,d,f,g,p1,p2,p3,p4,p5,p6,h1,h2,h3,h4,h5,h6,_⟩;exact⟨a,b,c,d,f,g,p1,p2,p3,p4,p5,p6,h1,h2,h3,h4,h5,h6⟩
end
section
variable {k:C6}{y:Int}
def Ua(k:C6)(y:Int):Int:=if gJ k y=0 then(fT k.c y:Int)else -1
theorem uz(h:gJ k y≠0):Ua k y=-1:=if_neg h
theorem FC(h:gJ k y=0):Ua k y=(fT k.c y:Int):=if_pos h
theorem Nn(w:World)(a1:Option Addr)(c1:Nat)(a2:Option Addr)(c2:Nat)(a3:Option Addr)(c3:Nat)(k:C6)(n:Int)(h:bK.Rd w a1 c1 a2 c2 a3 c3 k)(hk:aD k=true\/n=1)(hn:aD k=true->n≠1):
  Calls Tryz.prog 15 #[.agg #[vI k.u,vI k.l,.slice a1 k.f.length c1,.slice a2 k.aa.length c2,.slice a3 k.c.length c3,.bool k.w],vI n] w (Vg w (jY k) n):=by
 obtain⟨W0,eB⟩:∃Y,Y=(w.alloc (.cells #[vI k.u,vI k.l,.slice a1 k.f.length c1,.slice a2 k.aa.length c2,.slice a3 k.c.length c3,.bool k.w] 32)).alloc (.cells #[vI 0,vI 0,.slice none 0 0,.slice none 0 0,.slice none 0 0,.bool false] 32):=⟨_,rfl⟩
 have b0:Below w.1.size w W0:=by rw[eB];exact(aJ.alloc aR _).alloc (by simp) _
 have s0:W0.1.size=w.1.size+2:=by rw[eB];simp
 have x0:Bx W0 w.1.size (dJ a1 c1 a2 c2 a3 c3 k):=by
  have:=(Bx.made w (dJ a1 c1 a2 c2 a3 c3 k) 32).later (aJ.alloc aR (.cells #[vI 0,vI 0,.slice none 0 0,.slice none 0 0,.slice none 0 0,.bool false] 32));rw[eB];exact this
 have x1:Bx W0 (w.1.size+1) kv:=by
  have h:=Bx.made (w.alloc (.cells #[vI k.u,vI k.l,.slice a1 k.f.length c1,.slice a2 k.aa.length c2,.slice a3 k.c.length c3,.bool k.w] 32)) kv 32;rw[show(w.alloc (.cells #[vI k.u,vI k.l,.slice a1 k.f.length c1,.slice a2 k.aa.length c2,.slice a3 k.c.length c3,.bool k.w] 32)).1.size=w.1.size+1 by simp]at h;rw[eB];exact h
 have H:Hid (Below w.1.size w W0/\W0.1.size=w.1.size+2/\Bx W0 (w.1.size+1) kv):=⟨b0,s0,x1⟩
 cases QS:aD k with
 | false=>
  obtain rfl:n=1:=by rcases hk with h1|h1;rw[h1]at QS;cases QS;exact h1
  have mg:jY k=zC:=by simp[jY,QS]
  have HL:=aB mg;have r0:=x1.1 0 _ rfl;have r1:=x1.1 1 _ rfl;have r2:=x1.1 2 _ rfl;have r3:=x1.1 3 _ rfl;have r4:=x1.1 4 _ rfl;have r5:=x1.1 5 _ rfl;have f0:=x1.2.1 0;have f1:=x1.2.1 1;have f2:=x1.2.1 2;have f3:=x1.2.1 3;have f4:=x1.2.1 4;have f5:=x1.2.1 5;have q0:=r0;have q1:=r1;have q2:=r2;have q3:=r3;have q4:=r4;have q5:=r5;rw[eB]at r0 r1 r2 r3 r4 r5 f0 f1 f2 f3 f4 f5;clear b0 s0 x0 x1 h hk hn mg QS;go_enter Tryz.func15,Tryz.ntmps15;go_wp2;rw[<-eB];refine bodyPost_ret (v:=.tuple #[.agg #[vI 0,vI 0,.slice none 0 0,.slice none 0 0,.slice none 0 0,.bool false],vI 1]) (by simp[results,Tryz.results15,go_sem,q0,q1,q2,q3,q4,q5]) rfl ?_;rw[HL.out];refine⟨none,0,none,0,none,0,fun _=>False,rfl,Rz _ _,?_⟩;exact H.out.1
 | true=>
  have fF:=hn QS;have mg:jY k=k:=by simp[jY,QS]
  have HL:=aB mg;have hb:(n==1)=false:=by simpa using fF
  have hc:=GJ W0 a1 c1 a2 c2 a3 c3 k QS (h.later b0);have p0:=x0.1 0 _ rfl;have p1:=x0.1 1 _ rfl;have p2:=x0.1 2 _ rfl;have p3:=x0.1 3 _ rfl;have p4:=x0.1 4 _ rfl;have p5:=x0.1 5 _ rfl;rw[eB]at p0 p1 p2 p3 p4 p5;clear b0 s0 x0 x1 h hk hn mg QS fF;go_enter Tryz.func15,Tryz.ntmps15;go_wp2_with fail;rw[<-eB];clear eB p0 p1 p2 p3 p4 p5;refine hc.mono ?_;clear hc;rintro e w1 ⟨b1,d1,b2,d2,b3,d3,ps,gp,ms,gm,ts,gt,rfl,hr,e1,e2,e3,bl⟩;obtain⟨h1,h2,h3⟩:=H.out;have y0:=h3.later bl;have r0:=y0.1 0 _ rfl;have r1:=y0.1 1 _ rfl;have r2:=y0.1 2 _ rfl;have r3:=y0.1 3 _ rfl;have r4:=y0.1 4 _ rfl;have r5:=y0.1 5 _ rfl;have f0:=y0.2.1 0;have f1:=y0.2.1 1;have f2:=y0.2.1 2;have f3:=y0.2.1 3;have f4:=y0.2.1 4;have f5:=y0.2.1 5;have KE:Hid (bK.Ow w1 (W0.1.size+3) b1 d1 b2 d2 b3 d3 k (fun q=>Kd.jU (.slice b1 k.f.length d1) ps gp q\/Kd.jU (.slice b2 k.aa.length d2) ms gm q\/Kd.jU (.slice b3 k.c.length d3) ts gt q)/\Below w.1.size w w1/\W0.1.size=w.1.size+2):=⟨hr.ow e1 e2 e3,ay h1 bl,h2⟩
  clear hr e1 e2 e3 bl y0 h1 h2 h3 H;go_wp2;refine bodyPost_ret (v:=.tuple #[.agg #[vI k.u,vI k.l,.slice b1 k.f.length d1,.slice b2 k.aa.length d2,.slice b3 k.c.length d3,.bool k.w],vI n]) (by simp[results,Tryz.results15,go_sem,r0,r1,r2,r3,r4,r5]) rfl ?_;rw[HL.out];refine⟨b1,d1,b2,d2,b3,d3,_,rfl,(KE.out.1.low (show w.1.size<=_ by have:=KE.out.2.2;omega)).aQ (w':=di w1 (w.1.size+1) 0 (dJ b1 d1 b2 d2 b3 d3 k)) (by rw[bf];exact Nat.le_refl _) (fun q hq=>aV (fun e=>by have:=(KE.out.1.of hq).1;have:=KE.out.2.2;omega) _ _ _),?_⟩;exact aU (w:=w) (by omega) (dJ b1 d1 b2 d2 b3 d3 k) w1 0 KE.out.2.1
theorem GL(w:World)(a1:Option Addr)(c1:Nat)(a2:Option Addr)(c2:Nat)(a3:Option Addr)(c3:Nat)(k:C6)(y:Int)(hl:bK.L k)(h:bK.Rd w a1 c1 a2 c2 a3 c3 k):
  Calls Tryz.prog 14 #[.agg #[vI k.u,vI k.l,.slice a1 k.f.length c1,.slice a2 k.aa.length c2,.slice a3 k.c.length c3,.bool k.w],vI y] w fun e w'=>e=.returned (.tuple #[vI (Ua k y),vI (gJ k y)])/\Below w.1.size w w':=by
 obtain⟨W0,eB⟩:∃Y,Y=w.alloc (.cells #[vI k.u,vI k.l,.slice a1 k.f.length c1,.slice a2 k.aa.length c2,.slice a3 k.c.length c3,.bool k.w] 32):=⟨_,rfl⟩
 have b0:Below w.1.size w W0:=by rw[eB];exact aJ.alloc aR _
 have x0:Bx W0 w.1.size (dJ a1 c1 a2 c2 a3 c3 k):=by rw[eB];exact Bx.made w (dJ a1 c1 a2 c2 a3 c3 k) _
 have hc:=uC W0 a1 c1 a2 c2 a3 c3 k hl (h.later b0);have p0:=x0.1 0 _ rfl;have p1:=x0.1 1 _ rfl;have p2:=x0.1 2 _ rfl;have p3:=x0.1 3 _ rfl;have p4:=x0.1 4 _ rfl;have p5:=x0.1 5 _ rfl;have H:Hid (Below w.1.size w W0/\Bx W0 w.1.size (dJ a1 c1 a2 c2 a3 c3 k)/\bK.Rd W0 a1 c1 a2 c2 a3 c3 k/\bK.L k):=⟨b0,x0,h.later b0,hl⟩
 rw[eB]at p0 p1 p2 p3 p4 p5;clear b0 x0 h hl;go_enter Tryz.func14,Tryz.ntmps14;go_wp2_with fail;rw[<-eB];clear eB p0 p1 p2 p3 p4 p5;refine hc.mono ?_;clear hc;rintro e w1 ⟨rfl,b1⟩;have B1:Hid (Below w.1.size w w1/\Bx w1 w.1.size (dJ a1 c1 a2 c2 a3 c3 k)/\bK.Rd w1 a1 c1 a2 c2 a3 c3 k):=⟨ay H.out.1 b1,H.out.2.1.later b1,H.out.2.2.1.later b1⟩
 clear b1
 cases hk:aD k with
 | false=>
  have hr:gJ k y=1:=by simp[gJ,fU,hk]
  have HR:=aB hr;clear hr;go_wp2;refine bodyPost_ret (v:=.tuple #[vI (-1),vI 1]) (by simp[results,Tryz.results14,go_sem]) rfl ?_;exact⟨by rw[uz (by rw[HR.out];decide),HR.out],B1.out.1⟩
 | true=>
  have hf:=GK w1 a1 c1 a2 c2 a3 c3 k y H.out.2.2.2 B1.out.2.2;have q0:=B1.out.2.1.1 0 _ rfl;have q1:=B1.out.2.1.1 1 _ rfl;have q2:=B1.out.2.1.1 2 _ rfl;have q3:=B1.out.2.1.1 3 _ rfl;have q4:=B1.out.2.1.1 4 _ rfl;have q5:=B1.out.2.1.1 5 _ rfl;have HK:=aB hk;clear hk;go_wp2_with fail;refine hf.mono ?_;clear hf q0 q1 q2 q3 q4 q5;rintro e w2 ⟨⟨z,rfl,Gu⟩,b2⟩;have B2:Hid (Below w.1.size w w2/\Bx w2 w.1.size (dJ a1 c1 a2 c2 a3 c3 k)/\bK.Rd w2 a1 c1 a2 c2 a3 c3 k):=⟨ay B1.out.1 b2,B1.out.2.1.later b2,B1.out.2.2.later b2⟩
  clear b2 B1;rcases Gi Gu with ⟨rfl,bg⟩|⟨i,rfl,hi,bg⟩
  ·have hr:gJ k y=2:=by simp[gJ,fU,HK.out,bg]
   have HR:=aB hr;clear hr bg Gu;go_wp2;refine bodyPost_ret (v:=.tuple #[vI (-1),vI 2]) (by simp[results,Tryz.results14,go_sem]) rfl ?_;exact⟨by rw[uz (by rw[HR.out];decide),HR.out],B2.out.1⟩
  ·clear Gu;obtain⟨OI,Zg⟩:=Ea HK.out hi;obtain⟨hm,SI⟩:∃m:Nat,(aM k.c i).o=(m:Int):=⟨(aM k.c i).o.toNat,by omega⟩
   have Zi:hm<k.aa.length:=by omega
   have ng:fU k y=if (aS k.aa hm).x=true then 0 else 3:=by simp only[fU,HK.out,if_true,bg,hi,Ez,dF,SI,Int.toNat_natCast]
   have HC:Hid (fU k y=(if (aS k.aa hm).x=true then 0 else 3)/\fT k.c y=i/\dF k y=aM k.c i):=⟨ng,bg,by rw[dF,bg]⟩
   rcases B2.out.2.2.t with e0|⟨b,off,rfl,hb,fM⟩
   ·rw[e0]at hi;simp at hi
   obtain⟨⟨t0,t1,t2,t3⟩,kz,-⟩:=fM i _ (fV hi);rcases B2.out.2.2.m with e0|⟨mb,mo,rfl,VU,VW⟩
   ·rw[e0]at Zi;simp at Zi
   obtain⟨⟨m0,m1,m2,m3,m4,m5⟩,VV,-⟩:=VW hm _ (il Zi);have g1:w2.cell? ⟨b,off+i*7+1,none⟩=some (vI (hm:Int)):=by rw[<-SI];exact kz 1 _ rfl
   have g2:w2.cell? ⟨b,off+i*7+2,none⟩=some (vI (aM k.c i).q):=kz 2 _ rfl;have g3:w2.cell? ⟨mb,mo+hm*4,none⟩=some (.bool (aS k.aa hm).x):=VV 0 _ rfl;have q3:=B2.out.2.1.1 3 _ rfl;have q4:=B2.out.2.1.1 4 _ rfl;have jn:(i:Int)<(k.c.length:Int):=by omega
   have jm:(hm:Int)<(k.aa.length:Int):=by omega
   have dn:decide ((i:Int)<0)=false:=by simp
   have x1:∀dd os,(grow (redrawn w2 dd) os).cell? ⟨b,off+i*7+1,none⟩=some (vI (hm:Int)):=fun dd os=>((below_regrown w2 dd os).cell (p:=⟨b,off+i*7+1,none⟩) hb).trans g1
   have x3:∀dd os,(grow (redrawn w2 dd) os).cell? ⟨mb,mo+hm*4,none⟩=some (.bool (aS k.aa hm).x):=fun dd os=>((below_regrown w2 dd os).cell (p:=⟨mb,mo+hm*4,none⟩) VU).trans g3
   have x4:∀dd os,(grow (redrawn w2 dd) os).cell? ⟨w.1.size,3,none⟩=some (.slice (some ⟨mb,mo,none⟩) k.aa.length c2):=fun dd os=>(B2.out.2.1.later (below_regrown w2 dd os)).1 3 _ rfl
   have x5:∀dd os,(grow (redrawn w2 dd) os).cell? ⟨w.1.size,4,none⟩=some (.slice (some ⟨b,off,none⟩) k.c.length c3):=fun dd os=>(B2.out.2.1.later (below_regrown w2 dd os)).1 4 _ rfl
   have HG2:Hid (w2.cell? ⟨b,off+i*7+2,none⟩=some (vI (aM k.c i).q)/\b<w2.1.size):=⟨g2,hb⟩
   clear OI Zg ng bg fM kz VW VV g1 g2 g3 SI q3 q4 hb VU;go_wp2_with fail;refine wp_region_quiet_below (by kernel_rfl) (by kernel_rfl) ?_;repeat (go_big_quiet_step (fail))
   refine wpQuiet_nil ?_;intro _ dD;obtain⟨⟨dq,bI⟩,aT⟩:=dD;subst aT;have bq:=below_regrown w2 dq bI;have B3:Hid (Below w.1.size w (grow (redrawn w2 dq) bI)):=ay B2.out.1 bq;have y4:=x5 dq bI;have y2:(grow (redrawn w2 dq) bI).cell? ⟨b,off+i*7+2,none⟩=some (vI (aM k.c i).q):=(bq.cell (p:=⟨b,off+i*7+2,none⟩) HG2.out.2).trans HG2.out.1;clear bq x1 x3 x4 x5 B2 HG2;generalize grow (redrawn w2 dq) bI=w3 at *
   cases Eo:(aS k.aa hm).x with
   | false=>
    have hr:gJ k y=3:=by
     have:fU k y=3:=by rw[HC.out.1,Eo];rfl
     simp[gJ,this]
    have HR:=aB hr;clear hr;go_wp2;refine bodyPost_ret (v:=.tuple #[vI (-1),vI 3]) (by simp[results,Tryz.results14,go_sem]) rfl ?_;exact⟨by rw[uz (by rw[HR.out];decide),HR.out],B3.out⟩
   | true=>
    have VK:fU k y=0:=by rw[HC.out.1,Eo];rfl
    by_cases J5:(aM k.c i).q=1
    ·have hr:gJ k y=0:=by simp[gJ,VK,HC.out.2.2,J5]
     have HR:=aB hr;rw[J5]at y2;clear hr VK J5;go_wp2;refine bodyPost_ret (v:=.tuple #[vI (i:Int),vI 0]) (by simp[results,Tryz.results14,go_sem]) rfl ?_;exact⟨by rw[FC HR.out,HR.out,HC.out.2.1],B3.out⟩
    ·have hr:gJ k y=4:=by simp[gJ,VK,HC.out.2.2,J5]
     have HR:=aB hr;have fF:((aM k.c i).q != 1)=true:=by simpa using J5
     clear hr VK J5;go_wp2;refine bodyPost_ret (v:=.tuple #[vI (-1),vI 4]) (by simp[results,Tryz.results14,go_sem]) rfl ?_;exact⟨by rw[uz (by rw[HR.out];decide),HR.out],B3.out⟩
end
section
variable {B b j n:Nat}{X:World}{g:Nat->Nat->Prop}
structure Kd.Rest{D V:Type}(K:Kd D V)(X:World)(B b n:Nat)(ys:List D)(g:Nat->Nat->Prop)(j:Nat):Prop where
 rm:Room X b (n*K.n)
 at_:∀i d,j<=i->ys[i]?=some d->∃v,At X b (i*K.n) (K.cells v d)/\K.Ow X B v d (g i)
 ne:∀i q,i<ys.length->g i q->q≠b
 ap:∀i j q,i<ys.length->j<ys.length->i≠j->g i q->¬g j q
theorem Kd.Part.rest{D V:Type}{K:Kd D V}{ys:List D}(h:K.Part X B b n ys g):K.Rest X B b n ys g 0:=⟨h.rm,fun i d _ hi=>h.at_ i d hi,h.ne,h.ap⟩
theorem Kd.Rest.up{D V:Type}{K:Kd D V}{ys:List D}(h:K.Rest X B b n ys g j):K.Rest X B b n ys g (j+1):=⟨h.rm,fun i d hj hi=>h.at_ i d (by omega) hi,h.ne,h.ap⟩
theorem Kd.Rest.set{D V:Type}{K:Kd D V}{X:World}{B b n:Nat}{ys:List D}{g:Nat->Nat->Prop}{j o:Nat}(h:K.Rest X B b n ys g (j+1))(ho:o<(j+1)*K.n)(u:Value):K.Rest (X.setCell ⟨b,o,none⟩ u) B b n ys g (j+1):=by
 refine⟨h.rm.set _,fun i d hj hi=>?_,h.ne,h.ap⟩;obtain⟨v,h1,h2⟩:=h.at_ i d hj hi;have hm:=Nat.mul_le_mul_right K.n hj;exact⟨v,fun q u' e=>(ae (by omega)).trans (h1 q u' e),K.aQ h2 (by simp[World.setCell]) (fun q hq=>Below.heap_setCell _ _ _ _ (h.ne i q (List.getElem?_eq_some_iff.1 hi).1 hq))⟩
theorem Kd.Rest.kept{D V:Type}{K:Kd D V}{Y:World}{ys:List D}{Q:Nat->Prop}(h:K.Rest X B b n ys g (j+1))(hk:aH Q X Y)(hb:b<X.1.size)(hj:j<ys.length)(hQ:∀q,Q q->g j q):K.Rest Y B b n ys g (j+1):=by
 have iE:Y.1[b]?=X.1[b]?:=hk.block b hb (fun e=>h.ne j b hj (hQ b e) rfl);refine⟨Fy h.rm iE,fun i d QP hi=>?_,h.ne,h.ap⟩;obtain⟨v,h1,h2⟩:=h.at_ i d QP hi;have hl:=(List.getElem?_eq_some_iff.1 hi).1;exact⟨v,h1.aj iE,K.aQ h2 hk.size (fun q hq=>hk.block q (K.of h2 hq).2 (fun e=>h.ap i j q hl hj (by omega) hq (hQ q e)))⟩
def cM(m:M4):Nat:=1+(aK cK m.af m.af.length+aK cR m.h m.h.length+m.ai.length)
structure RL(w X:World)(B b:Nat)(ms:List M4)(g:Nat->Nat->Prop)(P:Nat->Prop)(j:Nat)(a2:Option Addr)(c2:Nat)(a3:Option Addr)(c3:Nat)(PR PD:Nat->Prop):Prop where
 r:qY 4 oZ xG AtR X PR a2 (aS ms j).h
 n:Aq X PD a3 (aS ms j).ai
 e2:X.cell? ⟨b,j*4+2,none⟩=some (.slice a2 (aS ms j).h.length c2)
 e3:X.cell? ⟨b,j*4+3,none⟩=some (.slice a3 (aS ms j).ai.length c3)
 rest:fZ.Rest X B b ms.length ms g (j+1)
 kp:aH P w X
 lt:b<X.1.size
theorem Tu(w:World)(B b cap:Nat)(ms:List M4)(g:Nat->Nat->Prop)(P:Nat->Prop)(k:Int)(hk:0<=k)(ni:k+(aK cM ms ms.length:Int)<=100000000)(hn:ms.length<=1048576)(ht:∀m∈ms,MT m)(hb:b<w.1.size)(JV:P b)(MM:∀i q,i<ms.length->g i q->P q)(h:fZ.Part w B b ms.length ms g):
  Calls Tryz.prog 32 #[.slice (some ⟨b,0,none⟩) ms.length cap,vI k] w fun e w'=>e=.returned (vI (k+(aK cM ms ms.length:Int)))/\aH P w w':=by
 have H:Hid ((∀m∈ms,MT m)/\b<w.1.size/\P b/\(∀i q,i<ms.length->g i q->P q)/\fZ.Part w B b ms.length ms g):=⟨ht,hb,JV,MM,h⟩
 clear ht hb JV MM h;go_enter Tryz.func32,Tryz.ntmps32;go_wp2;go_loopw[1,5] (fun v1 v5 wr=>∃j:Nat,j<=ms.length/\v5=vI j/\v1=vI (k+(aK cM ms j:Int))/\aH P w wr/\fZ.Rest wr B b ms.length ms g j) (fun _ v5 _=>ms.length-(intOf v5).toNat)
 case atStart=>exact⟨0,Nat.zero_le _,rfl,by rw[iH];simp,aH.refl _ _,H.out.2.2.2.2.rest⟩
 case round=>
  obtain⟨j,hj,rfl,rfl,j5,ny⟩:=hrel;have ky:=gN cM ms j;by_cases aN:j<ms.length
  ·have hd:=il aN;obtain⟨⟨m0,m1,m2,m3,m4,m5⟩,bg,how⟩:=ny.at_ j _ aR hd;obtain⟨PK,PR,PD,om,jX,Pt⟩:=how;obtain⟨z0,d0,f0⟩:∃v,wr.cell? ⟨b,j*4,none⟩=some v/\wr.frozen? ⟨b,j*4,none⟩=false:=ny.rm (j*4) (show _<ms.length*4 by omega);have e1:wr.cell? ⟨b,j*4+1,none⟩=some (.slice m0 (aS ms j).af.length m1):=bg 1 _ rfl;have e2:wr.cell? ⟨b,j*4+2,none⟩=some (.slice m2 (aS ms j).h.length m3):=bg 2 _ rfl;have e3:wr.cell? ⟨b,j*4+3,none⟩=some (.slice m4 (aS ms j).ai.length m5):=bg 3 _ rfl;have hT:=H.out.1 _ (List.mem_of_getElem? hd);have kQ:aK cM ms (j+1)=aK cM ms j+cM (aS ms j):=iG cM hd;have hle:=gN cM ms (j+1);have HO:Hid (aK cM ms (j+1)=aK cM ms j+(1+(aK cK (aS ms j).af (aS ms j).af.length+aK cR (aS ms j).h (aS ms j).h.length+(aS ms j).ai.length))/\k+(aK cM ms (j+1):Int)<=100000000):=⟨kQ,by omega⟩
   have Ak:∀q,g j q->q≠b:=fun q hq=>ny.ne j q aN hq
   have bl:b<wr.1.size:=Nat.lt_of_lt_of_le H.out.2.1 j5.size
   have S1:Hid (∀u:Value,qY 2 pQ vN lD (wr.setCell ⟨b,j*4,none⟩ u) PK m0 (aS ms j).af/\RL w (wr.setCell ⟨b,j*4,none⟩ u) B b ms g P j m2 m3 m4 m5 PR PD):=fun u=>by
    have dQ:wr.1.size<=(wr.setCell ⟨b,j*4,none⟩ u).1.size:=by simp[World.setCell]
    exact⟨om.k.aQ lD.aj dQ (fun q _ hp=>Below.heap_setCell _ _ _ _ (Ak q (jX q (.inl hp)))),om.r.aQ AtR.aj dQ (fun q _ hp=>Below.heap_setCell _ _ _ _ (Ak q (jX q (.inr (.inl hp))))),om.n.aQ dQ (fun q _ hp=>Below.heap_setCell _ _ _ _ (Ak q (jX q (.inr (.inr hp))))),
     (ae (by omega)).trans e2,(ae (by omega)).trans e3,ny.up.set (show j*4<(j+1)*4 by omega) u,j5.trans (aH.rX wr u H.out.2.2.1),Nat.lt_of_lt_of_le bl dQ⟩
   have HG:Hid ((∀q,PK q->g j q)/\(∀q,PR q->g j q)/\(∀q,PD q->g j q)/\(∀q,PK q->¬PR q)/\(∀q,PK q->¬PD q)/\(∀q,PR q->¬PD q)/\(∀q,g j q->q≠b)/\(∀q,g j q->P q)):=⟨fun q hq=>jX q (.inl hq),fun q hq=>jX q (.inr (.inl hq)),fun q hq=>jX q (.inr (.inr hq)),om.kr,om.kd,om.rd,Ak,fun q hq=>H.out.2.2.2.1 j q aN hq⟩
   have S2:Hid (∀u w1,aH PK (wr.setCell ⟨b,j*4,none⟩ u) w1->RL w w1 B b ms g P j m2 m3 m4 m5 PR PD):=fun u w1 k1=>by
    have R0:=(S1.out u).2;have OE:=k1.block b R0.lt (fun e=>HG.out.2.2.2.2.2.2.1 b (HG.out.1 b e) rfl);exact⟨R0.r.aQ AtR.aj k1.size (fun q hq hp=>k1.block q hq (fun e=>HG.out.2.2.2.1 q e hp)),R0.n.aQ k1.size (fun q hq hp=>k1.block q hq (fun e=>HG.out.2.2.2.2.1 q e hp)),(World.cell?_of_block (a:=⟨b,j*4+2,none⟩) OE).trans R0.e2,(World.cell?_of_block (a:=⟨b,j*4+3,none⟩) OE).trans R0.e3,R0.rest.kept k1 R0.lt aN HG.out.1,R0.kp.trans (k1.mono (fun q hq=>HG.out.2.2.2.2.2.2.2 q (HG.out.1 q hq))),Nat.lt_of_lt_of_le R0.lt k1.size⟩
   have HT:Hid (MT (aS ms j)):=hT;have jn:(j:Int)<(ms.length:Int):=by omega
   have g0:0<=k+(aK cM ms j:Int):=by omega
   have g1:k+(aK cM ms j:Int)<=100000000:=by omega
   clear j5 ny bg om jX Pt hd kQ hle Ak hT bl e2 e3 ky;generalize hK:k+(aK cM ms j:Int)=kj at *;go_wp2_with fail;refine(Rj _ PK m0 m1 (aS ms j).af (kj+1) (by omega) (by omega) HT.out.tk HT.out.k HT.out.ks (S1.out _).1).mono ?_;rintro e w1 ⟨rfl,k1,-⟩;have R1:Hid (RL w w1 B b ms g P j m2 m3 m4 m5 PR PD):=S2.out _ _ k1;clear k1 S1 S2 d0 f0 e1;have e2:=R1.out.e2;have tk:=HT.out.tk;have tr:=HT.out.tr;have tn:=HT.out.n;go_wp2_with fail;refine(Rm w1 PR m2 m3 (aS ms j).h _ (by omega) (by omega) HT.out.tr HT.out.r HT.out.rs R1.out.r).mono ?_;rintro e w2 ⟨rfl,k2,-⟩
   have R2:Hid (Aq w2 PD m4 (aS ms j).ai/\w2.cell? ⟨b,j*4+3,none⟩=some (.slice m4 (aS ms j).ai.length m5)/\fZ.Rest w2 B b ms.length ms g (j+1)/\aH P w w2/\b<w2.1.size):=by
    have R0:=R1.out;have OE:=k2.block b R0.lt (fun e=>HG.out.2.2.2.2.2.2.1 b (HG.out.2.1 b e) rfl);exact⟨R0.n.aQ k2.size (fun q hq hp=>k2.block q hq (fun e=>HG.out.2.2.2.2.2.1 q e hp)),(World.cell?_of_block (a:=⟨b,j*4+3,none⟩) OE).trans R0.e3,R0.rest.kept k2 R0.lt aN HG.out.2.1,R0.kp.trans (k2.mono (fun q hq=>HG.out.2.2.2.2.2.2.2 q (HG.out.2.1 q hq))),Nat.lt_of_lt_of_le R0.lt k2.size⟩
   clear k2 R1 e2;have e3:=R2.out.2.1;go_wp2_with fail;refine(Rl w2 PD m4 m5 (aS ms j).ai _ (by omega) (by omega) HT.out.n R2.out.1).mono ?_;rintro e w3 ⟨rfl,k3,-⟩;have R3:Hid (fZ.Rest w3 B b ms.length ms g (j+1)/\aH P w w3):=⟨R2.out.2.2.1.kept k3 R2.out.2.2.2.2 aN HG.out.2.2.1,R2.out.2.2.2.1.trans (k3.mono (fun q hq=>HG.out.2.2.2.2.2.2.2 q (HG.out.2.2.1 q hq)))⟩
   clear k3 R2 e3;go_wp2;exact⟨⟨j+1,by omega,by simp,by have:=HO.out.1;rw[this];congr 1;omega,R3.out.2,R3.out.1⟩,by simp[intOf];omega⟩
  ·obtain rfl:j=ms.length:=by omega
   have hd:decide ((ms.length:Int)<(ms.length:Int))=false:=by simp
   have KH:Hid (aH P w wr):=j5;clear j5 ny;go_wp2;go_ret;exact⟨rfl,KH.out⟩
end
theorem Ji{P:Nat->Prop}{a b:World}(h:tx.aH P a b):aH P a b:=⟨h.os,h.tape,h.output,h.size,h.block⟩
def cT(t:tx.T7):Nat:=5+(5*t.a.length+5*t.ag.length)
structure RO(w X:World)(B b:Nat)(ts:List tx.T7)(g:Nat->Nat->Prop)(P:Nat->Prop)(j:Nat)(a2:Option Addr)(c2:Nat)(PS:Nat->Prop):Prop where
 s:tx.oL X PS a2 (aM ts j).ag
 e5:X.cell? ⟨b,j*7+5,none⟩=some (.slice a2 (aM ts j).ag.length c2)
 rest:fQ.Rest X B b ts.length ts g (j+1)
 kp:aH P w X
 lt:b<X.1.size
theorem Tw(w:World)(B b cap:Nat)(ts:List tx.T7)(g:Nat->Nat->Prop)(P:Nat->Prop)(k:Int)(hk:0<=k)(ni:k+(aK cT ts ts.length:Int)<=100000000)(hn:ts.length<=1048576)(ht:∀t∈ts,KT.S t)(hb:b<w.1.size)(JV:P b)(MM:∀i q,i<ts.length->g i q->P q)(h:fQ.Part w B b ts.length ts g):
  Calls Tryz.prog 33 #[.slice (some ⟨b,0,none⟩) ts.length cap,vI k] w fun e w'=>e=.returned (vI (k+(aK cT ts ts.length:Int)))/\aH P w w':=by
 have H:Hid ((∀t∈ts,KT.S t)/\b<w.1.size/\P b/\(∀i q,i<ts.length->g i q->P q)/\fQ.Part w B b ts.length ts g):=⟨ht,hb,JV,MM,h⟩
 clear ht hb JV MM h;go_enter Tryz.func33,Tryz.ntmps33;go_wp2;go_loopw[1,5] (fun v1 v5 wr=>∃j:Nat,j<=ts.length/\v5=vI j/\v1=vI (k+(aK cT ts j:Int))/\aH P w wr/\fQ.Rest wr B b ts.length ts g j) (fun _ v5 _=>ts.length-(intOf v5).toNat)
 case atStart=>exact⟨0,Nat.zero_le _,rfl,by rw[iH];simp,aH.refl _ _,H.out.2.2.2.2.rest⟩
 case round=>
  obtain⟨j,hj,rfl,rfl,j5,ny⟩:=hrel;have ky:=gN cT ts j;by_cases aN:j<ts.length
  ·have hd:=fV aN;obtain⟨⟨t0,t1,t2,t3⟩,bg,how⟩:=ny.at_ j _ aR hd;obtain⟨PR,PS,om,jX,Pt⟩:=how;obtain⟨z0,d0,f0⟩:∃v,wr.cell? ⟨b,j*7,none⟩=some v/\wr.frozen? ⟨b,j*7,none⟩=false:=ny.rm (j*7+0) (show _<ts.length*7 by omega);obtain⟨z1,d1,f1⟩:∃v,wr.cell? ⟨b,j*7+1,none⟩=some v/\wr.frozen? ⟨b,j*7+1,none⟩=false:=ny.rm (j*7+1) (show _<ts.length*7 by omega);obtain⟨z2,d2,f2⟩:∃v,wr.cell? ⟨b,j*7+2,none⟩=some v/\wr.frozen? ⟨b,j*7+2,none⟩=false:=ny.rm (j*7+2) (show _<ts.length*7 by omega);obtain⟨z3,d3,f3⟩:∃v,wr.cell? ⟨b,j*7+3,none⟩=some v/\wr.frozen? ⟨b,j*7+3,none⟩=false:=ny.rm (j*7+3) (show _<ts.length*7 by omega);have e4:wr.cell? ⟨b,j*7+4,none⟩=some (.slice t0 (aM ts j).a.length t1):=bg 4 _ rfl;have e5:wr.cell? ⟨b,j*7+5,none⟩=some (.slice t2 (aM ts j).ag.length t3):=bg 5 _ rfl;have hT:=H.out.1 _ (List.mem_of_getElem? hd);have kQ:aK cT ts (j+1)=aK cT ts j+cT (aM ts j):=iG cT hd;have hle:=gN cT ts (j+1);have HO:Hid (aK cT ts (j+1)=aK cT ts j+(5+(5*(aM ts j).a.length+5*(aM ts j).ag.length))/\k+(aK cT ts (j+1):Int)<=100000000):=⟨kQ,by omega⟩
   have Ak:∀q,g j q->q≠b:=fun q hq=>ny.ne j q aN hq
   have bl:b<wr.1.size:=Nat.lt_of_lt_of_le H.out.2.1 j5.size
   have S1:Hid (∀u0 u1 u2 u3:Value,tx.mW ((((wr.setCell ⟨b,j*7,none⟩ u0).setCell ⟨b,j*7+1,none⟩ u1).setCell ⟨b,j*7+2,none⟩ u2).setCell ⟨b,j*7+3,none⟩ u3) PR t0 (aM ts j).a/\RO w ((((wr.setCell ⟨b,j*7,none⟩ u0).setCell ⟨b,j*7+1,none⟩ u1).setCell ⟨b,j*7+2,none⟩ u2).setCell ⟨b,j*7+3,none⟩ u3) B b ts g P j t2 t3 PS):=fun u0 u1 u2 u3=>by
    have ob:aW b wr ((((wr.setCell ⟨b,j*7,none⟩ u0).setCell ⟨b,j*7+1,none⟩ u1).setCell ⟨b,j*7+2,none⟩ u2).setCell ⟨b,j*7+3,none⟩ u3):=((((aW.refl b wr).setCell _ _).setCell _ _).setCell _ _).setCell _ _
    exact⟨om.r.aQ (Nat.le_of_eq ob.size.symm) (fun q _ hp=>ob.block q (Ak q (jX q (.inl hp)))),om.s.aQ (Nat.le_of_eq ob.size.symm) (fun q _ hp=>ob.block q (Ak q (jX q (.inr hp)))),
     (ae (by omega)).trans ((ae (by omega)).trans ((ae (by omega)).trans ((ae (by omega)).trans e5))),(((ny.up.set (show j*7<(j+1)*7 by omega) u0).set (show j*7+1<(j+1)*7 by omega) u1).set (show j*7+2<(j+1)*7 by omega) u2).set (show j*7+3<(j+1)*7 by omega) u3,j5.trans (aH.jQ ob H.out.2.2.1),by rw[ob.size];exact bl⟩
   have HG:Hid ((∀q,PR q->g j q)/\(∀q,PS q->g j q)/\(∀q,PR q->¬PS q)/\(∀q,g j q->q≠b)/\(∀q,g j q->P q)):=⟨fun q hq=>jX q (.inl hq),fun q hq=>jX q (.inr hq),om.rs,Ak,fun q hq=>H.out.2.2.2.1 j q aN hq⟩
   have S2:Hid (∀u0 u1 u2 u3 w1,aH PR ((((wr.setCell ⟨b,j*7,none⟩ u0).setCell ⟨b,j*7+1,none⟩ u1).setCell ⟨b,j*7+2,none⟩ u2).setCell ⟨b,j*7+3,none⟩ u3) w1->RO w w1 B b ts g P j t2 t3 PS):=fun u0 u1 u2 u3 w1 k1=>by
    have R0:=(S1.out u0 u1 u2 u3).2;have OE:=k1.block b R0.lt (fun e=>HG.out.2.2.2.1 b (HG.out.1 b e) rfl);exact⟨R0.s.aQ k1.size (fun q hq hp=>k1.block q hq (fun e=>HG.out.2.2.1 q e hp)),(World.cell?_of_block (a:=⟨b,j*7+5,none⟩) OE).trans R0.e5,R0.rest.kept k1 R0.lt aN HG.out.1,R0.kp.trans (k1.mono (fun q hq=>HG.out.2.2.2.2 q (HG.out.1 q hq))),Nat.lt_of_lt_of_le R0.lt k1.size⟩
   have HT:Hid (KT.S (aM ts j)):=hT;have jn:(j:Int)<(ts.length:Int):=by omega
   have g0:0<=k+(aK cT ts j:Int):=by omega
   have g1:k+(aK cT ts j:Int)<=100000000:=by omega
   clear j5 ny bg om jX Pt hd kQ hle Ak hT bl e5 ky;generalize hK:k+(aK cT ts j:Int)=kj at *;have tr:=HT.out.1;have ts':=HT.out.2;go_wp2_with fail;refine(tx.Nv _ PR t0 t1 (aM ts j).a _ (by omega) (by omega) HT.out.1 (S1.out _ _ _ _).1).mono ?_;rintro e w1 ⟨rfl,k1,-⟩;have k1:=Ji k1;have R1:Hid (RO w w1 B b ts g P j t2 t3 PS):=S2.out _ _ _ _ _ k1;clear k1 S1 S2 d0 f0 d1 f1 d2 f2 d3 f3 e4;have e5:=R1.out.e5;go_wp2_with fail;refine(tx.Nw w1 PS t2 t3 (aM ts j).ag _ (by omega) (by omega) HT.out.2 R1.out.s).mono ?_;rintro e w2 ⟨rfl,k2,-⟩;have k2:=Ji k2
   have R2:Hid (fQ.Rest w2 B b ts.length ts g (j+1)/\aH P w w2/\b<w2.1.size):=by
    have R0:=R1.out;exact⟨R0.rest.kept k2 R0.lt aN HG.out.2.1,R0.kp.trans (k2.mono (fun q hq=>HG.out.2.2.2.2 q (HG.out.2.1 q hq))),Nat.lt_of_lt_of_le R0.lt k2.size⟩
   clear k2 R1 e5;obtain⟨z6,d6,f6⟩:∃v,w2.cell? ⟨b,j*7+6,none⟩=some v/\w2.frozen? ⟨b,j*7+6,none⟩=false:=R2.out.1.rm (j*7+6) (show _<ts.length*7 by omega);go_wp2;exact⟨⟨j+1,by omega,by simp,by have:=HO.out.1;rw[this];congr 1;omega,R2.out.2.1.trans (aH.rX w2 _ H.out.2.2.1),R2.out.1.set (show j*7+6<(j+1)*7 by omega) _⟩,by simp[intOf];omega⟩
  ·obtain rfl:j=ts.length:=by omega
   have hd:decide ((ts.length:Int)<(ts.length:Int))=false:=by simp
   have KH:Hid (aH P w wr):=j5;clear j5 ny;go_wp2;go_ret;exact⟨rfl,KH.out⟩
theorem pR(w:World)(a:Option Addr)(n cap:Nat)(k:Int)(hn:n<=1048576)(hk:0<=k)(ni:k<=1000000000)(hs:mP w w.1.size a n (marks n k)):
  Calls Tryz.prog 74 #[.slice a n cap,vI k] w fun e w'=>e=.returned (vI (k+n))/\w'=w:=by
 obtain⟨_,hs⟩:=hs;go_enter Tryz.func74,Tryz.ntmps74;go_wp2;go_loop[1,5] (fun v1 v5=>∃j:Nat,j<=n/\v5=vI j/\v1=vI (k+j)) (fun _ v5=>n-(intOf v5).toNat)
 case atStart=>exact⟨0,Nat.zero_le _,rfl,by simp⟩
 case round=>
  obtain⟨j,hj,rfl,rfl⟩:=hrel;by_cases aN:j<n
  ·rcases hs with hs|⟨b,off,rfl,hb,h1⟩
   ·omega
   ·have c:=h1 j _ (zw n k j aN);have hq:(k+(j:Int) != k+(j:Int))=false:=by simp
    clear h1;go_wp2;exact⟨⟨j+1,by omega,by simp,by simp;omega⟩,by simp[intOf];omega⟩
  ·have:j=n:=by omega
   subst this;have hd:decide ((j:Int)<(j:Int))=false:=by simp
   clear hs;go_wp2;go_ret;exact⟨by simp,rfl⟩
section
variable {j:Nat}{k:Int}
theorem MX{p:Prop}(h:p):Hid p:=h
theorem PZ{ks:List K2}(h:j<ks.length):(vQ ks k)[j]?=some (mkK ks k j):=by simp[vQ,h]
theorem P6{ks:List R4}(h:j<ks.length):(xK ks k)[j]?=some (Ga ks k j):=by simp[xK,h]
theorem AA(w:World)(a:Option Addr)(cap:Nat)(ks:List K2)(k:Int)(hk:0<=k)(ni:k<=500000000)(ht:aK cK ks ks.length<=100000000)(hn:ks.length<=1048576)(hl:∀c∈ks,c.cells.length<=1048576)(hs:xe w w.1.size a ks.length (vQ ks k)):
  Calls Tryz.prog 75 #[.slice a ks.length cap,vI k] w fun e w'=>e=.returned (vI (k+aK cK ks ks.length))/\w'=w:=by
 obtain⟨_,hs⟩:=hs;have HL:=MX hl;clear hl;go_enter Tryz.func75,Tryz.ntmps75;go_wp2;go_loop[1,5] (fun v1 v5=>∃j:Nat,j<=ks.length/\v5=vI j/\v1=vI (k+(aK cK ks j:Int))) (fun _ v5=>ks.length-(intOf v5).toNat)
 case atStart=>exact⟨0,Nat.zero_le _,rfl,by rw[iH];simp⟩
 case round=>
  obtain⟨j,hj,rfl,rfl⟩:=hrel;have ky:=gN cK ks j;by_cases aN:j<ks.length
  ·rcases hs with hs|⟨b,off,rfl,hb,h1⟩
   ·omega
   have yP:ks[j]?=some (cO ks j):=eX aN;have hr:=h1 j _ (PZ aN);have c0:=hr.c0;obtain⟨a',aZ,c1,gy,jJ⟩:=hr.c1;simp only[mkK,mh]at c0 c1 gy;have kQ:Hid (aK cK ks (j+1)=aK cK ks j+cK (cO ks j)):=iG cK yP;have tV:=HL.out _ (List.mem_of_getElem? yP);have hm:=Er w a' (cO ks j).cells.length aZ (k+(aK cK ks j:Int)+1) tV (by omega) (by omega) gy;have dN:decide (k+(aK cK ks j:Int)+1+2*((cO ks j).cells.length:Int)<0)=false:=by simp;omega
   clear h1 hr gy jJ yP;go_wp2_with fail;refine hm.mono ?_;clear hm;rintro e w ⟨rfl,rfl⟩;go_wp2;exact⟨⟨j+1,by omega,by simp,by rw[kQ.out];simp[cK];omega⟩,by simp[intOf];omega⟩
  ·obtain rfl:j=ks.length:=by omega
   have hd:decide ((ks.length:Int)<(ks.length:Int))=false:=by simp
   clear hs;go_wp2;go_ret;exact⟨rfl,rfl⟩
theorem xm(w:World)(a:Option Addr)(cap:Nat)(ks:List R4)(k:Int)(hk:0<=k)(ni:k<=500000000)(ht:aK cR ks ks.length<=100000000)(hn:ks.length<=1048576)(hl:∀c∈ks,c.ag.length<=1048576)(hs:Gg w w.1.size a ks.length (xK ks k)):
  Calls Tryz.prog 76 #[.slice a ks.length cap,vI k] w fun e w'=>e=.returned (vI (k+aK cR ks ks.length))/\w'=w:=by
 obtain⟨_,hs⟩:=hs;have HL:=MX hl;clear hl;go_enter Tryz.func76,Tryz.ntmps76;go_wp2;go_loop[1,5] (fun v1 v5=>∃j:Nat,j<=ks.length/\v5=vI j/\v1=vI (k+(aK cR ks j:Int))) (fun _ v5=>ks.length-(intOf v5).toNat)
 case atStart=>exact⟨0,Nat.zero_le _,rfl,by rw[iH];simp⟩
 case round=>
  obtain⟨j,hj,rfl,rfl⟩:=hrel;have ky:=gN cR ks j;by_cases aN:j<ks.length
  ·rcases hs with hs|⟨b,off,rfl,hb,h1⟩
   ·omega
   have yP:ks[j]?=some (atR ks j):=iV aN;have hr:=h1 j _ (P6 aN);have c0:=hr.c0;have c1:=hr.c1;have c2:=hr.c2;obtain⟨a',aZ,c3,gy,jJ⟩:=hr.c3;simp only[Ga,iq]at c0 c1 c2 c3 gy;have kQ:Hid (aK cR ks (j+1)=aK cR ks j+cR (atR ks j)):=iG cR yP;have tV:=HL.out _ (List.mem_of_getElem? yP);have hm:=rA w a' (atR ks j).ag.length aZ (k+(aK cR ks j:Int)+1+1+1) tV (by omega) (by omega) gy;have dN:decide (k+(aK cR ks j:Int)+1+1+1+5*((atR ks j).ag.length:Int)<0)=false:=by simp;omega
   clear h1 hr gy jJ yP;go_wp2_with fail;refine hm.mono ?_;clear hm;rintro e w ⟨rfl,rfl⟩;go_wp2;exact⟨⟨j+1,by omega,by simp,by rw[kQ.out];simp[cR];omega⟩,by simp[intOf];omega⟩
  ·obtain rfl:j=ks.length:=by omega
   have hd:decide ((ks.length:Int)<(ks.length:Int))=false:=by simp
   clear hs;go_wp2;go_ret;exact⟨rfl,rfl⟩
end
section
variable {B b j:Nat}{Q:Nat->Prop}{X Y:World}{g:Nat->Nat->Prop}{ms:List M4}
def Kd.Done{D V:Type}(K:Kd D V)(X:World)(B b:Nat)(ys:List D)(g:Nat->Nat->Prop)(f:Nat->D)(j:Nat):Prop:=∀i,i<j->i<ys.length->∃v,At X b (i*K.n) (K.cells v (f i))/\K.Ow X B v (f i) (g i)
theorem Kd.Done.set{D V:Type}{K:Kd D V}{ys:List D}{f:Nat->D}{o:Nat}(h:K.Done X B b ys g f j)(fF:∀i q,i<ys.length->g i q->q≠b)(ho:j*K.n<=o)(u:Value):K.Done (X.setCell ⟨b,o,none⟩ u) B b ys g f j:=fun i hi hl=>by
 obtain⟨v,h1,h2⟩:=h i hi hl;have hm:=Nat.mul_le_mul_right K.n (Nat.succ_le_of_lt hi);rw[Nat.succ_mul]at hm
 exact⟨v,fun q u' e=>by
  have hq:=(List.getElem?_eq_some_iff.1 e).1;rw[K.len]at hq
  exact(ae (by omega)).trans (h1 q u' e),K.aQ h2 (by simp[World.setCell]) (fun q hq=>Below.heap_setCell _ _ _ _ (fF i q hl hq))⟩
theorem Kd.Done.kept{D V:Type}{K:Kd D V}{ys:List D}{f:Nat->D}(h:K.Done X B b ys g f j)(fF:∀i q,i<ys.length->g i q->q≠b)(Sr:∀i j q,i<ys.length->j<ys.length->i≠j->g i q->¬g j q)(hk:aH Q X Y)(hb:b<X.1.size)(hj:j<ys.length)(hQ:∀q,Q q->g j q):K.Done Y B b ys g f j:=fun i hi hl=>by
 obtain⟨v,h1,h2⟩:=h i hi hl;have iE:Y.1[b]?=X.1[b]?:=hk.block b hb (fun e=>fF j b hj (hQ b e) rfl);exact⟨v,h1.aj iE,K.aQ h2 hk.size (fun q hq=>hk.block q (K.of h2 hq).2 (fun e=>Sr i j q hl hj (by omega) hq (hQ q e)))⟩
theorem Kd.Done.step{D V:Type}{K:Kd D V}{ys:List D}{f:Nat->D}(h:K.Done X B b ys g f j)(v:V)(h1:At X b (j*K.n) (K.cells v (f j)))(h2:K.Ow X B v (f j) (g j)):K.Done X B b ys g f (j+1):=fun i hi hl=>by
 by_cases e:i=j
 ·subst e;exact⟨v,h1,h2⟩
 ·exact h i (by omega) hl
theorem Kd.Done.part{D V:Type}{K:Kd D V}{ys:List D}{f:Nat->D}(h:K.Done X B b ys g f ys.length)(hr:K.Rest X B b ys.length ys g ys.length):K.Part X B b ys.length ((List.range ys.length).map f) g:=by
 refine⟨hr.rm,fun i d hi=>?_,fun i q hi=>hr.ne i q (by simpa using hi),fun i j q hi hj=>hr.ap i j q (by simpa using hi) (by simpa using hj)⟩;have hl:i<ys.length:=by have:=(List.getElem?_eq_some_iff.1 hi).1;simpa using this
 simp[hl]at hi;subst hi;exact h i hl hl
def uo(ms:List M4)(k:Int)(i:Nat):M4:=⟨(k+aK cM ms i)%3==0,vQ (aS ms i).af (k+aK cM ms i+1),xK (aS ms i).h (k+aK cM ms i+1+aK cK (aS ms i).af (aS ms i).af.length),marks (aS ms i).ai.length (k+aK cM ms i+1+aK cK (aS ms i).af (aS ms i).af.length+aK cR (aS ms i).h (aS ms i).h.length)⟩
def vR(ms:List M4)(k:Int):List M4:=(List.range ms.length).map (uo ms k)
theorem zD(ms:List M4)(k:Int):(vR ms k).length=ms.length:=by simp[vR]
theorem P5{k:Int}(h:j<ms.length):(vR ms k)[j]?=some (uo ms k j):=by simp[vR,h]
structure UD(w X:World)(B b:Nat)(ms:List M4)(g:Nat->Nat->Prop)(P:Nat->Prop)(f:Nat->M4)(j:Nat)(x:Bool)(a1:Option Addr)(c1:Nat)(a2:Option Addr)(c2:Nat)(a3:Option Addr)(c3:Nat)(ks:List K2)(rs:List R4)(zs:List Int)(PK PR PD:Nat->Prop):Prop where
 k:qY 2 pQ vN lD X PK a1 ks
 r:qY 4 oZ xG AtR X PR a2 rs
 n:Aq X PD a3 zs
 at_:At X b (j*4) [.bool x,.slice a1 ks.length c1,.slice a2 rs.length c2,.slice a3 zs.length c3]
 rest:fZ.Rest X B b ms.length ms g (j+1)
 done:fZ.Done X B b ms g f j
 kp:aH P w X
 lt:b<X.1.size
theorem UD.step{w:World}{P:Nat->Prop}{f:Nat->M4}{x:Bool}{a1:Option Addr}{c1:Nat}{a2:Option Addr}{c2:Nat}{a3:Option Addr}{c3:Nat}{ks ks':List K2}{rs rs':List R4}{zs zs':List Int}{PK PR PD:Nat->Prop}(h:UD w X B b ms g P f j x a1 c1 a2 c2 a3 c3 ks rs zs PK PR PD)(hj:j<ms.length)(hk:aH Q X Y)(hQ:∀q,Q q->g j q)(hP:∀q,g j q->P q)(k':qY 2 pQ vN lD Y PK a1 ks')(lk:ks'.length=ks.length)(r':qY 4 oZ xG AtR Y PR a2 rs')(lr:rs'.length=rs.length)(n':Aq Y PD a3 zs')(lz:zs'.length=zs.length):UD w Y B b ms g P f j x a1 c1 a2 c2 a3 c3 ks' rs' zs' PK PR PD:=by
 have OE:=hk.block b h.lt (fun e=>h.rest.ne j b hj (hQ b e) rfl);refine⟨k',r',n',?_,h.rest.kept hk h.lt hj hQ,h.done.kept h.rest.ne h.rest.ap hk h.lt hj hQ,h.kp.trans (hk.mono (fun q hq=>hP q (hQ q hq))),Nat.lt_of_lt_of_le h.lt hk.size⟩;rw[lk,lr,lz];exact h.at_.aj OE
theorem Tt(w:World)(B b cap:Nat)(ms:List M4)(g:Nat->Nat->Prop)(P:Nat->Prop)(k:Int)(hk:0<=k)(ni:k+(aK cM ms ms.length:Int)<=100000000)(hn:ms.length<=1048576)(ht:∀m∈ms,MT m)(hb:b<w.1.size)(JV:P b)(MM:∀i q,i<ms.length->g i q->P q)(h:fZ.Part w B b ms.length ms g):
  Calls Tryz.prog 32 #[.slice (some ⟨b,0,none⟩) ms.length cap,vI k] w fun e w'=>e=.returned (vI (k+(aK cM ms ms.length:Int)))/\aH P w w'/\fZ.Part w' B b ms.length (vR ms k) g:=by
 have H:Hid ((∀m∈ms,MT m)/\b<w.1.size/\P b/\(∀i q,i<ms.length->g i q->P q)/\fZ.Part w B b ms.length ms g):=⟨ht,hb,JV,MM,h⟩
 clear ht hb JV MM h;go_enter Tryz.func32,Tryz.ntmps32;go_wp2;go_loopw[1,5] (fun v1 v5 wr=>∃j:Nat,j<=ms.length/\v5=vI j/\v1=vI (k+(aK cM ms j:Int))/\aH P w wr/\fZ.Rest wr B b ms.length ms g j/\fZ.Done wr B b ms g (uo ms k) j) (fun _ v5 _=>ms.length-(intOf v5).toNat)
 case atStart=>exact⟨0,Nat.zero_le _,rfl,by rw[iH];simp,aH.refl _ _,H.out.2.2.2.2.rest,fun i hi=>absurd hi (Nat.not_lt_zero i)⟩
 case round=>
  obtain⟨j,hj,rfl,rfl,j5,ny,CR⟩:=hrel;have ky:=gN cM ms j;by_cases aN:j<ms.length
  ·have hd:=il aN;obtain⟨⟨m0,m1,m2,m3,m4,m5⟩,bg,how⟩:=ny.at_ j _ aR hd;obtain⟨PK,PR,PD,om,jX,Pt⟩:=how;obtain⟨z0,d0,f0⟩:∃v,wr.cell? ⟨b,j*4,none⟩=some v/\wr.frozen? ⟨b,j*4,none⟩=false:=ny.rm (j*4) (show _<ms.length*4 by omega);have e1:wr.cell? ⟨b,j*4+1,none⟩=some (.slice m0 (aS ms j).af.length m1):=bg 1 _ rfl;have e2:wr.cell? ⟨b,j*4+2,none⟩=some (.slice m2 (aS ms j).h.length m3):=bg 2 _ rfl;have e3:wr.cell? ⟨b,j*4+3,none⟩=some (.slice m4 (aS ms j).ai.length m5):=bg 3 _ rfl;have hT:=H.out.1 _ (List.mem_of_getElem? hd);have kQ:aK cM ms (j+1)=aK cM ms j+cM (aS ms j):=iG cM hd;have hle:=gN cM ms (j+1);have HO:Hid (aK cM ms (j+1)=aK cM ms j+(1+(aK cK (aS ms j).af (aS ms j).af.length+aK cR (aS ms j).h (aS ms j).h.length+(aS ms j).ai.length))/\k+(aK cM ms (j+1):Int)<=100000000):=⟨kQ,by omega⟩
   have Ak:∀q,g j q->q≠b:=fun q hq=>ny.ne j q aN hq
   have bl:b<wr.1.size:=Nat.lt_of_lt_of_le H.out.2.1 j5.size;obtain⟨V,hV⟩:∃V,V=wr.setCell ⟨b,j*4,none⟩ (.bool ((k+(aK cM ms j:Int))%3==0)):=⟨_,rfl⟩
   have S1:Hid (UD w V B b ms g P (uo ms k) j ((k+(aK cM ms j:Int))%3==0) m0 m1 m2 m3 m4 m5 (aS ms j).af (aS ms j).h (aS ms j).ai PK PR PD):=by
    rw[hV];have dQ:wr.1.size<=(wr.setCell ⟨b,j*4,none⟩ (.bool ((k+(aK cM ms j:Int))%3==0))).1.size:=by simp[World.setCell]
    refine⟨om.k.aQ lD.aj dQ (fun q _ hp=>Below.heap_setCell _ _ _ _ (Ak q (jX q (.inl hp)))),om.r.aQ AtR.aj dQ (fun q _ hp=>Below.heap_setCell _ _ _ _ (Ak q (jX q (.inr (.inl hp))))),om.n.aQ dQ (fun q _ hp=>Below.heap_setCell _ _ _ _ (Ak q (jX q (.inr (.inr hp))))),
     ?_,ny.up.set (show j*4<(j+1)*4 by omega) _,CR.set ny.ne (show j*4<=j*4 by omega) _,j5.trans (aH.rX wr _ H.out.2.2.1),Nat.lt_of_lt_of_le bl dQ⟩
    intro i u hu;rcases i with _|_|_|_|i
    ·simp at hu;subst hu;exact az d0
    ·simp at hu;subst hu;exact(ae (by omega)).trans e1
    ·simp at hu;subst hu;exact(ae (by omega)).trans e2
    ·simp at hu;subst hu;exact(ae (by omega)).trans e3
    ·simp at hu
   have HG:Hid ((∀q,PK q->g j q)/\(∀q,PR q->g j q)/\(∀q,PD q->g j q)/\(∀q,PK q->¬PR q)/\(∀q,PK q->¬PD q)/\(∀q,PR q->¬PD q)/\(∀q,g j q->P q)/\(∀q,PK q->B<=q)/\(∀q,PR q->B<=q)/\(∀q,PD q->B<=q)/\(∀q,g j q->B<=q/\q<wr.1.size)/\wr.1.size<=V.1.size):=⟨fun q hq=>jX q (.inl hq),fun q hq=>jX q (.inr (.inl hq)),fun q hq=>jX q (.inr (.inr hq)),om.kr,om.kd,om.rd,fun q hq=>H.out.2.2.2.1 j q aN hq,om.kB,om.rB,om.dB,Pt,by rw[hV];simp[World.setCell]⟩
   have HT:Hid (MT (aS ms j)):=hT;have jn:(j:Int)<(ms.length:Int):=by omega
   have g0:0<=k+(aK cM ms j:Int):=by omega
   have g1:k+(aK cM ms j:Int)<=100000000:=by omega
   have HI:Hid (uo ms k j=⟨(k+aK cM ms j)%3==0,vQ (aS ms j).af (k+aK cM ms j+1),xK (aS ms j).h (k+aK cM ms j+1+aK cK (aS ms j).af (aS ms j).af.length),marks (aS ms j).ai.length (k+aK cM ms j+1+aK cK (aS ms j).af (aS ms j).af.length+aK cR (aS ms j).h (aS ms j).h.length)⟩):=rfl;clear j5 ny CR bg om jX Pt hd kQ hle Ak hT bl e2 e3 ky;generalize hK:k+(aK cM ms j:Int)=kj at *;go_wp2_with fail;rw[<-hV];clear hV;refine(Rj V PK m0 m1 (aS ms j).af (kj+1) (by omega) (by omega) HT.out.tk HT.out.k HT.out.ks S1.out.k).mono ?_;rintro e w1 ⟨rfl,k1,o1⟩;have R1:Hid (UD w w1 B b ms g P (uo ms k) j (kj%3==0) m0 m1 m2 m3 m4 m5 (vQ (aS ms j).af (kj+1)) (aS ms j).h (aS ms j).ai PK PR PD/\V.1.size<=w1.1.size):=⟨S1.out.step aN k1 HG.out.1 HG.out.2.2.2.2.2.2.1 o1 (qf _ _) (S1.out.r.aQ AtR.aj k1.size (fun q hq hp=>k1.block q hq (fun e=>HG.out.2.2.2.1 q e hp))) rfl (S1.out.n.aQ k1.size (fun q hq hp=>k1.block q hq (fun e=>HG.out.2.2.2.2.1 q e hp))) rfl,k1.size⟩
   clear k1 o1 S1 d0 f0 e1;have e2:w1.cell? ⟨b,j*4+2,none⟩=some (.slice m2 (aS ms j).h.length m3):=R1.out.1.at_ 2 _ rfl;have tk:=HT.out.tk;have tr:=HT.out.tr;have tn:=HT.out.n;go_wp2_with fail;refine(Rm w1 PR m2 m3 (aS ms j).h _ (by omega) (by omega) HT.out.tr HT.out.r HT.out.rs R1.out.1.r).mono ?_;rintro e w2 ⟨rfl,k2,o2⟩;have R2:Hid (UD w w2 B b ms g P (uo ms k) j (kj%3==0) m0 m1 m2 m3 m4 m5 (vQ (aS ms j).af (kj+1)) (xK (aS ms j).h (kj+1+aK cK (aS ms j).af (aS ms j).af.length)) (aS ms j).ai PK PR PD/\V.1.size<=w2.1.size):=⟨R1.out.1.step aN k2 HG.out.2.1 HG.out.2.2.2.2.2.2.1 (R1.out.1.k.aQ lD.aj k2.size (fun q hq hp=>k2.block q hq (fun e=>HG.out.2.2.2.1 q hp e))) rfl o2 (qi _ _) (R1.out.1.n.aQ k2.size (fun q hq hp=>k2.block q hq (fun e=>HG.out.2.2.2.2.2.1 q e hp))) rfl,Nat.le_trans R1.out.2 k2.size⟩
   clear k2 o2 R1 e2;have e3:w2.cell? ⟨b,j*4+3,none⟩=some (.slice m4 (aS ms j).ai.length m5):=R2.out.1.at_ 3 _ rfl;go_wp2_with fail;refine(Rl w2 PD m4 m5 (aS ms j).ai _ (by omega) (by omega) HT.out.n R2.out.1.n).mono ?_;rintro e w3 ⟨rfl,k3,o3⟩
   have R3:Hid (fZ.Rest w3 B b ms.length ms g (j+1)/\aH P w w3/\fZ.Done w3 B b ms g (uo ms k) (j+1)):=by
    have R0:=R2.out.1.step aN k3 HG.out.2.2.1 HG.out.2.2.2.2.2.2.1 (R2.out.1.k.aQ lD.aj k3.size (fun q hq hp=>k3.block q hq (fun e=>HG.out.2.2.2.2.1 q hp e))) rfl (R2.out.1.r.aQ AtR.aj k3.size (fun q hq hp=>k3.block q hq (fun e=>HG.out.2.2.2.2.2.1 q hp e))) rfl o3 (lv _ _);obtain⟨h1,h2,h3,h4,h5,h6,h7,h8,h9,YM,XG,BG⟩:=HG.out;have dQ:=Nat.le_trans R2.out.2 k3.size;refine⟨R0.rest,R0.kp,R0.done.step ⟨m0,m1,m2,m3,m4,m5⟩ ?_ ?_⟩
    ·rw[HI.out];exact R0.at_
    ·rw[HI.out];exact⟨PK,PR,PD,⟨R0.k,R0.r,R0.n,h4,h5,h6,h8,h9,YM⟩,fun q hq=>by rcases hq with hq|hq|hq;exact h1 q hq;exact h2 q hq;exact h3 q hq,fun q hq=>⟨(XG q hq).1,by have:=(XG q hq).2;omega⟩⟩
   clear k3 o3 R2 e3;go_wp2;exact⟨⟨j+1,by omega,by simp,by have:=HO.out.1;rw[this];congr 1;omega,R3.out.2.1,R3.out.1,R3.out.2.2⟩,by simp[intOf];omega⟩
  ·obtain rfl:j=ms.length:=by omega
   have hd:decide ((ms.length:Int)<(ms.length:Int))=false:=by simp
   have KH:Hid (aH P w wr/\fZ.Part wr B b ms.length (vR ms k) g):=⟨j5,CR.part ny⟩
   clear j5 ny CR;go_wp2;go_ret;exact⟨rfl,KH.out.1,KH.out.2⟩
theorem Sz(w:World)(a:Option Addr)(cap:Nat)(ms:List M4)(k:Int)(hk:0<=k)(ni:k+(aK cM ms ms.length:Int)<=100000000)(hn:ms.length<=1048576)(ht:∀m∈ms,MT m)(h:fZ.qM w a (vR ms k)):
  Calls Tryz.prog 35 #[.slice a ms.length cap,vI k] w fun e w'=>e=.returned (vI (k+(aK cM ms ms.length:Int)))/\Below w.1.size w w':=by
 have H:Hid ((∀m∈ms,MT m)/\fZ.qM w a (vR ms k)):=⟨ht,h⟩
 clear ht h;go_enter Tryz.func35,Tryz.ntmps35;go_wp2;go_loopw[1,5] (fun v1 v5 wr=>∃j:Nat,j<=ms.length/\v5=vI j/\v1=vI (k+(aK cM ms j:Int))/\Below w.1.size w wr) (fun _ v5 _=>ms.length-(intOf v5).toNat)
 case atStart=>exact⟨0,Nat.zero_le _,rfl,by rw[iH];simp,aJ⟩
 case round=>
  obtain⟨j,hj,rfl,rfl,aF⟩:=hrel;have ky:=gN cM ms j;by_cases aN:j<ms.length
  ·have hd:=il aN;have fM:=H.out.2.later aF;rcases fM with h0|⟨b,off,rfl,hb,fM⟩
   ·have:=zD ms k;rw[h0]at this;simp at this;omega
   obtain⟨⟨m0,m1,m2,m3,m4,m5⟩,bg,how⟩:=fM j _ (P5 aN);have e0:wr.cell? ⟨b,off+j*4,none⟩=some (.bool ((k+(aK cM ms j:Int))%3==0)):=bg 0 _ rfl;have e1:wr.cell? ⟨b,off+j*4+1,none⟩=some (.slice m0 (uo ms k j).af.length m1):=bg 1 _ rfl;have e2:wr.cell? ⟨b,off+j*4+2,none⟩=some (.slice m2 (uo ms k j).h.length m3):=bg 2 _ rfl;have e3:wr.cell? ⟨b,off+j*4+3,none⟩=some (.slice m4 (uo ms k j).ai.length m5):=bg 3 _ rfl;have l1:(uo ms k j).af.length=(aS ms j).af.length:=qf _ _;have l2:(uo ms k j).h.length=(aS ms j).h.length:=qi _ _;have l3:(uo ms k j).ai.length=(aS ms j).ai.length:=lv _ _;rw[l1]at e1;rw[l2]at e2;rw[l3]at e3;obtain⟨sk,sr,sn⟩:=how;simp only at sk sr sn;rw[l1]at sk;rw[l2]at sr;rw[l3]at sn;have hT:=H.out.1 _ (List.mem_of_getElem? hd);have kQ:aK cM ms (j+1)=aK cM ms j+cM (aS ms j):=iG cM hd;have hle:=gN cM ms (j+1);have HO:Hid (aK cM ms (j+1)=aK cM ms j+(1+(aK cK (aS ms j).af (aS ms j).af.length+aK cR (aS ms j).h (aS ms j).h.length+(aS ms j).ai.length))/\k+(aK cM ms (j+1):Int)<=100000000):=⟨kQ,by omega⟩
   have S:Hid (Below w.1.size w wr/\xe wr wr.1.size m0 (aS ms j).af.length (vQ (aS ms j).af (k+aK cM ms j+1))/\Gg wr wr.1.size m2 (aS ms j).h.length (xK (aS ms j).h (k+aK cM ms j+1+aK cK (aS ms j).af (aS ms j).af.length))/\mP wr wr.1.size m4 (aS ms j).ai.length (marks (aS ms j).ai.length (k+aK cM ms j+1+aK cK (aS ms j).af (aS ms j).af.length+aK cR (aS ms j).h (aS ms j).h.length))/\b<wr.1.size):=⟨aF,sk,sr,sn,hb⟩
   have HT:Hid (MT (aS ms j)):=hT;have jn:(j:Int)<(ms.length:Int):=by omega
   have g0:0<=k+(aK cM ms j:Int):=by omega
   have g1:k+(aK cM ms j:Int)<=100000000:=by omega
   clear aF fM bg sk sr sn hd kQ hle hT hb l1 l2 l3 ky;have tk:=HT.out.tk;have tr:=HT.out.tr;have tn:=HT.out.n;generalize hK:k+(aK cM ms j:Int)=kj at *;have dx:((kj%3==0) != (kj%3==0))=false:=by simp
   have d1:decide (kj+1+(aK cK (aS ms j).af (aS ms j).af.length:Int)<0)=false:=by simp;omega
   have d2:decide (kj+1+(aK cK (aS ms j).af (aS ms j).af.length:Int)+(aK cR (aS ms j).h (aS ms j).h.length:Int)<0)=false:=by simp;omega
   have d3:decide (kj+1+(aK cK (aS ms j).af (aS ms j).af.length:Int)+(aK cR (aS ms j).h (aS ms j).h.length:Int)+((aS ms j).ai.length:Int)<0)=false:=by simp;omega
   go_wp2_with fail;refine(AA wr m0 m1 (aS ms j).af (kj+1) (by omega) (by omega) HT.out.tk HT.out.k HT.out.ks S.out.2.1).mono ?_;rintro e w1 ⟨rfl,rfl⟩;go_wp2_with fail;refine(xm w1 m2 m3 (aS ms j).h _ (by omega) (by omega) HT.out.tr HT.out.r HT.out.rs S.out.2.2.1).mono ?_;rintro e w2 ⟨rfl,rfl⟩;go_wp2_with fail;refine(pR w2 m4 (aS ms j).ai.length m5 _ (by omega) (by omega) (by omega) S.out.2.2.2.1).mono ?_;rintro e w3 ⟨rfl,rfl⟩;go_wp2;exact⟨⟨j+1,by omega,by simp,by have:=HO.out.1;rw[this];congr 1;omega,S.out.1⟩,by simp[intOf];omega⟩
  ·obtain rfl:j=ms.length:=by omega
   have hd:decide ((ms.length:Int)<(ms.length:Int))=false:=by simp
   have KH:Hid (Below w.1.size w wr):=aF;clear aF;go_wp2;go_ret;exact⟨rfl,KH.out⟩
end
section
variable {X:World}{b j:Nat}{cs:List Value}{ts:List tx.T7}
def Tx(t:tx.T7)(kk:Int):tx.T7:=⟨kk,kk+1,kk+1+1,kk+1+1+1,tx.iO (kk+1+1+1+1) t.a.length,tx.fG (kk+1+1+1+1+5*(t.a.length:Int)) t.ag.length,kk+1+1+1+1+5*(t.a.length:Int)+5*(t.ag.length:Int)⟩
def vS(ts:List tx.T7)(k:Int)(i:Nat):tx.T7:=Tx (aM ts i) (k+aK cT ts i)
def vT(ts:List tx.T7)(k:Int):List tx.T7:=(List.range ts.length).map (vS ts k)
theorem zH(ts:List tx.T7)(k:Int):(vT ts k).length=ts.length:=by simp[vT]
theorem P8{k:Int}(h:j<ts.length):(vT ts k)[j]?=some (vS ts k j):=by simp[vT,h]
theorem At.put{o i:Nat}(h:At X b o cs)(hi:i<cs.length)(u:Value):At (X.setCell ⟨b,o+i,none⟩ u) b o (cs.set i u):=fun j v hv=>by
 by_cases hj:i=j
 ·subst hj;rw[List.getElem?_set_self hi]at hv;obtain rfl:=Option.some.inj hv;exact az (h i _ (List.getElem?_eq_getElem hi))
 ·rw[List.getElem?_set_ne hj]at hv;exact(ae (by omega)).trans (h j v hv)
structure Oy(w X:World)(B b:Nat)(ts:List tx.T7)(g:Nat->Nat->Prop)(P:Nat->Prop)(f:Nat->tx.T7)(j:Nat)(cs:List Value)(a1 a2:Option Addr)(ns:List tx.N5)(ss:List S5)(PR PS:Nat->Prop):Prop where
 r:tx.mW X PR a1 ns
 s:tx.oL X PS a2 ss
 at_:At X b (j*7) cs
 rest:fQ.Rest X B b ts.length ts g (j+1)
 done:fQ.Done X B b ts g f j
 kp:aH P w X
 lt:b<X.1.size
theorem Oy.put{w X:World}{B b:Nat}{ts:List tx.T7}{g:Nat->Nat->Prop}{P:Nat->Prop}{f:Nat->tx.T7}{j:Nat}{cs:List Value}{a1 a2:Option Addr}{ns:List tx.N5}{ss:List S5}{PR PS:Nat->Prop}(h:Oy w X B b ts g P f j cs a1 a2 ns ss PR PS)(hj:j<ts.length)(JV:P b)(h1:∀q,PR q->g j q)(h2:∀q,PS q->g j q)(i:Nat)(hi:i<cs.length)(h7:i<7)(u:Value):Oy w (X.setCell ⟨b,j*7+i,none⟩ u) B b ts g P f j (cs.set i u) a1 a2 ns ss PR PS:=by
 have dQ:X.1.size<=(X.setCell ⟨b,j*7+i,none⟩ u).1.size:=by simp[World.setCell]
 exact⟨h.r.aQ dQ (fun q _ hp=>Below.heap_setCell _ _ _ _ (h.rest.ne j q hj (h1 q hp))),h.s.aQ dQ (fun q _ hp=>Below.heap_setCell _ _ _ _ (h.rest.ne j q hj (h2 q hp))),h.at_.put hi u,h.rest.set (show j*7+i<(j+1)*7 by omega) u,h.done.set h.rest.ne (show j*7<=j*7+i by omega) u,h.kp.trans (aH.rX X u JV),Nat.lt_of_lt_of_le h.lt dQ⟩
theorem Oy.step{w Y:World}{B:Nat}{g:Nat->Nat->Prop}{P:Nat->Prop}{f:Nat->tx.T7}{a1 a2:Option Addr}{ns ns':List tx.N5}{ss ss':List S5}{PR PS Q:Nat->Prop}(h:Oy w X B b ts g P f j cs a1 a2 ns ss PR PS)(hj:j<ts.length)(hk:aH Q X Y)(hQ:∀q,Q q->g j q)(hP:∀q,g j q->P q)(r':tx.mW Y PR a1 ns')(s':tx.oL Y PS a2 ss'):Oy w Y B b ts g P f j cs a1 a2 ns' ss' PR PS:=by
 have OE:=hk.block b h.lt (fun e=>h.rest.ne j b hj (hQ b e) rfl);exact⟨r',s',h.at_.aj OE,h.rest.kept hk h.lt hj hQ,h.done.kept h.rest.ne h.rest.ap hk h.lt hj hQ,h.kp.trans (hk.mono (fun q hq=>hP q (hQ q hq))),Nat.lt_of_lt_of_le h.lt hk.size⟩
theorem Tv(w:World)(B b cap:Nat)(ts:List tx.T7)(g:Nat->Nat->Prop)(P:Nat->Prop)(k:Int)(hk:0<=k)(ni:k+(aK cT ts ts.length:Int)<=100000000)(hn:ts.length<=1048576)(ht:∀t∈ts,KT.S t)(hb:b<w.1.size)(JV:P b)(MM:∀i q,i<ts.length->g i q->P q)(h:fQ.Part w B b ts.length ts g):
  Calls Tryz.prog 33 #[.slice (some ⟨b,0,none⟩) ts.length cap,vI k] w fun e w'=>e=.returned (vI (k+(aK cT ts ts.length:Int)))/\aH P w w'/\fQ.Part w' B b ts.length (vT ts k) g:=by
 have H:Hid ((∀t∈ts,KT.S t)/\b<w.1.size/\P b/\(∀i q,i<ts.length->g i q->P q)/\fQ.Part w B b ts.length ts g):=⟨ht,hb,JV,MM,h⟩
 clear ht hb JV MM h;go_enter Tryz.func33,Tryz.ntmps33;go_wp2;go_loopw[1,5] (fun v1 v5 wr=>∃j:Nat,j<=ts.length/\v5=vI j/\v1=vI (k+(aK cT ts j:Int))/\aH P w wr/\fQ.Rest wr B b ts.length ts g j/\fQ.Done wr B b ts g (vS ts k) j) (fun _ v5 _=>ts.length-(intOf v5).toNat)
 case atStart=>exact⟨0,Nat.zero_le _,rfl,by rw[iH];simp,aH.refl _ _,H.out.2.2.2.2.rest,fun i hi=>absurd hi (Nat.not_lt_zero i)⟩
 case round=>
  obtain⟨j,hj,rfl,rfl,j5,ny,CR⟩:=hrel;have ky:=gN cT ts j;by_cases aN:j<ts.length
  ·have hd:=fV aN;obtain⟨⟨t0,t1,t2,t3⟩,bg,how⟩:=ny.at_ j _ aR hd;obtain⟨PR,PS,om,jX,Pt⟩:=how;obtain⟨z0,d0,f0⟩:∃v,wr.cell? ⟨b,j*7,none⟩=some v/\wr.frozen? ⟨b,j*7,none⟩=false:=ny.rm (j*7+0) (show _<ts.length*7 by omega);obtain⟨z1,d1,f1⟩:∃v,wr.cell? ⟨b,j*7+1,none⟩=some v/\wr.frozen? ⟨b,j*7+1,none⟩=false:=ny.rm (j*7+1) (show _<ts.length*7 by omega);obtain⟨z2,d2,f2⟩:∃v,wr.cell? ⟨b,j*7+2,none⟩=some v/\wr.frozen? ⟨b,j*7+2,none⟩=false:=ny.rm (j*7+2) (show _<ts.length*7 by omega);obtain⟨z3,d3,f3⟩:∃v,wr.cell? ⟨b,j*7+3,none⟩=some v/\wr.frozen? ⟨b,j*7+3,none⟩=false:=ny.rm (j*7+3) (show _<ts.length*7 by omega);have e4:wr.cell? ⟨b,j*7+4,none⟩=some (.slice t0 (aM ts j).a.length t1):=bg 4 _ rfl;have hT:=H.out.1 _ (List.mem_of_getElem? hd);have kQ:aK cT ts (j+1)=aK cT ts j+cT (aM ts j):=iG cT hd;have hle:=gN cT ts (j+1);have HO:Hid (aK cT ts (j+1)=aK cT ts j+(5+(5*(aM ts j).a.length+5*(aM ts j).ag.length))/\k+(aK cT ts (j+1):Int)<=100000000):=⟨kQ,by omega⟩
   have bl:b<wr.1.size:=Nat.lt_of_lt_of_le H.out.2.1 j5.size;have HI:Hid (vS ts k j=Tx (aM ts j) (k+(aK cT ts j:Int))):=rfl;have HG:Hid ((∀q,PR q->g j q)/\(∀q,PS q->g j q)/\(∀q,PR q->¬PS q)/\(∀q,g j q->P q)/\(∀q,PR q->B<=q)/\(∀q,PS q->B<=q)/\(∀q,g j q->B<=q/\q<wr.1.size)):=⟨fun q hq=>jX q (.inl hq),fun q hq=>jX q (.inr hq),om.rs,fun q hq=>H.out.2.2.2.1 j q aN hq,fun q hq=>(om.rB q hq).1,fun q hq=>(om.sB q hq).1,Pt⟩
   have S0:Oy w wr B b ts g P (vS ts k) j [vI (aM ts j).id,vI (aM ts j).o,vI (aM ts j).q,vI (aM ts j).v,.slice t0 (aM ts j).a.length t1,.slice t2 (aM ts j).ag.length t3,vI (aM ts j).aA] t0 t2 (aM ts j).a (aM ts j).ag PR PS:=⟨om.r,om.s,bg,ny.up,CR,j5,bl⟩
   obtain⟨V,hV⟩:∃V,V=((((wr.setCell ⟨b,j*7,none⟩ (vI (k+(aK cT ts j:Int)))).setCell ⟨b,j*7+1,none⟩ (vI (k+(aK cT ts j:Int)+1))).setCell ⟨b,j*7+2,none⟩ (vI (k+(aK cT ts j:Int)+1+1))).setCell ⟨b,j*7+3,none⟩ (vI (k+(aK cT ts j:Int)+1+1+1))):=⟨_,rfl⟩
   have S1:Hid (Oy w V B b ts g P (vS ts k) j [vI (k+(aK cT ts j:Int)),vI (k+(aK cT ts j:Int)+1),vI (k+(aK cT ts j:Int)+1+1),vI (k+(aK cT ts j:Int)+1+1+1),.slice t0 (aM ts j).a.length t1,.slice t2 (aM ts j).ag.length t3,vI (aM ts j).aA] t0 t2 (aM ts j).a (aM ts j).ag PR PS/\wr.1.size<=V.1.size):=by
    rw[hV];exact⟨(((S0.put aN H.out.2.2.1 HG.out.1 HG.out.2.1 0 (by simp) (by omega) _).put aN H.out.2.2.1 HG.out.1 HG.out.2.1 1 (by simp) (by omega) _).put aN H.out.2.2.1 HG.out.1 HG.out.2.1 2 (by simp) (by omega) _).put aN H.out.2.2.1 HG.out.1 HG.out.2.1 3 (by simp) (by omega) _,by simp[World.setCell]⟩
   have HT:Hid (KT.S (aM ts j)):=hT;have jn:(j:Int)<(ts.length:Int):=by omega
   have g0:0<=k+(aK cT ts j:Int):=by omega
   have g1:k+(aK cT ts j:Int)<=100000000:=by omega
   clear j5 ny CR bg om jX Pt hd kQ hle hT bl ky S0;generalize hK:k+(aK cT ts j:Int)=kj at *;have tr:=HT.out.1;have ts':=HT.out.2;go_wp2_with fail;rw[<-hV];clear hV;refine(tx.Nv V PR t0 t1 (aM ts j).a _ (by omega) (by omega) HT.out.1 S1.out.1.r).mono ?_;rintro e w1 ⟨rfl,k1,o1⟩;have k1:=Ji k1;have R1:Hid (Oy w w1 B b ts g P (vS ts k) j [vI kj,vI (kj+1),vI (kj+1+1),vI (kj+1+1+1),.slice t0 (aM ts j).a.length t1,.slice t2 (aM ts j).ag.length t3,vI (aM ts j).aA] t0 t2 (tx.iO (kj+1+1+1+1) (aM ts j).a.length) (aM ts j).ag PR PS/\wr.1.size<=w1.1.size):=⟨S1.out.1.step aN k1 HG.out.1 HG.out.2.2.2.1 o1 (S1.out.1.s.aQ k1.size (fun q hq hp=>k1.block q hq (fun e=>HG.out.2.2.1 q e hp))),Nat.le_trans S1.out.2 k1.size⟩
   clear k1 o1 S1 d0 f0 d1 f1 d2 f2 d3 f3 e4;have e5:w1.cell? ⟨b,j*7+5,none⟩=some (.slice t2 (aM ts j).ag.length t3):=R1.out.1.at_ 5 _ rfl;go_wp2_with fail;refine(tx.Nw w1 PS t2 t3 (aM ts j).ag _ (by omega) (by omega) HT.out.2 R1.out.1.s).mono ?_;rintro e w2 ⟨rfl,k2,o2⟩;have k2:=Ji k2;have R2:Hid (Oy w w2 B b ts g P (vS ts k) j [vI kj,vI (kj+1),vI (kj+1+1),vI (kj+1+1+1),.slice t0 (aM ts j).a.length t1,.slice t2 (aM ts j).ag.length t3,vI (aM ts j).aA] t0 t2 (tx.iO (kj+1+1+1+1) (aM ts j).a.length) (tx.fG (kj+1+1+1+1+5*((aM ts j).a.length:Int)) (aM ts j).ag.length) PR PS/\wr.1.size<=w2.1.size):=⟨R1.out.1.step aN k2 HG.out.2.1 HG.out.2.2.2.1 (R1.out.1.r.aQ k2.size (fun q hq hp=>k2.block q hq (fun e=>HG.out.2.2.1 q hp e))) o2,Nat.le_trans R1.out.2 k2.size⟩
   clear k2 o2 R1 e5;obtain⟨z6,d6,f6⟩:∃v,w2.cell? ⟨b,j*7+6,none⟩=some v/\w2.frozen? ⟨b,j*7+6,none⟩=false:=R2.out.1.rest.rm (j*7+6) (show _<ts.length*7 by omega)
   have R3:Hid (∀Y,Y=w2.setCell ⟨b,j*7+6,none⟩ (vI (kj+1+1+1+1+5*((aM ts j).a.length:Int)+5*((aM ts j).ag.length:Int)))->fQ.Rest Y B b ts.length ts g (j+1)/\aH P w Y/\fQ.Done Y B b ts g (vS ts k) (j+1)):=fun Y hY=>by
    have R0:=R2.out.1.put aN H.out.2.2.1 HG.out.1 HG.out.2.1 6 (by simp) (by omega) (vI (kj+1+1+1+1+5*((aM ts j).a.length:Int)+5*((aM ts j).ag.length:Int)));rw[<-hY]at R0;obtain⟨h1,h2,h3,h4,h5,h6,h7⟩:=HG.out;have dQ:wr.1.size<=Y.1.size:=by rw[hY];simpa[World.setCell]using R2.out.2
    refine⟨R0.rest,R0.kp,R0.done.step ⟨t0,t1,t2,t3⟩ ?_ ?_⟩
    ·rw[HI.out];have:=R0.at_;simpa[fQ,tx.iC,Tx,tx.mi,tx.iq]using this
    ·rw[HI.out];exact⟨PR,PS,⟨R0.r,R0.s,h3,fun q hq=>⟨h5 q hq,by have:=(h7 q (h1 q hq)).2;omega⟩,fun q hq=>⟨h6 q hq,by have:=(h7 q (h2 q hq)).2;omega⟩⟩,fun q hq=>by rcases hq with hq|hq;exact h1 q hq;exact h2 q hq,fun q hq=>⟨(h7 q hq).1,by have:=(h7 q hq).2;omega⟩⟩
   go_wp2;exact⟨⟨j+1,by omega,by simp,by have:=HO.out.1;rw[this];congr 1;omega,(R3.out _ rfl).2.1,(R3.out _ rfl).1,(R3.out _ rfl).2.2⟩,by simp[intOf];omega⟩
  ·obtain rfl:j=ts.length:=by omega
   have hd:decide ((ts.length:Int)<(ts.length:Int))=false:=by simp
   have KH:Hid (aH P w wr/\fQ.Part wr B b ts.length (vT ts k) g):=⟨j5,CR.part ny⟩
   clear j5 ny CR;go_wp2;go_ret;exact⟨rfl,KH.out.1,KH.out.2⟩
theorem SA(w:World)(a:Option Addr)(cap:Nat)(ts:List tx.T7)(k:Int)(hk:0<=k)(ni:k+(aK cT ts ts.length:Int)<=100000000)(hn:ts.length<=1048576)(ht:∀t∈ts,KT.S t)(h:fQ.qM w a (vT ts k)):
  Calls Tryz.prog 36 #[.slice a ts.length cap,vI k] w fun e w'=>e=.returned (vI (k+(aK cT ts ts.length:Int)))/\Below w.1.size w w':=by
 have H:Hid ((∀t∈ts,KT.S t)/\fQ.qM w a (vT ts k)):=⟨ht,h⟩
 clear ht h;go_enter Tryz.func36,Tryz.ntmps36;go_wp2;go_loopw[1,5] (fun v1 v5 wr=>∃j:Nat,j<=ts.length/\v5=vI j/\v1=vI (k+(aK cT ts j:Int))/\Below w.1.size w wr) (fun _ v5 _=>ts.length-(intOf v5).toNat)
 case atStart=>exact⟨0,Nat.zero_le _,rfl,by rw[iH];simp,aJ⟩
 case round=>
  obtain⟨j,hj,rfl,rfl,aF⟩:=hrel;have ky:=gN cT ts j;by_cases aN:j<ts.length
  ·have hd:=fV aN;have fM:=H.out.2.later aF;rcases fM with h0|⟨b,off,rfl,hb,fM⟩
   ·have:=zH ts k;rw[h0]at this;simp at this;omega
   obtain⟨⟨t0,t1,t2,t3⟩,bg,how⟩:=fM j _ (P8 aN);have e0:wr.cell? ⟨b,off+j*7,none⟩=some (vI (k+(aK cT ts j:Int))):=bg 0 _ rfl;have e1:wr.cell? ⟨b,off+j*7+1,none⟩=some (vI (k+(aK cT ts j:Int)+1)):=bg 1 _ rfl;have e2:wr.cell? ⟨b,off+j*7+2,none⟩=some (vI (k+(aK cT ts j:Int)+1+1)):=bg 2 _ rfl;have e3:wr.cell? ⟨b,off+j*7+3,none⟩=some (vI (k+(aK cT ts j:Int)+1+1+1)):=bg 3 _ rfl;have e4:wr.cell? ⟨b,off+j*7+4,none⟩=some (.slice t0 (vS ts k j).a.length t1):=bg 4 _ rfl;have e5:wr.cell? ⟨b,off+j*7+5,none⟩=some (.slice t2 (vS ts k j).ag.length t3):=bg 5 _ rfl;have e6:wr.cell? ⟨b,off+j*7+6,none⟩=some (vI (k+(aK cT ts j:Int)+1+1+1+1+5*((aM ts j).a.length:Int)+5*((aM ts j).ag.length:Int))):=bg 6 _ rfl;have l1:(vS ts k j).a.length=(aM ts j).a.length:=tx.mi _ _;have l2:(vS ts k j).ag.length=(aM ts j).ag.length:=tx.iq _ _;rw[l1]at e4;rw[l2]at e5;obtain⟨sr,ss⟩:=how;simp only at sr ss;rw[l1]at sr;rw[l2]at ss;have hT:=H.out.1 _ (List.mem_of_getElem? hd);have kQ:aK cT ts (j+1)=aK cT ts j+cT (aM ts j):=iG cT hd;have hle:=gN cT ts (j+1);have HO:Hid (aK cT ts (j+1)=aK cT ts j+(5+(5*(aM ts j).a.length+5*(aM ts j).ag.length))/\k+(aK cT ts (j+1):Int)<=100000000):=⟨kQ,by omega⟩
   have S:Hid (Below w.1.size w wr/\tx.jD wr wr.1.size t0 (aM ts j).a.length (tx.iO (k+(aK cT ts j:Int)+1+1+1+1) (aM ts j).a.length)/\tx.Sl wr wr.1.size t2 (aM ts j).ag.length (tx.fG (k+(aK cT ts j:Int)+1+1+1+1+5*((aM ts j).a.length:Int)) (aM ts j).ag.length)/\b<wr.1.size):=⟨aF,sr,ss,hb⟩
   have HT:Hid (KT.S (aM ts j)):=hT;have jn:(j:Int)<(ts.length:Int):=by omega
   have g0:0<=k+(aK cT ts j:Int):=by omega
   have g1:k+(aK cT ts j:Int)<=100000000:=by omega
   clear aF fM bg sr ss hd kQ hle hT hb l1 l2 ky;have tr:=HT.out.1;have ts':=HT.out.2;generalize hK:k+(aK cT ts j:Int)=kj at *;have x0:(kj != kj)=false:=by simp
   have x1:(kj+1 != kj+1)=false:=by simp
   have x2:(kj+1+1 != kj+1+1)=false:=by simp
   have x3:(kj+1+1+1 != kj+1+1+1)=false:=by simp
   have d1:decide (kj+1+1+1+1+5*((aM ts j).a.length:Int)<0)=false:=by simp;omega
   have d2:decide (kj+1+1+1+1+5*((aM ts j).a.length:Int)+5*((aM ts j).ag.length:Int)<0)=false:=by simp;omega
   have x6:(kj+1+1+1+1+5*((aM ts j).a.length:Int)+5*((aM ts j).ag.length:Int) != kj+1+1+1+1+5*((aM ts j).a.length:Int)+5*((aM ts j).ag.length:Int))=false:=by simp
   go_wp2_with fail;refine(tx.Es wr t0 (aM ts j).a.length t1 _ HT.out.1 (by omega) (by omega) S.out.2.1).mono ?_;rintro e w1 ⟨rfl,rfl⟩;go_wp2_with fail;refine(tx.rA w1 t2 (aM ts j).ag.length t3 _ HT.out.2 (by omega) (by omega) S.out.2.2.1).mono ?_;rintro e w2 ⟨rfl,rfl⟩;go_wp2;exact⟨⟨j+1,by omega,by simp,by have:=HO.out.1;rw[this];congr 1;omega,S.out.1⟩,by simp[intOf];omega⟩
  ·obtain rfl:j=ts.length:=by omega
   have hd:decide ((ts.length:Int)<(ts.length:Int))=false:=by simp
   have KH:Hid (Below w.1.size w wr):=aF;clear aF;go_wp2;go_ret;exact⟨rfl,KH.out⟩
end
theorem NS(k:C6)(y:Int):(aD k=true\/gJ k y=1)/\(aD k=true->gJ k y≠1):=by
 cases hk:aD k with
 | false=>exact⟨.inr (by simp[gJ,fU,hk]),fun h=>by cases h⟩
 | true=>
  refine⟨.inl rfl,fun _=>?_⟩;simp only[gJ,fU,hk,if_true];split<;>split<;>(try split)<;>(try split)<;>(try decide)<;>(try omega)
section
variable {k:C6}
theorem zX{i:Nat}(hi:i<k.c.length):jw k i (aM k.c i)=k:=by
 have h:=fV hi
 have h2:k.c.set i (aM k.c i)=k.c:=by
  have e:aM k.c i=k.c[i]:=by rw[List.getElem?_eq_getElem hi]at h;exact(Option.some.inj h).symm
  rw[e];exact List.set_getElem_self hi
 unfold jw;rw[h2]
theorem Xd{y r s:Int}(hz:gJ k y=0)(hi:fT k.c y<k.c.length):qU k y r s=qo k (aM k.c (fT k.c y)) r s/\uW k y r s=rW k (aM k.c (fT k.c y)) r s/\sI k y r s=jw k (fT k.c y) (uV k (aM k.c (fT k.c y)) r s):=by
 have h1:qU k y r s=qo k (aM k.c (fT k.c y)) r s:=if_pos hz;refine⟨h1,by rw[uW,rW,h1];rfl,?_⟩;have e:dF k y=aM k.c (fT k.c y):=rfl;rw[sI,if_pos hz,uV,e];by_cases h2:Ah k r s=0
 ·by_cases h3:wX k (aM k.c (fT k.c y)) r s=0
  ·simp only[if_pos h2,if_pos h3]
  ·simp only[if_pos h2,if_neg h3];exact(zX hi).symm
 ·simp only[if_neg h2];exact(zX hi).symm
theorem Dh(w:World)(a1:Option Addr)(c1:Nat)(a2:Option Addr)(c2:Nat)(a3:Option Addr)(c3:Nat)(k:C6)(y r s:Int)(hl:bK.L k)(h:bK.Rd w a1 c1 a2 c2 a3 c3 k):
  Calls Tryz.prog 5 #[.agg #[vI k.u,vI k.l,.slice a1 k.f.length c1,.slice a2 k.aa.length c2,.slice a3 k.c.length c3,.bool k.w],vI y,vI r,vI s] w (DW w (sI k y r s) (uW k y r s) (qU k y r s)):=by
 obtain⟨U0,iQ⟩:∃Y,Y=w.alloc (.cells #[vI k.u,vI k.l,.slice a1 k.f.length c1,.slice a2 k.aa.length c2,.slice a3 k.c.length c3,.bool k.w] 32):=⟨_,rfl⟩
 have sG:Below w.1.size w U0:=by rw[iQ];exact aJ.alloc aR _
 have wY:Bx U0 w.1.size (dJ a1 c1 a2 c2 a3 c3 k):=by rw[iQ];exact Bx.made w (dJ a1 c1 a2 c2 a3 c3 k) _
 have ym:U0.1.size=w.1.size+1:=by rw[iQ];simp
 obtain⟨U1,kG⟩:∃Y,Y=U0.alloc (.cells #[vI 0,vI 0,.slice none 0 0,.slice none 0 0,.slice none 0 0,.bool false] 32):=⟨_,rfl⟩
 have yx:Below U0.1.size U0 U1:=by rw[kG];exact aJ.alloc aR _
 have Ck:Bx U1 U0.1.size kv:=by rw[kG];exact Bx.made U0 kv _
 have H8:U1.1.size=U0.1.size+1:=by rw[kG];simp
 have hU:U1=(w.alloc (.cells #[vI k.u,vI k.l,.slice a1 k.f.length c1,.slice a2 k.aa.length c2,.slice a3 k.c.length c3,.bool k.w] 32)).alloc (.cells #[vI 0,vI 0,.slice none 0 0,.slice none 0 0,.slice none 0 0,.bool false] 32):=by rw[kG,iQ]
 rw[ym]at Ck;have x0:=wY.later yx;have bU:=ay sG yx;have H:Hid (Below w.1.size w U1/\w.1.size+2<=U1.1.size/\Bx U1 w.1.size (dJ a1 c1 a2 c2 a3 c3 k)/\Bx U1 (w.1.size+1) kv/\bK.Rd U1 a1 c1 a2 c2 a3 c3 k):=⟨bU,by omega,x0,Ck,h.later bU⟩
 have hc:=GL U1 a1 c1 a2 c2 a3 c3 k y hl (h.later bU);have HL:=aB hl;have p0:=x0.1 0 _ rfl;have p1:=x0.1 1 _ rfl;have p2:=x0.1 2 _ rfl;have p3:=x0.1 3 _ rfl;have p4:=x0.1 4 _ rfl;have p5:=x0.1 5 _ rfl;rw[hU]at p0 p1 p2 p3 p4 p5;clear iQ kG sG yx wY Ck ym H8 x0 bU h hl;clear U0;go_enter Tryz.func5,Tryz.ntmps5;go_wp2_with fail;rw[<-hU];clear hU p0 p1 p2 p3 p4 p5;refine hc.mono ?_;clear hc;rintro e w1 ⟨rfl,b1⟩;have H1:Hid (Below w.1.size w w1/\w.1.size+2<=w1.1.size/\Bx w1 w.1.size (dJ a1 c1 a2 c2 a3 c3 k)/\Bx w1 (w.1.size+1) kv/\bK.Rd w1 a1 c1 a2 c2 a3 c3 k):=⟨ay H.out.1 b1,Nat.le_trans H.out.2.1 b1.size,H.out.2.2.1.later b1,H.out.2.2.2.1.later b1,H.out.2.2.2.2.later b1⟩
 clear b1 H;have q0:=H1.out.2.2.1.1 0 _ rfl;have q1:=H1.out.2.2.1.1 1 _ rfl;have q2:=H1.out.2.2.1.1 2 _ rfl;have q3:=H1.out.2.2.1.1 3 _ rfl;have q4:=H1.out.2.2.1.1 4 _ rfl;have q5:=H1.out.2.2.1.1 5 _ rfl;by_cases hz:gJ k y=0;rotate_left
 ·obtain⟨QW,dt⟩:=NS k y;have qK:=Nn w1 a1 c1 a2 c2 a3 c3 k (gJ k y) H1.out.2.2.2.2 QW dt;have hC:qU k y r s=gJ k y:=by rw[qU,if_neg hz]
  have HX:Hid (qU k y r s=gJ k y/\uW k y r s=0/\sI k y r s=jY k):=⟨hC,by rw[uW,hC,if_neg hz],by rw[sI,if_neg hz]⟩
  have fF:(gJ k y != 0)=true:=by simpa using hz
  rw[uz hz];clear QW dt hC hz;generalize gJ k y=n at *;generalize jY k=N at *;go_wp2_with fail;refine qK.mono ?_;clear qK q0 q1 q2 q3 q4 q5;rintro e w2 ⟨e1,g1,e2,g2,e3,g3,PP,rfl,how,b2⟩;obtain⟨W3,Lt⟩:∃Y,Y=w2.alloc (.cells #[vI N.u,vI N.l,.slice e1 N.f.length g1,.slice e2 N.aa.length g2,.slice e3 N.c.length g3,.bool N.w] 32):=⟨_,rfl⟩
  have IX:Below w2.1.size w2 W3:=by rw[Lt];exact aJ.alloc aR _
  have OU:Bx W3 w2.1.size (dJ e1 g1 e2 g2 e3 g3 N):=by rw[Lt];exact Bx.made w2 (dJ e1 g1 e2 g2 e3 g3 N) _
  have X6:W3.1.size=w2.1.size+1:=by rw[Lt];simp
  have xr:=(H1.out.2.2.2.1.later b2).later IX;have zb:=xr.put (dJ e1 g1 e2 g2 e3 g3 N) rfl;obtain⟨Z,hZ⟩:∃Z,Z=di W3 (w.1.size+1) 0 (dJ e1 g1 e2 g2 e3 g3 N):=⟨_,rfl⟩
  rw[<-hZ]at zb;have HZ:Hid (Z=((((((W3.setCell ⟨w.1.size+1,0,none⟩ (vI N.u)).setCell ⟨w.1.size+1,1,none⟩ (vI N.l)).setCell ⟨w.1.size+1,2,none⟩ (.slice e1 N.f.length g1)).setCell ⟨w.1.size+1,3,none⟩ (.slice e2 N.aa.length g2)).setCell ⟨w.1.size+1,4,none⟩ (.slice e3 N.c.length g3)).setCell ⟨w.1.size+1,5,none⟩ (.bool N.w))):=hZ;have Q7:=H1.out.2.1
  have KE:Hid (DW w (sI k y r s) (uW k y r s) (qU k y r s) (.returned (.tuple #[.agg #[vI N.u,vI N.l,.slice e1 N.f.length g1,.slice e2 N.aa.length g2,.slice e3 N.c.length g3,.bool N.w],vI 0,vI n])) Z):=by
   unfold Hid;rw[HX.out.1,HX.out.2.1,HX.out.2.2];refine⟨e1,g1,e2,g2,e3,g3,PP,rfl,?_,?_⟩
   ·exact((how.later IX).low (show w.1.size<=_ by omega)).aQ (by rw[hZ,bf];exact Nat.le_refl _) (fun q hq=>by rw[hZ];exact aV (fun e=>by have:=(how.of hq).1;omega) _ _ _)
   ·rw[hZ];exact aU (by omega) _ _ _ (ay (ay H1.out.1 b2) IX)
  have c0:=xr.1 0 _ rfl;have c1:=xr.1 1 _ rfl;have c2:=xr.1 2 _ rfl;have c3:=xr.1 3 _ rfl;have c4:=xr.1 4 _ rfl;have c5:=xr.1 5 _ rfl;have f0:=xr.2.1 0;have f1:=xr.2.1 1;have f2:=xr.2.1 2;have f3:=xr.2.1 3;have f4:=xr.2.1 4;have f5:=xr.2.1 5;have p0:=OU.1 0 _ rfl;have p1:=OU.1 1 _ rfl;have p2:=OU.1 2 _ rfl;have p3:=OU.1 3 _ rfl;have p4:=OU.1 4 _ rfl;have p5:=OU.1 5 _ rfl;have z0:=zb.1 0 _ rfl;have z1:=zb.1 1 _ rfl;have z2:=zb.1 2 _ rfl;have z3:=zb.1 3 _ rfl;have z4:=zb.1 4 _ rfl;have z5:=zb.1 5 _ rfl;rw[Lt]at c0 c1 c2 c3 c4 c5 f0 f1 f2 f3 f4 f5 p0 p1 p2 p3 p4 p5;have HW3:=aB Lt;clear Lt IX OU X6 xr zb hZ Q7 how b2 H1 HX;go_wp2;rw[<-HW3.out,<-HZ.out];exact bodyPost_ret (v:=.tuple #[.agg #[vI N.u,vI N.l,.slice e1 N.f.length g1,.slice e2 N.aa.length g2,.slice e3 N.c.length g3,.bool N.w],vI 0,vI n]) (by simp[results,Tryz.results5,go_sem,z0,z1,z2,z3,z4,z5]) rfl KE.out
 ·obtain⟨hk,hi,-,-⟩:=si hz;have hT:=(CE hk).2.1 _ hi;have OD:tx.TL (aM k.c (fT k.c y)):=HL.out.ts _ (List.mem_of_getElem? (fV hi));have dc:=wV w1 a1 c1 a2 c2 a3 c3 k hk H1.out.2.2.2.2;have fM:=Xd (r:=r) (s:=s) hz hi;rw[hz,FC hz];obtain⟨i,qP⟩:∃i,fT k.c y=i:=⟨_,rfl⟩
  rw[qP]at hi hT OD fM;rw[qP];obtain⟨t,ht⟩:∃t,aM k.c i=t:=⟨_,rfl⟩
  rw[ht]at hT OD fM;obtain⟨N,hN⟩:∃N,uV k t r s=N:=⟨_,rfl⟩
  obtain⟨x,hx⟩:∃x,rW k t r s=x:=⟨_,rfl⟩
  obtain⟨n,hn⟩:∃n,qo k t r s=n:=⟨_,rfl⟩
  rw[hN,hx,hn]at fM;have HR:Hid (qU k y r s=n/\uW k y r s=x/\sI k y r s=jw k i N):=fM;have HN:Hid (uV k t r s=N/\rW k t r s=x/\qo k t r s=n):=⟨hN,hx,hn⟩
  have HK:Hid (aD k=true/\bK.L k/\tx.TL t/\tx.jI t=true/\i<k.c.length/\aM k.c i=t):=⟨hk,HL.out,OD,hT,hi,ht⟩
  clear hz hk hT OD fM qP ht hN hx hn HL;go_wp2_with fail;refine dc.mono ?_;clear dc q0 q1 q2 q3 q4 q5;rintro e w2 ⟨b1,d1,b2,d2,b3,d3,ps,gp,ms,gm,ts,gt,rfl,hr,e1,e2,e3,bl,yM⟩;have aN:ts.length=k.c.length:=by rw[<-e3];simp
  obtain⟨b,iR,-,bg⟩:=hr.T.part e3 (fun h=>by rw[h]at aN;simp at aN;omega);subst iR
  obtain⟨v,hv⟩:∃v,ts[i]?=some (v,t):=by
   have h1:(ts.map (·.2))[i]?=some t:=by rw[e3,<-HK.out.2.2.2.2.2];exact fV hi
   rw[List.getElem?_map]at h1
   cases h2:ts[i]? with
   | none=>rw[h2]at h1;cases h1
   | some p=>
    rw[h2]at h1;have h3:p.2=t:=by simpa using h1
    exact⟨p.1,by rw[<-h3]⟩
  have kz:At w2 b (i*7) (fQ.cells v t):=bg i _ hv;have OO:tx.lW w2 v t:=fQ.sl (hr.T.sub i _ hv);have jJ:t.a.length<=v.cr:=yM _ (List.mem_of_getElem? hv);have aF:=hr.T.blocks (.inl (by rfl:(Value.slice (some ⟨b,0,none⟩) k.c.length d3).ownBlock=some b));obtain⟨W3,Lt⟩:∃Y,Y=w2.alloc (.cells #[vI k.u,vI k.l,.slice b1 k.f.length d1,.slice b2 k.aa.length d2,.slice (some ⟨b,0,none⟩) k.c.length d3,.bool k.w] 32):=⟨_,rfl⟩
  have IX:Below w2.1.size w2 W3:=by rw[Lt];exact aJ.alloc aR _
  have OU:Bx W3 w2.1.size (dJ b1 d1 b2 d2 (some ⟨b,0,none⟩) d3 k):=by rw[Lt];exact Bx.made w2 (dJ b1 d1 b2 d2 (some ⟨b,0,none⟩) d3 k) _
  have X6:W3.1.size=w2.1.size+1:=by rw[Lt];simp
  have Vr:=ay bl IX;have HC:Hid (su (w1.1.size+3) (w1.1.size+2) w2 (.slice b1 k.f.length d1) (.slice b2 k.aa.length d2) (.slice (some ⟨b,0,none⟩) k.c.length d3) ps gp ms gm ts gt/\ps.map (·.2)=k.f/\ms.map (·.2)=k.aa/\ts.map (·.2)=k.c/\ts[i]?=some (v,t)/\Below w2.1.size w2 W3/\ts.length=k.c.length):=⟨hr,e1,e2,e3,hv,IX,aN⟩
  have HE:Hid (Bx W3 w.1.size (dJ a1 c1 a2 c2 a3 c3 k)/\Bx W3 (w.1.size+1) kv/\Bx W3 w2.1.size (dJ b1 d1 b2 d2 (some ⟨b,0,none⟩) d3 k)/\At W3 b (i*7) (fQ.cells v t)/\bK.Rd W3 a1 c1 a2 c2 a3 c3 k/\tx.lW W3 v t/\Below w.1.size w W3):=⟨H1.out.2.2.1.later Vr,H1.out.2.2.2.1.later Vr,OU,kz.aj (IX.block b aF.2),H1.out.2.2.2.2.later Vr,OO.later IX,ay H1.out.1 Vr⟩
  have HB:Hid (b<w2.1.size/\w1.1.size+3<=b/\w.1.size+2<=w1.1.size/\t.a.length<=v.cr/\W3.1.size=w2.1.size+1):=⟨aF.2,aF.1,H1.out.2.1,jJ,X6⟩
  have QF:Hid (b<W3.1.size):=by unfold Hid;omega
  have jn:(i:Int)<(k.c.length:Int):=by omega
  have hS:(fun Y:World=>Below W3.1.size W3 Y) W3.drew:=aJ.drew;clear hr e1 e2 e3 bl yM bg hv kz OO jJ aF IX OU X6 Vr aN H1;go_wp2_with fail;rw[<-Lt];clear Lt;refine bu (fun z=>z==14) (fun Y:World=>Below W3.1.size W3 Y) (by kernel_rfl) ?_;generalize W3.drew=Wd at *;refine jg 0 (.agg #[vI k.u,vI k.l,.slice a1 k.f.length c1,.slice a2 k.aa.length c2,.slice a3 k.c.length c3,.bool k.w]) rfl ?_ hS ?_
  ·(intro w aG;have q0:=(HE.out.1.later aG).1 0 _ rfl;have q1:=(HE.out.1.later aG).1 1 _ rfl;have q2:=(HE.out.1.later aG).1 2 _ rfl;have q3:=(HE.out.1.later aG).1 3 _ rfl;have q4:=(HE.out.1.later aG).1 4 _ rfl;have q5:=(HE.out.1.later aG).1 5 _ rfl;clear hS aG;go_simp)
  simp only[Act.put];refine cz 1 ?_ rfl ?_ hS ?_;rotate_left
  ·(intro w _;go_simp;first|done|with_reducible rfl)
  simp only[Act.put];refine jg 2 (.slice (some ⟨b,0,none⟩) k.c.length d3) rfl ?_ hS ?_
  ·(intro w aG;have q4:=(HE.out.2.2.1.later aG).1 4 _ rfl;clear hS aG;go_simp)
  simp only[Act.put];refine cz 3 ?_ rfl ?_ hS ?_;rotate_left
  ·(intro w _;go_simp;first|done|with_reducible rfl)
  simp only[Act.put];refine cz 4 (.pointer (some ⟨b,i*7,none⟩)) rfl ?_ hS ?_
  ·(intro w _;go_simp;first|done|(rw[if_pos (by omega)]))
  simp only[Act.put];refine jg 5 (.agg #[vI t.id,vI t.o,vI t.q,vI t.v,.slice v.ar t.a.length v.cr,.slice v.ah t.ag.length v.ch,vI t.aA]) rfl ?_ hS ?_
  ·(intro w aG;have q0:w.cell? ⟨b,i*7,none⟩=some (vI t.id):=(HE.out.2.2.2.1.aj (aG.block b QF.out)) 0 _ rfl;have q1:w.cell? ⟨b,i*7+1,none⟩=some (vI t.o):=(HE.out.2.2.2.1.aj (aG.block b QF.out)) 1 _ rfl;have q2:w.cell? ⟨b,i*7+2,none⟩=some (vI t.q):=(HE.out.2.2.2.1.aj (aG.block b QF.out)) 2 _ rfl;have q3:w.cell? ⟨b,i*7+3,none⟩=some (vI t.v):=(HE.out.2.2.2.1.aj (aG.block b QF.out)) 3 _ rfl;have q4:w.cell? ⟨b,i*7+4,none⟩=some (.slice v.ar t.a.length v.cr):=(HE.out.2.2.2.1.aj (aG.block b QF.out)) 4 _ rfl;have q5:w.cell? ⟨b,i*7+5,none⟩=some (.slice v.ah t.ag.length v.ch):=(HE.out.2.2.2.1.aj (aG.block b QF.out)) 5 _ rfl;have q6:w.cell? ⟨b,i*7+6,none⟩=some (vI t.aA):=(HE.out.2.2.2.1.aj (aG.block b QF.out)) 6 _ rfl;clear hS aG;go_simp)
  simp only[Act.put];refine cz 6 ?_ rfl ?_ hS ?_;rotate_left
  ·(intro w _;go_simp;first|done|with_reducible rfl)
  simp only[Act.put];refine cz 7 ?_ rfl ?_ hS ?_;rotate_left
  ·(intro w _;go_simp;first|done|with_reducible rfl)
  simp only[Act.put];refine iI (rs:=[8,13]) (by kernel_rfl) (by simp) ?_;refine iU.cons rfl (fun K hK=>?tA) (iU.cons rfl (fun K hK=>?tB) iU.nil)
  case' tA=>
   go_simp;have cN:=y8 Wd a1 c1 a2 c2 a3 c3 k v t r s HK.out.1 HK.out.2.1 (HE.out.2.2.2.2.1.later hS) HK.out.2.2.1 HK.out.2.2.2.1 (HE.out.2.2.2.2.2.1.later hS) HB.out.2.2.2.1;rw[HN.out.1,HN.out.2.1,HN.out.2.2]at cN;refine cN.mono ?_;clear cN;rintro e X ⟨u,rfl,bX,V8⟩;simp only[tx.TV.val];have hO:(u=v/\N=t)\/∃PR PS,tx.OT X W3.1.size u N PR PS:=V8.imp id (fun⟨PR,PS,h⟩=>⟨PR,PS,h.low (fun q hq=>by have:=(h.of hq).1;have:=hS.size;omega)⟩);replace hS:(fun Y:World=>Below W3.1.size W3 Y) X:=ay hS bX;clear bX V8;refine hK.out _ _ (fun _=>hS) ?_;clear hK K;clear Wd;generalize X=Wd at *;refine cz 9 ?_ rfl ?_ hS ?_;rotate_left
   ·(intro w _;go_simp;first|done|with_reducible rfl)
   simp only[Act.put];refine cz 10 ?_ rfl ?_ hS ?_;rotate_left
   ·(intro w _;go_simp;first|done|with_reducible rfl)
   simp only[Act.put];refine cz 11 ?_ rfl ?_ hS ?_;rotate_left
   ·(intro w _;go_simp;first|done|with_reducible rfl)
   simp only[Act.put];refine cz 12 ?_ rfl ?_ hS ?_;rotate_left
   ·(intro w _;go_simp;first|done|with_reducible rfl)
   simp only[Act.put];refine cZ 13 rfl (fun K hK=>?_);go_simp;obtain⟨X,hX⟩:∃X,X=Wd.alloc (.cells #[vI 0,vI 0,vI 0,vI 0,.slice none 0 0,.slice none 0 0,vI 0] 50):=⟨_,rfl⟩
   obtain⟨bb,iE⟩:∃bb,bb=Wd.1.size:=⟨_,rfl⟩
   have bX:Below Wd.1.size Wd X:=by rw[hX];exact aJ.alloc aR _
   have xV:Bx X bb CJ:=by rw[hX,iE];exact Bx.made Wd CJ _
   rw[<-hX,<-iE];have RG:Hid (W3.1.size<=bb):=by unfold Hid;have:=hS.size;omega
   have HO:Hid ((u=v/\N=t)\/∃PR PS,tx.OT X W3.1.size u N PR PS/\∀q,tx.oW PR PS q->q≠bb):=hO.imp id (fun⟨PR,PS,h⟩=>⟨PR,PS,h.later bX,fun q hq=>by have:=(h.of hq).2;omega⟩);clear hO;replace hS:(fun Y:World=>Below W3.1.size W3 Y) X:=ay hS bX;clear hX iE bX;refine hK.out _ _ (fun _=>hS) ?_;clear hK K;clear Wd;generalize X=Wd at *
  case' tB=>
   go_simp;obtain⟨X,hX⟩:∃X,X=Wd.alloc (.cells #[vI 0,vI 0,vI 0,vI 0,.slice none 0 0,.slice none 0 0,vI 0] 50):=⟨_,rfl⟩
   obtain⟨bb,iE⟩:∃bb,bb=Wd.1.size:=⟨_,rfl⟩
   have bX:Below Wd.1.size Wd X:=by rw[hX];exact aJ.alloc aR _
   have xV:Bx X bb CJ:=by rw[hX,iE];exact Bx.made Wd CJ _
   rw[<-hX,<-iE];have RG:Hid (W3.1.size<=bb):=by unfold Hid;have:=hS.size;omega
   replace hS:(fun Y:World=>Below W3.1.size W3 Y) X:=ay hS bX;clear hX iE bX;refine hK.out _ _ (fun _=>hS) ?_;clear hK K;clear Wd;generalize X=Wd at *;refine cZ 8 rfl (fun K hK=>?_);go_simp;have cN:=y8 Wd a1 c1 a2 c2 a3 c3 k v t r s HK.out.1 HK.out.2.1 (HE.out.2.2.2.2.1.later hS) HK.out.2.2.1 HK.out.2.2.2.1 (HE.out.2.2.2.2.2.1.later hS) HB.out.2.2.2.1;rw[HN.out.1,HN.out.2.1,HN.out.2.2]at cN;refine cN.mono ?_;clear cN;rintro e X ⟨u,rfl,bX,V8⟩;simp only[tx.TV.val];have HO:Hid ((u=v/\N=t)\/∃PR PS,tx.OT X W3.1.size u N PR PS/\∀q,tx.oW PR PS q->q≠bb):=V8.imp id (fun⟨PR,PS,h⟩=>⟨PR,PS,h.low (fun q hq=>by have:=(h.of hq).1;have:=hS.size;omega),fun q hq=>by have:=(h.of hq).1;have:=xV.2.2;omega⟩);replace xV:=xV.later bX;replace hS:(fun Y:World=>Below W3.1.size W3 Y) X:=ay hS bX;clear bX V8;refine hK.out _ _ (fun _=>hS) ?_;clear hK K;clear Wd;generalize X=Wd at *;refine cz 9 ?_ rfl ?_ hS ?_;rotate_left
   ·(intro w _;go_simp;first|done|with_reducible rfl)
   simp only[Act.put];refine cz 10 ?_ rfl ?_ hS ?_;rotate_left
   ·(intro w _;go_simp;first|done|with_reducible rfl)
   simp only[Act.put];refine cz 11 ?_ rfl ?_ hS ?_;rotate_left
   ·(intro w _;go_simp;first|done|with_reducible rfl)
   simp only[Act.put];refine cz 12 ?_ rfl ?_ hS ?_;rotate_left
   ·(intro w _;go_simp;first|done|with_reducible rfl)
   simp only[Act.put]
  all_goals
   have c0:=xV.1 0 _ rfl;have c1:=xV.1 1 _ rfl;have c2:=xV.1 2 _ rfl;have c3:=xV.1 3 _ rfl;have c4:=xV.1 4 _ rfl;have c5:=xV.1 5 _ rfl;have c6:=xV.1 6 _ rfl;have f0:=xV.2.1 0;have f1:=xV.2.1 1;have f2:=xV.2.1 2;have f3:=xV.2.1 3;have f4:=xV.2.1 4;have f5:=xV.2.1 5;have f6:=xV.2.1 6;refine cZ 14 rfl (fun K hK=>?_);go_simp;refine hK.out _ _ (fun h=>absurd (show false=true from h.symm.trans (by kernel_rfl)) (by decide)) ?_;clear hK K;refine cZ 15 rfl (fun K hK=>?_);go_simp;refine hK.out _ _ (fun h=>absurd (show false=true from h.symm.trans (by kernel_rfl)) (by decide)) ?_;clear hK K;refine cZ 16 rfl (fun K hK=>?_);go_simp;refine hK.out _ _ (fun h=>absurd (show false=true from h.symm.trans (by kernel_rfl)) (by decide)) ?_;clear hK K;refine dL (by kernel_rfl) ?_ _;clear c0 c1 c2 c3 c4 c5 c6 f0 f1 f2 f3 f4 f5 f6;obtain⟨Y,hY⟩:∃Y,Y=di Wd bb 0 (tx.iC u.ar u.cr u.ah u.ch N):=⟨_,rfl⟩
   have yb:=xV.put (tx.iC u.ar u.cr u.ah u.ch N) rfl;rw[<-hY]at yb;have qN:Y=(((((((Wd.setCell ⟨bb,0,none⟩ (vI N.id)).setCell ⟨bb,1,none⟩ (vI N.o)).setCell ⟨bb,2,none⟩ (vI N.q)).setCell ⟨bb,3,none⟩ (vI N.v)).setCell ⟨bb,4,none⟩ (.slice u.ar N.a.length u.cr)).setCell ⟨bb,5,none⟩ (.slice u.ah N.ag.length u.ch)).setCell ⟨bb,6,none⟩ (vI N.aA)):=hY;rw[<-qN];have dQ:Y.1.size=Wd.1.size:=by rw[hY];exact bf _ _ _ _
   have dZ:∀q,q≠bb->Y.1[q]?=Wd.1[q]?:=fun q hq=>by rw[hY];exact aV hq _ _ _
   have bY:Below W3.1.size W3 Y:=by rw[hY];exact aU RG.out _ _ _ hS
   obtain⟨hr,e1,e2,e3,hv,IX,aN⟩:=HC.out;obtain⟨k1,k2,k3,-,k5⟩:=HB.out;have hi:=HK.out.2.2.2.2.1;have UX:i<ts.length:=by omega
   have Zv:=IX.size;have Zr:=hr.later (ay IX bY)
   obtain⟨Q,ho,hQ,XI,cf⟩:∃Q:Nat->Prop,KT.Ow Y w.1.size u.ar u.cr u.ah u.ch N Q/\(∀q,Q q->¬Kd.jU (.slice b1 k.f.length d1) ps gp q/\¬Kd.jU (.slice b2 k.aa.length d2) ms gm q/\(Value.slice (some ⟨b,0,none⟩) k.c.length d3).ownBlock≠some q)/\(∀j q,j<k.c.length->j≠i->gt j q->¬Q q)/\(∀q,Q q->w.1.size+2<=q):=by
    rcases HO.out with ⟨eu,eN⟩|⟨PR,PS,h1,h2⟩
    ·rw[eu,eN];exact⟨gt i,KT.Ow.low (Zr.T.sub i _ hv) (by omega),fun q hq=>⟨fun h=>hr.pt q h (.inr ⟨i,UX,hq⟩),fun h=>hr.mt q h (.inr ⟨i,UX,hq⟩),hr.T.ne i q UX hq⟩,fun j q hj QP h h'=>hr.T.ap j i q (by omega) UX QP h h',fun q hq=>by have:=(hr.T.blocks (.inr ⟨i,UX,hq⟩)).1;omega⟩
    ·have h3:=h1.aQ (Nat.le_of_eq dQ.symm) (fun q _ hq=>dZ q (h2 q hq));have hb:∀q,tx.oW PR PS q->w2.1.size<q:=fun q hq=>by have:=(h1.of hq).1;omega
     have oy:w1.1.size+3<w2.1.size:=by omega
     exact⟨tx.oW PR PS,KT.ow (h3.low (fun q hq=>by have:=hb q hq;omega)),fun q hq=>⟨fun h=>by have:=(hr.P.blocks h).2;have:=hb q hq;omega,fun h=>by have:=(hr.M.blocks h).2;have:=hb q hq;omega,fun h=>by have:=(hr.T.blocks (.inl h)).2;have:=hb q hq;omega⟩,fun j q hj _ h hq=>by have:=(hr.T.blocks (.inr ⟨j,by omega,h⟩)).2;have:=hb q hq;omega,fun q hq=>by have:=hb q hq;omega⟩
   obtain⟨b',fC,-,-,-,pW,-,PP,Vz,Vx⟩:=D8 Zr e1 e2 e3 hi u.ar u.cr u.ah u.ch N Q ho (show w.1.size<=w1.1.size+3 by omega) hQ XI;obtain rfl:b=b':=by cases fC;rfl
   have xo:=HE.out.2.2.1.later bY;have xr:=HE.out.2.1.later bY;obtain⟨V2,tL⟩:∃V,V=di Y b (i*7) (tx.iC u.ar u.cr u.ah u.ch N):=⟨_,rfl⟩
   have nY:V2.1.size=Y.1.size:=by rw[tL];exact bf _ _ _ _
   have YL:∀q,q≠b->V2.1[q]?=Y.1[q]?:=fun q hq=>by rw[tL];exact aV hq _ _ _
   have Us:=xo.aj (YL _ (by omega)) (Nat.le_of_eq nY.symm);have JC:=xr.aj (YL _ (by omega)) (Nat.le_of_eq nY.symm);have Vy:bK.Ow V2 w.1.size b1 d1 b2 d2 (some ⟨b,0,none⟩) d3 (jw k i N) PP:=by rw[tL];exact Vx
   have Z8:Hid (V2=(((((((Y.setCell ⟨b,i*7,none⟩ (vI N.id)).setCell ⟨b,i*7+1,none⟩ (vI N.o)).setCell ⟨b,i*7+2,none⟩ (vI N.q)).setCell ⟨b,i*7+3,none⟩ (vI N.v)).setCell ⟨b,i*7+4,none⟩ (.slice u.ar N.a.length u.cr)).setCell ⟨b,i*7+5,none⟩ (.slice u.ah N.ag.length u.ch)).setCell ⟨b,i*7+6,none⟩ (vI N.aA))):=by unfold Hid;rw[tL];rfl
   have zb:=JC.put (dJ b1 d1 b2 d2 (some ⟨b,0,none⟩) d3 k) rfl;obtain⟨Z,hZ⟩:∃Z,Z=di V2 (w.1.size+1) 0 (dJ b1 d1 b2 d2 (some ⟨b,0,none⟩) d3 k):=⟨_,rfl⟩
   rw[<-hZ]at zb;have HZ:Hid (Z=((((((V2.setCell ⟨w.1.size+1,0,none⟩ (vI k.u)).setCell ⟨w.1.size+1,1,none⟩ (vI k.l)).setCell ⟨w.1.size+1,2,none⟩ (.slice b1 k.f.length d1)).setCell ⟨w.1.size+1,3,none⟩ (.slice b2 k.aa.length d2)).setCell ⟨w.1.size+1,4,none⟩ (.slice (some ⟨b,0,none⟩) k.c.length d3)).setCell ⟨w.1.size+1,5,none⟩ (.bool k.w))):=hZ
   have KE:Hid (DW w (sI k y r s) (uW k y r s) (qU k y r s) (.returned (.tuple #[.agg #[vI k.u,vI k.l,.slice b1 k.f.length d1,.slice b2 k.aa.length d2,.slice (some ⟨b,0,none⟩) k.c.length d3,.bool k.w],vI x,vI n])) Z):=by
    unfold Hid;rw[HR.out.1,HR.out.2.1,HR.out.2.2];refine⟨b1,d1,b2,d2,some ⟨b,0,none⟩,d3,PP,by simp[jw],?_,?_⟩
    ·exact Vy.aQ (by rw[hZ,bf];exact Nat.le_refl _) (fun q hq=>by rw[hZ];exact aV (fun e=>by rcases Vz q hq with h|h;have:=cf q h;omega;omega) _ _ _)
    ·rw[hZ];exact aU (by omega) _ _ _ (by rw[tL];exact aU (by omega) _ _ _ (ay HE.out.2.2.2.2.2.2 bY))
   have y0:=yb.1 0 _ rfl;have y1:=yb.1 1 _ rfl;have y2:=yb.1 2 _ rfl;have y3:=yb.1 3 _ rfl;have y4:=yb.1 4 _ rfl;have y5:=yb.1 5 _ rfl;have y6:=yb.1 6 _ rfl;obtain⟨m0,g0,f0⟩:=pW (i*7+0) (by omega);obtain⟨m1,g1,f1⟩:=pW (i*7+1) (by omega);obtain⟨m2,g2,f2⟩:=pW (i*7+2) (by omega);obtain⟨m3,g3,f3⟩:=pW (i*7+3) (by omega);obtain⟨m4,g4,f4⟩:=pW (i*7+4) (by omega);obtain⟨m5,g5,f5⟩:=pW (i*7+5) (by omega);obtain⟨m6,g6,f6⟩:=pW (i*7+6) (by omega);rw[Nat.add_zero]at g0 f0;have o4:=xo.1 4 _ rfl;have p0:=Us.1 0 _ rfl;have p1:=Us.1 1 _ rfl;have p2:=Us.1 2 _ rfl;have p3:=Us.1 3 _ rfl;have p4:=Us.1 4 _ rfl;have p5:=Us.1 5 _ rfl;have c0:=JC.1 0 _ rfl;have c1:=JC.1 1 _ rfl;have c2:=JC.1 2 _ rfl;have c3:=JC.1 3 _ rfl;have c4:=JC.1 4 _ rfl;have c5:=JC.1 5 _ rfl;have l0:=JC.2.1 0;have l1:=JC.2.1 1;have l2:=JC.2.1 2;have l3:=JC.2.1 3;have l4:=JC.2.1 4;have l5:=JC.2.1 5;have z0:=zb.1 0 _ rfl;have z1:=zb.1 1 _ rfl;have z2:=zb.1 2 _ rfl;have z3:=zb.1 3 _ rfl;have z4:=zb.1 4 _ rfl;have z5:=zb.1 5 _ rfl;rw[Z8.out]at p0 p1 p2 p3 p4 p5 c0 c1 c2 c3 c4 c5 l0 l1 l2 l3 l4 l5;clear hY qN yb dQ dZ bY hr e1 e2 e3 hv IX aN k1 k2 k3 k5 hi UX Zv Zr ho hQ XI cf pW Vz Vx fC xo xr tL nY YL Us JC Vy zb hZ hS xV RG HO HE HB HC QF HN HR HK;go_wp2;rw[<-Z8.out,<-HZ.out];exact bodyPost_ret (v:=.tuple #[.agg #[vI k.u,vI k.l,.slice b1 k.f.length d1,.slice b2 k.aa.length d2,.slice (some ⟨b,0,none⟩) k.c.length d3,.bool k.w],vI x,vI n]) (by simp[results,Tryz.results5,go_sem,z0,z1,z2,z3,z4,z5]) rfl KE.out
end
section
open Go.ChangeShapes Go.WideShapes Go.ChangeAt Go.RowKit
def S5.cells(s:S5):List Value:=[vI s.b,vI s.e,vI s.g,.bool s.i,vI s.j]
def S5.wf(s:S5):Prop:=(Lit.int .i64 s.b).wf=true/\(Lit.int .i64 s.e).wf=true/\(Lit.int .i64 s.g).wf=true/\(Lit.int .i64 s.j).wf=true
theorem y9{α:Type}{cs:List α}(h:cs.length=5):∃c0 c1 c2 c3 c4,cs=[c0,c1,c2,c3,c4]:=by
 match cs,h with
 | [c0,c1,c2,c3,c4],_=>exact⟨c0,c1,c2,c3,c4,rfl⟩
theorem mZ:Tryz.prog.cellsOf 205=5:=by kernel_rfl
theorem qE:Tryz.prog.cellsOf 2=1:=by kernel_rfl
theorem nS:Tryz.prog.cellsOf 4=1:=by kernel_rfl
theorem zL{H:Type}{enc:TypeId×Value->H}{w:World}{base:Nat}{spare:Nat->Bool}{held:Bool}{fuel:Nat}{cs:List Value}{x:DataW H×List MemPlace}
  (h:DataW.trod enc Tryz.prog w base spare held fuel 205 cs=some x):∃s:S5,cs=s.cells/\s.wf:=by
 obtain⟨xs,n,_,rfl,hl,hlen,hf⟩:=DataW.trod_struct Tryz.underlying205 h;rw[mZ]at hl;obtain⟨c0,c1,c2,c3,c4,rfl⟩:=y9 hl;obtain⟨y0,y1,y2,y3,y4,rfl⟩:=y9 hlen;have h0:=hf 0 _ rfl;have h1:=hf 1 _ rfl;have h2:=hf 2 _ rfl;have h3:=hf 3 _ rfl;have h4:=hf 4 _ rfl;simp[qE,nS]at h0 h1 h2 h3 h4;obtain⟨z0,e0,_,f0⟩:=DataW.trod_int Tryz.underlying2 h0;obtain⟨z1,e1,_,f1⟩:=DataW.trod_int Tryz.underlying2 h1;obtain⟨z2,e2,_,f2⟩:=DataW.trod_int Tryz.underlying2 h2;obtain⟨z3,e3,_⟩:=DataW.trod_bool Tryz.underlying4 h3;obtain⟨z4,e4,_,f4⟩:=DataW.trod_int Tryz.underlying2 h4;simp at e0 e1 e2 e3 e4;subst e0 e1 e2 e3 e4;exact⟨⟨z0,z1,z2,z3,z4⟩,rfl,f0,f1,f2,f4⟩
end
section
open Go.ChangeShapes Go.WideShapes Go.ChangeAt Go.RowKit Go.Deep
theorem Jj{α:Type}{cs:List α}(h:cs.length=2):∃c0 c1,cs=[c0,c1]:=by
 match cs,h with
 | [c0,c1],_=>exact⟨c0,c1,rfl⟩
theorem yE:Tryz.prog.cellsOf 274=2:=by kernel_rfl
theorem JK:Tryz.prog.cellsOf 2=1:=by kernel_rfl
theorem Kq{H:Type}{enc:TypeId×Value->H}{w:World}{base:Nat}{spare:Nat->Bool}{held:Bool}{fuel:Nat}{cs:List Value}{x:DataW H×List MemPlace}
  (h:DataW.trod enc Tryz.prog w base spare held fuel 274 cs=some x):∃s:C2,cs=s.cells:=by
 obtain⟨xs,n,_,rfl,hl,hlen,hf⟩:=DataW.trod_struct Tryz.underlying274 h;rw[yE]at hl;obtain⟨c0,c1,rfl⟩:=Jj hl;obtain⟨y0,y1,rfl⟩:=Jj hlen;have h0:=hf 0 _ rfl;have h1:=hf 1 _ rfl;simp[JK]at h0 h1;obtain⟨z0,e0,_,_⟩:=DataW.trod_int Tryz.underlying2 h0;obtain⟨z1,e1,_,_⟩:=DataW.trod_int Tryz.underlying2 h1;simp at e0 e1;subst e0 e1;exact⟨⟨z0,z1⟩,rfl⟩
theorem mq{α:Type}{p:Nat->α->Prop}(n:Nat)(h:∀i,i<n->∃x,p i x):∃xs:List α,xs.length=n/\∀i x,xs[i]?=some x->p i x:=by
 induction n with
 | zero=>exact⟨[],rfl,fun i x e=>by simp at e⟩
 | succ n ih=>
  obtain⟨xs,hl,hx⟩:=ih fun i hi=>h i (by omega)
  obtain⟨y,hy⟩:=h n (by omega);refine⟨xs++[y],by simp[hl],fun i x e=>?_⟩;by_cases hi:i<xs.length
  ·rw[List.getElem?_append_left hi]at e;exact hx i x e
  ·rw[List.getElem?_append_right (by omega)]at e
   have:i=xs.length:=by
    by_cases h2:i-xs.length=0
    ·omega
    ·rw[List.getElem?_eq_none (by simp;omega)]at e;cases e
   subst this;simp at e;subst e;rw[hl];exact hy
end
namespace om
open Go.ChangeShapes Go.WideShapes Go.ChangeAt Go.RowKit Go.Deep
variable {cs:List Value}{fuel:Nat}{spare:Nat->Bool}{w:World}
theorem sQ:Tryz.prog.cellsOf 2=1:=by kernel_rfl
theorem O8:Tryz.prog.cellsOf 4=1:=by kernel_rfl
theorem yH:Tryz.prog.cellsOf 84=1:=by kernel_rfl
theorem Mi:Tryz.prog.cellsOf 189=1:=by kernel_rfl
theorem Ms:Tryz.prog.cellsOf 79=1:=by kernel_rfl
theorem Mq:Tryz.prog.cellsOf 78=1:=by kernel_rfl
theorem Mm:Tryz.prog.cellsOf 74=1:=by kernel_rfl
theorem I5:Tryz.prog.cellsOf 194=4:=by kernel_rfl
theorem I4:Tryz.prog.cellsOf 191=2:=by kernel_rfl
theorem O9:Tryz.prog.cellsOf 81=4:=by kernel_rfl
theorem Jk{α:Type}{cs:List α}(h:cs.length=4):∃c0 c1 c2 c3,cs=[c0,c1,c2,c3]:=by
 match cs,h with
 | [c0,c1,c2,c3],_=>exact⟨c0,c1,c2,c3,rfl⟩
theorem vX{H:Type}{enc:TypeId×Value->H}{held:Bool}{x:DataW H×List MemPlace}
  (h:DataW.trod enc Tryz.prog w 0 spare held fuel 84 cs=some x):∃a n cap xs,cs=[.slice a n cap]/\n<=maxLen/\n<=cap/\Sl w w.1.size a n xs:=by
 rcases open_slice Tryz.underlying84 h with ⟨rfl,_⟩|⟨a,len,cap,m,n,D,Pl,rfl,_,hl,hm,yQ,_,hx⟩
 ·exact⟨none,0,0,[],rfl,Nat.zero_le _,Nat.le_refl _,⟨rfl,.inl rfl⟩⟩
 ·have J3:len<=m:=by rw[yQ];split<;>omega
  have key:∀i,i<len->∃s:S5,∀k,k<5->w.cell? ((a.add (i*5)).add k)=s.cells[k]?:=fun i hi=>by
   obtain⟨cs',h1,h2⟩:=hx i (by omega);rw[mZ]at h1;obtain⟨s,rfl,_⟩:=zL h2;exact⟨s,(World.cells?_some h1).2.2⟩
  obtain⟨xs,hlen,oN⟩:=mq len key;refine⟨some a,len,cap,xs,rfl,by omega,by omega,⟨hlen,?_⟩⟩
  ·by_cases h0:len=0
   ·exact .inl h0
   ·right;obtain⟨b,off,spot⟩:=a;obtain⟨s,hs⟩:=key 0 (by omega);have c0:w.cell? ⟨b,off,spot⟩=some (vI s.b):=by simpa[Addr.add,S5.cells]using hs 0 (by omega)
    have jq:spot=none:=by simpa using World.cell?_spot c0
    subst jq;refine⟨b,off,rfl,block_lt_of_cell c0,fun i s e=>?_⟩;have hk:=oN i s e;simp only[add_plain]at hk;exact⟨by simpa[S5.cells]using hk 0 (by omega),by simpa[S5.cells]using hk 1 (by omega),by simpa[S5.cells]using hk 2 (by omega),by simpa[S5.cells]using hk 3 (by omega),by simpa[S5.cells]using hk 4 (by omega)⟩
theorem Hm{H:Type}{enc:TypeId×Value->H}{held:Bool}{x:DataW H×List MemPlace}
  (h:DataW.trod enc Tryz.prog w 0 spare held fuel 189 cs=some x):∃a n cap xs,cs=[.slice a n cap]/\n<=maxLen/\n<=cap/\pE w w.1.size a n xs:=by
 rcases open_slice Tryz.underlying189 h with ⟨rfl,_⟩|⟨a,len,cap,m,n,D,Pl,rfl,_,hl,hm,yQ,_,hx⟩
 ·exact⟨none,0,0,[],rfl,Nat.zero_le _,Nat.le_refl _,⟨rfl,.inl rfl⟩⟩
 ·have J3:len<=m:=by rw[yQ];split<;>omega
  have key:∀i,i<len->∃s:C2,∀k,k<2->w.cell? ((a.add (i*2)).add k)=s.cells[k]?:=fun i hi=>by
   obtain⟨cs',h1,h2⟩:=hx i (by omega);rw[yE]at h1;obtain⟨s,rfl⟩:=Kq h2;exact⟨s,(World.cells?_some h1).2.2⟩
  obtain⟨xs,hlen,oN⟩:=mq len key;refine⟨some a,len,cap,xs,rfl,by omega,by omega,⟨hlen,?_⟩⟩
  ·by_cases h0:len=0
   ·exact .inl h0
   ·right;obtain⟨b,off,spot⟩:=a;obtain⟨s,hs⟩:=key 0 (by omega);have c0:w.cell? ⟨b,off,spot⟩=some (vI s.head):=by simpa[Addr.add,C2.cells]using hs 0 (by omega)
    have jq:spot=none:=by simpa using World.cell?_spot c0
    subst jq;refine⟨b,off,rfl,block_lt_of_cell c0,fun i s e=>?_⟩;have hk:=oN i s e;simp only[add_plain]at hk;exact⟨by simpa[C2.cells]using hk 0 (by omega),by simpa[C2.cells]using hk 1 (by omega)⟩
theorem Ku{H:Type}{enc:TypeId×Value->H}{held:Bool}{x:DataW H×List MemPlace}
  (h:DataW.trod enc Tryz.prog w 0 spare held fuel 74 cs=some x):∃a n cap xs,cs=[.slice a n cap]/\n<=maxLen/\n<=cap/\mP w w.1.size a n xs:=by
 rcases open_slice Tryz.underlying74 h with ⟨rfl,_⟩|⟨a,len,cap,m,n,D,Pl,rfl,_,hl,hm,yQ,_,hx⟩
 ·exact⟨none,0,0,[],rfl,Nat.zero_le _,Nat.le_refl _,⟨rfl,.inl rfl⟩⟩
 ·have J3:len<=m:=by rw[yQ];split<;>omega
  have key:∀i,i<len->∃s:Int,w.cell? (a.add (i*1))=some (vI s):=fun i hi=>by
   obtain⟨cs',h1,h2⟩:=hx i (by omega);rw[sQ]at h1;obtain⟨z,e,_⟩:=DataW.trod_int Tryz.underlying2 h2;subst e;have:=(World.cells?_some h1).2.2 0 (by omega);exact⟨z,by simpa[Addr.add]using this⟩
  obtain⟨xs,hlen,oN⟩:=mq len key;refine⟨some a,len,cap,xs,rfl,by omega,by omega,⟨hlen,?_⟩⟩
  ·by_cases h0:len=0
   ·exact .inl h0
   ·right;obtain⟨b,off,spot⟩:=a;obtain⟨s,hs⟩:=key 0 (by omega);have c0:w.cell? ⟨b,off,spot⟩=some (vI s):=by simpa[Addr.add]using hs
    have jq:spot=none:=by simpa using World.cell?_spot c0
    subst jq;refine⟨b,off,rfl,block_lt_of_cell c0,fun i s e=>?_⟩;have hk:=oN i s e;simp only[add_plain]at hk;simpa using hk
theorem NH{H:Type}{enc:TypeId×Value->H}{held:Bool}{x:DataW H×List MemPlace}
  (h:DataW.trod enc Tryz.prog w 0 spare held fuel 194 cs=some x):∃(r:R4) (a:Option Addr) (cap:Nat),cs=[vI r.kind,vI r.tx,vI r.b,.slice a r.ag.length cap]/\Sl w w.1.size a r.ag.length r.ag/\r.ag.length<=cap/\r.ag.length<=maxLen:=by
 obtain⟨xs,n,_,rfl,hl,hlen,hf⟩:=DataW.trod_struct Tryz.underlying194 h;rw[I5]at hl;obtain⟨c0,c1,c2,c3,rfl⟩:=Jk hl;obtain⟨y0,y1,y2,y3,rfl⟩:=Jk hlen;have h0:=hf 0 _ rfl;have h1:=hf 1 _ rfl;have h2:=hf 2 _ rfl;have h3:=hf 3 _ rfl;simp[sQ,yH]at h0 h1 h2 h3;obtain⟨z0,e0,_,_⟩:=DataW.trod_int Tryz.underlying2 h0;obtain⟨z1,e1,_,_⟩:=DataW.trod_int Tryz.underlying2 h1;obtain⟨z2,e2,_,_⟩:=DataW.trod_int Tryz.underlying2 h2;obtain⟨a,m,cap,ss,e3,hm,hc,hs⟩:=vX h3;simp at e0 e1 e2 e3;subst e0 e1 e2 e3;obtain⟨rfl,EA⟩:=hs;exact⟨⟨z0,z1,z2,ss⟩,a,cap,rfl,⟨rfl,EA⟩,hc,hm⟩
theorem NG{H:Type}{enc:TypeId×Value->H}{held:Bool}{x:DataW H×List MemPlace}
  (h:DataW.trod enc Tryz.prog w 0 spare held fuel 191 cs=some x):∃(k:K2) (a:Option Addr) (cap:Nat),cs=[vI k.b,.slice a k.cells.length cap]/\pE w w.1.size a k.cells.length k.cells/\k.cells.length<=cap/\k.cells.length<=maxLen:=by
 obtain⟨xs,n,_,rfl,hl,hlen,hf⟩:=DataW.trod_struct Tryz.underlying191 h;rw[I4]at hl;obtain⟨c0,c1,rfl⟩:=Jj hl;obtain⟨y0,y1,rfl⟩:=Jj hlen;have h0:=hf 0 _ rfl;have h1:=hf 1 _ rfl;simp[sQ,Mi]at h0 h1;obtain⟨z0,e0,_,_⟩:=DataW.trod_int Tryz.underlying2 h0;obtain⟨a,m,cap,ss,e3,hm,hc,hs⟩:=Hm h1;simp at e0 e3;subst e0 e3;obtain⟨rfl,EA⟩:=hs;exact⟨⟨z0,ss⟩,a,cap,rfl,⟨rfl,EA⟩,hc,hm⟩
theorem Kv{H:Type}{enc:TypeId×Value->H}{held:Bool}{x:DataW H×List MemPlace}
  (h:DataW.trod enc Tryz.prog w 0 spare held fuel 79 cs=some x):∃a n cap xs,cs=[.slice a n cap]/\n<=maxLen/\n<=cap/\Gg w w.1.size a n xs/\∀s∈xs,s.ag.length<=maxLen:=by
 rcases open_slice Tryz.underlying79 h with ⟨rfl,_⟩|⟨a,len,cap,m,n,D,Pl,rfl,_,hl,hm,yQ,_,hx⟩
 ·exact⟨none,0,0,[],rfl,Nat.zero_le _,Nat.le_refl _,⟨rfl,.inl rfl⟩,fun s hs=>by cases hs⟩
 ·have J3:len<=m:=by rw[yQ];split<;>omega
  have key:∀i,i<len->∃s:R4,(∃a' aZ,(∀k,k<4->w.cell? ((a.add (i*4)).add k)=([vI s.kind,vI s.tx,vI s.b,.slice a' s.ag.length aZ]:List Value)[k]?)/\Sl w w.1.size a' s.ag.length s.ag/\s.ag.length<=aZ)/\s.ag.length<=maxLen:=fun i hi=>by
   obtain⟨cs',h1,h2⟩:=hx i (by omega);rw[I5]at h1;obtain⟨s,a',aZ,rfl,t1,t2,t3⟩:=NH h2;exact⟨s,⟨a',aZ,(World.cells?_some h1).2.2,t1,t2⟩,t3⟩
  obtain⟨xs,hlen,oN⟩:=mq len key;refine⟨some a,len,cap,xs,rfl,by omega,by omega,⟨hlen,?_⟩,?_⟩
  ·by_cases h0:len=0
   ·exact .inl h0
   ·right;obtain⟨b,off,spot⟩:=a;obtain⟨s,hs⟩:=key 0 (by omega);obtain⟨⟨a',aZ,hs,_⟩,_⟩:=hs;have c0:=hs 0 (by omega);simp[Addr.add]at c0;have jq:spot=none:=by simpa using World.cell?_spot c0
    subst jq;refine⟨b,off,rfl,block_lt_of_cell c0,fun i s e=>?_⟩;have hk:=oN i s e;simp only[add_plain]at hk;obtain⟨⟨a',aZ,hk,t1,t2⟩,_⟩:=hk;exact⟨by simpa using hk 0 (by omega),by simpa using hk 1 (by omega),by simpa using hk 2 (by omega),a',aZ,by simpa using hk 3 (by omega),t1,t2⟩
  ·intro s hs;obtain⟨i,hi,rfl⟩:=List.getElem_of_mem hs;exact(oN i _ (List.getElem?_eq_getElem hi)).2
theorem Kr{H:Type}{enc:TypeId×Value->H}{held:Bool}{x:DataW H×List MemPlace}
  (h:DataW.trod enc Tryz.prog w 0 spare held fuel 78 cs=some x):∃a n cap xs,cs=[.slice a n cap]/\n<=maxLen/\n<=cap/\xe w w.1.size a n xs/\∀s∈xs,s.cells.length<=maxLen:=by
 rcases open_slice Tryz.underlying78 h with ⟨rfl,_⟩|⟨a,len,cap,m,n,D,Pl,rfl,_,hl,hm,yQ,_,hx⟩
 ·exact⟨none,0,0,[],rfl,Nat.zero_le _,Nat.le_refl _,⟨rfl,.inl rfl⟩,fun s hs=>by cases hs⟩
 ·have J3:len<=m:=by rw[yQ];split<;>omega
  have key:∀i,i<len->∃s:K2,(∃a' aZ,(∀k,k<2->w.cell? ((a.add (i*2)).add k)=([vI s.b,.slice a' s.cells.length aZ]:List Value)[k]?)/\pE w w.1.size a' s.cells.length s.cells/\s.cells.length<=aZ)/\s.cells.length<=maxLen:=fun i hi=>by
   obtain⟨cs',h1,h2⟩:=hx i (by omega);rw[I4]at h1;obtain⟨s,a',aZ,rfl,t1,t2,t3⟩:=NG h2;exact⟨s,⟨a',aZ,(World.cells?_some h1).2.2,t1,t2⟩,t3⟩
  obtain⟨xs,hlen,oN⟩:=mq len key;refine⟨some a,len,cap,xs,rfl,by omega,by omega,⟨hlen,?_⟩,?_⟩
  ·by_cases h0:len=0
   ·exact .inl h0
   ·right;obtain⟨b,off,spot⟩:=a;obtain⟨s,hs⟩:=key 0 (by omega);obtain⟨⟨a',aZ,hs,_⟩,_⟩:=hs;have c0:=hs 0 (by omega);simp[Addr.add]at c0;have jq:spot=none:=by simpa using World.cell?_spot c0
    subst jq;refine⟨b,off,rfl,block_lt_of_cell c0,fun i s e=>?_⟩;have hk:=oN i s e;simp only[add_plain]at hk;obtain⟨⟨a',aZ,hk,t1,t2⟩,_⟩:=hk;exact⟨by simpa using hk 0 (by omega),a',aZ,by simpa using hk 1 (by omega),t1,t2⟩
  ·intro s hs;obtain⟨i,hi,rfl⟩:=List.getElem_of_mem hs;exact(oN i _ (List.getElem?_eq_getElem hi)).2
theorem Df{H:Type}{enc:TypeId×Value->H}{held:Bool}{x:DataW H×List MemPlace}
  (h:DataW.trod enc Tryz.prog w 0 spare held fuel 81 cs=some x):∃(v:MV) (m:M4),cs=[.bool m.x,.slice v.ac m.af.length v.cc,.slice v.al m.h.length v.cl,.slice v.ad m.ai.length v.cd]/\pF w v m/\m.af.length<=maxLen/\m.h.length<=maxLen/\m.ai.length<=maxLen/\(∀r∈m.af,r.cells.length<=maxLen)/\(∀r∈m.h,r.ag.length<=maxLen)/\m.af.length<=v.cc/\m.h.length<=v.cl/\m.ai.length<=v.cd:=by
 obtain⟨xs,n,_,rfl,hl,hlen,hf⟩:=DataW.trod_struct Tryz.underlying81 h;rw[O9]at hl;obtain⟨c0,c1,c2,c3,rfl⟩:=Jk hl;obtain⟨y0,y1,y2,y3,rfl⟩:=Jk hlen;have h0:=hf 0 _ rfl;have h1:=hf 1 _ rfl;have h2:=hf 2 _ rfl;have h3:=hf 3 _ rfl;simp[O8,Mq,Ms,Mm]at h0 h1 h2 h3;obtain⟨z0,e0,_⟩:=DataW.trod_bool Tryz.underlying4 h0;obtain⟨a1,n1,k1,ks,e1,l1,p1,s1,q1⟩:=Kr h1;obtain⟨a2,n2,k2,rs,e2,l2,p2,s2,q2⟩:=Kv h2;obtain⟨a3,n3,k3,zs,e3,l3,p3,s3⟩:=Ku h3;simp at e0 e1 e2 e3;subst e0 e1 e2 e3;obtain⟨rfl,s1'⟩:=s1;obtain⟨rfl,s2'⟩:=s2;obtain⟨rfl,s3'⟩:=s3;exact⟨⟨a1,k1,a2,k2,a3,k3⟩,⟨z0,ks,rs,zs⟩,rfl,⟨⟨rfl,s1'⟩,⟨rfl,s2'⟩,⟨rfl,s3'⟩⟩,l1,l2,l3,q1,q2,p1,p2,p3⟩
end om
namespace tx.ot
open Go.ChangeShapes Go.WideShapes Go.ChangeAt Go.RowKit Go.Deep
variable {cs:List Value}{fuel:Nat}{spare:Nat->Bool}{w:World}
theorem sQ:Tryz.prog.cellsOf 2=1:=by kernel_rfl
theorem yH:Tryz.prog.cellsOf 84=1:=by kernel_rfl
theorem Mr:Tryz.prog.cellsOf 83=1:=by kernel_rfl
theorem Pb:Tryz.prog.cellsOf 86=7:=by kernel_rfl
theorem Ri{α:Type}{cs:List α}(h:cs.length=7):∃c0 c1 c2 c3 c4 c5 c6,cs=[c0,c1,c2,c3,c4,c5,c6]:=by
 match cs,h with
 | [c0,c1,c2,c3,c4,c5,c6],_=>exact⟨c0,c1,c2,c3,c4,c5,c6,rfl⟩
theorem mq{α:Type}{p:Nat->α->Prop}(n:Nat)(h:∀i,i<n->∃x,p i x):∃xs:List α,xs.length=n/\∀i x,xs[i]?=some x->p i x:=by
 induction n with
 | zero=>exact⟨[],rfl,fun i x e=>by simp at e⟩
 | succ n ih=>
  obtain⟨xs,hl,hx⟩:=ih fun i hi=>h i (by omega)
  obtain⟨y,hy⟩:=h n (by omega);refine⟨xs++[y],by simp[hl],fun i x e=>?_⟩;by_cases hi:i<xs.length
  ·rw[List.getElem?_append_left hi]at e;exact hx i x e
  ·rw[List.getElem?_append_right (by omega)]at e
   have:i=xs.length:=by
    by_cases h2:i-xs.length=0
    ·omega
    ·rw[List.getElem?_eq_none (by simp;omega)]at e;cases e
   subst this;simp at e;subst e;rw[hl];exact hy
theorem y9{α:Type}{cs:List α}(h:cs.length=5):∃c0 c1 c2 c3 c4,cs=[c0,c1,c2,c3,c4]:=by
 match cs,h with
 | [c0,c1,c2,c3,c4],_=>exact⟨c0,c1,c2,c3,c4,rfl⟩
theorem mZ:Tryz.prog.cellsOf 205=5:=by kernel_rfl
theorem qE:Tryz.prog.cellsOf 2=1:=by kernel_rfl
theorem nS:Tryz.prog.cellsOf 4=1:=by kernel_rfl
def setCells(s:S5):List Value:=[vI s.b,vI s.e,vI s.g,.bool s.i,vI s.j]
def Xj(s:S5):Prop:=(Lit.int .i64 s.b).wf=true/\(Lit.int .i64 s.e).wf=true/\(Lit.int .i64 s.g).wf=true/\(Lit.int .i64 s.j).wf=true
theorem zL{H:Type}{enc:TypeId×Value->H}{base:Nat}{held:Bool}{x:DataW H×List MemPlace}
  (h:DataW.trod enc Tryz.prog w base spare held fuel 205 cs=some x):∃s:S5,cs=(setCells s)/\Xj s:=by
 obtain⟨xs,n,_,rfl,hl,hlen,hf⟩:=DataW.trod_struct Tryz.underlying205 h;rw[mZ]at hl;obtain⟨c0,c1,c2,c3,c4,rfl⟩:=y9 hl;obtain⟨y0,y1,y2,y3,y4,rfl⟩:=y9 hlen;have h0:=hf 0 _ rfl;have h1:=hf 1 _ rfl;have h2:=hf 2 _ rfl;have h3:=hf 3 _ rfl;have h4:=hf 4 _ rfl;simp[qE,nS]at h0 h1 h2 h3 h4;obtain⟨z0,e0,_,f0⟩:=DataW.trod_int Tryz.underlying2 h0;obtain⟨z1,e1,_,f1⟩:=DataW.trod_int Tryz.underlying2 h1;obtain⟨z2,e2,_,f2⟩:=DataW.trod_int Tryz.underlying2 h2;obtain⟨z3,e3,_⟩:=DataW.trod_bool Tryz.underlying4 h3;obtain⟨z4,e4,_,f4⟩:=DataW.trod_int Tryz.underlying2 h4;simp at e0 e1 e2 e3 e4;subst e0 e1 e2 e3 e4;exact⟨⟨z0,z1,z2,z3,z4⟩,rfl,f0,f1,f2,f4⟩
theorem vX{H:Type}{enc:TypeId×Value->H}{held:Bool}{x:DataW H×List MemPlace}
  (h:DataW.trod enc Tryz.prog w 0 spare held fuel 84 cs=some x):∃a n cap xs,cs=[.slice a n cap]/\n<=maxLen/\n<=cap/\Sl w w.1.size a n xs:=by
 rcases open_slice Tryz.underlying84 h with ⟨rfl,_⟩|⟨a,len,cap,m,n,D,Pl,rfl,_,hl,hm,yQ,_,hx⟩
 ·exact⟨none,0,0,[],rfl,Nat.zero_le _,Nat.le_refl _,⟨rfl,.inl rfl⟩⟩
 ·have J3:len<=m:=by rw[yQ];split<;>omega
  have key:∀i,i<len->∃s:S5,∀k,k<5->w.cell? ((a.add (i*5)).add k)=(setCells s)[k]?:=fun i hi=>by
   obtain⟨cs',h1,h2⟩:=hx i (by omega);rw[mZ]at h1;obtain⟨s,rfl,_⟩:=zL h2;exact⟨s,(World.cells?_some h1).2.2⟩
  obtain⟨xs,hlen,oN⟩:=mq len key;refine⟨some a,len,cap,xs,rfl,by omega,by omega,⟨hlen,?_⟩⟩
  ·by_cases h0:len=0
   ·exact .inl h0
   ·right;obtain⟨b,off,spot⟩:=a;obtain⟨s,hs⟩:=key 0 (by omega);have c0:w.cell? ⟨b,off,spot⟩=some (vI s.b):=by simpa[Addr.add,setCells]using hs 0 (by omega)
    have jq:spot=none:=by simpa using World.cell?_spot c0
    subst jq;refine⟨b,off,rfl,block_lt_of_cell c0,fun i s e=>?_⟩;have hk:=oN i s e;simp only[add_plain]at hk;exact⟨by simpa[setCells]using hk 0 (by omega),by simpa[setCells]using hk 1 (by omega),by simpa[setCells]using hk 2 (by omega),by simpa[setCells]using hk 3 (by omega),by simpa[setCells]using hk 4 (by omega)⟩
theorem yG:Tryz.prog.cellsOf 203=5:=by kernel_rfl
def jG(s:N5):List Value:=[vI s.b,vI s.e,vI s.j,vI s.g,.bool s.i]
def TD(s:N5):Prop:=(Lit.int .i64 s.b).wf=true/\(Lit.int .i64 s.e).wf=true/\(Lit.int .i64 s.j).wf=true/\(Lit.int .i64 s.g).wf=true
theorem Kt{H:Type}{enc:TypeId×Value->H}{base:Nat}{held:Bool}{x:DataW H×List MemPlace}
  (h:DataW.trod enc Tryz.prog w base spare held fuel 203 cs=some x):∃s:N5,cs=(jG s)/\TD s:=by
 obtain⟨xs,n,_,rfl,hl,hlen,hf⟩:=DataW.trod_struct Tryz.underlying203 h;rw[yG]at hl;obtain⟨c0,c1,c2,c3,c4,rfl⟩:=y9 hl;obtain⟨y0,y1,y2,y3,y4,rfl⟩:=y9 hlen;have h0:=hf 0 _ rfl;have h1:=hf 1 _ rfl;have h2:=hf 2 _ rfl;have h3:=hf 3 _ rfl;have h4:=hf 4 _ rfl;simp[qE,nS]at h0 h1 h2 h3 h4;obtain⟨z0,e0,_,f0⟩:=DataW.trod_int Tryz.underlying2 h0;obtain⟨z1,e1,_,f1⟩:=DataW.trod_int Tryz.underlying2 h1;obtain⟨z2,e2,_,f2⟩:=DataW.trod_int Tryz.underlying2 h2;obtain⟨z3,e3,_,f4⟩:=DataW.trod_int Tryz.underlying2 h3;obtain⟨z4,e4,_⟩:=DataW.trod_bool Tryz.underlying4 h4;simp at e0 e1 e2 e3 e4;subst e0 e1 e2 e3 e4;exact⟨⟨z0,z1,z2,z3,z4⟩,rfl,f0,f1,f2,f4⟩
theorem Hq{H:Type}{enc:TypeId×Value->H}{held:Bool}{x:DataW H×List MemPlace}
  (h:DataW.trod enc Tryz.prog w 0 spare held fuel 83 cs=some x):∃a n cap xs,cs=[.slice a n cap]/\n<=maxLen/\n<=cap/\jD w w.1.size a n xs:=by
 rcases open_slice Tryz.underlying83 h with ⟨rfl,_⟩|⟨a,len,cap,m,n,D,Pl,rfl,_,hl,hm,yQ,_,hx⟩
 ·exact⟨none,0,0,[],rfl,Nat.zero_le _,Nat.le_refl _,⟨rfl,.inl rfl⟩⟩
 ·have J3:len<=m:=by rw[yQ];split<;>omega
  have key:∀i,i<len->∃s:N5,∀k,k<5->w.cell? ((a.add (i*5)).add k)=(jG s)[k]?:=fun i hi=>by
   obtain⟨cs',h1,h2⟩:=hx i (by omega);rw[yG]at h1;obtain⟨s,rfl,_⟩:=Kt h2;exact⟨s,(World.cells?_some h1).2.2⟩
  obtain⟨xs,hlen,oN⟩:=mq len key;refine⟨some a,len,cap,xs,rfl,by omega,by omega,⟨hlen,?_⟩⟩
  ·by_cases h0:len=0
   ·exact .inl h0
   ·right;obtain⟨b,off,spot⟩:=a;obtain⟨s,hs⟩:=key 0 (by omega);have c0:w.cell? ⟨b,off,spot⟩=some (vI s.b):=by simpa[Addr.add,jG]using hs 0 (by omega)
    have jq:spot=none:=by simpa using World.cell?_spot c0
    subst jq;refine⟨b,off,rfl,block_lt_of_cell c0,fun i s e=>?_⟩;have hk:=oN i s e;simp only[add_plain]at hk;exact⟨by simpa[jG]using hk 0 (by omega),by simpa[jG]using hk 1 (by omega),by simpa[jG]using hk 2 (by omega),by simpa[jG]using hk 3 (by omega),by simpa[jG]using hk 4 (by omega)⟩
theorem Qf{H:Type}{enc:TypeId×Value->H}{held:Bool}{x:DataW H×List MemPlace}
  (h:DataW.trod enc Tryz.prog w 0 spare held fuel 86 cs=some x):∃(v:TV) (t:T7),cs=(tx.iC v.ar v.cr v.ah v.ch t)/\lW w v t/\TL t:=by
 obtain⟨xs,n,_,rfl,hl,hlen,hf⟩:=DataW.trod_struct Tryz.underlying86 h;rw[Pb]at hl;obtain⟨c0,c1,c2,c3,c4,c5,c6,rfl⟩:=Ri hl;obtain⟨y0,y1,y2,y3,y4,y5,y6,rfl⟩:=Ri hlen;have h0:=hf 0 _ rfl;have h1:=hf 1 _ rfl;have h2:=hf 2 _ rfl;have h3:=hf 3 _ rfl;have h4:=hf 4 _ rfl;have h5:=hf 5 _ rfl;have h6:=hf 6 _ rfl;simp[sQ,Mr,yH]at h0 h1 h2 h3 h4 h5 h6;obtain⟨z0,e0,_,_⟩:=DataW.trod_int Tryz.underlying2 h0;obtain⟨z1,e1,_,_⟩:=DataW.trod_int Tryz.underlying2 h1;obtain⟨z2,e2,_,_⟩:=DataW.trod_int Tryz.underlying2 h2;obtain⟨z3,e3,_,_⟩:=DataW.trod_int Tryz.underlying2 h3;obtain⟨a4,n4,k4,ns,e4,l4,p4,s4⟩:=Hq h4;obtain⟨a5,n5,k5,ss,e5,l5,p5,s5⟩:=vX h5;obtain⟨z6,e6,_,_⟩:=DataW.trod_int Tryz.underlying2 h6;simp at e0 e1 e2 e3 e4 e5 e6;subst e0 e1 e2 e3 e4 e5 e6;obtain⟨rfl,mT⟩:=s4;obtain⟨rfl,m7⟩:=s5;exact⟨⟨a4,k4,a5,k5⟩,⟨z0,z1,z2,z3,ns,ss,z6⟩,rfl,⟨⟨rfl,mT⟩,⟨rfl,m7⟩⟩,⟨l4,l5⟩⟩
end tx.ot
namespace oc
open Go.ChangeShapes Go.WideShapes Go.ChangeAt Go.RowKit Go.Deep
variable {cs:List Value}{fuel:Nat}{spare:Nat->Bool}{w:World}
theorem cells_one:Tryz.prog.cellsOf 2=1:=by kernel_rfl
theorem JL:Tryz.prog.cellsOf 74=1:=by kernel_rfl
theorem wO:Tryz.prog.cellsOf 76=1:=by kernel_rfl
theorem Rf{α:Type}{cs:List α}(h:cs.length=1):∃c0,cs=[c0]:=by
 match cs,h with
 | [c0],_=>exact⟨c0,rfl⟩
theorem yl{α:Type}{p:Nat->α->Prop}(n:Nat)(h:∀i,i<n->∃x,p i x):∃xs:List α,xs.length=n/\∀i x,xs[i]?=some x->p i x:=by
 induction n with
 | zero=>exact⟨[],rfl,fun i x e=>by simp at e⟩
 | succ n ih=>
  obtain⟨xs,hl,hx⟩:=ih fun i hi=>h i (by omega)
  obtain⟨y,hy⟩:=h n (by omega);refine⟨xs++[y],by simp[hl],fun i x e=>?_⟩;by_cases hi:i<xs.length
  ·rw[List.getElem?_append_left hi]at e;exact hx i x e
  ·rw[List.getElem?_append_right (by omega)]at e
   have:i=xs.length:=by
    by_cases h2:i-xs.length=0
    ·omega
    ·rw[List.getElem?_eq_none (by simp;omega)]at e;cases e
   subst this;simp at e;subst e;rw[hl];exact hy
theorem Fj{H:Type}{enc:TypeId×Value->H}{held:Bool}{x:DataW H×List MemPlace}
  (h:DataW.trod enc Tryz.prog w 0 spare held fuel 74 cs=some x):∃a n cap zs,cs=[.slice a n cap]/\n<=maxLen/\n<=cap/\mP w w.1.size a n zs:=by
 rcases open_slice Tryz.underlying74 h with ⟨rfl,_⟩|⟨a,len,cap,m,n,D,Pl,rfl,_,hl,hm,yQ,_,hx⟩
 ·exact⟨none,0,0,[],rfl,Nat.zero_le _,Nat.le_refl _,⟨rfl,.inl rfl⟩⟩
 ·have J3:len<=m:=by rw[yQ];split<;>omega
  have key:∀i,i<len->∃z:Int,w.cell? (a.add (i*1))=some (vI z):=fun i hi=>by
   obtain⟨cs',h1,h2⟩:=hx i (by omega);rw[cells_one]at h1;obtain⟨z,e,_⟩:=DataW.trod_int Tryz.underlying2 h2;subst e;have:=(World.cells?_some h1).2.2 0 (by omega);exact⟨z,by simpa[Addr.add]using this⟩
  obtain⟨zs,hlen,qL⟩:=yl len key;refine⟨some a,len,cap,zs,rfl,by omega,by omega,⟨hlen,?_⟩⟩;by_cases h0:len=0
  ·exact .inl h0
  ·right;obtain⟨b,off,spot⟩:=a;obtain⟨z,hz⟩:=key 0 (by omega);have c0:w.cell? ⟨b,off,spot⟩=some (vI z):=by simpa[Addr.add]using hz
   have jq:spot=none:=by simpa using World.cell?_spot c0
   subst jq;refine⟨b,off,rfl,block_lt_of_cell c0,fun i z e=>?_⟩;have hk:=qL i z e;simpa[add_plain]using hk
def IU(w:World)(v:Value)(zs:List Int):Prop:=∃a cap,v=.slice a zs.length cap/\mP w w.1.size a zs.length zs/\zs.length<=cap/\zs.length<=maxLen
theorem Hr{H:Type}{enc:TypeId×Value->H}{held:Bool}{x:DataW H×List MemPlace}
  (h:DataW.trod enc Tryz.prog w 0 spare held fuel 76 cs=some x):∃v zs,cs=[v]/\IU w v zs:=by
 obtain⟨xs,n,_,rfl,hl,hlen,hf⟩:=DataW.trod_struct Tryz.underlying76 h;rw[wO]at hl;obtain⟨c0,rfl⟩:=Rf hl;obtain⟨y0,rfl⟩:=Rf hlen;have h0:=hf 0 _ rfl;simp[JL]at h0;obtain⟨a,m,cap,zs,e,hm,hc,hs⟩:=Fj h0;simp at e;subst e;obtain rfl:zs.length=m:=hs.1;exact⟨_,zs,rfl,a,cap,rfl,hs,hc,hm⟩
theorem Ba{H:Type}{enc:TypeId×Value->H}{held:Bool}{x:DataW H×List MemPlace}
  (h:DataW.trod enc Tryz.prog w 0 spare held fuel 22 cs=some x):∃a n cap aO,cs=[.slice a n cap]/\n<=maxLen/\uS w w.1.size a n aO/\∀zs∈aO,zs.length<=maxLen:=by
 rcases open_slice Tryz.underlying22 h with ⟨rfl,_⟩|⟨a,len,cap,m,n,D,Pl,rfl,_,hl,hm,yQ,_,hx⟩
 ·exact⟨none,0,0,[],rfl,Nat.zero_le _,⟨rfl,.inl rfl⟩,fun zs h=>by simp at h⟩
 ·have J3:len<=m:=by rw[yQ];split<;>omega
  have key:∀i,i<len->∃zs:List Int,∃v,w.cell? (a.add (i*1))=some v/\IU w v zs:=fun i hi=>by
   obtain⟨cs',h1,h2⟩:=hx i (by omega);rw[wO]at h1;obtain⟨v,zs,rfl,hp⟩:=Hr h2;have:=(World.cells?_some h1).2.2 0 (by omega);exact⟨zs,v,by simpa[Addr.add]using this,hp⟩
  obtain⟨aO,hlen,qL⟩:=yl len key;refine⟨some a,len,cap,aO,rfl,by omega,⟨hlen,?_⟩,fun zs hz=>?_⟩
  ·by_cases h0:len=0
   ·exact .inl h0
   ·right;obtain⟨b,off,spot⟩:=a;obtain⟨zs,v,hz,_⟩:=key 0 (by omega);have c0:w.cell? ⟨b,off,spot⟩=some v:=by simpa[Addr.add]using hz
    have jq:spot=none:=by simpa using World.cell?_spot c0
    subst jq;refine⟨b,off,rfl,block_lt_of_cell c0,fun i zs e=>?_⟩;obtain⟨v,hk,a',aZ,rfl,hs,hc,_⟩:=qL i zs e;exact⟨a',aZ,by simpa[add_plain]using hk,hs,hc⟩
  ·obtain⟨i,hi,rfl⟩:=List.getElem_of_mem hz;obtain⟨v,_,_,_,_,_,_,hm⟩:=qL i _ (List.getElem?_eq_getElem hi);exact hm
theorem D7:Tryz.prog.cellsOf 81=4:=by kernel_rfl
theorem Ho{H:Type}{enc:TypeId×Value->H}{held:Bool}{x:DataW H×List MemPlace}
  (h:DataW.trod enc Tryz.prog w 0 spare held fuel 23 cs=some x):∃(a:Option Addr) (cap:Nat) (xs:List M4),cs=[.slice a xs.length cap]/\xs.length<=maxLen/\fZ.qM w a xs/\∀d∈xs,ML d:=by
 rcases open_slice Tryz.underlying23 h with ⟨rfl,_⟩|⟨a,len,cap,m,n,DD,Pl,rfl,_,hl,hm,yQ,_,hx⟩
 ·exact⟨none,0,[],rfl,Nat.zero_le _,.inl rfl,fun s hs=>by cases hs⟩
 ·have J3:len<=m:=by rw[yQ];split<;>omega
  have key:∀i,i<len->∃d:M4,∃v:MV,(∀k,k<4->w.cell? ((a.add (i*4)).add k)=(fZ.cells v d)[k]?)/\fZ.Rd w v d/\ML d:=fun i hi=>by
   obtain⟨cs',h1,h2⟩:=hx i (by omega);rw[D7]at h1;obtain⟨v,d,rfl,t1,l1,l2,l3,k1,k2,_⟩:=om.Df h2;exact⟨d,v,(World.cells?_some h1).2.2,t1,⟨l1,k1,l2,k2,l3⟩⟩
  obtain⟨xs,hlen,oN⟩:=yl len key;subst hlen;refine⟨some a,cap,xs,rfl,by omega,?_,?_⟩
  ·by_cases h0:xs=[]
   ·exact .inl h0
   ·right;obtain⟨b,off,spot⟩:=a;obtain⟨d,v,hs,_⟩:=key 0 (by have:=List.length_pos_iff.2 h0;omega);have c0:=hs 0 (by omega);simp[Addr.add,fZ]at c0;have jq:spot=none:=by simpa using World.cell?_spot c0
    subst jq;refine⟨b,off,rfl,block_lt_of_cell c0,fun i d e=>?_⟩;obtain⟨v,hk,t1,_⟩:=oN i d e;simp only[add_plain]at hk;refine⟨v,fun j u hu=>?_,t1⟩;have hj:j<4:=by have:=(List.getElem?_eq_some_iff.1 hu).1;rwa[fZ.len]at this
    have:=hk j hj;rw[hu]at this;exact this
  ·intro d hd;obtain⟨i,hi,rfl⟩:=List.getElem_of_mem hd;obtain⟨_,_,_,h3⟩:=oN i _ (List.getElem?_eq_getElem hi);exact h3
theorem JM:Tryz.prog.cellsOf 86=7:=by kernel_rfl
theorem NI{H:Type}{enc:TypeId×Value->H}{held:Bool}{x:DataW H×List MemPlace}
  (h:DataW.trod enc Tryz.prog w 0 spare held fuel 24 cs=some x):∃(a:Option Addr) (cap:Nat) (xs:List tx.T7),cs=[.slice a xs.length cap]/\xs.length<=maxLen/\fQ.qM w a xs/\∀d∈xs,tx.TL d:=by
 rcases open_slice Tryz.underlying24 h with ⟨rfl,_⟩|⟨a,len,cap,m,n,DD,Pl,rfl,_,hl,hm,yQ,_,hx⟩
 ·exact⟨none,0,[],rfl,Nat.zero_le _,.inl rfl,fun s hs=>by cases hs⟩
 ·have J3:len<=m:=by rw[yQ];split<;>omega
  have key:∀i,i<len->∃d:tx.T7,∃v:tx.TV,(∀k,k<7->w.cell? ((a.add (i*7)).add k)=(fQ.cells v d)[k]?)/\fQ.Rd w v d/\tx.TL d:=fun i hi=>by
   obtain⟨cs',h1,h2⟩:=hx i (by omega);rw[JM]at h1;obtain⟨v,d,rfl,t1,l1⟩:=tx.ot.Qf h2;exact⟨d,v,(World.cells?_some h1).2.2,t1,l1⟩
  obtain⟨xs,hlen,oN⟩:=yl len key;subst hlen;refine⟨some a,cap,xs,rfl,by omega,?_,?_⟩
  ·by_cases h0:xs=[]
   ·exact .inl h0
   ·right;obtain⟨b,off,spot⟩:=a;obtain⟨d,v,hs,_⟩:=key 0 (by have:=List.length_pos_iff.2 h0;omega);have c0:=hs 0 (by omega);simp[Addr.add,fQ]at c0;have jq:spot=none:=by simpa using World.cell?_spot c0
    subst jq;refine⟨b,off,rfl,block_lt_of_cell c0,fun i d e=>?_⟩;obtain⟨v,hk,t1,_⟩:=oN i d e;simp only[add_plain]at hk;refine⟨v,fun j u hu=>?_,t1⟩;have hj:j<7:=by have:=(List.getElem?_eq_some_iff.1 hu).1;rwa[fQ.len]at this
    have:=hk j hj;rw[hu]at this;exact this
  ·intro d hd;obtain⟨i,hi,rfl⟩:=List.getElem_of_mem hd;obtain⟨_,_,_,h3⟩:=oN i _ (List.getElem?_eq_getElem hi);exact h3
theorem Mh:Tryz.prog.cellsOf 26=6:=by kernel_rfl
theorem Ml:Tryz.prog.cellsOf 22=1:=by kernel_rfl
theorem Mk:Tryz.prog.cellsOf 23=1:=by kernel_rfl
theorem Mo:Tryz.prog.cellsOf 24=1:=by kernel_rfl
theorem Mj:Tryz.prog.cellsOf 4=1:=by kernel_rfl
theorem Rh{α:Type}{cs:List α}(h:cs.length=6):∃c0 c1 c2 c3 c4 c5,cs=[c0,c1,c2,c3,c4,c5]:=by
 match cs,h with
 | [c0,c1,c2,c3,c4,c5],_=>exact⟨c0,c1,c2,c3,c4,c5,rfl⟩
theorem De{H:Type}{enc:TypeId×Value->H}{held:Bool}{x:DataW H×List MemPlace}
  (h:DataW.trod enc Tryz.prog w 0 spare held fuel 26 cs=some x):∃(a1:Option Addr) (c1:Nat) (a2:Option Addr) (c2:Nat) (a3:Option Addr) (c3:Nat) (k:C6),cs=(dJ a1 c1 a2 c2 a3 c3 k)/\bK.Rd w a1 c1 a2 c2 a3 c3 k/\bK.L k:=by
 obtain⟨xs,n,_,rfl,hl,hlen,hf⟩:=DataW.trod_struct Tryz.underlying26 h;rw[Mh]at hl;obtain⟨c0,c1,c2,c3,c4,c5,rfl⟩:=Rh hl;obtain⟨y0,y1,y2,y3,y4,y5,rfl⟩:=Rh hlen;have h0:=hf 0 _ rfl;have h1:=hf 1 _ rfl;have h2:=hf 2 _ rfl;have h3:=hf 3 _ rfl;have h4:=hf 4 _ rfl;have h5:=hf 5 _ rfl;simp[cells_one,Ml,Mk,Mo,Mj]at h0 h1 h2 h3 h4 h5;obtain⟨z0,e0,_,_⟩:=DataW.trod_int Tryz.underlying2 h0;obtain⟨z1,e1,_,_⟩:=DataW.trod_int Tryz.underlying2 h1;obtain⟨a1,n1,k1,aO,e2,l1,s1,q1⟩:=Ba h2;obtain⟨a2,k2,ms,e3,l2,s2,q2⟩:=Ho h3;obtain⟨a3,k3,ts,e4,l3,s3,q3⟩:=NI h4;obtain⟨z5,e5,_⟩:=DataW.trod_bool Tryz.underlying4 h5;simp at e0 e1 e2 e3 e4 e5;subst e0 e1 e2 e3 e4 e5;obtain rfl:aO.length=n1:=s1.1;exact⟨a1,k1,a2,k2,a3,k3,⟨z0,z1,aO,ms,ts,z5⟩,rfl,⟨s1,s2,s3⟩,⟨l1,q1,l2,q2,l3,q3⟩⟩
end oc
end Go.Proofs.YtalnmfefmiapoaaGreatDoor
