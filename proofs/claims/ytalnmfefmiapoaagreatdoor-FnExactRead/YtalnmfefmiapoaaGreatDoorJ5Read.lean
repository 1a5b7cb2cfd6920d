import Derived.Test.YtalnmfefmiapoaaGreatDoorJ4Read
set_option maxHeartbeats 16000000
set_option maxRecDepth 100000
namespace Go.Proofs.YtalnmfefmiapoaaGreatDoor
open Go.RowKit
open Go.Sort (grow)
namespace tx
theorem fP{s:N5}(h:bn s=true):aY 0 5 s.b=true/\aY 0 5 s.e=true:=by simp only[bn,Bool.and_eq_true]at h;exact⟨h.1.1.1,h.1.1.2⟩
theorem Fb(w:World)(s:N5)(g:Nat)(hg:w.cell? ⟨g,0,none⟩=some (.func (.func 207) #[] #[]))(hl:g<w.1.size):Calls Tryz.prog 253 #[.agg #[vI s.b,vI s.e,vI s.j,vI s.g,.bool s.i],.pointer (some ⟨g,0,none⟩)] w fun e w'=>e=.returned (.bool (!bn s))/\Below w.1.size w w':=by
 obtain⟨W,hW⟩:∃W,W=w.alloc (.cells #[vI s.b,vI s.e,vI s.j,vI s.g,.bool s.i] 112):=⟨_,rfl⟩
 have b0:Below w.1.size w W:=by rw[hW];exact aJ.alloc aR _
 have d:=(b0.cell (p:=⟨g,0,none⟩) hl).trans hg;have c1:=yX W s;have KB:Hid (Below w.1.size w W):=b0;clear hg hl b0;rw[hW]at d;go_enter Tryz.func253,Tryz.ntmps253;go_wp2_with fail;rw[<-hW];refine c1.mono ?_;clear c1 hW d;rintro e w1 ⟨rfl,b1⟩;go_wp2;go_ret;exact⟨rfl,KB.out.trans (b1.mono KB.out.size)⟩
theorem WV(w:World)(a:Option Addr)(cap:Nat)(xs:List N5)(g:Nat)(hn:xs.length<=maxLen)(hs:jD w w.1.size a xs.length xs)(hg:w.cell? ⟨g,0,none⟩=some (.func (.func 207) #[] #[]))(uT:g<w.1.size):
  Calls Tryz.prog 263 #[.slice a xs.length cap,.func (.func 253) #[] #[.pointer (some ⟨g,0,none⟩)]] w fun e w'=>(∃i:Int,e=.returned (vI i)/\eH (fun i=>!bn (au xs i)) xs.length i)/\Below w.1.size w w':=by
 unfold maxLen at hn;obtain⟨hx,hs⟩:=hs;clear hx;obtain⟨f,hf⟩:∃f:Nat->Bool,f=fun i=>!bn (au xs i):=⟨_,rfl⟩
 have HF:Hid (∀(X:World) (i:Nat),Below w.1.size w X->Calls Tryz.prog 253 #[.agg #[vI (au xs i).b,vI (au xs i).e,vI (au xs i).j,vI (au xs i).g,.bool (au xs i).i],.pointer (some ⟨g,0,none⟩)] X fun e w'=>e=.returned (.bool (f i))/\Below X.1.size X w'):=fun X i hX=>by
  rw[hf];exact Fb X (au xs i) g ((hX.cell (p:=⟨g,0,none⟩) uT).trans hg) (Nat.lt_of_lt_of_le uT hX.size)
 rw[<-hf];clear hf hg;obtain⟨n,hN⟩:∃n,n=xs.length:=⟨_,rfl⟩
 rw[<-hN]at hn hs ⊢;have HN:Hid (n=xs.length):=hN;clear hN;go_enter Tryz.func263,Tryz.ntmps263;go_wp2;go_loopw[8] (fun v wr=>∃j:Nat,j<=n/\v=vI j/\Below w.1.size w wr/\∀i,i<j->f i=false) (fun v _=>n-(intOf v).toNat)
 case atStart=>exact⟨0,Nat.zero_le _,rfl,aJ,fun i h=>absurd h (by omega)⟩
 case round=>
  obtain⟨j,hj,rfl,aF,aP⟩:=hrel;by_cases aN:j<n
  ·rcases hs with hs|⟨b,off,rfl,hb,h1⟩
   ·omega
   ·obtain⟨c0,c1,c2,c3,c4⟩:=(h1.below aF hb) j _ (fE (by rw[<-HN.out];exact aN));have KA:Hid ((∀i,i<j->f i=false)/\Below w.1.size w wr):=⟨aP,aF⟩
    have hw:=HF.out wr j aF;clear h1 aP aF
    cases hp:f j with
    | true=>
     rw[hp]at hw;go_wp2_with fail;refine hw.mono ?_;clear hw;rintro e w1 ⟨rfl,b1⟩;go_wp2;go_ret;exact⟨⟨_,rfl,.inr ⟨j,rfl,aN,hp,KA.out.1⟩⟩,KA.out.2.trans (b1.mono KA.out.2.size)⟩
    | false=>
     rw[hp]at hw;go_wp2_with fail;refine hw.mono ?_;clear hw;rintro e w1 ⟨rfl,b1⟩;go_wp2
     exact⟨⟨j+1,by omega,by simp,KA.out.2.trans (b1.mono KA.out.2.size),fun i hi=>by
      by_cases e:i=j
      ·rw[e];exact hp
      ·exact KA.out.1 i (by omega)⟩,by simp[intOf];omega⟩
  ·have:j=n:=by omega
   subst this;have hd:decide ((j:Int)<(j:Int))=false:=by simp
   have KA:Hid (∀i,i<j->f i=false):=aP;clear hs aP;go_wp2;go_ret;exact⟨⟨_,rfl,.inl ⟨rfl,KA.out⟩⟩,aF⟩
theorem WU(w:World)(a:Option Addr)(cap:Nat)(xs:List N5)(g:Nat)(hn:xs.length<=maxLen)(hs:jD w w.1.size a xs.length xs)(hg:w.cell? ⟨g,0,none⟩=some (.func (.func 207) #[] #[]))(uT:g<w.1.size):
  Calls Tryz.prog 250 #[.slice a xs.length cap,.func (.func 253) #[] #[.pointer (some ⟨g,0,none⟩)]] w fun e w'=>e=.returned (.bool (!((List.range xs.length).all fun i=>bn (au xs i))))/\Below w.1.size w w':=by
 have c1:=WV w a cap xs g hn hs hg uT
 have HE:Hid (∀i:Int,eH (fun i=>!bn (au xs i)) xs.length i->decide (0<=i)=!((List.range xs.length).all fun i=>bn (au xs i))):=fun i h=>by
  rw[gT h];simp
 clear hn hs hg uT;go_enter Tryz.func250,Tryz.ntmps250;go_wp2_with fail;refine c1.mono ?_;clear c1;rintro e w1 ⟨⟨i,rfl,hi⟩,b1⟩;have KE:Hid (decide (0<=i)=!((List.range xs.length).all fun i=>bn (au xs i))):=HE.out i hi;clear hi HE;go_wp2;go_ret;exact⟨by rw[<-KE.out];rfl,b1⟩
def vU(xs:List N5)(i:Nat):Bool:=decide (i=0)||decide (rk (au xs (i-1)).b (au xs (i-1)).e<rk (au xs i).b (au xs i).e)
theorem E8(w:World)(a:Option Addr)(cap:Nat)(xs:List N5)(hn:xs.length<=maxLen)(hs:jD w w.1.size a xs.length xs)(je:∀i,i<xs.length->bn (au xs i)=true):
  Calls Tryz.prog 254 #[.slice a xs.length cap,.func (.func 224) #[] #[]] w fun e w'=>e=.returned (.bool ((List.range xs.length).all (vU xs)))/\Below w.1.size w w':=by
 unfold maxLen at hn;obtain⟨_,hs⟩:=hs;have HO:=aB je;clear je;obtain⟨n,hN⟩:∃n,n=xs.length:=⟨_,rfl⟩
 have HN:Hid (n=xs.length):=hN;rw[<-hN]at hn hs ⊢;clear hN;go_enter Tryz.func254,Tryz.ntmps254;go_wp2;go_loopw[5] (fun v wr=>∃j:Nat,(j<=n\/n=0/\j=1)/\0<j/\v=vI j/\Below w.1.size w wr/\(List.range j).all (vU xs)=true) (fun v _=>n-(intOf v).toNat)
 case atStart=>exact⟨1,by omega,by omega,rfl,aJ,by simp[vU]⟩
 case round=>
  obtain⟨j,hj,UT,rfl,aF,aP⟩:=hrel;by_cases aN:j<n
  ·rcases hs with hs|⟨b,off,rfl,hb,h1⟩
   ·omega
   obtain⟨i,rfl⟩:∃i,j=i+1:=⟨j-1,by omega⟩
   obtain⟨t0,t1,t2,t3,t4⟩:=(h1.below aF hb) (i+1) _ (fE (by rw[<-HN.out];exact aN));obtain⟨u0,u1,u2,u3,u4⟩:=(h1.below aF hb) i _ (fE (by rw[<-HN.out];omega));have qJ:b<wr.1.size:=Nat.lt_of_lt_of_le hb aF.size;have lift:∀{o:Nat}{u:Value},wr.cell? ⟨b,o,none⟩=some u->∀d os,(grow (redrawn wr d) os).cell? ⟨b,o,none⟩=some u:=fun {o u} h d os=>((below_regrown wr d os).cell (p:=⟨b,o,none⟩) qJ).trans h
   have x0:=lift t0;have x1:=lift t1;have x2:=lift t2;have x3:=lift t3;have x4:=lift t4;have y0:=lift u0;have y1:=lift u1;have y2:=lift u2;have y3:=lift u3;have y4:=lift u4;have k1:=fP (HO.out (i+1) (by rw[<-HN.out];exact aN));have k2:=fP (HO.out i (by rw[<-HN.out];omega));have cA:∀d os,Calls Tryz.prog 224 #[.agg #[vI (au xs (i+1)).b,vI (au xs (i+1)).e,vI (au xs (i+1)).j,vI (au xs (i+1)).g,.bool (au xs (i+1)).i]] (grow (redrawn wr d) os) fun e fq=>e=.returned (vI (rk (au xs (i+1)).b (au xs (i+1)).e))/\∃p:Regrown,fq=grow (redrawn wr p.d) p.os:=fun d os=>Calls.regrown_of (oD _ _ k1.1 k1.2)
   have cB:∀d os,Calls Tryz.prog 224 #[.agg #[vI (au xs i).b,vI (au xs i).e,vI (au xs i).j,vI (au xs i).g,.bool (au xs i).i]] (grow (redrawn wr d) os) fun e fq=>e=.returned (vI (rk (au xs i).b (au xs i).e))/\∃p:Regrown,fq=grow (redrawn wr p.d) p.os:=fun d os=>Calls.regrown_of (oD _ _ k2.1 k2.2)
   have K:Hid (Below w.1.size w wr/\(List.range (i+1)).all (vU xs)=true):=⟨aF,aP⟩
   have hi:(i:Int)<(n:Int):=by omega
   clear lift t0 t1 t2 t3 t4 u0 u1 u2 u3 u4 k1 k2 h1 aF aP;have U:Hid (vU xs (i+1)=decide (rk (au xs i).b (au xs i).e<rk (au xs (i+1)).b (au xs (i+1)).e)):=by unfold Hid;simp[vU]
   have HL:Hid (i+1<n):=aN;have kt:((i+1:Nat):Int)<(n:Int):=by omega
   clear aN;generalize rk (au xs (i+1)).b (au xs (i+1)).e=x at *;generalize rk (au xs i).b (au xs i).e=y at *;generalize (au xs (i+1)).b=a0 at *;generalize (au xs (i+1)).e=a1 at *;generalize (au xs (i+1)).g=a2 at *;generalize (au xs (i+1)).i=a3 at *;generalize (au xs (i+1)).j=a4 at *;generalize (au xs i).b=e0 at *;generalize (au xs i).e=e1 at *;generalize (au xs i).g=e2 at *;generalize (au xs i).i=e3 at *;generalize (au xs i).j=e4 at *;by_cases hq:x<=y
   ·have KU:Hid (vU xs (i+1)=false):=by unfold Hid;rw[U.out];simp;omega
    have dq:decide (x<=y)=true:=by simpa using hq
    clear hq U;go_wp2_with fail;refine wp_region_quiet_below (by kernel_rfl) (by kernel_rfl) ?_;repeat (go_big_quiet_step (first|(go_at_call_of 224 (Value.agg #[vI a0,vI a1,vI a4,vI a2,.bool a3]);exact cA _ _)|(go_at_call_of 224 (Value.agg #[vI e0,vI e1,vI e4,vI e2,.bool e3]);exact cB _ _)))
    refine wpQuiet_nil ?_;intro _ dD;obtain⟨⟨lH,bI⟩,aT⟩:=dD;subst aT;have bq:=below_regrown wr lH bI;go_wp2;go_ret;exact⟨by rw[lg HL.out KU.out];rfl,K.out.1.trans (bq.mono K.out.1.size)⟩
   ·have KU:Hid (vU xs (i+1)=true):=by unfold Hid;rw[U.out];simp;omega
    have dq:decide (x<=y)=false:=by simpa using hq
    clear hq U;go_wp2_with fail;refine wp_region_quiet_below (by kernel_rfl) (by kernel_rfl) ?_;repeat (go_big_quiet_step (first|(go_at_call_of 224 (Value.agg #[vI a0,vI a1,vI a4,vI a2,.bool a3]);exact cA _ _)|(go_at_call_of 224 (Value.agg #[vI e0,vI e1,vI e4,vI e2,.bool e3]);exact cB _ _)))
    refine wpQuiet_nil ?_;intro _ dD;obtain⟨⟨lH,bI⟩,aT⟩:=dD;subst aT;have bq:=below_regrown wr lH bI;go_wp2;exact⟨⟨i+1+1,.inl HL.out,by omega,by simp,K.out.1.trans (bq.mono K.out.1.size),lh K.out.2 KU.out⟩,by have:=HL.out;simp[intOf];omega⟩
  ·have hd:decide ((j:Int)<(n:Int))=false:=by simp;omega
   have KA:Hid ((List.range n).all (vU xs)=true):=by
    unfold Hid;rw[List.all_eq_true]at aP ⊢;exact fun x hx=>aP x (List.mem_range.2 (by have:=List.mem_range.1 hx;omega))
   clear hs aP;go_wp2;go_ret;exact⟨by rw[KA.out];rfl,aF⟩
theorem EZ{xs:List N5}:(List.range xs.length).all (oz xs)=((List.range xs.length).all (fun i=>bn (au xs i))&&(List.range xs.length).all (vU xs)):=by
 rw[Bool.eq_iff_iff,Bool.and_eq_true,List.all_eq_true,List.all_eq_true,List.all_eq_true];constructor
 ·intro h
  have h1:∀i,i<xs.length->bn (au xs i)=true:=fun i hi=>by
   have:=h i (List.mem_range.2 hi);simp only[oz,Bool.and_eq_true]at this;exact this.1
  refine⟨fun i hi=>h1 i (List.mem_range.1 hi),fun i hi=>?_⟩;have Aj:=List.mem_range.1 hi;have:=h i hi;simp only[oz,Bool.and_eq_true,Bool.or_eq_true,decide_eq_true_eq]at this;simp only[vU,Bool.or_eq_true,decide_eq_true_eq];by_cases e:i=0
  ·exact .inl e
  ·rcases this.2 with e'|e'
   ·exact .inl e'
   ·rw[qF (fP (h1 (i-1) (by omega))).2 (fP (h1 i Aj)).2]at e';exact .inr (by simpa using e')
 ·rintro ⟨h1,h2⟩ i hi;have Aj:=List.mem_range.1 hi;have g1:=h1 i hi;have g2:=h2 i hi;simp only[vU,Bool.or_eq_true,decide_eq_true_eq]at g2;simp only[oz,Bool.and_eq_true,Bool.or_eq_true,decide_eq_true_eq];refine⟨g1,?_⟩;by_cases e:i=0
  ·exact .inl e
  ·rcases g2 with e'|e'
   ·exact .inl e'
   ·refine .inr ?_;rw[qF (fP (h1 (i-1) (List.mem_range.2 (by omega)))).2 (fP g1).2];simpa using e'
theorem G7(w:World)(a:Option Addr)(cap:Nat)(xs:List N5)(hn:xs.length<=maxLen)(hs:jD w w.1.size a xs.length xs):
  Calls Tryz.prog 231 #[.slice a xs.length cap,.func (.func 207) #[] #[]] w fun e w'=>e=.returned (.bool (decide (xs.length<=12)&&(List.range xs.length).all (oz xs)))/\Below w.1.size w w':=by
 obtain⟨W,hW⟩:∃W,W=w.alloc (.cells #[.func (.func 207) #[] #[]] 150):=⟨_,rfl⟩
 have b0:Below w.1.size w W:=by rw[hW];exact aJ.alloc aR _
 have g0:W.cell? ⟨w.1.size,0,none⟩=some (.func (.func 207) #[] #[]):=by rw[hW];go_simp
 have s0:w.1.size<W.1.size:=by rw[hW];simp
 have c1:=WU W a cap xs w.1.size hn (hs.later b0) g0 s0;have H:Hid (jD w w.1.size a xs.length xs/\xs.length<=maxLen/\Below w.1.size w W):=⟨hs,hn,b0⟩
 have HA:=aB (@EZ xs);clear hs b0 g0 s0;unfold maxLen at hn;by_cases BG:xs.length<=12
 case neg=>
  have d12:decide ((xs.length:Int)<=12)=false:=by simp;omega
  have KN:Hid (decide (xs.length<=12)=false):=by unfold Hid;simp;omega
  rw[hW]at H;clear c1 hW BG;go_enter Tryz.func231,Tryz.ntmps231;go_wp2;go_ret;exact⟨by rw[KN.out];rfl,H.out.2.2⟩
 have d12:decide ((xs.length:Int)<=12)=true:=by simp;omega
 have KN:Hid (decide (xs.length<=12)=true):=by unfold Hid;simp;omega
 cases Eo:(List.range xs.length).all (fun i=>bn (au xs i))with
 | false=>
  rw[Eo]at c1;clear BG;go_enter Tryz.func231,Tryz.ntmps231;go_wp2_with fail;rw[<-hW];clear hW;refine c1.mono ?_;clear c1;rintro e w1 ⟨rfl,b1⟩;go_wp2;go_ret;exact⟨by rw[KN.out,HA.out,Eo];rfl,H.out.2.2.trans (b1.mono H.out.2.2.size)⟩
 | true=>
  rw[Eo]at c1;have HO:Hid (∀i,i<xs.length->bn (au xs i)=true):=fun i hi=>List.all_eq_true.1 Eo i (List.mem_range.2 hi)
  clear BG;go_enter Tryz.func231,Tryz.ntmps231;go_wp2_with fail;rw[<-hW];clear hW;refine c1.mono ?_;clear c1;rintro e w1 ⟨rfl,b1⟩;have bw:Below w.1.size w w1:=H.out.2.2.trans (b1.mono H.out.2.2.size);have c2:=E8 w1 a cap xs H.out.2.1 (H.out.1.later bw) HO.out;have KB:Hid (Below w.1.size w w1):=bw;clear b1 bw;go_wp2_with fail;refine c2.mono ?_;clear c2;rintro e w2 ⟨rfl,b2⟩;go_wp2;go_ret;exact⟨by rw[KN.out,HA.out,Eo];rfl,KB.out.trans (b2.mono KB.out.size)⟩
theorem kX{s:S5}(h:dw s=true):aY 0 5 s.b=true/\aY 0 5 s.e=true:=by simp only[dw,Bool.and_eq_true]at h;exact⟨h.1.1.1,h.1.1.2⟩
theorem FN(w:World)(s:S5)(g:Nat)(hg:w.cell? ⟨g,0,none⟩=some (.func (.func 233) #[] #[]))(hl:g<w.1.size):Calls Tryz.prog 255 #[.agg #[vI s.b,vI s.e,vI s.g,.bool s.i,vI s.j],.pointer (some ⟨g,0,none⟩)] w fun e w'=>e=.returned (.bool (!dw s))/\Below w.1.size w w':=by
 obtain⟨W,hW⟩:∃W,W=w.alloc (.cells #[vI s.b,vI s.e,vI s.g,.bool s.i,vI s.j] 100):=⟨_,rfl⟩
 have b0:Below w.1.size w W:=by rw[hW];exact aJ.alloc aR _
 have d:=(b0.cell (p:=⟨g,0,none⟩) hl).trans hg;have c1:=vK W s;have KB:Hid (Below w.1.size w W):=b0;clear hg hl b0;rw[hW]at d;go_enter Tryz.func255,Tryz.ntmps255;go_wp2_with fail;rw[<-hW];refine c1.mono ?_;clear c1 hW d;rintro e w1 ⟨rfl,b1⟩;go_wp2;go_ret;exact⟨rfl,KB.out.trans (b1.mono KB.out.size)⟩
theorem Xg(w:World)(a:Option Addr)(cap:Nat)(xs:List S5)(g:Nat)(hn:xs.length<=maxLen)(hs:Sl w w.1.size a xs.length xs)(hg:w.cell? ⟨g,0,none⟩=some (.func (.func 233) #[] #[]))(uT:g<w.1.size):
  Calls Tryz.prog 264 #[.slice a xs.length cap,.func (.func 255) #[] #[.pointer (some ⟨g,0,none⟩)]] w fun e w'=>(∃i:Int,e=.returned (vI i)/\eH (fun i=>!dw (ax xs i)) xs.length i)/\Below w.1.size w w':=by
 unfold maxLen at hn;obtain⟨hx,hs⟩:=hs;clear hx;obtain⟨f,hf⟩:∃f:Nat->Bool,f=fun i=>!dw (ax xs i):=⟨_,rfl⟩
 have HF:Hid (∀(X:World) (i:Nat),Below w.1.size w X->Calls Tryz.prog 255 #[.agg #[vI (ax xs i).b,vI (ax xs i).e,vI (ax xs i).g,.bool (ax xs i).i,vI (ax xs i).j],.pointer (some ⟨g,0,none⟩)] X fun e w'=>e=.returned (.bool (f i))/\Below X.1.size X w'):=fun X i hX=>by
  rw[hf];exact FN X (ax xs i) g ((hX.cell (p:=⟨g,0,none⟩) uT).trans hg) (Nat.lt_of_lt_of_le uT hX.size)
 rw[<-hf];clear hf hg;obtain⟨n,hN⟩:∃n,n=xs.length:=⟨_,rfl⟩
 rw[<-hN]at hn hs ⊢;have HN:Hid (n=xs.length):=hN;clear hN;go_enter Tryz.func264,Tryz.ntmps264;go_wp2;go_loopw[8] (fun v wr=>∃j:Nat,j<=n/\v=vI j/\Below w.1.size w wr/\∀i,i<j->f i=false) (fun v _=>n-(intOf v).toNat)
 case atStart=>exact⟨0,Nat.zero_le _,rfl,aJ,fun i h=>absurd h (by omega)⟩
 case round=>
  obtain⟨j,hj,rfl,aF,aP⟩:=hrel;by_cases aN:j<n
  ·rcases hs with hs|⟨b,off,rfl,hb,h1⟩
   ·omega
   ·obtain⟨c0,c1,c2,c3,c4⟩:=(h1.below aF hb) j _ (gM (by rw[<-HN.out];exact aN));have KA:Hid ((∀i,i<j->f i=false)/\Below w.1.size w wr):=⟨aP,aF⟩
    have hw:=HF.out wr j aF;clear h1 aP aF
    cases hp:f j with
    | true=>
     rw[hp]at hw;go_wp2_with fail;refine hw.mono ?_;clear hw;rintro e w1 ⟨rfl,b1⟩;go_wp2;go_ret;exact⟨⟨_,rfl,.inr ⟨j,rfl,aN,hp,KA.out.1⟩⟩,KA.out.2.trans (b1.mono KA.out.2.size)⟩
    | false=>
     rw[hp]at hw;go_wp2_with fail;refine hw.mono ?_;clear hw;rintro e w1 ⟨rfl,b1⟩;go_wp2
     exact⟨⟨j+1,by omega,by simp,KA.out.2.trans (b1.mono KA.out.2.size),fun i hi=>by
      by_cases e:i=j
      ·rw[e];exact hp
      ·exact KA.out.1 i (by omega)⟩,by simp[intOf];omega⟩
  ·have:j=n:=by omega
   subst this;have hd:decide ((j:Int)<(j:Int))=false:=by simp
   have KA:Hid (∀i,i<j->f i=false):=aP;clear hs aP;go_wp2;go_ret;exact⟨⟨_,rfl,.inl ⟨rfl,KA.out⟩⟩,aF⟩
theorem Xf(w:World)(a:Option Addr)(cap:Nat)(xs:List S5)(g:Nat)(hn:xs.length<=maxLen)(hs:Sl w w.1.size a xs.length xs)(hg:w.cell? ⟨g,0,none⟩=some (.func (.func 233) #[] #[]))(uT:g<w.1.size):
  Calls Tryz.prog 252 #[.slice a xs.length cap,.func (.func 255) #[] #[.pointer (some ⟨g,0,none⟩)]] w fun e w'=>e=.returned (.bool (!((List.range xs.length).all fun i=>dw (ax xs i))))/\Below w.1.size w w':=by
 have c1:=Xg w a cap xs g hn hs hg uT
 have HE:Hid (∀i:Int,eH (fun i=>!dw (ax xs i)) xs.length i->decide (0<=i)=!((List.range xs.length).all fun i=>dw (ax xs i))):=fun i h=>by
  rw[gT h];simp
 clear hn hs hg uT;go_enter Tryz.func252,Tryz.ntmps252;go_wp2_with fail;refine c1.mono ?_;clear c1;rintro e w1 ⟨⟨i,rfl,hi⟩,b1⟩;have KE:Hid (decide (0<=i)=!((List.range xs.length).all fun i=>dw (ax xs i))):=HE.out i hi;clear hi HE;go_wp2;go_ret;exact⟨by rw[<-KE.out];rfl,b1⟩
def wu(xs:List S5)(i:Nat):Bool:=decide (i=0)||decide (rk (ax xs (i-1)).b (ax xs (i-1)).e<rk (ax xs i).b (ax xs i).e)
theorem FJ(w:World)(a:Option Addr)(cap:Nat)(xs:List S5)(hn:xs.length<=maxLen)(hs:Sl w w.1.size a xs.length xs)(je:∀i,i<xs.length->dw (ax xs i)=true):
  Calls Tryz.prog 256 #[.slice a xs.length cap,.func (.func 195) #[] #[]] w fun e w'=>e=.returned (.bool ((List.range xs.length).all (wu xs)))/\Below w.1.size w w':=by
 unfold maxLen at hn;obtain⟨_,hs⟩:=hs;have HO:=aB je;clear je;obtain⟨n,hN⟩:∃n,n=xs.length:=⟨_,rfl⟩
 have HN:Hid (n=xs.length):=hN;rw[<-hN]at hn hs ⊢;clear hN;go_enter Tryz.func256,Tryz.ntmps256;go_wp2;go_loopw[5] (fun v wr=>∃j:Nat,(j<=n\/n=0/\j=1)/\0<j/\v=vI j/\Below w.1.size w wr/\(List.range j).all (wu xs)=true) (fun v _=>n-(intOf v).toNat)
 case atStart=>exact⟨1,by omega,by omega,rfl,aJ,by simp[wu]⟩
 case round=>
  obtain⟨j,hj,UT,rfl,aF,aP⟩:=hrel;by_cases aN:j<n
  ·rcases hs with hs|⟨b,off,rfl,hb,h1⟩
   ·omega
   obtain⟨i,rfl⟩:∃i,j=i+1:=⟨j-1,by omega⟩
   obtain⟨t0,t1,t2,t3,t4⟩:=(h1.below aF hb) (i+1) _ (gM (by rw[<-HN.out];exact aN));obtain⟨u0,u1,u2,u3,u4⟩:=(h1.below aF hb) i _ (gM (by rw[<-HN.out];omega));have qJ:b<wr.1.size:=Nat.lt_of_lt_of_le hb aF.size;have lift:∀{o:Nat}{u:Value},wr.cell? ⟨b,o,none⟩=some u->∀d os,(grow (redrawn wr d) os).cell? ⟨b,o,none⟩=some u:=fun {o u} h d os=>((below_regrown wr d os).cell (p:=⟨b,o,none⟩) qJ).trans h
   have x0:=lift t0;have x1:=lift t1;have x2:=lift t2;have x3:=lift t3;have x4:=lift t4;have y0:=lift u0;have y1:=lift u1;have y2:=lift u2;have y3:=lift u3;have y4:=lift u4;have k1:=kX (HO.out (i+1) (by rw[<-HN.out];exact aN));have k2:=kX (HO.out i (by rw[<-HN.out];omega));have cA:∀d os,Calls Tryz.prog 195 #[.agg #[vI (ax xs (i+1)).b,vI (ax xs (i+1)).e,vI (ax xs (i+1)).g,.bool (ax xs (i+1)).i,vI (ax xs (i+1)).j]] (grow (redrawn wr d) os) fun e fq=>e=.returned (vI (rk (ax xs (i+1)).b (ax xs (i+1)).e))/\∃p:Regrown,fq=grow (redrawn wr p.d) p.os:=fun d os=>Calls.regrown_of (oI _ _ k1.1 k1.2)
   have cB:∀d os,Calls Tryz.prog 195 #[.agg #[vI (ax xs i).b,vI (ax xs i).e,vI (ax xs i).g,.bool (ax xs i).i,vI (ax xs i).j]] (grow (redrawn wr d) os) fun e fq=>e=.returned (vI (rk (ax xs i).b (ax xs i).e))/\∃p:Regrown,fq=grow (redrawn wr p.d) p.os:=fun d os=>Calls.regrown_of (oI _ _ k2.1 k2.2)
   have K:Hid (Below w.1.size w wr/\(List.range (i+1)).all (wu xs)=true):=⟨aF,aP⟩
   have hi:(i:Int)<(n:Int):=by omega
   clear lift t0 t1 t2 t3 t4 u0 u1 u2 u3 u4 k1 k2 h1 aF aP;have U:Hid (wu xs (i+1)=decide (rk (ax xs i).b (ax xs i).e<rk (ax xs (i+1)).b (ax xs (i+1)).e)):=by unfold Hid;simp[wu]
   have HL:Hid (i+1<n):=aN;have kt:((i+1:Nat):Int)<(n:Int):=by omega
   clear aN;generalize rk (ax xs (i+1)).b (ax xs (i+1)).e=x at *;generalize rk (ax xs i).b (ax xs i).e=y at *;generalize (ax xs (i+1)).b=a0 at *;generalize (ax xs (i+1)).e=a1 at *;generalize (ax xs (i+1)).g=a2 at *;generalize (ax xs (i+1)).i=a3 at *;generalize (ax xs (i+1)).j=a4 at *;generalize (ax xs i).b=e0 at *;generalize (ax xs i).e=e1 at *;generalize (ax xs i).g=e2 at *;generalize (ax xs i).i=e3 at *;generalize (ax xs i).j=e4 at *;by_cases hq:x<=y
   ·have KU:Hid (wu xs (i+1)=false):=by unfold Hid;rw[U.out];simp;omega
    have dq:decide (x<=y)=true:=by simpa using hq
    clear hq U;go_wp2_with fail;refine wp_region_quiet_below (by kernel_rfl) (by kernel_rfl) ?_;repeat (go_big_quiet_step (first|(go_at_call_of 195 (Value.agg #[vI a0,vI a1,vI a2,.bool a3,vI a4]);exact cA _ _)|(go_at_call_of 195 (Value.agg #[vI e0,vI e1,vI e2,.bool e3,vI e4]);exact cB _ _)))
    refine wpQuiet_nil ?_;intro _ dD;obtain⟨⟨lH,bI⟩,aT⟩:=dD;subst aT;have bq:=below_regrown wr lH bI;go_wp2;go_ret;exact⟨by rw[lg HL.out KU.out];rfl,K.out.1.trans (bq.mono K.out.1.size)⟩
   ·have KU:Hid (wu xs (i+1)=true):=by unfold Hid;rw[U.out];simp;omega
    have dq:decide (x<=y)=false:=by simpa using hq
    clear hq U;go_wp2_with fail;refine wp_region_quiet_below (by kernel_rfl) (by kernel_rfl) ?_;repeat (go_big_quiet_step (first|(go_at_call_of 195 (Value.agg #[vI a0,vI a1,vI a2,.bool a3,vI a4]);exact cA _ _)|(go_at_call_of 195 (Value.agg #[vI e0,vI e1,vI e2,.bool e3,vI e4]);exact cB _ _)))
    refine wpQuiet_nil ?_;intro _ dD;obtain⟨⟨lH,bI⟩,aT⟩:=dD;subst aT;have bq:=below_regrown wr lH bI;go_wp2;exact⟨⟨i+1+1,.inl HL.out,by omega,by simp,K.out.1.trans (bq.mono K.out.1.size),lh K.out.2 KU.out⟩,by have:=HL.out;simp[intOf];omega⟩
  ·have hd:decide ((j:Int)<(n:Int))=false:=by simp;omega
   have KA:Hid ((List.range n).all (wu xs)=true):=by
    unfold Hid;rw[List.all_eq_true]at aP ⊢;exact fun x hx=>aP x (List.mem_range.2 (by have:=List.mem_range.1 hx;omega))
   clear hs aP;go_wp2;go_ret;exact⟨by rw[KA.out];rfl,aF⟩
theorem FH{xs:List S5}:(List.range xs.length).all (oG xs)=((List.range xs.length).all (fun i=>dw (ax xs i))&&(List.range xs.length).all (wu xs)):=by
 rw[Bool.eq_iff_iff,Bool.and_eq_true,List.all_eq_true,List.all_eq_true,List.all_eq_true];constructor
 ·intro h
  have h1:∀i,i<xs.length->dw (ax xs i)=true:=fun i hi=>by
   have:=h i (List.mem_range.2 hi);simp only[oG,Bool.and_eq_true]at this;exact this.1
  refine⟨fun i hi=>h1 i (List.mem_range.1 hi),fun i hi=>?_⟩;have Aj:=List.mem_range.1 hi;have:=h i hi;simp only[oG,Bool.and_eq_true,Bool.or_eq_true,decide_eq_true_eq]at this;simp only[wu,Bool.or_eq_true,decide_eq_true_eq];by_cases e:i=0
  ·exact .inl e
  ·rcases this.2 with e'|e'
   ·exact .inl e'
   ·rw[qF (kX (h1 (i-1) (by omega))).2 (kX (h1 i Aj)).2]at e';exact .inr (by simpa using e')
 ·rintro ⟨h1,h2⟩ i hi;have Aj:=List.mem_range.1 hi;have g1:=h1 i hi;have g2:=h2 i hi;simp only[wu,Bool.or_eq_true,decide_eq_true_eq]at g2;simp only[oG,Bool.and_eq_true,Bool.or_eq_true,decide_eq_true_eq];refine⟨g1,?_⟩;by_cases e:i=0
  ·exact .inl e
  ·rcases g2 with e'|e'
   ·exact .inl e'
   ·refine .inr ?_;rw[qF (kX (h1 (i-1) (List.mem_range.2 (by omega)))).2 (kX g1).2];simpa using e'
theorem H9(w:World)(a:Option Addr)(cap:Nat)(xs:List S5)(hn:xs.length<=maxLen)(hs:Sl w w.1.size a xs.length xs):
  Calls Tryz.prog 232 #[.slice a xs.length cap,.func (.func 233) #[] #[]] w fun e w'=>e=.returned (.bool (decide (xs.length<=12)&&(List.range xs.length).all (oG xs)))/\Below w.1.size w w':=by
 obtain⟨W,hW⟩:∃W,W=w.alloc (.cells #[.func (.func 233) #[] #[]] 199):=⟨_,rfl⟩
 have b0:Below w.1.size w W:=by rw[hW];exact aJ.alloc aR _
 have g0:W.cell? ⟨w.1.size,0,none⟩=some (.func (.func 233) #[] #[]):=by rw[hW];go_simp
 have s0:w.1.size<W.1.size:=by rw[hW];simp
 have c1:=Xf W a cap xs w.1.size hn (hs.later b0) g0 s0;have H:Hid (Sl w w.1.size a xs.length xs/\xs.length<=maxLen/\Below w.1.size w W):=⟨hs,hn,b0⟩
 have HA:=aB (@FH xs);clear hs b0 g0 s0;unfold maxLen at hn;by_cases BG:xs.length<=12
 case neg=>
  have d12:decide ((xs.length:Int)<=12)=false:=by simp;omega
  have KN:Hid (decide (xs.length<=12)=false):=by unfold Hid;simp;omega
  rw[hW]at H;clear c1 hW BG;go_enter Tryz.func232,Tryz.ntmps232;go_wp2;go_ret;exact⟨by rw[KN.out];rfl,H.out.2.2⟩
 have d12:decide ((xs.length:Int)<=12)=true:=by simp;omega
 have KN:Hid (decide (xs.length<=12)=true):=by unfold Hid;simp;omega
 cases Eo:(List.range xs.length).all (fun i=>dw (ax xs i))with
 | false=>
  rw[Eo]at c1;clear BG;go_enter Tryz.func232,Tryz.ntmps232;go_wp2_with fail;rw[<-hW];clear hW;refine c1.mono ?_;clear c1;rintro e w1 ⟨rfl,b1⟩;go_wp2;go_ret;exact⟨by rw[KN.out,HA.out,Eo];rfl,H.out.2.2.trans (b1.mono H.out.2.2.size)⟩
 | true=>
  rw[Eo]at c1;have HO:Hid (∀i,i<xs.length->dw (ax xs i)=true):=fun i hi=>List.all_eq_true.1 Eo i (List.mem_range.2 hi)
  clear BG;go_enter Tryz.func232,Tryz.ntmps232;go_wp2_with fail;rw[<-hW];clear hW;refine c1.mono ?_;clear c1;rintro e w1 ⟨rfl,b1⟩;have bw:Below w.1.size w w1:=H.out.2.2.trans (b1.mono H.out.2.2.size);have c2:=FJ w1 a cap xs H.out.2.1 (H.out.1.later bw) HO.out;have KB:Hid (Below w.1.size w w1):=bw;clear b1 bw;go_wp2_with fail;refine c2.mono ?_;clear c2;rintro e w2 ⟨rfl,b2⟩;go_wp2;go_ret;exact⟨by rw[KN.out,HA.out,Eo];rfl,KB.out.trans (b2.mono KB.out.size)⟩
theorem ug(w:World)(v:TV)(t:T7)(hl:TL t)(hs:lW w v t):
  Calls Tryz.prog 206 #[v.val t] w fun e w'=>e=.returned (.bool (jI t))/\Below w.1.size w w':=by
 obtain⟨ar,cr,ah,ch⟩:=v;simp only[TV.val];obtain⟨W,hW⟩:∃W,W=w.alloc (.cells #[vI t.id,vI t.o,vI t.q,vI t.v,.slice ar t.a.length cr,.slice ah t.ag.length ch,vI t.aA] 50):=⟨_,rfl⟩
 have b0:Below w.1.size w W:=by rw[hW];exact aJ.alloc aR _
 have x0:BT W w.1.size ⟨ar,cr,ah,ch⟩ t:=by rw[hW];exact BT.box w ⟨ar,cr,ah,ch⟩ t _
 have H:Hid (lW W ⟨ar,cr,ah,ch⟩ t/\BT W w.1.size ⟨ar,cr,ah,ch⟩ t/\TL t):=⟨hs.later b0,x0,hl⟩
 have BW:Hid (Below w.1.size w W):=b0;clear hs b0 x0 hl;by_cases g0:aY 1 1000000 t.id=true
 case neg=>
  have d0:aY 1 1000000 t.id=false:=by simpa using g0
  have hb:jI t=false:=by simp[jI,mf,d0]
  rw[hb];rw[hW]at BW;clear H hW;go_enter Tryz.func206,Tryz.ntmps206;go_wp2_with (first|(go_at_call 185;refine(jl _ _).mono ?_;rintro e w' ⟨rfl,rfl⟩)|(go_at_call 212;refine(ib _ _).mono ?_;rintro e w' ⟨rfl,rfl⟩)|(go_at_call 229;refine(ll _ _).mono ?_;rintro e w' ⟨rfl,rfl⟩)|(go_at_call 230;refine(nA _ _).mono ?_;rintro e w' ⟨rfl,rfl⟩)|(go_at_call 164;refine(kg _ _).mono ?_;rintro e w' ⟨rfl,rfl⟩));go_ret;exact⟨rfl,BW.out⟩
 by_cases g1:aY 0 7 t.o=true
 case neg=>
  have d1:aY 0 7 t.o=false:=by simpa using g1
  have hb:jI t=false:=by simp[jI,mf,d1]
  rw[hb];rw[hW]at BW;clear H hW;go_enter Tryz.func206,Tryz.ntmps206;go_wp2_with (first|(go_at_call 185;refine(jl _ _).mono ?_;rintro e w' ⟨rfl,rfl⟩)|(go_at_call 212;refine(ib _ _).mono ?_;rintro e w' ⟨rfl,rfl⟩)|(go_at_call 229;refine(ll _ _).mono ?_;rintro e w' ⟨rfl,rfl⟩)|(go_at_call 230;refine(nA _ _).mono ?_;rintro e w' ⟨rfl,rfl⟩)|(go_at_call 164;refine(kg _ _).mono ?_;rintro e w' ⟨rfl,rfl⟩));go_ret;exact⟨rfl,BW.out⟩
 by_cases g2:aY 1 9 t.q=true
 case neg=>
  have d2:aY 1 9 t.q=false:=by simpa using g2
  have hb:jI t=false:=by simp[jI,mf,d2]
  rw[hb];rw[hW]at BW;clear H hW;go_enter Tryz.func206,Tryz.ntmps206;go_wp2_with (first|(go_at_call 185;refine(jl _ _).mono ?_;rintro e w' ⟨rfl,rfl⟩)|(go_at_call 212;refine(ib _ _).mono ?_;rintro e w' ⟨rfl,rfl⟩)|(go_at_call 229;refine(ll _ _).mono ?_;rintro e w' ⟨rfl,rfl⟩)|(go_at_call 230;refine(nA _ _).mono ?_;rintro e w' ⟨rfl,rfl⟩)|(go_at_call 164;refine(kg _ _).mono ?_;rintro e w' ⟨rfl,rfl⟩));go_ret;exact⟨rfl,BW.out⟩
 by_cases g3:aY 0 1000 t.v=true
 case neg=>
  have d3:aY 0 1000 t.v=false:=by simpa using g3
  have hb:jI t=false:=by simp[jI,mf,d3]
  rw[hb];rw[hW]at BW;clear H hW;go_enter Tryz.func206,Tryz.ntmps206;go_wp2_with (first|(go_at_call 185;refine(jl _ _).mono ?_;rintro e w' ⟨rfl,rfl⟩)|(go_at_call 212;refine(ib _ _).mono ?_;rintro e w' ⟨rfl,rfl⟩)|(go_at_call 229;refine(ll _ _).mono ?_;rintro e w' ⟨rfl,rfl⟩)|(go_at_call 230;refine(nA _ _).mono ?_;rintro e w' ⟨rfl,rfl⟩)|(go_at_call 164;refine(kg _ _).mono ?_;rintro e w' ⟨rfl,rfl⟩));go_ret;exact⟨rfl,BW.out⟩
 by_cases g4:aY 0 1000000 t.aA=true
 case neg=>
  have d4:aY 0 1000000 t.aA=false:=by simpa using g4
  have hb:jI t=false:=by simp[jI,mf,d4]
  rw[hb];rw[hW]at BW;clear H hW;go_enter Tryz.func206,Tryz.ntmps206;go_wp2_with (first|(go_at_call 185;refine(jl _ _).mono ?_;rintro e w' ⟨rfl,rfl⟩)|(go_at_call 212;refine(ib _ _).mono ?_;rintro e w' ⟨rfl,rfl⟩)|(go_at_call 229;refine(ll _ _).mono ?_;rintro e w' ⟨rfl,rfl⟩)|(go_at_call 230;refine(nA _ _).mono ?_;rintro e w' ⟨rfl,rfl⟩)|(go_at_call 164;refine(kg _ _).mono ?_;rintro e w' ⟨rfl,rfl⟩));go_ret;exact⟨rfl,BW.out⟩
 have HM:Hid (jI t=((decide (t.a.length<=12)&&(List.range t.a.length).all (oz t.a))&&(decide (t.ag.length<=12)&&(List.range t.ag.length).all (oG t.ag)))):=by
  unfold Hid;simp only[jI,mf,g0,g1,g2,g3,g4,Bool.true_and]
  cases decide (t.a.length<=12)<;>cases decide (t.ag.length<=12)<;>simp
 have c1:=G7 W ar cr t.a H.out.2.2.r H.out.1.r;generalize hR:(decide (t.a.length<=12)&&(List.range t.a.length).all (oz t.a))=R at *;go_enter Tryz.func206,Tryz.ntmps206;go_wp2_with (first|(go_at_call 185;refine(jl _ _).mono ?_;rintro e w' ⟨rfl,rfl⟩)|(go_at_call 212;refine(ib _ _).mono ?_;rintro e w' ⟨rfl,rfl⟩)|(go_at_call 229;refine(ll _ _).mono ?_;rintro e w' ⟨rfl,rfl⟩)|(go_at_call 230;refine(nA _ _).mono ?_;rintro e w' ⟨rfl,rfl⟩)|(go_at_call 164;refine(kg _ _).mono ?_;rintro e w' ⟨rfl,rfl⟩)|fail);rw[<-hW];clear hW g0 g1 g2 g3 g4;refine c1.mono ?_;clear c1;rintro e w1 ⟨rfl,b1⟩;have a5:=(H.out.2.1.later b1).c5;have KB:Hid (Below w.1.size w w1):=BW.out.trans (b1.mono BW.out.size);have c2:=H9 w1 ah ch t.ag H.out.2.2.s (H.out.1.later b1).s;clear b1
 cases R with
 | false=>
  clear c2;go_wp2;go_ret;exact⟨by rw[HM.out];rfl,KB.out⟩
 | true=>
  go_wp2_with fail;refine c2.mono ?_;clear c2;rintro e w2 ⟨rfl,b2⟩;go_wp2;go_ret;exact⟨by rw[HM.out];rfl,KB.out.trans (b2.mono KB.out.size)⟩
end tx
section
variable {P:Program}{Q:Exit->Act->World->Prop}{Z:Nat->Bool}{a:Act}{f i j:Nat}{md:Region.Mode}{o oj:Oper}{ops:Array Oper}{rs:List Nat}{v:Value}{w:World}
def oQ(n:Nat)(Z:Nat->Bool)(L:Array Bool):Bool:=(List.range n).any fun z=>Z z&&L.getD z false
theorem lu{n:Nat}{L:Array Bool}(hz:Z i=false):oQ n Z (L.setIfInBounds i true)=oQ n Z L:=by
 unfold oQ;congr 1;funext z;by_cases e:i=z
 ·subst e;simp[hz]
 ·rw[getD_set_ne false e]
def Bq(P:Program)(md:Region.Mode)(ops:Array Oper)(Q:Exit->Act->World->Prop)(S:World->Prop)(Z:Nat->Bool):Nat->Array Bool->Act->World->Prop
 | 0,L,a,w=>Region.ready md ops L=[]/\Q .normal a w
 | f+1,L,a,w=>(Region.ready md ops L=[]->Q .normal a w)/\∀i∈Region.ready md ops L,wpOp P ops Q i (fun a' w'=>(oQ ops.size Z (L.setIfInBounds i true)=false->S w')/\Bq P md ops Q S Z f (L.setIfInBounds i true) a' w') a w
theorem Iw{S:World->Prop}:∀(f:Nat) (L:Array Bool) (a:Act) (w:World),Bq P md ops Q S Z f L a w->wpAny P md ops Q f L a w:=by
 intro f
 induction f with
 | zero=>exact fun _ _ _ h=>h
 | succ f ih=>exact fun L a w h=>⟨h.1,fun i hi=>wpOp_mono (fun a' w' k=>ih _ a' w' k.2) (h.2 i hi)⟩
def Ae(md:Region.Mode)(ops:Array Oper)(s i:Nat):Bool:=match ops[s]? with
 | some o=>o.after.any fun e=>Region.binds md e&&e.on==i
 | none=>false
theorem zK{L:Array Bool}(hr:i∈Region.ready md ops L)(aP:∀e∈oj.after,Region.binds md e=true->L.getD e.on false=true)(hj:ops[j]?=some oj)(hw:Ae md ops j i=true):False:=by
 simp only[Ae,hj,Array.any_eq_true,Bool.and_eq_true,beq_iff_eq]at hw;obtain⟨k,hk,hb,he⟩:=hw;have h1:=aP _ (Array.getElem_mem hk) hb;have h0:=(mem_ready.1 hr).1;rw[he]at h1;rcases Nat.lt_or_ge i L.size with h|h
 ·simp[h]at h0 h1;rw[h0]at h1;cases h1
 ·simp[Array.getElem?_eq_none h]at h1
def waitAll(md:Region.Mode)(ops:Array Oper)(Z:Nat->Bool)(i:Nat):Bool:=(List.range ops.size).all fun z=>!Z z||Ae md ops z i
theorem Dt(h:waitAll md ops Z i=true){z:Nat}(ho:ops[z]?=some o)(hz:Z z=true):Ae md ops z i=true:=by
 have aN:z<ops.size:=by
  rcases Nat.lt_or_ge z ops.size with h|h
  ·exact h
  ·rw[Array.getElem?_eq_none h]at ho;cases ho
 have:=List.all_eq_true.1 h z (List.mem_range.2 aN);simpa[hz]using this
theorem NB{L:Array Bool}(hr:i∈Region.ready md ops L)(aP:∀e∈oj.after,Region.binds md e=true->L.getD e.on false=true)(Al:ops[j]?=some oj):∀x∈oj.after,Region.binds md x=true->x.on≠i:=fun x hx hb he=>zK hr aP Al (by
 simp only[Ae,Al,Array.any_eq_true,Bool.and_eq_true,beq_iff_eq];obtain⟨k,hk,rfl⟩:=Array.getElem_of_mem hx
 exact⟨k,hk,hb,he⟩)
theorem Ll{S:World->Prop}(ho:ops[i]?=some o)(Ra:Z i=false)(hw:waitAll md ops Z i=true)(EB:∀(j:Nat) (o:Oper) cs b,ops[j]?=some o->o.op≠.select cs b)(hQ:∀c a w,Q (.panic c) (a.put o.dst v) w->Q (.panic c) a w):
  ∀(f:Nat) (L:Array Bool) (a:Act) (w:World),oQ ops.size Z L=false->
   (∀j oj,ops[j]?=some oj->j≠i->L.getD j true=false->(∀e∈oj.after,Region.binds md e=true->e.on≠i)->o.apart ops oj=true)->
   i∈Region.ready md ops L->YieldsIf P ops S o v a->S w->Bq P md ops Q S Z f (L.setIfInBounds i true) (a.put o.dst v) w->Bq P md ops Q S Z (f+1) L a w:=by
 intro f
 induction f with
 | zero=>
  intro L a w hL _ hr hy hS H;refine⟨fun h=>absurd hr (by rw[h];simp),fun j hj=>?_⟩;by_cases e:j=i
  ·rw[e];exact hy.wpOp ho hS ⟨fun _=>hS,H⟩
  ·have:=ready_mono hj e;rw[H.1]at this
   cases this
 | succ f ih=>
  intro L a w hL wQ hr hy hS H;refine⟨fun h=>absurd hr (by rw[h];simp),fun j hj=>?_⟩;by_cases e:j=i
  ·rw[e];exact hy.wpOp ho hS ⟨fun _=>hS,H⟩
  ·obtain⟨Q4,oj,Al,aP⟩:=mem_ready.1 hj
   have XP:Z j=false:=by
    cases hz:Z j with
    | false=>rfl
    | true=>exact(zK hr aP Al (Dt hw Al hz)).elim
   have step:=wpOp_putIf Al (wQ j oj Al e Q4 (NB hr aP Al)) (fun cs b=>EB i o cs b ho) (fun cs b=>EB j oj cs b Al) hQ hy (H.2 j (ready_mono hj e));refine wpOp_mono (fun a' w' k=>?_) step;have VA:S w':=k.2.1 (by rw[lu XP,lu Ra];exact hL);refine⟨fun _=>VA,ih _ a' w' (by rw[lu XP];exact hL) (fun x ox hx Wz Q8 WB=>wQ x ox hx Wz ?_ WB) (ready_mono hr (Ne.symm e)) k.1 VA ?_⟩
   ·by_cases h:j=x
    ·rw[<-h];exact Q4
    ·rw[getD_set_ne true h]at Q8;exact Q8
   ·rw[Array.setIfInBounds_comm _ _ e];exact k.2.2
theorem Oj{S:World->Prop}(ho:ops[i]?=some o)(Ra:Z i=false)(EB:∀(j:Nat) (o:Oper) cs b,ops[j]?=some o->o.op≠.select cs b)(hQ:∀c a w,Q (.panic c) (a.put o.dst v) w->Q (.panic c) a w):
  ∀(f:Nat) (L:Array Bool) (a:Act) (w:World),
   (∀j oj,ops[j]?=some oj->j≠i->L.getD j true=false->(∀e∈oj.after,Region.binds md e=true->e.on≠i)->o.apart ops oj=true)->
   i∈Region.ready md ops L->YieldsIf P ops (fun _=>True) o v a->(oQ ops.size Z L=false->S w)->Bq P md ops Q S Z f (L.setIfInBounds i true) (a.put o.dst v) w->Bq P md ops Q S Z (f+1) L a w:=by
 intro f
 induction f with
 | zero=>
  intro L a w _ hr hy hS H;refine⟨fun h=>absurd hr (by rw[h];simp),fun j hj=>?_⟩;by_cases e:j=i
  ·rw[e];exact hy.wpOp ho trivial ⟨fun h=>hS (by rw[<-lu Ra];exact h),H⟩
  ·have:=ready_mono hj e;rw[H.1]at this
   cases this
 | succ f ih=>
  intro L a w wQ hr hy hS H;refine⟨fun h=>absurd hr (by rw[h];simp),fun j hj=>?_⟩;by_cases e:j=i
  ·rw[e];exact hy.wpOp ho trivial ⟨fun h=>hS (by rw[<-lu Ra];exact h),H⟩
  ·obtain⟨Q4,oj,Al,aP⟩:=mem_ready.1 hj;have step:=wpOp_putIf Al (wQ j oj Al e Q4 (NB hr aP Al)) (fun cs b=>EB i o cs b ho) (fun cs b=>EB j oj cs b Al) hQ hy (H.2 j (ready_mono hj e));refine wpOp_mono (fun a' w' k=>?_) step;have VA:oQ ops.size Z (L.setIfInBounds j true)=false->S w':=fun h=>k.2.1 (by rw[Array.setIfInBounds_comm _ _ (Ne.symm e),lu Ra];exact h)
   refine⟨VA,ih _ a' w' (fun x ox hx Wz Q8 WB=>wQ x ox hx Wz ?_ WB) (ready_mono hr (Ne.symm e)) k.1 VA ?_⟩
   ·by_cases h:j=x
    ·rw[<-h];exact Q4
    ·rw[getD_set_ne true h]at Q8;exact Q8
   ·rw[Array.setIfInBounds_comm _ _ e];exact k.2.2
theorem Ol{S:World->Prop}{L:Array Bool}(ho:ops[i]?=some o)(hc:(!Z i&&!oQ ops.size Z L&&waitAll md ops Z i&&Region.noSelect ops&&Region.free md ops L i&&(Region.ready md ops L).contains i)=true)
  (hQ:∀c a w,Q (.panic c) (a.put o.dst v) w->Q (.panic c) a w) (hy:YieldsIf P ops S o v a) (hS:S w) (h:Bq P md ops Q S Z f (L.setIfInBounds i true) (a.put o.dst v) w):Bq P md ops Q S Z (f+1) L a w:=by
 simp only[Bool.and_eq_true,Bool.not_eq_true']at hc;obtain⟨⟨⟨⟨⟨h0,hl⟩,h1⟩,h2⟩,h3⟩,h4⟩:=hc;exact Ll ho h0 h1 (Region.noSelect_spec h2) hQ f L a w hl (Region.free_spec ho h3) (by simpa using h4) hy hS h
theorem wK{S:World->Prop}{L:Array Bool}(ho:ops[i]?=some o)(hc:(!Z i&&Region.noSelect ops&&Region.free md ops L i&&(Region.ready md ops L).contains i)=true)
  (hQ:∀c a w,Q (.panic c) (a.put o.dst v) w->Q (.panic c) a w) (hy:YieldsIf P ops (fun _=>True) o v a) (hS:S w) (h:Bq P md ops Q S Z f (L.setIfInBounds i true) (a.put o.dst v) w):Bq P md ops Q S Z (f+1) L a w:=by
 simp only[Bool.and_eq_true,Bool.not_eq_true']at hc;obtain⟨⟨⟨h0,h2⟩,h3⟩,h4⟩:=hc;exact Oj ho h0 (Region.noSelect_spec h2) hQ f L a w (Region.free_spec ho h3) (by simpa using h4) hy (fun _=>hS) h
def iU(P:Program)(md:Region.Mode)(ops:Array Oper)(Q:Exit->Act->World->Prop)(S:World->Prop)(Z:Nat->Bool)(f:Nat)(L:Array Bool)(a:Act)(w:World)(rs:List Nat):Prop:=
 ∀i∈rs,wpOp P ops Q i (fun a' w'=>(oQ ops.size Z (L.setIfInBounds i true)=false->S w')/\Bq P md ops Q S Z f (L.setIfInBounds i true) a' w') a w
theorem iU.nil{S:World->Prop}{L:Array Bool}:iU P md ops Q S Z f L a w []:=fun _ h=>by cases h
theorem iU.cons{S:World->Prop}{L:Array Bool}(ho:ops[i]?=some o)
  (h:∀K':Act->World->Prop,Shut (∀a w,(oQ ops.size Z (L.setIfInBounds i true)=false->S w)->Bq P md ops Q S Z f (L.setIfInBounds i true) a w->K' a w)->if Region.wanted o (yielded ops a.tmps)=true then Oper.wp P o a w K' Q else K' (a.put o.dst undef) w)
  (hs:iU P md ops Q S Z f L a w rs):iU P md ops Q S Z f L a w (i::rs):=fun j hj=>by
 rcases List.mem_cons.1 hj with rfl|hj
 ·exact wpOp_step ho (fun K' hK=>h K' (fun a w hS hW=>hK a w ⟨hS,hW⟩))
 ·exact hs j hj
theorem iI{S:World->Prop}{L:Array Bool}(hr:Region.ready md ops L=rs)(fF:rs≠[])(h:iU P md ops Q S Z f L a w rs):Bq P md ops Q S Z (f+1) L a w:=
 ⟨fun h0=>absurd (hr.symm.trans h0) fF,fun i hi=>h i (by rw[<-hr];exact hi)⟩
theorem dL{S:World->Prop}{L:Array Bool}(hr:Region.ready md ops L=[])(h:Q .normal a w)(f:Nat):Bq P md ops Q S Z f L a w:=by
 cases f with
 | zero=>exact⟨hr,h⟩
 | succ f=>exact⟨fun _=>h,fun i hi=>by rw[hr]at hi;cases hi⟩
theorem bu{id:Nat}(Z:Nat->Bool)(S:World->Prop)(hm:P.follows .mixedOrders=true)(h:Bq P .any ops Q S Z ops.size (Array.replicate ops.size false) a w.drew):(Code.region id ops true).wp P Q a w:=
 wp_region_any hm (Iw _ _ _ _ h)
theorem jg{S:World->Prop}(i:Nat)(v:Value){L:Array Bool}(ho:ops[i]?=some o)(hy:∀w,S w->(execOp a.eval o).run P w=.ok (.value v) w)(hS:S w)(h:Bq P md ops Q S Z f (L.setIfInBounds i true) (a.put o.dst v) w)(hc:(!Z i&&!oQ ops.size Z L&&waitAll md ops Z i&&Region.noSelect ops&&Region.free md ops L i&&(Region.ready md ops L).contains i)=true:=by kernel_rfl)(hQ:∀c a w,Q (.panic c) (a.put o.dst v) w->Q (.panic c) a w:=by exact fun _ _ _ h=>h)(hw:Region.wanted o (yielded ops a.tmps)=true:=by rfl):Bq P md ops Q S Z (f+1) L a w:=Ol ho hc hQ (Or.inl ⟨hw,hy⟩) hS h
theorem cz{S:World->Prop}(i:Nat)(v:Value){L:Array Bool}(ho:ops[i]?=some o)(hy:∀w,True->(execOp a.eval o).run P w=.ok (.value v) w)(hS:S w)(h:Bq P md ops Q S Z f (L.setIfInBounds i true) (a.put o.dst v) w)(hc:(!Z i&&Region.noSelect ops&&Region.free md ops L i&&(Region.ready md ops L).contains i)=true:=by kernel_rfl)(hQ:∀c a w,Q (.panic c) (a.put o.dst v) w->Q (.panic c) a w:=by exact fun _ _ _ h=>h)(hw:Region.wanted o (yielded ops a.tmps)=true:=by rfl):Bq P md ops Q S Z (f+1) L a w:=wK ho hc hQ (Or.inl ⟨hw,hy⟩) hS h
theorem cZ{S:World->Prop}(i:Nat){L:Array Bool}(ho:ops[i]?=some o)(h:∀K':Act->World->Prop,Shut (∀a w,(oQ ops.size Z (L.setIfInBounds i true)=false->S w)->Bq P md ops Q S Z f (L.setIfInBounds i true) a w->K' a w)->if Region.wanted o (yielded ops a.tmps)=true then Oper.wp P o a w K' Q else K' (a.put o.dst undef) w)(hr:Region.ready md ops L=[i]:=by kernel_rfl):Bq P md ops Q S Z (f+1) L a w:=iI hr (by simp) (iU.cons ho h iU.nil)
end
theorem Ny(w:World)(s:tx.N5)(g n:Nat)(hg:w.cell? ⟨g,0,none⟩=some (vI (n:Int)))(uT:g<w.1.size):Calls Tryz.prog 249 #[.agg #[vI s.b,vI s.e,vI s.j,vI s.g,.bool s.i],.pointer (some ⟨g,0,none⟩)] w fun e w'=>e=.returned (.bool (decide ((n:Int)<=s.b)))/\Below w.1.size w w':=by
 obtain⟨wr,hW⟩:∃Y,Y=w.alloc (.cells #[vI s.b,vI s.e,vI s.j,vI s.g,.bool s.i] 112):=⟨_,rfl⟩
 have b0:Below w.1.size w wr:=by rw[hW];exact aJ.alloc aR _
 have FX:Hid (Bx wr w.1.size [vI s.b,vI s.e,vI s.j,vI s.g,.bool s.i]):=by rw[hW];exact Bx.made w [vI s.b,vI s.e,vI s.j,vI s.g,.bool s.i] _
 have hm:∀w:World,(method 454 112 (.agg #[vI s.b,vI s.e,vI s.j,vI s.g,.bool s.i]) "loop.example/g00153/impl.cell").run Tryz.prog w=.ok (209,.agg #[vI s.b,vI s.e,vI s.j,vI s.g,.bool s.i]) w:=fun _=>by kernel_rfl
 have Py:∀X:World,(Instr.field 62 (.agg #[vI s.b,vI s.e]) 0).run Tryz.prog X=.ok (vI s.b) X:=fun _=>by kernel_rfl
 have SF:Hid (∀X,Below wr.1.size wr X->(fun X:World=>Bx X w.1.size [vI s.b,vI s.e,vI s.j,vI s.g,.bool s.i]/\X.cell? ⟨g,0,none⟩=some (vI (n:Int))) X):=fun X hX=>⟨FX.out.later hX,((ay b0 hX).cell (p:=⟨g,0,none⟩) uT).trans hg⟩
 have KB:=aB b0;clear b0 hg uT;go_enter Tryz.func249,Tryz.ntmps249;go_wp2_with fail;rw[<-hW];clear hW;have bd:Below wr.1.size wr wr.drew:=aJ.drew;have hS:=SF.out _ bd;refine bu (fun z=>z==6) (fun X:World=>Bx X w.1.size [vI s.b,vI s.e,vI s.j,vI s.g,.bool s.i]/\X.cell? ⟨g,0,none⟩=some (vI (n:Int))) (by kernel_rfl) ?_;generalize wr.drew=Wd at *;refine jg 0 ?_ rfl ?_ hS ?_;rotate_left
 ·(intro X aG;have c0:=aG.1.1 0 _ rfl;have c1:=aG.1.1 1 _ rfl;have c2:=aG.1.1 2 _ rfl;have c3:=aG.1.1 3 _ rfl;have c4:=aG.1.1 4 _ rfl;go_simp;first|done|with_reducible rfl)
 simp only[Act.put];refine jg 4 ?_ rfl ?_ hS ?_;rotate_left
 ·(intro X aG;have c5:=aG.2;go_simp;first|done|with_reducible rfl)
 simp only[Act.put];refine cz 1 ?_ rfl ?_ hS ?_;rotate_left
 ·(intro X _;go_simp;first|done|with_reducible rfl)
 simp only[Act.put];refine cZ 2 rfl (fun K hK=>?_);go_simp;refine(tx.gI Wd s).mono ?_;rintro e X2 ⟨rfl,b2⟩;have bX:=ay bd b2;refine hK.out _ _ (fun _=>SF.out _ bX) ?_;clear hK K;have hS:=SF.out _ bX;refine cz 3 ?_ rfl ?_ hS ?_;rotate_left
 ·(intro X _;go_simp;first|done|with_reducible rfl)
 simp only[Act.put];refine cz 5 ?_ rfl ?_ hS ?_;rotate_left
 ·(intro X _;go_simp;first|done|with_reducible rfl)
 simp only[Act.put];refine cZ 6 rfl (fun K hK=>?_);go_simp;refine hK.out _ _ (fun h=>absurd (show false=true from h.symm.trans (by kernel_rfl)) (by decide)) ?_;clear hK K;refine dL (by kernel_rfl) ?_ _;go_wp2;go_ret;exact⟨rfl,ay KB.out bX⟩
theorem E5(w:World)(a:Option Addr)(cap:Nat)(xs:List tx.N5)(g n:Nat)(hn:xs.length<=maxLen)(hs:tx.jD w w.1.size a xs.length xs)(hg:w.cell? ⟨g,0,none⟩=some (vI (n:Int)))(uT:g<w.1.size):
  Calls Tryz.prog 263 #[.slice a xs.length cap,.func (.func 249) #[] #[.pointer (some ⟨g,0,none⟩)]] w fun e w'=>(∃i:Int,e=.returned (vI i)/\eH (fun i=>decide ((n:Int)<=(tx.au xs i).b)) xs.length i)/\Below w.1.size w w':=by
 unfold maxLen at hn;obtain⟨_,hs⟩:=hs;obtain⟨f,hf⟩:∃f:Nat->Bool,f=fun i=>decide ((n:Int)<=(tx.au xs i).b):=⟨_,rfl⟩
 have HF:Hid (∀(X:World) (i:Nat),Below w.1.size w X->Calls Tryz.prog 249 #[.agg #[vI (tx.au xs i).b,vI (tx.au xs i).e,vI (tx.au xs i).j,vI (tx.au xs i).g,.bool (tx.au xs i).i],.pointer (some ⟨g,0,none⟩)] X fun e w'=>e=.returned (.bool (f i))/\Below X.1.size X w'):=fun X i hX=>by
  rw[hf];exact Ny X (tx.au xs i) g n ((hX.cell (p:=⟨g,0,none⟩) uT).trans hg) (Nat.lt_of_lt_of_le uT hX.size)
 rw[<-hf];clear hf hg;go_enter Tryz.func263,Tryz.ntmps263;go_wp2;go_loopw[8] (fun v wr=>∃j:Nat,j<=xs.length/\v=vI j/\Below w.1.size w wr/\∀i,i<j->f i=false) (fun v _=>xs.length-(intOf v).toNat)
 case atStart=>exact⟨0,Nat.zero_le _,rfl,aJ,fun i h=>absurd h (by omega)⟩
 case round=>
  obtain⟨j,hj,rfl,aF,aP⟩:=hrel;by_cases aN:j<xs.length
  ·rcases hs with hs|⟨b,off,rfl,hb,h1⟩
   ·omega
   ·obtain⟨c0,c1,c2,c3,c4⟩:=(h1.below aF hb) j _ (tx.fE aN);have KA:Hid ((∀i,i<j->f i=false)/\Below w.1.size w wr):=⟨aP,aF⟩
    have hw:=HF.out wr j aF;have jn:(j:Int)<(xs.length:Int):=by omega
    clear h1 aP aF
    cases hp:f j with
    | true=>
     rw[hp]at hw;go_wp2_with fail;refine hw.mono ?_;clear hw;rintro e w1 ⟨rfl,b1⟩;go_wp2;go_ret;exact⟨⟨_,rfl,.inr ⟨j,rfl,aN,hp,KA.out.1⟩⟩,KA.out.2.trans (b1.mono KA.out.2.size)⟩
    | false=>
     rw[hp]at hw;go_wp2_with fail;refine hw.mono ?_;clear hw;rintro e w1 ⟨rfl,b1⟩;go_wp2
     exact⟨⟨j+1,by omega,by simp,KA.out.2.trans (b1.mono KA.out.2.size),fun i hi=>by
      by_cases e:i=j
      ·rw[e];exact hp
      ·exact KA.out.1 i (by omega)⟩,by simp[intOf];omega⟩
  ·obtain rfl:j=xs.length:=by omega
   have hd:decide ((xs.length:Int)<(xs.length:Int))=false:=by simp
   have KA:Hid ((∀i,i<xs.length->f i=false)/\Below w.1.size w wr):=⟨aP,aF⟩
   clear hs aP aF;go_wp2;go_ret;exact⟨⟨_,rfl,.inl ⟨rfl,KA.out.1⟩⟩,KA.out.2⟩
theorem NC(w:World)(a:Option Addr)(cap:Nat)(xs:List tx.N5)(n:Nat)(hn:xs.length<=maxLen)(hs:tx.jD w w.1.size a xs.length xs):
  Calls Tryz.prog 220 #[.slice a xs.length cap,vI (n:Int)] w fun e w'=>e=.returned (.bool (kR n xs))/\Below w.1.size w w':=by
 obtain⟨W,hW⟩:∃Y,Y=w.alloc (.cells #[vI (n:Int)] 3):=⟨_,rfl⟩
 have b0:Below w.1.size w W:=by rw[hW];exact aJ.alloc aR _
 have g0:W.cell? ⟨w.1.size,0,none⟩=some (vI (n:Int)):=by rw[hW];go_simp
 have gl:w.1.size<W.1.size:=by rw[hW];simp
 have c1:=E5 W a cap xs w.1.size n hn ((hs.below b0).mono b0.size) g0 gl
 have HE:Hid (∀i:Int,eH (fun i=>decide ((n:Int)<=(tx.au xs i).b)) xs.length i->(!decide (0<=i))=kR n xs):=fun i h=>by
  rw[gT h,kR];simp only[Bool.not_not];congr 1;funext j;rw[Bool.eq_iff_iff];simp
 have KB:=aB b0;clear b0 g0 gl hs hn
 have VL:Calls Tryz.prog 250 #[.slice a xs.length cap,.func (.func 249) #[] #[.pointer (some ⟨w.1.size,0,none⟩)]] W fun e w'=>e=.returned (.bool (!kR n xs))/\Below W.1.size W w':=by
  clear hW KB;go_enter Tryz.func250,Tryz.ntmps250;go_wp2_with fail;refine c1.mono ?_;clear c1;rintro e w1 ⟨⟨i,rfl,hi⟩,b1⟩;have KE:=aB (HE.out i hi);have K1:=aB b1;clear hi HE b1;go_wp2;go_ret;exact⟨by rw[<-KE.out];simp,K1.out⟩
 clear c1 HE;go_enter Tryz.func220,Tryz.ntmps220;go_wp2_with fail;rw[<-hW];clear hW;refine VL.mono ?_;clear VL;rintro e w1 ⟨rfl,b1⟩;have K1:=aB b1;clear b1;go_wp2;go_ret;exact⟨by simp,ay KB.out K1.out⟩
theorem NT(w:World)(s:S5)(g n:Nat)(hg:w.cell? ⟨g,0,none⟩=some (vI (n:Int)))(uT:g<w.1.size):Calls Tryz.prog 251 #[.agg #[vI s.b,vI s.e,vI s.g,.bool s.i,vI s.j],.pointer (some ⟨g,0,none⟩)] w fun e w'=>e=.returned (.bool (decide ((n:Int)<=s.b)))/\Below w.1.size w w':=by
 obtain⟨wr,hW⟩:∃Y,Y=w.alloc (.cells #[vI s.b,vI s.e,vI s.g,.bool s.i,vI s.j] 100):=⟨_,rfl⟩
 have b0:Below w.1.size w wr:=by rw[hW];exact aJ.alloc aR _
 have FX:Hid (Bx wr w.1.size [vI s.b,vI s.e,vI s.g,.bool s.i,vI s.j]):=by rw[hW];exact Bx.made w [vI s.b,vI s.e,vI s.g,.bool s.i,vI s.j] _
 have hm:∀w:World,(method 454 100 (.agg #[vI s.b,vI s.e,vI s.g,.bool s.i,vI s.j]) "loop.example/g00153/impl.cell").run Tryz.prog w=.ok (283,.agg #[vI s.b,vI s.e,vI s.g,.bool s.i,vI s.j]) w:=fun _=>by kernel_rfl
 have Py:∀X:World,(Instr.field 62 (.agg #[vI s.b,vI s.e]) 0).run Tryz.prog X=.ok (vI s.b) X:=fun _=>by kernel_rfl
 have SF:Hid (∀X,Below wr.1.size wr X->(fun X:World=>Bx X w.1.size [vI s.b,vI s.e,vI s.g,.bool s.i,vI s.j]/\X.cell? ⟨g,0,none⟩=some (vI (n:Int))) X):=fun X hX=>⟨FX.out.later hX,((ay b0 hX).cell (p:=⟨g,0,none⟩) uT).trans hg⟩
 have KB:=aB b0;clear b0 hg uT;go_enter Tryz.func251,Tryz.ntmps251;go_wp2_with fail;rw[<-hW];clear hW;have bd:Below wr.1.size wr wr.drew:=aJ.drew;have hS:=SF.out _ bd;refine bu (fun z=>z==6) (fun X:World=>Bx X w.1.size [vI s.b,vI s.e,vI s.g,.bool s.i,vI s.j]/\X.cell? ⟨g,0,none⟩=some (vI (n:Int))) (by kernel_rfl) ?_;generalize wr.drew=Wd at *;refine jg 0 ?_ rfl ?_ hS ?_;rotate_left
 ·(intro X aG;have c0:=aG.1.1 0 _ rfl;have c1:=aG.1.1 1 _ rfl;have c2:=aG.1.1 2 _ rfl;have c3:=aG.1.1 3 _ rfl;have c4:=aG.1.1 4 _ rfl;go_simp;first|done|with_reducible rfl)
 simp only[Act.put];refine jg 4 ?_ rfl ?_ hS ?_;rotate_left
 ·(intro X aG;have c5:=aG.2;go_simp;first|done|with_reducible rfl)
 simp only[Act.put];refine cz 1 ?_ rfl ?_ hS ?_;rotate_left
 ·(intro X _;go_simp;first|done|with_reducible rfl)
 simp only[Act.put];refine cZ 2 rfl (fun K hK=>?_);go_simp;refine(tx.oH Wd s).mono ?_;rintro e X2 ⟨rfl,b2⟩;have bX:=ay bd b2;refine hK.out _ _ (fun _=>SF.out _ bX) ?_;clear hK K;have hS:=SF.out _ bX;refine cz 3 ?_ rfl ?_ hS ?_;rotate_left
 ·(intro X _;go_simp;first|done|with_reducible rfl)
 simp only[Act.put];refine cz 5 ?_ rfl ?_ hS ?_;rotate_left
 ·(intro X _;go_simp;first|done|with_reducible rfl)
 simp only[Act.put];refine cZ 6 rfl (fun K hK=>?_);go_simp;refine hK.out _ _ (fun h=>absurd (show false=true from h.symm.trans (by kernel_rfl)) (by decide)) ?_;clear hK K;refine dL (by kernel_rfl) ?_ _;go_wp2;go_ret;exact⟨rfl,ay KB.out bX⟩
theorem FI(w:World)(a:Option Addr)(cap:Nat)(xs:List S5)(g n:Nat)(hn:xs.length<=maxLen)(hs:tx.Sl w w.1.size a xs.length xs)(hg:w.cell? ⟨g,0,none⟩=some (vI (n:Int)))(uT:g<w.1.size):
  Calls Tryz.prog 264 #[.slice a xs.length cap,.func (.func 251) #[] #[.pointer (some ⟨g,0,none⟩)]] w fun e w'=>(∃i:Int,e=.returned (vI i)/\eH (fun i=>decide ((n:Int)<=(tx.ax xs i).b)) xs.length i)/\Below w.1.size w w':=by
 unfold maxLen at hn;obtain⟨_,hs⟩:=hs;obtain⟨f,hf⟩:∃f:Nat->Bool,f=fun i=>decide ((n:Int)<=(tx.ax xs i).b):=⟨_,rfl⟩
 have HF:Hid (∀(X:World) (i:Nat),Below w.1.size w X->Calls Tryz.prog 251 #[.agg #[vI (tx.ax xs i).b,vI (tx.ax xs i).e,vI (tx.ax xs i).g,.bool (tx.ax xs i).i,vI (tx.ax xs i).j],.pointer (some ⟨g,0,none⟩)] X fun e w'=>e=.returned (.bool (f i))/\Below X.1.size X w'):=fun X i hX=>by
  rw[hf];exact NT X (tx.ax xs i) g n ((hX.cell (p:=⟨g,0,none⟩) uT).trans hg) (Nat.lt_of_lt_of_le uT hX.size)
 rw[<-hf];clear hf hg;go_enter Tryz.func264,Tryz.ntmps264;go_wp2;go_loopw[8] (fun v wr=>∃j:Nat,j<=xs.length/\v=vI j/\Below w.1.size w wr/\∀i,i<j->f i=false) (fun v _=>xs.length-(intOf v).toNat)
 case atStart=>exact⟨0,Nat.zero_le _,rfl,aJ,fun i h=>absurd h (by omega)⟩
 case round=>
  obtain⟨j,hj,rfl,aF,aP⟩:=hrel;by_cases aN:j<xs.length
  ·rcases hs with hs|⟨b,off,rfl,hb,h1⟩
   ·omega
   ·obtain⟨c0,c1,c2,c3,c4⟩:=(h1.below aF hb) j _ (tx.gM aN);have KA:Hid ((∀i,i<j->f i=false)/\Below w.1.size w wr):=⟨aP,aF⟩
    have hw:=HF.out wr j aF;have jn:(j:Int)<(xs.length:Int):=by omega
    clear h1 aP aF
    cases hp:f j with
    | true=>
     rw[hp]at hw;go_wp2_with fail;refine hw.mono ?_;clear hw;rintro e w1 ⟨rfl,b1⟩;go_wp2;go_ret;exact⟨⟨_,rfl,.inr ⟨j,rfl,aN,hp,KA.out.1⟩⟩,KA.out.2.trans (b1.mono KA.out.2.size)⟩
    | false=>
     rw[hp]at hw;go_wp2_with fail;refine hw.mono ?_;clear hw;rintro e w1 ⟨rfl,b1⟩;go_wp2
     exact⟨⟨j+1,by omega,by simp,KA.out.2.trans (b1.mono KA.out.2.size),fun i hi=>by
      by_cases e:i=j
      ·rw[e];exact hp
      ·exact KA.out.1 i (by omega)⟩,by simp[intOf];omega⟩
  ·obtain rfl:j=xs.length:=by omega
   have hd:decide ((xs.length:Int)<(xs.length:Int))=false:=by simp
   have KA:Hid ((∀i,i<xs.length->f i=false)/\Below w.1.size w wr):=⟨aP,aF⟩
   clear hs aP aF;go_wp2;go_ret;exact⟨⟨_,rfl,.inl ⟨rfl,KA.out.1⟩⟩,KA.out.2⟩
theorem NW(w:World)(a:Option Addr)(cap:Nat)(xs:List S5)(n:Nat)(hn:xs.length<=maxLen)(hs:tx.Sl w w.1.size a xs.length xs):
  Calls Tryz.prog 221 #[.slice a xs.length cap,vI (n:Int)] w fun e w'=>e=.returned (.bool (nM n xs))/\Below w.1.size w w':=by
 obtain⟨W,hW⟩:∃Y,Y=w.alloc (.cells #[vI (n:Int)] 3):=⟨_,rfl⟩
 have b0:Below w.1.size w W:=by rw[hW];exact aJ.alloc aR _
 have g0:W.cell? ⟨w.1.size,0,none⟩=some (vI (n:Int)):=by rw[hW];go_simp
 have gl:w.1.size<W.1.size:=by rw[hW];simp
 have c1:=FI W a cap xs w.1.size n hn ((hs.below b0).mono b0.size) g0 gl
 have HE:Hid (∀i:Int,eH (fun i=>decide ((n:Int)<=(tx.ax xs i).b)) xs.length i->(!decide (0<=i))=nM n xs):=fun i h=>by
  rw[gT h,nM];simp only[Bool.not_not];congr 1;funext j;rw[Bool.eq_iff_iff];simp
 have KB:=aB b0;clear b0 g0 gl hs hn
 have VL:Calls Tryz.prog 252 #[.slice a xs.length cap,.func (.func 251) #[] #[.pointer (some ⟨w.1.size,0,none⟩)]] W fun e w'=>e=.returned (.bool (!nM n xs))/\Below W.1.size W w':=by
  clear hW KB;go_enter Tryz.func252,Tryz.ntmps252;go_wp2_with fail;refine c1.mono ?_;clear c1;rintro e w1 ⟨⟨i,rfl,hi⟩,b1⟩;have KE:=aB (HE.out i hi);have K1:=aB b1;clear hi HE b1;go_wp2;go_ret;exact⟨by rw[<-KE.out];simp,K1.out⟩
 clear c1 HE;go_enter Tryz.func221,Tryz.ntmps221;go_wp2_with fail;rw[<-hW];clear hW;refine VL.mono ?_;clear VL;rintro e w1 ⟨rfl,b1⟩;have K1:=aB b1;clear b1;go_wp2;go_ret;exact⟨by simp,ay KB.out K1.out⟩
def mG(k:C6)(t:tx.T7):Bool:=tx.jI t&&decide (t.o<(k.aa.length:Int))&&decide (t.aA<=k.l)&&kR k.f.length t.a&&nM k.f.length t.ag
theorem Ip(w:World)(t0:Option Addr)(t1:Nat)(t2:Option Addr)(t3:Nat)(t:tx.T7)(a1:Option Addr)(c1:Nat)(a2:Option Addr)(c2:Nat)(a3:Option Addr)(c3:Nat)(k:C6)(hl:tx.TL t)(h:tx.lW w ⟨t0,t1,t2,t3⟩ t):Calls Tryz.prog 191 #[.agg #[vI t.id,vI t.o,vI t.q,vI t.v,.slice t0 t.a.length t1,.slice t2 t.ag.length t3,vI t.aA],.agg #[vI k.u,vI k.l,.slice a1 k.f.length c1,.slice a2 k.aa.length c2,.slice a3 k.c.length c3,.bool k.w]] w fun e w'=>e=.returned (.bool (mG k t))/\Below w.1.size w w':=by
 obtain⟨U0,iQ⟩:∃Y,Y=w.alloc (.cells #[vI t.id,vI t.o,vI t.q,vI t.v,.slice t0 t.a.length t1,.slice t2 t.ag.length t3,vI t.aA] 50):=⟨_,rfl⟩
 have b0:Below w.1.size w U0:=by rw[iQ];exact aJ.alloc aR _
 have x0:Bx U0 w.1.size (tx.iC t0 t1 t2 t3 t):=by rw[iQ];exact Bx.made w (tx.iC t0 t1 t2 t3 t) _
 have z0:U0.1.size=w.1.size+1:=by rw[iQ];simp
 obtain⟨U,hU⟩:∃Y,Y=U0.alloc (.cells #[vI k.u,vI k.l,.slice a1 k.f.length c1,.slice a2 k.aa.length c2,.slice a3 k.c.length c3,.bool k.w] 32):=⟨_,rfl⟩
 have b1:Below U0.1.size U0 U:=by rw[hU];exact aJ.alloc aR _
 have x1:Bx U U0.1.size (dJ a1 c1 a2 c2 a3 c3 k):=by rw[hU];exact Bx.made U0 (dJ a1 c1 a2 c2 a3 c3 k) _
 rw[z0]at x1;have bU:Below w.1.size w U:=ay b0 b1;have FA:Hid (Bx U w.1.size (tx.iC t0 t1 t2 t3 t)):=x0.later b1;have FB:Hid (Bx U (w.1.size+1) (dJ a1 c1 a2 c2 a3 c3 k)):=x1;have HR:Hid (tx.lW U ⟨t0,t1,t2,t3⟩ t/\tx.TL t/\Below w.1.size w U):=⟨h.later bU,hl,bU⟩
 have hc:=tx.ug U ⟨t0,t1,t2,t3⟩ t hl (h.later bU);simp only[tx.TV.val]at hc;rw[iQ]at hU;clear b0 x0 z0 b1 x1 bU iQ h hl;go_enter Tryz.func191,Tryz.ntmps191;go_wp2_with fail;rw[<-hU];clear hU;refine hc.mono ?_;clear hc;rintro e w1 ⟨rfl,b1⟩;have B1:=aB b1;clear b1
 cases hB:tx.jI t with
 | false=>
  have hb:Hid (mG k t=false):=by unfold Hid;simp[mG,hB]
  go_wp2;go_ret;exact⟨by rw[hb.out];rfl,ay HR.out.2.2 B1.out⟩
 | true=>
 have q1:=(FA.out.later B1.out).1 1 _ rfl;have q6:=(FA.out.later B1.out).1 6 _ rfl;have q4:=(FA.out.later B1.out).1 4 _ rfl;have r1:=(FB.out.later B1.out).1 1 _ rfl;have r2:=(FB.out.later B1.out).1 2 _ rfl;have r3:=(FB.out.later B1.out).1 3 _ rfl;by_cases gh:t.o<(k.aa.length:Int)
 case neg=>
  have dh:decide ((k.aa.length:Int)<=t.o)=true:=by simp<;>omega
  have hb:Hid (mG k t=false):=by unfold Hid;simp[mG,gh]
  go_wp2;go_ret;exact⟨by rw[hb.out];rfl,ay HR.out.2.2 B1.out⟩
 have dh:decide ((k.aa.length:Int)<=t.o)=false:=by simp<;>omega
 by_cases gs:t.aA<=k.l
 case neg=>
  have ds:decide (k.l<t.aA)=true:=by simp<;>omega
  have hb:Hid (mG k t=false):=by unfold Hid;simp[mG,gs]
  go_wp2;go_ret;exact⟨by rw[hb.out];rfl,ay HR.out.2.2 B1.out⟩
 have ds:decide (k.l<t.aA)=false:=by simp<;>omega
 have HY:Hid (mG k t=(kR k.f.length t.a&&nM k.f.length t.ag)):=by unfold Hid;simp[mG,hB,gh,gs]
 have hc:=NC w1 t0 t1 t.a k.f.length HR.out.2.1.r (HR.out.1.later B1.out).r;clear gh gs;go_wp2_with fail;refine hc.mono ?_;clear hc q1 q6 q4 r1 r2 r3 dh ds;rintro e w2 ⟨rfl,b2⟩;have B2:Hid (Below U.1.size U w2):=ay B1.out b2;clear b2
 cases hR:kR k.f.length t.a with
 | false=>
  have hb:Hid (mG k t=false):=by unfold Hid;rw[HY.out,hR];rfl
  go_wp2;go_ret;exact⟨by rw[hb.out];rfl,ay HR.out.2.2 B2.out⟩
 | true=>
 have q5:=(FA.out.later B2.out).1 5 _ rfl;have r2:=(FB.out.later B2.out).1 2 _ rfl;have hc:=NW w2 t2 t3 t.ag k.f.length HR.out.2.1.s (HR.out.1.later B2.out).s;have HZ:Hid (mG k t=nM k.f.length t.ag):=by unfold Hid;rw[HY.out,hR];rfl
 go_wp2_with fail;refine hc.mono ?_;clear hc q5 r2;rintro e w3 ⟨rfl,b3⟩;have B3:Hid (Below U.1.size U w3):=ay B2.out b3;clear b3;go_wp2;go_ret;exact⟨by rw[HZ.out];simp,ay HR.out.2.2 B3.out⟩
theorem Qp(w:World)(g:Nat)(t0:Option Addr)(t1:Nat)(t2:Option Addr)(t3:Nat)(t:tx.T7)(a1:Option Addr)(c1:Nat)(a2:Option Addr)(c2:Nat)(a3:Option Addr)(c3:Nat)(k:C6)(hl:tx.TL t)(h:tx.lW w ⟨t0,t1,t2,t3⟩ t)(hg:Bx w g (dJ a1 c1 a2 c2 a3 c3 k)):Calls Tryz.prog 190 #[.agg #[vI t.id,vI t.o,vI t.q,vI t.v,.slice t0 t.a.length t1,.slice t2 t.ag.length t3,vI t.aA],.pointer (some ⟨g,0,none⟩)] w fun e w'=>e=.returned (.bool (!mG k t))/\Below w.1.size w w':=by
 obtain⟨U,hU⟩:∃Y,Y=w.alloc (.cells #[vI t.id,vI t.o,vI t.q,vI t.v,.slice t0 t.a.length t1,.slice t2 t.ag.length t3,vI t.aA] 50):=⟨_,rfl⟩
 have b0:Below w.1.size w U:=by rw[hU];exact aJ.alloc aR _
 have hc:=Ip U t0 t1 t2 t3 t a1 c1 a2 c2 a3 c3 k hl (h.later b0);have hx:=hg.later b0;have p0:=hx.1 0 _ rfl;have p1:=hx.1 1 _ rfl;have p2:=hx.1 2 _ rfl;have p3:=hx.1 3 _ rfl;have p4:=hx.1 4 _ rfl;have p5:=hx.1 5 _ rfl;have KB:=aB b0;rw[hU]at p0 p1 p2 p3 p4 p5;clear b0 hx hg h hl;go_enter Tryz.func190,Tryz.ntmps190;go_wp2_with fail;rw[<-hU];clear hU p0 p1 p2 p3 p4 p5;refine hc.mono ?_;clear hc;rintro e w1 ⟨rfl,b1⟩;have B1:=aB b1;clear b1;go_wp2;go_ret;exact⟨rfl,ay KB.out B1.out⟩
theorem ED(w:World)(t0:Option Addr)(t1:Nat)(t2:Option Addr)(t3:Nat)(t:tx.T7):Calls Tryz.prog 193 #[.agg #[vI t.id,vI t.o,vI t.q,vI t.v,.slice t0 t.a.length t1,.slice t2 t.ag.length t3,vI t.aA]] w fun e w'=>e=.returned (vI t.id)/\Below w.1.size w w':=by
 go_enter Tryz.func193,Tryz.ntmps193;go_wp2;go_ret;exact⟨rfl,aJ.alloc aR _⟩
def F5(ts:List tx.T7)(i:Nat):Bool:=decide (i=0)||decide ((aM ts (i-1)).id<(aM ts i).id)
theorem jM{A X Y:World}(h:Below A.1.size A X)(b:Below X.1.size X Y):Below A.1.size A Y:=ay h b
theorem Hz(w:World)(a:Option Addr)(cap:Nat)(ts:List tx.T7)(hn:ts.length<=maxLen)(hs:fQ.qM w a ts):
  Calls Tryz.prog 192 #[.slice a ts.length cap,.func (.func 193) #[] #[]] w fun e w'=>e=.returned (.bool ((List.range ts.length).all (F5 ts)))/\Below w.1.size w w':=by
 unfold maxLen at hn;go_enter Tryz.func192,Tryz.ntmps192;go_wp2;go_loopw[5] (fun i wr=>∃j:Nat,(j+1<=ts.length\/j=0)/\i=vI (((j+1:Nat)):Int)/\Below w.1.size w wr/\(List.range (j+1)).all (F5 ts)=true) (fun i _=>ts.length-(intOf i).toNat)
 case atStart=>exact⟨0,.inr rfl,rfl,aJ,by simp[F5]⟩
 case round=>
  obtain⟨j,hj,rfl,aF,aP⟩:=hrel;have K:Hid (Below w.1.size w wr/\(List.range (j+1)).all (F5 ts)=true):=⟨aF,aP⟩
  by_cases aN:j+1<ts.length
  ·rcases hs with hs|⟨b,off,rfl,hb,h1⟩
   ·rw[hs]at aN;simp at aN
   obtain⟨⟨X8,X9,Ya,Yb⟩,hx,_⟩:=h1 (j+1) _ (fV aN);obtain⟨⟨y0',y1',y2',Yc⟩,hy,_⟩:=h1 j _ (fV (by omega));have x0:∀dd os,(grow (redrawn wr dd) os).cell? ⟨b,off+(j+1)*7,none⟩=some (vI (aM ts (j+1)).id):=fun dd os=>((jM K.out.1 (below_regrown wr dd os)).cell (p:=⟨b,off+(j+1)*7,none⟩) hb).trans (hx 0 _ rfl)
   have x1:∀dd os,(grow (redrawn wr dd) os).cell? ⟨b,off+(j+1)*7+1,none⟩=some (vI (aM ts (j+1)).o):=fun dd os=>((jM K.out.1 (below_regrown wr dd os)).cell (p:=⟨b,off+(j+1)*7+1,none⟩) hb).trans (hx 1 _ rfl)
   have x2:∀dd os,(grow (redrawn wr dd) os).cell? ⟨b,off+(j+1)*7+2,none⟩=some (vI (aM ts (j+1)).q):=fun dd os=>((jM K.out.1 (below_regrown wr dd os)).cell (p:=⟨b,off+(j+1)*7+2,none⟩) hb).trans (hx 2 _ rfl)
   have x3:∀dd os,(grow (redrawn wr dd) os).cell? ⟨b,off+(j+1)*7+3,none⟩=some (vI (aM ts (j+1)).v):=fun dd os=>((jM K.out.1 (below_regrown wr dd os)).cell (p:=⟨b,off+(j+1)*7+3,none⟩) hb).trans (hx 3 _ rfl)
   have x4:∀dd os,(grow (redrawn wr dd) os).cell? ⟨b,off+(j+1)*7+4,none⟩=some (.slice X8 (aM ts (j+1)).a.length X9):=fun dd os=>((jM K.out.1 (below_regrown wr dd os)).cell (p:=⟨b,off+(j+1)*7+4,none⟩) hb).trans (hx 4 _ rfl)
   have x5:∀dd os,(grow (redrawn wr dd) os).cell? ⟨b,off+(j+1)*7+5,none⟩=some (.slice Ya (aM ts (j+1)).ag.length Yb):=fun dd os=>((jM K.out.1 (below_regrown wr dd os)).cell (p:=⟨b,off+(j+1)*7+5,none⟩) hb).trans (hx 5 _ rfl)
   have x6:∀dd os,(grow (redrawn wr dd) os).cell? ⟨b,off+(j+1)*7+6,none⟩=some (vI (aM ts (j+1)).aA):=fun dd os=>((jM K.out.1 (below_regrown wr dd os)).cell (p:=⟨b,off+(j+1)*7+6,none⟩) hb).trans (hx 6 _ rfl)
   have y0:∀dd os,(grow (redrawn wr dd) os).cell? ⟨b,off+j*7,none⟩=some (vI (aM ts j).id):=fun dd os=>((jM K.out.1 (below_regrown wr dd os)).cell (p:=⟨b,off+j*7,none⟩) hb).trans (hy 0 _ rfl)
   have y1:∀dd os,(grow (redrawn wr dd) os).cell? ⟨b,off+j*7+1,none⟩=some (vI (aM ts j).o):=fun dd os=>((jM K.out.1 (below_regrown wr dd os)).cell (p:=⟨b,off+j*7+1,none⟩) hb).trans (hy 1 _ rfl)
   have y2:∀dd os,(grow (redrawn wr dd) os).cell? ⟨b,off+j*7+2,none⟩=some (vI (aM ts j).q):=fun dd os=>((jM K.out.1 (below_regrown wr dd os)).cell (p:=⟨b,off+j*7+2,none⟩) hb).trans (hy 2 _ rfl)
   have y3:∀dd os,(grow (redrawn wr dd) os).cell? ⟨b,off+j*7+3,none⟩=some (vI (aM ts j).v):=fun dd os=>((jM K.out.1 (below_regrown wr dd os)).cell (p:=⟨b,off+j*7+3,none⟩) hb).trans (hy 3 _ rfl)
   have y4:∀dd os,(grow (redrawn wr dd) os).cell? ⟨b,off+j*7+4,none⟩=some (.slice y0' (aM ts j).a.length y1'):=fun dd os=>((jM K.out.1 (below_regrown wr dd os)).cell (p:=⟨b,off+j*7+4,none⟩) hb).trans (hy 4 _ rfl)
   have y5:∀dd os,(grow (redrawn wr dd) os).cell? ⟨b,off+j*7+5,none⟩=some (.slice y2' (aM ts j).ag.length Yc):=fun dd os=>((jM K.out.1 (below_regrown wr dd os)).cell (p:=⟨b,off+j*7+5,none⟩) hb).trans (hy 5 _ rfl)
   have y6:∀dd os,(grow (redrawn wr dd) os).cell? ⟨b,off+j*7+6,none⟩=some (vI (aM ts j).aA):=fun dd os=>((jM K.out.1 (below_regrown wr dd os)).cell (p:=⟨b,off+j*7+6,none⟩) hb).trans (hy 6 _ rfl)
   have cQ:∀d os,Calls Tryz.prog 193 #[.agg #[vI (aM ts (j+1)).id,vI (aM ts (j+1)).o,vI (aM ts (j+1)).q,vI (aM ts (j+1)).v,.slice X8 (aM ts (j+1)).a.length X9,.slice Ya (aM ts (j+1)).ag.length Yb,vI (aM ts (j+1)).aA]] (grow (redrawn wr d) os) fun e fq=>e=.returned (vI (aM ts (j+1)).id)/\∃p:Regrown,fq=grow (redrawn wr p.d) p.os:=fun d os=>Calls.regrown_of (ED _ _ _ _ _ _)
   have cR:∀d os,Calls Tryz.prog 193 #[.agg #[vI (aM ts j).id,vI (aM ts j).o,vI (aM ts j).q,vI (aM ts j).v,.slice y0' (aM ts j).a.length y1',.slice y2' (aM ts j).ag.length Yc,vI (aM ts j).aA]] (grow (redrawn wr d) os) fun e fq=>e=.returned (vI (aM ts j).id)/\∃p:Regrown,fq=grow (redrawn wr p.d) p.os:=fun d os=>Calls.regrown_of (ED _ _ _ _ _ _)
   have UT:(j:Int)<(ts.length:Int):=by omega
   have da:((j+1:Nat):Int)<(ts.length:Int):=by omega
   have HL:Hid (j+1<ts.length):=aN;have U:Hid (F5 ts (j+1)=decide ((aM ts j).id<(aM ts (j+1)).id)):=by unfold Hid;simp[F5]
   clear hx hy aF aP h1 aN;generalize aM ts (j+1)=F4 at *;generalize aM ts j=F3 at *;by_cases hq:F4.id<=F3.id
   ·have Gz:decide (F4.id<=F3.id)=true:=by simp[hq]
    have hU:F5 ts (j+1)=false:=by rw[U.out];simp;omega
    clear hq;go_wp2_with fail;refine wp_region_quiet_below (by kernel_rfl) (by kernel_rfl) ?_;repeat (go_big_quiet_step (first|(go_at_call_of 193 (Value.agg #[vI F4.id,vI F4.o,vI F4.q,vI F4.v,.slice X8 F4.a.length X9,.slice Ya F4.ag.length Yb,vI F4.aA]);exact cQ _ _)|(go_at_call_of 193 (Value.agg #[vI F3.id,vI F3.o,vI F3.q,vI F3.v,.slice y0' F3.a.length y1',.slice y2' F3.ag.length Yc,vI F3.aA]);exact cR _ _)))
    refine wpQuiet_nil ?_;intro _ dD;obtain⟨⟨dq,bI⟩,aT⟩:=dD;subst aT;have bq:=below_regrown wr dq bI;go_wp2;go_ret;exact⟨by rw[ig (f:=F5 ts) HL.out hU];rfl,K.out.1.trans (bq.mono K.out.1.size)⟩
   ·have Gz:decide (F4.id<=F3.id)=false:=by simp;omega
    have hU:F5 ts (j+1)=true:=by rw[U.out];simp;omega
    clear hq;go_wp2_with fail;refine wp_region_quiet_below (by kernel_rfl) (by kernel_rfl) ?_;repeat (go_big_quiet_step (first|(go_at_call_of 193 (Value.agg #[vI F4.id,vI F4.o,vI F4.q,vI F4.v,.slice X8 F4.a.length X9,.slice Ya F4.ag.length Yb,vI F4.aA]);exact cQ _ _)|(go_at_call_of 193 (Value.agg #[vI F3.id,vI F3.o,vI F3.q,vI F3.v,.slice y0' F3.a.length y1',.slice y2' F3.ag.length Yc,vI F3.aA]);exact cR _ _)))
    refine wpQuiet_nil ?_;intro _ dD;obtain⟨⟨dq,bI⟩,aT⟩:=dD;subst aT;have bq:=below_regrown wr dq bI;go_wp2;exact⟨⟨j+1,.inl (by have:=HL.out;omega),by simp,K.out.1.trans (bq.mono K.out.1.size),jL (f:=F5 ts) K.out.2 hU⟩,by have:=HL.out;simp[intOf];omega⟩
  ·have hd:decide (((j+1:Nat):Int)<(ts.length:Int))=false:=by simp;omega
   have hA:(List.range ts.length).all (F5 ts)=true:=by
    by_cases h0:ts.length=0
    ·rw[h0];rfl
    ·have:ts.length=j+1:=by omega
     rw[this];exact aP
   have HA:=aB hA;clear hs aP hA;go_wp2;go_ret;exact⟨by rw[HA.out];rfl,aF⟩
def Rc(w:World)(xs:List tx.T7)(g:Nat)(f:Nat->Bool):Prop:=
 ∀(X:World) (i:Nat) (t0:Option Addr) (t1:Nat) (t2:Option Addr) (t3:Nat),Below w.1.size w X->i<xs.length->fQ.Rd X ⟨t0,t1,t2,t3⟩ (aM xs i)->Calls Tryz.prog 190 #[.agg #[vI (aM xs i).id,vI (aM xs i).o,vI (aM xs i).q,vI (aM xs i).v,.slice t0 (aM xs i).a.length t1,.slice t2 (aM xs i).ag.length t3,vI (aM xs i).aA],.pointer (some ⟨g,0,none⟩)] X fun e w'=>e=.returned (.bool (f i))/\Below X.1.size X w'
theorem ZF(w:World)(a:Option Addr)(cap:Nat)(xs:List tx.T7)(g:Nat)(f:Nat->Bool)(hn:xs.length<=maxLen)(hs:fQ.qM w a xs)(hf:Rc w xs g f):
  Calls Tryz.prog 222 #[.slice a xs.length cap,.func (.func 190) #[] #[.pointer (some ⟨g,0,none⟩)]] w fun e w'=>(∃i:Int,e=.returned (vI i)/\eH f xs.length i)/\Below w.1.size w w':=by
 unfold maxLen at hn;have HF:=aB hf;clear hf;go_enter Tryz.func222,Tryz.ntmps222;go_wp2;go_loopw[8] (fun v wr=>∃j:Nat,j<=xs.length/\v=vI j/\Below w.1.size w wr/\∀i,i<j->f i=false) (fun v _=>xs.length-(intOf v).toNat)
 case atStart=>exact⟨0,Nat.zero_le _,rfl,aJ,fun i h=>absurd h (by omega)⟩
 case round=>
  obtain⟨j,hj,rfl,aF,aP⟩:=hrel;by_cases aN:j<xs.length
  ·rcases hs with hs|⟨b,off,rfl,hb,h1⟩
   ·rw[hs]at aN;simp at aN
   obtain⟨⟨t0,t1,t2,t3⟩,bg,fM⟩:=h1 j _ (fV aN);have e0:wr.cell? ⟨b,off+j*7,none⟩=some (vI (aM xs j).id):=(aF.cell (p:=⟨b,off+j*7,none⟩) hb).trans (bg 0 _ rfl);have e1:wr.cell? ⟨b,off+j*7+1,none⟩=some (vI (aM xs j).o):=(aF.cell (p:=⟨b,off+j*7+1,none⟩) hb).trans (bg 1 _ rfl);have e2:wr.cell? ⟨b,off+j*7+2,none⟩=some (vI (aM xs j).q):=(aF.cell (p:=⟨b,off+j*7+2,none⟩) hb).trans (bg 2 _ rfl);have e3:wr.cell? ⟨b,off+j*7+3,none⟩=some (vI (aM xs j).v):=(aF.cell (p:=⟨b,off+j*7+3,none⟩) hb).trans (bg 3 _ rfl);have e4:wr.cell? ⟨b,off+j*7+4,none⟩=some (.slice t0 (aM xs j).a.length t1):=(aF.cell (p:=⟨b,off+j*7+4,none⟩) hb).trans (bg 4 _ rfl);have e5:wr.cell? ⟨b,off+j*7+5,none⟩=some (.slice t2 (aM xs j).ag.length t3):=(aF.cell (p:=⟨b,off+j*7+5,none⟩) hb).trans (bg 5 _ rfl);have e6:wr.cell? ⟨b,off+j*7+6,none⟩=some (vI (aM xs j).aA):=(aF.cell (p:=⟨b,off+j*7+6,none⟩) hb).trans (bg 6 _ rfl);have hw:=HF.out wr j t0 t1 t2 t3 aF aN (fQ.later fM aF);have KA:Hid ((∀i,i<j->f i=false)/\Below w.1.size w wr):=⟨aP,aF⟩
   have jn:(j:Int)<(xs.length:Int):=by omega
   clear h1 bg fM aP aF
   cases hp:f j with
   | true=>
    rw[hp]at hw;go_wp2_with fail;refine hw.mono ?_;clear hw;rintro e w1 ⟨rfl,b1⟩;go_wp2;go_ret;exact⟨⟨_,rfl,.inr ⟨j,rfl,aN,hp,KA.out.1⟩⟩,KA.out.2.trans (b1.mono KA.out.2.size)⟩
   | false=>
    rw[hp]at hw;go_wp2_with fail;refine hw.mono ?_;clear hw;rintro e w1 ⟨rfl,b1⟩;go_wp2
    exact⟨⟨j+1,by omega,by simp,KA.out.2.trans (b1.mono KA.out.2.size),fun i hi=>by
     by_cases e:i=j
     ·rw[e];exact hp
     ·exact KA.out.1 i (by omega)⟩,by simp[intOf];omega⟩
  ·obtain rfl:j=xs.length:=by omega
   have hd:decide ((xs.length:Int)<(xs.length:Int))=false:=by simp
   have KA:Hid ((∀i,i<xs.length->f i=false)/\Below w.1.size w wr):=⟨aP,aF⟩
   clear aP aF hs;go_wp2;go_ret;exact⟨⟨_,rfl,.inl ⟨rfl,KA.out.1⟩⟩,KA.out.2⟩
theorem Nf(w:World)(a:Option Addr)(cap:Nat)(xs:List tx.T7)(g:Nat)(f:Nat->Bool)(hn:xs.length<=maxLen)(hs:fQ.qM w a xs)(hf:Rc w xs g f):
  Calls Tryz.prog 194 #[.slice a xs.length cap,.func (.func 190) #[] #[.pointer (some ⟨g,0,none⟩)]] w fun e w'=>e=.returned (.bool (!((List.range xs.length).all fun j=>!f j)))/\Below w.1.size w w':=by
 have hc:=ZF w a cap xs g f hn hs hf;clear hs hf;go_enter Tryz.func194,Tryz.ntmps194;go_wp2_with fail;refine hc.mono ?_;clear hc;rintro e w1 ⟨⟨i,rfl,hi⟩,b1⟩;have h:=gT hi;have KB:=aB b1;clear b1 hi;go_wp2;go_ret;exact⟨by rw[<-h];rfl,KB.out⟩
theorem JA(k:C6):qB k=((List.range k.c.length).all (F5 k.c)&&(List.range k.c.length).all (fun i=>mG k (aM k.c i))):=by
 unfold qB;rw[<-Ct];apply all_congr;intro i _;unfold mr F5 mG
 cases tx.jI (aM k.c i)<;>cases decide (i=0)<;>cases decide ((aM k.c (i-1)).id<(aM k.c i).id)<;>simp
theorem Iq(w:World)(a1:Option Addr)(c1:Nat)(a2:Option Addr)(c2:Nat)(a3:Option Addr)(c3:Nat)(k:C6)(hl:bK.L k)(h:bK.Rd w a1 c1 a2 c2 a3 c3 k):Calls Tryz.prog 168 #[.agg #[vI k.u,vI k.l,.slice a1 k.f.length c1,.slice a2 k.aa.length c2,.slice a3 k.c.length c3,.bool k.w]] w fun e w'=>e=.returned (.bool (decide (k.c.length<=60)&&qB k))/\Below w.1.size w w':=by
 obtain⟨U,hU⟩:∃Y,Y=w.alloc (.cells #[vI k.u,vI k.l,.slice a1 k.f.length c1,.slice a2 k.aa.length c2,.slice a3 k.c.length c3,.bool k.w] 32):=⟨_,rfl⟩
 have b0:Below w.1.size w U:=by rw[hU];exact aJ.alloc aR _
 have FA:Hid (Bx U w.1.size (dJ a1 c1 a2 c2 a3 c3 k)):=by rw[hU];exact Bx.made w (dJ a1 c1 a2 c2 a3 c3 k) _
 have HR:Hid (bK.Rd U a1 c1 a2 c2 a3 c3 k/\bK.L k):=⟨h.later b0,hl⟩
 have BW:Hid (Below w.1.size w U):=b0;have lt:=hl.t;unfold maxLen at lt;have p4:=FA.out.1 4 _ rfl;rw[hU]at p4;clear b0 h hl;by_cases g5:k.c.length<=60
 case neg=>
  have d5:decide ((k.c.length:Int)<=60)=false:=by simp<;>omega
  have hb:(decide (k.c.length<=60)&&qB k)=false:=by simp[g5]
  rw[hb];rw[hU]at BW;clear FA HR hU hb;go_enter Tryz.func168,Tryz.ntmps168;go_wp2;go_ret;exact⟨rfl,BW.out⟩
 have d5:decide ((k.c.length:Int)<=60)=true:=by simp<;>omega
 have HB:Hid ((decide (k.c.length<=60)&&qB k)=((List.range k.c.length).all (F5 k.c)&&(List.range k.c.length).all (fun i=>mG k (aM k.c i)))):=by unfold Hid;rw[<-JA];simp[g5]
 have hc:=Hz U a3 c3 k.c HR.out.2.t HR.out.1.t;go_enter Tryz.func168,Tryz.ntmps168;go_wp2_with fail;rw[<-hU];clear hU p4;refine hc.mono ?_;clear hc;rintro e w1 ⟨rfl,b1⟩;have B1:=aB b1;clear b1
 cases hR:(List.range k.c.length).all (F5 k.c)with
 | false=>
  go_wp2;go_ret;exact⟨by rw[HB.out,hR];rfl,ay BW.out B1.out⟩
 | true=>
 have p4:=(FA.out.later B1.out).1 4 _ rfl;have hc:=Nf w1 a3 c3 k.c w.1.size (fun i=>!mG k (aM k.c i)) HR.out.2.t (HR.out.1.later B1.out).t (fun X i t0 t1 t2 t3 hb hi hr=>Qp X w.1.size t0 t1 t2 t3 (aM k.c i) a1 c1 a2 c2 a3 c3 k (HR.out.2.ts _ (List.mem_of_getElem? (fV hi))) hr (FA.out.later (ay B1.out hb)));have he:(!((List.range k.c.length).all fun j=>!(fun i=>!mG k (aM k.c i)) j))=!((List.range k.c.length).all fun i=>mG k (aM k.c i)):=by simp
 rw[he]at hc;clear he;have HZ:Hid ((decide (k.c.length<=60)&&qB k)=(List.range k.c.length).all (fun i=>mG k (aM k.c i))):=by unfold Hid;rw[HB.out,hR];rfl
 generalize ((List.range k.c.length).all fun i=>mG k (aM k.c i))=BB at *;go_wp2_with fail;refine hc.mono ?_;clear hc p4;rintro e w2 ⟨rfl,b2⟩;have B2:Hid (Below U.1.size U w2):=ay B1.out b2;clear b2;go_wp2;go_ret;exact⟨by rw[HZ.out];simp,ay BW.out B2.out⟩
def PU(w:World)(n:Nat)(rs:List K2)(g:Nat)(f:Nat->Bool):Prop:=
 ∀(X:World) (i:Nat) (a':Option Addr) (aZ:Nat),Below w.1.size w X->i<n->pE X X.1.size a' (cO rs i).cells.length (cO rs i).cells->Calls Tryz.prog 308 #[(cO rs i).val a' aZ,.pointer (some ⟨g,0,none⟩)] X fun e w'=>e=.returned (.bool (f i))/\Below X.1.size X w'
theorem Te(w:World)(a:Option Addr)(n cap:Nat)(rs:List K2)(g:Nat)(f:Nat->Bool)(hn:n<=maxLen)(hs:xe w w.1.size a n rs)(hf:PU w n rs g f):
  Calls Tryz.prog 258 #[.slice a n cap,.func (.func 308) #[] #[.pointer (some ⟨g,0,none⟩)]] w fun e w'=>(∃i:Int,e=.returned (vI i)/\eH f n i)/\Below w.1.size w w':=by
 unfold maxLen at hn;obtain⟨hx,hs⟩:=hs;have HF:=aB hf;clear hf;go_enter Tryz.func258,Tryz.ntmps258;go_wp2;go_loopw[8] (fun v wr=>∃j:Nat,j<=n/\v=vI j/\Below w.1.size w wr/\∀i,i<j->f i=false) (fun v _=>n-(intOf v).toNat)
 case atStart=>exact⟨0,Nat.zero_le _,rfl,aJ,fun i h=>absurd h (by omega)⟩
 case round=>
  obtain⟨j,hj,rfl,aF,aP⟩:=hrel;by_cases aN:j<n
  ·rcases hs with hs|⟨b,off,rfl,hb,h1⟩
   ·omega
   ·have hr:=(h1 j _ (eX (by omega))).below aF hb;have c0:=hr.c0;obtain⟨a',aZ,c1,gy,jJ⟩:=hr.c1;have KA:Hid ((∀i,i<j->f i=false)/\Below w.1.size w wr):=⟨aP,aF⟩
    have hw:=HF.out wr j a' aZ aF aN (gy.mono aF.size);simp only[K2.val]at hw;clear h1 hr aP gy aF jJ;generalize (cO rs j).cells.length=ln at *
    cases hp:f j with
    | true=>
     rw[hp]at hw;go_wp2_with fail;refine hw.mono ?_;clear hw;rintro e w1 ⟨rfl,b1⟩;go_wp2;go_ret;exact⟨⟨_,rfl,.inr ⟨j,rfl,aN,hp,KA.out.1⟩⟩,KA.out.2.trans (b1.mono KA.out.2.size)⟩
    | false=>
     rw[hp]at hw;go_wp2_with fail;refine hw.mono ?_;clear hw;rintro e w1 ⟨rfl,b1⟩;go_wp2
     exact⟨⟨j+1,by omega,by simp,KA.out.2.trans (b1.mono KA.out.2.size),fun i hi=>by
      by_cases e:i=j
      ·rw[e];exact hp
      ·exact KA.out.1 i (by omega)⟩,by simp[intOf];omega⟩
  ·have:j=n:=by omega
   subst this;have hd:decide ((j:Int)<(j:Int))=false:=by simp
   have KA:Hid (∀i,i<j->f i=false):=aP;clear hs aP;go_wp2;go_ret;exact⟨⟨_,rfl,.inl ⟨rfl,KA.out⟩⟩,aF⟩
theorem EN{m:M4}(h:eY m=true):∀c∈m.af,c.cells.length=6:=by
 simp only[eY,Bool.and_eq_true,decide_eq_true_eq]at h;obtain⟨⟨⟨⟨⟨h1,h2⟩,h3⟩,_⟩,h4⟩,h5⟩:=h;intro c hc;obtain⟨i,hi,rfl⟩:=List.getElem_of_mem hc;have:=List.all_eq_true.1 h4 i (List.mem_range.2 hi);simp only[l8,cO,List.getElem?_eq_getElem hi,Option.getD_some,Bool.and_eq_true,fJ,decide_eq_true_eq]at this;exact this.1.2.1
def mJ(m:M4)(a:Option Addr)(c:Nat):Value:=if m.x then .iface 263 (.agg #[.slice a m.af.length c])else .iface 265 (.agg #[])
theorem ou(w:World)(m0:Option Addr)(m1:Nat)(m2:Option Addr)(m3:Nat)(m4:Option Addr)(m5:Nat)(m:M4):Calls Tryz.prog 143 #[.agg #[.bool m.x,.slice m0 m.af.length m1,.slice m2 m.h.length m3,.slice m4 m.ai.length m5]] w fun e w'=>e=.returned (mJ m m0 m1)/\Below w.1.size w w':=by
 cases ha:m.x with
 | true=>
  have hv:mJ m m0 m1=.iface 263 (.agg #[.slice m0 m.af.length m1]):=by simp[mJ,ha]
  rw[hv];clear hv;go_enter Tryz.func143,Tryz.ntmps143;go_wp2;go_ret;exact⟨rfl,aJ.alloc aR _⟩
 | false=>
  have hv:mJ m m0 m1=.iface 265 (.agg #[]):=by simp[mJ,ha]
  rw[hv];clear hv;go_enter Tryz.func143,Tryz.ntmps143;go_wp2;go_ret;exact⟨rfl,aJ.alloc aR _⟩
theorem ze(w:World)(a:Option Addr)(n c:Nat):Calls Tryz.prog 307 #[.agg #[.slice a n c]] w fun e w'=>e=.returned (.bool true)/\Below w.1.size w w':=by
 go_enter Tryz.func307,Tryz.ntmps307;go_wp2;go_ret;exact⟨rfl,aJ.alloc aR _⟩
theorem za(w:World):Calls Tryz.prog 309 #[.agg #[]] w fun e w'=>e=.returned (.bool false)/\Below w.1.size w w':=by
 go_enter Tryz.func309,Tryz.ntmps309;go_wp2;go_ret;exact⟨rfl,aJ.alloc aR _⟩
theorem Oa(w:World)(x y:Int)(a:Option Addr)(n c g:Nat)(hg:w.cell? ⟨g,0,none⟩=some (vI y))(uT:g<w.1.size):Calls Tryz.prog 308 #[.agg #[vI x,.slice a n c],.pointer (some ⟨g,0,none⟩)] w fun e w'=>e=.returned (.bool (decide (x=y)))/\Below w.1.size w w':=by
 have b0:Below w.1.size w (w.alloc (.cells #[vI x,.slice a n c] 107)):=aJ.alloc aR _;have p0:=(b0.cell (p:=⟨g,0,none⟩) uT).trans hg;have he:(x==y)=decide (x=y):=by by_cases h:x=y<;>simp[h]
 have KB:=aB b0;clear b0 hg uT;go_enter Tryz.func308,Tryz.ntmps308;go_wp2;go_ret;exact⟨by rw[<-he];rfl,KB.out⟩
def LV(w w':World)(m:M4)(y:Int)(e:Ending):Prop:=
 (tQ m y=false/\e=.returned (.tuple #[.slice none 0 0,.bool false]))\/
 (tQ m y=true/\∃i q cp:Nat,rJ m y=(i:Int)/\i<m.af.length/\e=.returned (.tuple #[.slice (some ⟨q,0,none⟩) (cO m.af i).cells.length cp,.bool true])/\w.1.size<=q/\q<w'.1.size/\(cO m.af i).cells.length<=cp/\bJ w' q 0 (cO m.af i).cells/\Room w' q ((cO m.af i).cells.length*2))
theorem JJ(w:World)(a:Option Addr)(c:Nat)(m:M4)(y:Int)(hl:ML m)(hB:eY m=true)(hs:xe w w.1.size a m.af.length m.af):
  Calls Tryz.prog 306 #[.agg #[.slice a m.af.length c],vI y] w fun e w'=>LV w w' m y e/\Below w.1.size w w':=by
 have hn:=hl.k;obtain⟨U,hU⟩:∃Y,Y=(w.alloc (.cells #[.slice a m.af.length c] 263)).alloc (.cells #[vI y] 2):=⟨_,rfl⟩
 have b0:Below w.1.size w U:=by rw[hU];exact(aJ.alloc aR _).alloc (by simp) _
 have z0:U.1.size=w.1.size+2:=by rw[hU];simp
 have p0:U.cell? ⟨w.1.size,0,none⟩=some (.slice a m.af.length c):=by rw[hU];go_simp
 have p1:U.cell? ⟨w.1.size+1,0,none⟩=some (vI y):=by rw[hU];go_simp
 have hc:=Te U a m.af.length c m.af (w.1.size+1) (fun j=>decide ((cO m.af j).b=y)) hn (hs.later b0)
  (fun X i a' c' hb hi gy=>Oa X (cO m.af i).b y a' _ c' (w.1.size+1) ((hb.cell (p:=⟨w.1.size+1,0,none⟩) (by simp;omega)).trans p1) (by have:=hb.size;omega))
 have H:Hid (Below w.1.size w U/\U.1.size=w.1.size+2/\xe U U.1.size a m.af.length m.af):=⟨b0,z0,hs.later b0⟩
 have P0:=aB p0;clear b0 z0 hs p1;unfold maxLen at hn;rw[hU]at p0;go_enter Tryz.func306,Tryz.ntmps306;go_wp2_with fail;rw[<-hU];clear hU p0;refine hc.mono ?_;clear hc;rintro e w1 ⟨⟨i,rfl,hi⟩,b1⟩;have XO:=Em hi (lM m y);have aN:=yh m y;rw[<-XO]at aN;have B1:=aB b1
 cases hh:tQ m y with
 | false=>
  rw[hh]at aN;have d:decide (i<0)=true:=aN;clear aN hi XO b1;go_wp2;refine bodyPost_ret (v:=.tuple #[.slice none 0 0,.bool false]) (by simp[results,Tryz.results306,go_sem]) rfl ?_;exact⟨.inl ⟨hh,rfl⟩,ay H.out.1 B1.out⟩
 | true=>
  rw[hh]at aN;have d:decide (i<0)=false:=aN;rcases hi with ⟨rfl,_⟩|⟨j,rfl,hj,_,_⟩
  ·simp at d
  obtain⟨_,hk⟩:=H.out.2.2;rcases hk with hk|⟨b,off,rfl,hb,h1⟩
  ·omega
  have q0:=(b1.cell (p:=⟨w.1.size,0,none⟩) (by have:=H.out.2.1;simp;omega)).trans P0.out;have hr:=(h1 j _ (eX hj)).below b1 hb;obtain⟨a',aZ,c1,gy,jJ⟩:=hr.c1;have hlen:(cO m.af j).cells.length=6:=EN hB _ (List.mem_of_getElem? (eX hj));have ho:=uu w1 a' aZ (cO m.af j).cells (by omega) (by omega) (gy.mono b1.size);have HJ:Hid (rJ m y=(j:Int)/\j<m.af.length/\tQ m y=true):=⟨XO.symm,hj,hh⟩
  clear aN XO b1 h1 hr gy jJ hlen hB;go_wp2_with fail;refine ho.mono ?_;clear ho q0 c1;rintro e w2 ⟨q,cp,rfl,h2,h3,h4,h5,h6,b2⟩;have HF:Hid (w1.1.size<=q/\q<w2.1.size/\(cO m.af j).cells.length<=cp/\bJ w2 q 0 (cO m.af j).cells/\Room w2 q ((cO m.af j).cells.length*2)):=⟨h2,h3,h4,h5,h6⟩
  have B2:Hid (Below w.1.size w w2):=ay (ay H.out.1 B1.out) b2;have S1:Hid (w.1.size<=w1.1.size):=(ay H.out.1 B1.out).size;clear b2 h2 h3 h4 h5 h6;go_wp2;refine bodyPost_ret (v:=.tuple #[.slice (some ⟨q,0,none⟩) (cO m.af j).cells.length cp,.bool true]) (by simp[results,Tryz.results306,go_sem]) rfl ?_;exact⟨.inr ⟨HJ.out.2.2,j,q,cp,HJ.out.1,HJ.out.2.1,rfl,Nat.le_trans S1.out HF.out.1,HF.out.2⟩,B2.out⟩
theorem Jc:Tryz.prog.underlying 291=some (.interface #[("loop.example/g00153/impl.cells",293),("loop.example/g00153/impl.lives",216)]):=by kernel_rfl
theorem sO(w:World)(a:Option Addr)(c:Nat)(m:M4)(y:Int)(hl:ML m)(hB:eY m=true)(hs:xe w w.1.size a m.af.length m.af):
  Calls Tryz.prog 178 #[mJ m a c,vI y] w fun e w'=>((m.x=true/\LV w w' m y e)\/(m.x=false/\e=.returned (.tuple #[.slice none 0 0,.bool false])))/\Below w.1.size w w':=by
 cases ha:m.x with
 | true=>
  have hv:mJ m a c=.iface 263 (.agg #[.slice a m.af.length c]):=by simp[mJ,ha]
  rw[hv];have ht:∀w:World,(Instr.typeAssert (.iface 263 (.agg #[.slice a m.af.length c])) 223 291 true).run Tryz.prog w=.ok (.tuple #[.iface 263 (.agg #[.slice a m.af.length c]),.bool true]) w:=fun w=>run_typeAssert_hasB Jc (by kernel_rfl) _ _ w
  have hm:∀w:World,(method 454 263 (.agg #[.slice a m.af.length c]) "loop.example/g00153/impl.cells").run Tryz.prog w=.ok (306,.agg #[.slice a m.af.length c]) w:=fun _=>by kernel_rfl
  have hc:=JJ w a c m y hl hB hs;clear hv hl hB hs ha;go_enter Tryz.func178,Tryz.ntmps178;go_wp2_with fail;refine hc.mono ?_;clear hc;rintro e w1 ⟨h1,b1⟩;have H1:=aB h1;have B1:=aB b1;clear b1;rcases h1 with ⟨_,rfl⟩|⟨_,i,q,cp,_,_,rfl,_⟩
  ·go_wp2;refine bodyPost_ret (v:=.tuple #[.slice none 0 0,.bool false]) (by simp[results,Tryz.results178,go_sem]) rfl ?_;exact⟨.inl ⟨trivial,H1.out⟩,B1.out⟩
  ·go_wp2;refine bodyPost_ret (v:=.tuple #[.slice (some ⟨q,0,none⟩) (cO m.af i).cells.length cp,.bool true]) (by simp[results,Tryz.results178,go_sem]) rfl ?_;exact⟨.inl ⟨trivial,H1.out⟩,B1.out⟩
 | false=>
  have hv:mJ m a c=.iface 265 (.agg #[]):=by simp[mJ,ha]
  rw[hv];have ht:∀w:World,(Instr.typeAssert (.iface 265 (.agg #[])) 223 291 true).run Tryz.prog w=.ok (.tuple #[.nilIface,.bool false]) w:=fun w=>run_typeAssert_lacksB Jc (by kernel_rfl) (by kernel_rfl) _ _ w
  clear hv hl hB hs ha;go_enter Tryz.func178,Tryz.ntmps178;go_wp2;refine bodyPost_ret (v:=.tuple #[.slice none 0 0,.bool false]) (by simp[results,Tryz.results178,go_sem]) rfl ?_;exact⟨.inr ⟨trivial,rfl⟩,aJ⟩
theorem Ie(w:World)(a:Option Addr)(c:Nat)(m:M4)(y:Int)(hl:ML m)(hB:eY m=true)(hs:xe w w.1.size a m.af.length m.af):
  Calls Tryz.prog 189 #[mJ m a c,vI y] w fun e w'=>e=.returned (.bool (!m.x||tQ m y))/\Below w.1.size w w':=by
 have hc:=sO w a c m y hl hB hs;clear hl hB hs
 cases ha:m.x with
 | true=>
  have hv:mJ m a c=.iface 263 (.agg #[.slice a m.af.length c]):=by simp[mJ,ha]
  rw[hv]at hc ⊢
  have hm:∀w:World,(method 454 263 (.agg #[.slice a m.af.length c]) "loop.example/g00153/impl.lives").run Tryz.prog w=.ok (307,.agg #[.slice a m.af.length c]) w:=fun _=>by kernel_rfl
  have HA:=aB ha;clear hv ha;go_enter Tryz.func189,Tryz.ntmps189;go_wp2_with fail;refine hc.mono ?_;clear hc;rintro e w1 ⟨h1,b1⟩;have B1:=aB b1;have hL:=ze w1 a m.af.length c;clear b1;rcases h1 with ⟨_,h1⟩|⟨h1,_⟩
  case inr=>rw[HA.out]at h1;cases h1
  rcases h1 with ⟨hh,rfl⟩|⟨hh,i,q,cp,_,_,rfl,_⟩
  ·have HH:=aB hh;clear hh;go_wp2_with fail;refine hL.mono ?_;clear hL;rintro e w2 ⟨rfl,b2⟩;have B2:Hid (Below w.1.size w w2):=ay B1.out b2;clear b2;go_wp2;go_ret;exact⟨by rw[HH.out];rfl,B2.out⟩
  ·have HH:=aB hh;clear hh hL;go_wp2;go_ret;exact⟨by rw[HH.out];rfl,B1.out⟩
 | false=>
  have hv:mJ m a c=.iface 265 (.agg #[]):=by simp[mJ,ha]
  rw[hv]at hc ⊢
  have hm:∀w:World,(method 454 265 (.agg #[]) "loop.example/g00153/impl.lives").run Tryz.prog w=.ok (309,.agg #[]) w:=fun _=>by kernel_rfl
  have HA:=aB ha;clear hv ha;go_enter Tryz.func189,Tryz.ntmps189;go_wp2_with fail;refine hc.mono ?_;clear hc;rintro e w1 ⟨h1,b1⟩;have B1:=aB b1;have hL:=za w1;clear b1;rcases h1 with ⟨h1,_⟩|⟨_,rfl⟩
  ·rw[HA.out]at h1;cases h1
  go_wp2_with fail;refine hL.mono ?_;clear hL;rintro e w2 ⟨rfl,b2⟩;have B2:Hid (Below w.1.size w w2):=ay B1.out b2;clear b2;go_wp2;go_ret;exact⟨rfl,B2.out⟩
section
variable {X w:World}{b j:Nat}{ms:List M4}
theorem Ni:(Tryz.prog.info? 223).map (fun i=>(i.zero,i.size,i.bytes))=some (some (.nilIface),1,16):=by kernel_rfl
theorem Nu(n:Nat)(hn:n<=1048576)(w:World):(Instr.makeSlice 259 (vI (n:Int)) (vI (n:Int))).run Tryz.prog w=.ok (.slice (some ⟨w.1.size,0,none⟩) n n) (w.alloc (.cells (madeCells #[.nilIface] n) 223)):=by
 obtain⟨i,hi,mR⟩:=Option.map_eq_some_iff.1 Ni;simp only[Prod.mk.injEq]at mR;obtain⟨hz,hs,hb⟩:=mR;have:=run_make (P:=Tryz.prog) w 259 223 i _ Tryz.underlying259 hi hz .i64 .i64 (n:Int) (n:Int) (by omega) (by omega) (by rw[hb];omega) (by omega);rw[hs]at this;simpa[Value.cells]using this
def oK(w X:World)(b j:Nat)(ms:List M4):Prop:=∀t,t<j->∃a c,X.cell? ⟨b,t,none⟩=some (mJ (aS ms t) a c)/\xe w w.1.size a (aS ms t).af.length (aS ms t).af
theorem oK.below{Y:World}{B:Nat}(h:oK w X b j ms)(hb:Below B X Y)(hB:b<B):oK w Y b j ms:=fun t ht=>by
 obtain⟨a,c,h1,h2⟩:=h t ht;exact⟨a,c,(hb.cell (p:=⟨b,t,none⟩) hB).trans h1,h2⟩
theorem oK.set(h:oK w X b j ms){v:Value}(hv:X.cell? ⟨b,j,none⟩=some v){a:Option Addr}{c:Nat}(hs:xe w w.1.size a (aS ms j).af.length (aS ms j).af):oK w (X.setCell ⟨b,j,none⟩ (mJ (aS ms j) a c)) b (j+1) ms:=fun t ht=>by
 by_cases e:t=j
 ·subst e;exact⟨a,c,az hv,hs⟩
 ·obtain⟨a',c',h1,h2⟩:=h t (by omega);exact⟨a',c',(ae e).trans h1,h2⟩
theorem Jm(m:M4)(a:Option Addr)(c:Nat):∃T u,mJ m a c=.iface T u:=by
 cases h:m.x
 ·exact⟨_,_,by simp only[mJ,h];rfl⟩
 ·exact⟨_,_,by simp only[mJ,h];rfl⟩
theorem AZ(w:World)(a:Option Addr)(cap:Nat)(ms:List M4)(hn:ms.length<=8)(hs:fZ.qM w a ms):
  Calls Tryz.prog 167 #[.slice a ms.length cap] w fun e w'=>e=.returned (.slice (some ⟨w.1.size,0,none⟩) ms.length ms.length)/\oK w w' w.1.size ms.length ms/\w.1.size<w'.1.size/\Below w.1.size w w':=by
 have nX:=Nu ms.length (by omega);go_enter Tryz.func167,Tryz.ntmps167;go_wp2;go_loopw[11] (fun v wr=>∃j:Nat,j<=ms.length/\v=vI j/\Below w.1.size w wr/\w.1.size<wr.1.size/\Room wr w.1.size ms.length/\oK w wr w.1.size j ms) (fun v _=>ms.length-(intOf v).toNat)
 case atStart=>exact⟨0,Nat.zero_le _,rfl,aJ.alloc aR _,by simp,gU _ _ _ _,fun t ht=>by omega⟩
 case round=>
  obtain⟨j,hj,rfl,aF,dQ,pV,PE⟩:=hrel;by_cases aN:j<ms.length
  ·rcases hs with hs|⟨b,off,rfl,hb,h1⟩
   ·rw[hs]at aN;simp at aN
   obtain⟨⟨m0,m1,m2,m3,m4,m5⟩,bg,fM⟩:=h1 j _ (il aN);have e0:wr.cell? ⟨b,off+j*4,none⟩=some (.bool (aS ms j).x):=(aF.cell (p:=⟨b,off+j*4,none⟩) hb).trans (bg 0 _ rfl);have e1:wr.cell? ⟨b,off+j*4+1,none⟩=some (.slice m0 (aS ms j).af.length m1):=(aF.cell (p:=⟨b,off+j*4+1,none⟩) hb).trans (bg 1 _ rfl);have e2:wr.cell? ⟨b,off+j*4+2,none⟩=some (.slice m2 (aS ms j).h.length m3):=(aF.cell (p:=⟨b,off+j*4+2,none⟩) hb).trans (bg 2 _ rfl);have e3:wr.cell? ⟨b,off+j*4+3,none⟩=some (.slice m4 (aS ms j).ai.length m5):=(aF.cell (p:=⟨b,off+j*4+3,none⟩) hb).trans (bg 3 _ rfl);have jn:(j:Int)<(ms.length:Int):=by omega
   have KH:Hid (Below w.1.size w wr/\w.1.size<wr.1.size/\Room wr w.1.size ms.length/\oK w wr w.1.size j ms/\xe w w.1.size m0 (aS ms j).af.length (aS ms j).af):=⟨aF,dQ,pV,PE,fM.k⟩
   obtain⟨V,hV⟩:∃Y,Y=wr.alloc (.cells #[.bool (aS ms j).x,.slice m0 (aS ms j).af.length m1,.slice m2 (aS ms j).h.length m3,.slice m4 (aS ms j).ai.length m5] 92):=⟨_,rfl⟩
   have bV:Hid (Below wr.1.size wr V):=by unfold Hid;rw[hV];exact aJ.alloc aR _
   have hc:=ou V m0 m1 m2 m3 m4 m5 (aS ms j);clear bg fM h1 aF dQ pV PE nX;go_wp2_with fail;rw[<-hV];clear hV e0 e1 e2 e3;refine hc.mono ?_;clear hc;rintro e w1 ⟨rfl,b1⟩;have KB:Hid (Below wr.1.size wr w1):=ay bV.out b1;obtain⟨z,hz,hf⟩:∃v,w1.cell? ⟨w.1.size,j,none⟩=some v/\w1.frozen? ⟨w.1.size,j,none⟩=false:=(KH.out.2.2.1.below KB.out KH.out.2.1) j aN;have Z:=aB hz;obtain⟨T0,u0,OI⟩:=Jm (aS ms j) m0 m1;have HM:=aB OI;rw[OI];clear b1 OI;go_wp2;have PE:=(KH.out.2.2.2.1.below KB.out KH.out.2.1).set Z.out (c:=m1) KH.out.2.2.2.2;rw[HM.out]at PE;exact⟨⟨j+1,by omega,by simp,((KH.out.1.trans (KB.out.mono KH.out.1.size)).setCell (p:=⟨w.1.size,j,none⟩) aR _),by simp[World.setCell];exact Nat.lt_of_lt_of_le KH.out.2.1 KB.out.size,(KH.out.2.2.1.below KB.out KH.out.2.1).set _,PE⟩,by simp[intOf];omega⟩
  ·obtain rfl:j=ms.length:=by omega
   have hd:decide ((ms.length:Int)<(ms.length:Int))=false:=by simp
   have KH:Hid (Below w.1.size w wr/\w.1.size<wr.1.size/\oK w wr w.1.size ms.length ms):=⟨aF,dQ,PE⟩
   clear aF dQ pV PE nX hs;go_wp2;go_ret;exact⟨rfl,KH.out.2.2,KH.out.2.1,KH.out.1⟩
theorem Hu(w0 w:World)(a:Option Addr)(cap q:Nat)(aO:List (List Int))(ms:List M4)(hl:∀m∈ms,ML m)(hB:iK ms=true)(hP:dS aO=true)(CV:aO.length<=maxLen)(et:∀zs∈aO,zs.length<=maxLen)
  (h0:Below w0.1.size w0 w) (hq:q<w.1.size) (hm:oK w0 w q ms.length ms) (hs:uS w w.1.size a aO.length aO):
  Calls Tryz.prog 166 #[.slice a aO.length cap,.slice (some ⟨q,0,none⟩) ms.length ms.length] w fun e w'=>e=.returned (.bool (iw aO ms))/\Below w.1.size w w':=by
 have H:Hid ((∀m∈ms,ML m)/\iK ms=true/\(∀zs∈aO,zs.length<=maxLen)/\oK w0 w q ms.length ms/\uS w w.1.size a aO.length aO/\Below w0.1.size w0 w):=⟨hl,hB,et,hm,hs,h0⟩
 have HZ:Hid (∀r j,r<aO.length->j<(dR aO r).length->0<=eU (dR aO r) j/\eU (dR aO r) j<=7):=fun r j hr hj=>zO hP hr hj
 have HD:Hid (iw aO ms=(List.range aO.length).all fun r=>jZ ms r (dR aO r)):=rfl;unfold maxLen at CV;clear hl hB hP et hm hs h0;go_enter Tryz.func166,Tryz.ntmps166;go_wp2;go_loopw[11] (fun v wr=>∃r:Nat,r<=aO.length/\v=vI r/\Below w.1.size w wr/\(List.range r).all (fun r=>jZ ms r (dR aO r))=true) (fun v _=>aO.length-(intOf v).toNat)
 case atStart=>exact⟨0,Nat.zero_le _,rfl,aJ,rfl⟩
 case round=>
 obtain⟨r,hr,rfl,aF,aP⟩:=hrel;have KC:Hid (Below w.1.size w wr/\(List.range r).all (fun r=>jZ ms r (dR aO r))=true):=⟨aF,aP⟩
 clear aF aP;by_cases Pz:r<aO.length
 case neg=>
  obtain rfl:r=aO.length:=by omega
  have hd:decide ((aO.length:Int)<(aO.length:Int))=false:=by simp
  go_wp2;go_ret;exact⟨by rw[HD.out,KC.out.2];rfl,KC.out.1⟩
 obtain⟨_,Q0⟩:=H.out.2.2.2.2.1;rcases Q0 with Q0|⟨b,off,rfl,hb,DN⟩
 ·omega
 obtain⟨a',aZ,hc,gy,jJ⟩:=DN r _ (fI Pz);have c:=(KC.out.1.cell (p:=⟨b,off+r,none⟩) hb).trans hc;have Yn:Hid (mP w w.1.size a' (dR aO r).length (dR aO r)):=gy;have jr:(r:Int)<(aO.length:Int):=by omega
 have lz:=H.out.2.2.1 _ (List.mem_of_getElem? (fI Pz));unfold maxLen at lz;have HF:Hid (jZ ms r (dR aO r)=false->iw aO ms=false):=fun hh=>by rw[HD.out];exact ig (f:=fun r=>jZ ms r (dR aO r)) Pz hh
 have Yq:Hid (∀j,j<(dR aO r).length->0<=eU (dR aO r) j/\eU (dR aO r) j<=7):=fun j hj=>HZ.out r j Pz hj
 have Vk:Hid (jZ ms r (dR aO r)=(List.range (dR aO r).length).all fun j=>jf ms r (eU (dR aO r) j)):=rfl;have Vi:Hid (jZ ms r (dR aO r)=true->(List.range (r+1)).all (fun r=>jZ ms r (dR aO r))=true):=fun hh=>jL (f:=fun r=>jZ ms r (dR aO r)) KC.out.2 hh
 clear DN hc gy;generalize qL:dR aO r=zs at *;obtain⟨V,hV⟩:∃Y,Y=wr.alloc (.cells #[.slice a' zs.length aZ] 93):=⟨_,rfl⟩
 have KV:Hid (Below w.1.size w V):=ay KC.out.1 (by rw[hV];exact aJ.alloc aR _);go_wp2;rw[<-hV];clear c jr qL hV;generalize wr=wC at *;generalize V=wD at *;go_loopw[19] (fun v wr=>∃j:Nat,j<=zs.length/\v=vI j/\Below w.1.size w wr/\(List.range j).all (fun j=>jf ms r (eU zs j))=true) (fun v _=>zs.length-(intOf v).toNat)
 case atStart=>exact⟨0,Nat.zero_le _,rfl,KV.out,rfl⟩
 case round=>
 obtain⟨j,hj,rfl,aF,aP⟩:=hrel;have KD:Hid (Below w.1.size w wr/\(List.range j).all (fun j=>jf ms r (eU zs j))=true):=⟨aF,aP⟩
 clear aF aP;by_cases J2:j<zs.length
 case neg=>
  obtain rfl:j=zs.length:=by omega
  have hd:decide ((zs.length:Int)<(zs.length:Int))=false:=by simp
  have hh:=Vi.out (by rw[Vk.out];exact KD.out.2);go_wp2;exact⟨⟨r+1,by omega,by simp,KD.out.1,hh⟩,by simp[intOf];omega⟩
 obtain⟨_,vF⟩:=Yn.out;rcases vF with vF|⟨b',bG,rfl,fC,h2⟩
 ·omega
 have hz:=Yq.out j J2;obtain⟨i,hi⟩:∃i:Nat,eU zs j=(i:Int):=⟨(eU zs j).toNat,by omega⟩
 have JX:=h2 j _ (iJ J2);rw[hi]at JX;have xz:=(KD.out.1.cell (p:=⟨b',bG+j,none⟩) fC).trans JX;have jz:(j:Int)<(zs.length:Int):=by omega
 have HB:Hid (jf ms r (eU zs j)=(decide ((i:Int)<(ms.length:Int))&&(!(aS ms i).x||tQ (aS ms i) (r:Int)))):=by unfold Hid jf;rw[hi];rfl
 have Lr:Hid (jf ms r (eU zs j)=false->iw aO ms=false):=fun hh=>HF.out (by rw[Vk.out];exact ig (f:=fun j=>jf ms r (eU zs j)) J2 hh)
 clear JX h2 hz hi;by_cases JY:i<ms.length
 case neg=>
  have dz:decide ((ms.length:Int)<=(i:Int))=true:=by simp<;>omega
  have YH:decide (ms.length<=i)=true:=by simp<;>omega
  have qO:Hid (iw aO ms=false):=Lr.out (by rw[HB.out];simp[JY]);go_wp2;go_ret;exact⟨by rw[qO.out];rfl,KD.out.1⟩
 have dz:decide ((ms.length:Int)<=(i:Int))=false:=by simp<;>omega
 have YH:decide (ms.length<=i)=false:=by simp<;>omega
 have im:(i:Int)<(ms.length:Int):=by omega
 obtain⟨a2,c2,dk,nX⟩:=(H.out.2.2.2.1.below KD.out.1 hq) i JY;have OO:=Ie wr a2 c2 (aS ms i) (r:Int) (H.out.1 _ (List.mem_of_getElem? (il JY))) (by have:=H.out.2.1;exact List.all_eq_true.1 this i (List.mem_range.2 JY)) (nX.later (ay H.out.2.2.2.2.2 KD.out.1));obtain⟨T0,u0,OI⟩:=Jm (aS ms i) a2 c2;rw[OI]at dk OO;clear nX OI
 cases hh:(!(aS ms i).x||tQ (aS ms i) (r:Int))with
 | false=>
  rw[hh]at OO;have qO:Hid (iw aO ms=false):=Lr.out (by rw[HB.out,hh];simp);clear hh;go_wp2_with fail;refine OO.mono ?_;clear OO;rintro e w1 ⟨rfl,b1⟩;have KB:Hid (Below w.1.size w w1):=ay KD.out.1 b1;clear b1;go_wp2;go_ret;exact⟨by rw[qO.out];rfl,KB.out⟩
 | true=>
  rw[hh]at OO;have PI:Hid ((List.range (j+1)).all (fun j=>jf ms r (eU zs j))=true):=jL (f:=fun j=>jf ms r (eU zs j)) KD.out.2 (by rw[HB.out,hh];simp[JY]);clear hh;go_wp2_with fail;refine OO.mono ?_;clear OO;rintro e w1 ⟨rfl,b1⟩;have KB:Hid (Below w.1.size w w1):=ay KD.out.1 b1;clear b1;go_wp2;exact⟨⟨j+1,by omega,by simp,KB.out,PI.out⟩,by simp[intOf];omega⟩
end
def Rb(w:World)(xs:List M4)(f:Nat->Bool):Prop:=
 ∀(X:World) (i:Nat) (m0:Option Addr) (m1:Nat) (m2:Option Addr) (m3:Nat) (m4:Option Addr) (m5:Nat),Below w.1.size w X->i<xs.length->fZ.Rd X ⟨m0,m1,m2,m3,m4,m5⟩ (aS xs i)->Calls Tryz.prog 186 #[.agg #[.bool (aS xs i).x,.slice m0 (aS xs i).af.length m1,.slice m2 (aS xs i).h.length m3,.slice m4 (aS xs i).ai.length m5]] X fun e w'=>e=.returned (.bool (f i))/\Below X.1.size X w'
theorem ZE(w:World)(a:Option Addr)(cap:Nat)(xs:List M4)(f:Nat->Bool)(hn:xs.length<=maxLen)(hs:fZ.qM w a xs)(hf:Rb w xs  f):
  Calls Tryz.prog 219 #[.slice a xs.length cap,.func (.func 186) #[] #[]] w fun e w'=>(∃i:Int,e=.returned (vI i)/\eH f xs.length i)/\Below w.1.size w w':=by
 unfold maxLen at hn;have HF:=aB hf;clear hf;go_enter Tryz.func219,Tryz.ntmps219;go_wp2;go_loopw[8] (fun v wr=>∃j:Nat,j<=xs.length/\v=vI j/\Below w.1.size w wr/\∀i,i<j->f i=false) (fun v _=>xs.length-(intOf v).toNat)
 case atStart=>exact⟨0,Nat.zero_le _,rfl,aJ,fun i h=>absurd h (by omega)⟩
 case round=>
  obtain⟨j,hj,rfl,aF,aP⟩:=hrel;by_cases aN:j<xs.length
  ·rcases hs with hs|⟨b,off,rfl,hb,h1⟩
   ·rw[hs]at aN;simp at aN
   obtain⟨⟨m0,m1,m2,m3,m4,m5⟩,bg,fM⟩:=h1 j _ (il aN);have e0:wr.cell? ⟨b,off+j*4,none⟩=some (.bool (aS xs j).x):=(aF.cell (p:=⟨b,off+j*4,none⟩) hb).trans (bg 0 _ rfl);have e1:wr.cell? ⟨b,off+j*4+1,none⟩=some (.slice m0 (aS xs j).af.length m1):=(aF.cell (p:=⟨b,off+j*4+1,none⟩) hb).trans (bg 1 _ rfl);have e2:wr.cell? ⟨b,off+j*4+2,none⟩=some (.slice m2 (aS xs j).h.length m3):=(aF.cell (p:=⟨b,off+j*4+2,none⟩) hb).trans (bg 2 _ rfl);have e3:wr.cell? ⟨b,off+j*4+3,none⟩=some (.slice m4 (aS xs j).ai.length m5):=(aF.cell (p:=⟨b,off+j*4+3,none⟩) hb).trans (bg 3 _ rfl);have hw:=HF.out wr j m0 m1 m2 m3 m4 m5 aF aN (fZ.later fM aF);have KA:Hid ((∀i,i<j->f i=false)/\Below w.1.size w wr):=⟨aP,aF⟩
   have jn:(j:Int)<(xs.length:Int):=by omega
   clear h1 bg fM aP aF
   cases hp:f j with
   | true=>
    rw[hp]at hw;go_wp2_with fail;refine hw.mono ?_;clear hw;rintro e w1 ⟨rfl,b1⟩;go_wp2;go_ret;exact⟨⟨_,rfl,.inr ⟨j,rfl,aN,hp,KA.out.1⟩⟩,KA.out.2.trans (b1.mono KA.out.2.size)⟩
   | false=>
    rw[hp]at hw;go_wp2_with fail;refine hw.mono ?_;clear hw;rintro e w1 ⟨rfl,b1⟩;go_wp2
    exact⟨⟨j+1,by omega,by simp,KA.out.2.trans (b1.mono KA.out.2.size),fun i hi=>by
     by_cases e:i=j
     ·rw[e];exact hp
     ·exact KA.out.1 i (by omega)⟩,by simp[intOf];omega⟩
  ·obtain rfl:j=xs.length:=by omega
   have hd:decide ((xs.length:Int)<(xs.length:Int))=false:=by simp
   have KA:Hid ((∀i,i<xs.length->f i=false)/\Below w.1.size w wr):=⟨aP,aF⟩
   clear aP aF hs;go_wp2;go_ret;exact⟨⟨_,rfl,.inl ⟨rfl,KA.out.1⟩⟩,KA.out.2⟩
theorem Nc(w:World)(a:Option Addr)(cap:Nat)(xs:List M4)(f:Nat->Bool)(hn:xs.length<=maxLen)(hs:fZ.qM w a xs)(hf:Rb w xs  f):
  Calls Tryz.prog 188 #[.slice a xs.length cap,.func (.func 186) #[] #[]] w fun e w'=>e=.returned (.bool (!((List.range xs.length).all fun j=>!f j)))/\Below w.1.size w w':=by
 have hc:=ZE w a cap xs  f hn hs hf;clear hs hf;go_enter Tryz.func188,Tryz.ntmps188;go_wp2_with fail;refine hc.mono ?_;clear hc;rintro e w1 ⟨⟨i,rfl,hi⟩,b1⟩;have h:=gT hi;have KB:=aB b1;clear b1 hi;go_wp2;go_ret;exact⟨by rw[<-h];rfl,KB.out⟩
theorem Ki(X:World)(m0:Option Addr)(m1:Nat)(m2:Option Addr)(m3:Nat)(m4:Option Addr)(m5:Nat)(m:M4)(hl:ML m)(h:pF X ⟨m0,m1,m2,m3,m4,m5⟩ m):Calls Tryz.prog 186 #[.agg #[.bool m.x,.slice m0 m.af.length m1,.slice m2 m.h.length m3,.slice m4 m.ai.length m5]] X fun e w'=>e=.returned (.bool (!eY m))/\Below X.1.size X w':=by
 obtain⟨U,hU⟩:∃Y,Y=X.alloc (.cells #[.bool m.x,.slice m0 m.af.length m1,.slice m2 m.h.length m3,.slice m4 m.ai.length m5] 92):=⟨_,rfl⟩
 have b0:Below X.1.size X U:=by rw[hU];exact aJ.alloc aR _
 have hc:=tY U ⟨m0,m1,m2,m3,m4,m5⟩ m hl (h.later b0);simp only[MV.val]at hc;have KB:=aB b0;clear b0 hl h;go_enter Tryz.func186,Tryz.ntmps186;go_wp2_with fail;rw[<-hU];clear hU;refine hc.mono ?_;clear hc;rintro e w1 ⟨rfl,b1⟩;go_wp2;go_ret;exact⟨rfl,ay KB.out b1⟩
theorem zh(w:World)(a:Option Addr)(cap:Nat)(ms:List M4)(hn:ms.length<=maxLen)(hl:∀m∈ms,ML m)(hs:fZ.qM w a ms):
  Calls Tryz.prog 165 #[.slice a ms.length cap] w fun e w'=>e=.returned (.bool (decide (1<=ms.length)&&decide (ms.length<=8)&&iK ms))/\Below w.1.size w w':=by
 have hc:=Nc w a cap ms (fun i=>!eY (aS ms i)) hn hs (fun X i m0 m1 m2 m3 m4 m5 hb hi hr=>Ki X m0 m1 m2 m3 m4 m5 (aS ms i) (hl _ (List.mem_of_getElem? (il hi))) hr);have he:(!((List.range ms.length).all fun j=>!(fun i=>!eY (aS ms i)) j))=!iK ms:=by simp[iK]
 rw[he]at hc;clear hs hl he;unfold maxLen at hn;by_cases g1:1<=ms.length
 case neg=>
  have d1:decide ((1:Int)<=(ms.length:Int))=false:=by simp<;>omega
  have hb:(decide (1<=ms.length)&&decide (ms.length<=8)&&iK ms)=false:=by simp[g1]
  rw[hb];clear hc g1 hb;go_enter Tryz.func165,Tryz.ntmps165;go_wp2;go_ret;exact⟨rfl,aJ⟩
 have d1:decide ((1:Int)<=(ms.length:Int))=true:=by simp<;>omega
 by_cases g2:ms.length<=8
 case neg=>
  have d2:decide ((ms.length:Int)<=8)=false:=by simp<;>omega
  have hb:(decide (1<=ms.length)&&decide (ms.length<=8)&&iK ms)=false:=by simp[g2]
  rw[hb];clear hc g2 hb g1;go_enter Tryz.func165,Tryz.ntmps165;go_wp2;go_ret;exact⟨rfl,aJ⟩
 have d2:decide ((ms.length:Int)<=8)=true:=by simp<;>omega
 have hb:(decide (1<=ms.length)&&decide (ms.length<=8)&&iK ms)=iK ms:=by simp[g1,g2]
 rw[hb];clear g1 g2 hb;go_enter Tryz.func165,Tryz.ntmps165;go_wp2_with fail;refine hc.mono ?_;clear hc;rintro e w1 ⟨rfl,b1⟩;have KB:=aB b1;clear b1;go_wp2;go_ret;exact⟨by simp,KB.out⟩
theorem ib(w:World)(x:Int):Calls Tryz.prog 212 #[vI x] w fun e w'=>e=.returned (.bool (aY 0 7 x))/\w'=w:=by
 by_cases h0:0<=x
 ·by_cases h8:x<8
  ·rw[iN (by omega) (by omega)];go_enter Tryz.func212,Tryz.ntmps212;go_wp2;go_ret;exact⟨rfl,rfl⟩
  ·have hd:decide (x<8)=false:=by simp;omega
   have hb:aY 0 7 x=false:=by cases h:aY 0 7 x with|false=>rfl|true=>rw[dm]at h;omega
   rw[hb];go_enter Tryz.func212,Tryz.ntmps212;go_wp2;go_ret;exact⟨rfl,rfl⟩
 ·have hd:decide (0<=x)=false:=by simp;omega
  have hb:aY 0 7 x=false:=by cases h:aY 0 7 x with|false=>rfl|true=>rw[dm]at h;omega
  rw[hb];go_enter Tryz.func212,Tryz.ntmps212;go_wp2;go_ret;exact⟨rfl,rfl⟩
theorem J9(w:World)(a:Option Addr)(n cap:Nat)(z:Int)(zs:List Int)(hn:n<=maxLen)(hs:mP w w.1.size a n zs):
  Calls Tryz.prog 237 #[.slice a n cap,vI z] w fun e w'=>(∃i:Int,e=.returned (vI i)/\decide (0<=i)=hasB zs z)/\w'=w:=by
 unfold maxLen at hn;obtain⟨hx,hs⟩:=hs;go_enter Tryz.func237,Tryz.ntmps237;go_wp2;go_loop[8] (fun v=>∃k:Nat,k<=n/\v=vI k/\∀i,i<k->eU zs i≠z) (fun v=>n-(intOf v).toNat)
 case atStart=>exact⟨0,Nat.zero_le _,rfl,fun i h=>absurd h (by omega)⟩
 case round=>
  obtain⟨k,hk,rfl,aP⟩:=hrel;have K:Hid ((∀i,i<k->eU zs i≠z)/\zs.length=n):=⟨aP,hx⟩
  by_cases aN:k<n
  ·rcases hs with hs|⟨b,off,rfl,hb,h1⟩
   ·omega
   ·have c:=h1 k _ (iJ (by omega));clear h1 aP hx;by_cases he:eU zs k=z
    ·have q:(z==eU zs k)=true:=by simp[he]
     have HE:Hid (eU zs k=z):=he;clear he;go_wp2;go_ret;exact⟨⟨_,rfl,by rw[Ja (by rw[K.out.2];exact aN) HE.out];simp⟩,rfl⟩
    ·have q:(z==eU zs k)=false:=by simp;exact fun h=>he h.symm
     have HE:Hid (eU zs k≠z):=he;clear he;go_wp2;refine⟨⟨k+1,by omega,by simp,fun i hi=>?_⟩,by simp[intOf];omega⟩;by_cases e:i=k
     ·rw[e];exact HE.out
     ·exact K.out.1 i (by omega)
  ·have:k=n:=by omega
   subst this;have hd:decide ((k:Int)<(k:Int))=false:=by simp
   clear aP hx hs;go_wp2;go_ret;exact⟨⟨_,rfl,by rw[MO (by rw[K.out.2];exact K.out.1)];rfl⟩,rfl⟩
theorem CF(w:World)(a:Option Addr)(n cap:Nat)(z:Int)(zs:List Int)(hn:n<=maxLen)(hs:mP w w.1.size a n zs):
  Calls Tryz.prog 213 #[.slice a n cap,vI z] w fun e w'=>e=.returned (.bool (hasB zs z))/\w'=w:=by
 have hi:=J9 w a n cap z zs hn hs;clear hs;go_enter Tryz.func213,Tryz.ntmps213;go_wp2_with fail;refine hi.mono ?_;clear hi;rintro e w1 ⟨⟨i,rfl,hb⟩,rfl⟩;go_wp2;go_ret;exact⟨rfl,rfl⟩
theorem Fp(w:World)(a:Option Addr)(cap:Nat)(zs:List Int)(hs:mP w w.1.size a zs.length zs)(jJ:zs.length<=cap):
  Calls Tryz.prog 181 #[.agg #[.slice a zs.length cap]] w fun e w'=>e=.returned (.bool (dY zs))/\Below w.1.size w w':=by
 have b0:Below w.1.size w (w.alloc (.cells #[.slice a zs.length cap] 93)):=aJ.alloc aR _;by_cases h3:zs.length<1\/3<zs.length
 ·have XT:dY zs=false:=by
   rcases h3 with h|h
   ·simp[dY,show ¬1<=zs.length by omega]
   ·simp[dY,show ¬zs.length<=3 by omega]
  rw[XT];rcases h3 with h|h
  ·have d3:decide ((zs.length:Int)<1)=true:=by simp;omega
   go_enter Tryz.func181,Tryz.ntmps181;go_wp2;go_ret;exact⟨rfl,b0⟩
  ·have d3:decide ((zs.length:Int)<1)=false:=by simp;omega
   have d4:decide ((3:Int)<(zs.length:Int))=true:=by simp;omega
   go_enter Tryz.func181,Tryz.ntmps181;go_wp2;go_ret;exact⟨rfl,b0⟩
 ·have d3:decide ((zs.length:Int)<1)=false:=by simp;omega
  have d4:decide ((3:Int)<(zs.length:Int))=false:=by simp;omega
  have HG:Hid (dY zs=(List.range zs.length).all (jk zs)):=by unfold Hid;simp[dY,show 1<=zs.length by omega,show zs.length<=3 by omega]
  have KS:Hid (mP w w.1.size a zs.length zs):=hs;have KB:Hid (Below w.1.size w (w.alloc (.cells #[.slice a zs.length cap] 93))):=b0;clear hs b0;go_enter Tryz.func181,Tryz.ntmps181;go_wp2;go_loopw[18] (fun v18 wr=>∃k:Nat,k<=zs.length/\v18=vI k/\Below (w.1.size+1) (w.alloc (.cells #[.slice a zs.length cap] 93)) wr/\(List.range k).all (jk zs)=true) (fun v18 _=>zs.length-(intOf v18).toNat)
  case atStart=>exact⟨0,Nat.zero_le _,rfl,aJ,rfl⟩
  case round=>
   obtain⟨k,hk,rfl,JW,SE⟩:=hrel;have oM:Below w.1.size w wr:=KB.out.trans (JW.mono (by omega));by_cases CS:k<zs.length
   ·obtain⟨_,vF⟩:=KS.out;rcases vF with vF|⟨b',bG,rfl,fC,h2⟩
    ·omega
    ·have cp:wr.cell? ⟨w.1.size,0,none⟩=some (.slice (some ⟨b',bG,none⟩) zs.length cap):=(JW.cell (p:=⟨w.1.size,0,none⟩) (by simp)).trans (by go_simp);have ck:=(oM.cell (p:=⟨b',bG+k,none⟩) fC).trans (h2 k _ (iJ CS))
     have fO:mP wr wr.1.size (some ⟨b',bG,none⟩) k (zs.take k):=⟨by rw[List.length_take];omega,.inr ⟨b',bG,rfl,Nat.lt_of_lt_of_le fC oM.size,fun i z e=>by
      rw[List.getElem?_take]at e;split at e
      ·exact(h2.below oM fC) i z e
      ·cases e⟩⟩
     have KQ:Hid (Below (w.1.size+1) (w.alloc (.cells #[.slice (some ⟨b',bG,none⟩) zs.length cap] 93)) wr/\(List.range k).all (jk zs)=true/\Below w.1.size w wr):=⟨JW,SE,oM⟩
     have Zd:k<=maxLen:=by unfold maxLen;omega
     have cH:Calls Tryz.prog 213 #[.slice (some ⟨b',bG,none⟩) k cap,vI (eU zs k)] wr fun e fq=>e=.returned (.bool (hasB (zs.take k) (eU zs k)))/\fq=wr:=CF wr _ k cap (eU zs k) (zs.take k) Zd fO
     have cM:=ib wr (eU zs k);have HK:Hid (jk zs k=(aY 0 7 (eU zs k)&&!hasB (zs.take k) (eU zs k))):=rfl;have kO:k<=cap:=by omega
     clear h2 JW SE fO oM;generalize eU zs k=z at *
     cases g1:aY 0 7 z with
     | false=>
      rw[g1]at cM;have SC:jk zs k=false:=by rw[HK.out,g1];rfl
      go_wp2_with fail;refine cM.mono ?_;clear cM cH;rintro e wr ⟨rfl,rfl⟩;go_wp2;go_ret;exact⟨by rw[HG.out,ig CS SC];rfl,KQ.out.2.2⟩
     | true=>
      rw[g1]at cM
      cases g2:hasB (zs.take k) z with
      | true=>
       rw[g2]at cH;have SC:jk zs k=false:=by rw[HK.out,g1,g2];rfl
       go_wp2_with fail;refine cM.mono ?_;clear cM;rintro e wr ⟨rfl,rfl⟩;go_wp2_with fail;refine cH.mono ?_;clear cH;rintro e wr ⟨rfl,rfl⟩;go_wp2;go_ret;exact⟨by rw[HG.out,ig CS SC];rfl,KQ.out.2.2⟩
      | false=>
       rw[g2]at cH;have VO:jk zs k=true:=by rw[HK.out,g1,g2];rfl
       go_wp2_with fail;refine cM.mono ?_;clear cM;rintro e wr ⟨rfl,rfl⟩;go_wp2_with fail;refine cH.mono ?_;clear cH;rintro e wr ⟨rfl,rfl⟩;go_wp2;exact⟨⟨k+1,by omega,by simp,KQ.out.1,jL KQ.out.2.1 VO⟩,by simp[intOf];omega⟩
   ·have:k=zs.length:=by omega
    subst this;have hd:decide ((zs.length:Int)<(zs.length:Int))=false:=by simp
    go_wp2;go_ret;exact⟨by rw[HG.out,SE];rfl,oM⟩
theorem Lm(w:World)(a:Option Addr)(cap:Nat)(zs:List Int)(hs:mP w w.1.size a zs.length zs)(jJ:zs.length<=cap):
  Calls Tryz.prog 180 #[.agg #[.slice a zs.length cap]] w fun e w'=>e=.returned (.bool (!dY zs))/\Below w.1.size w w':=by
 have b0:Below w.1.size w (w.alloc (.cells #[.slice a zs.length cap] 93)):=aJ.alloc aR _;have hc:=Fp (w.alloc (.cells #[.slice a zs.length cap] 93)) a cap zs (hs.later b0) jJ;have B0:Hid (Below w.1.size w (w.alloc (.cells #[.slice a zs.length cap] 93))):=b0;clear hs b0;generalize dY zs=V at *;generalize zs.length=n at *;go_enter Tryz.func180,Tryz.ntmps180;go_wp2_with fail;refine hc.mono ?_;clear hc;rintro e w1 ⟨rfl,b1⟩;go_wp2;go_ret;exact⟨rfl,B0.out.trans (b1.mono (by simp))⟩
theorem AQ(w:World)(a:Option Addr)(n cap:Nat)(aO:List (List Int))(hn:n<=maxLen)(hs:uS w w.1.size a n aO):
  Calls Tryz.prog 214 #[.slice a n cap,.func (.func 180) #[] #[]] w fun e w'=>(∃i:Int,e=.returned (vI i)/\decide (0<=i)=!((List.range n).all fun i=>dY (dR aO i)))/\Below w.1.size w w':=by
 unfold maxLen at hn;obtain⟨hx,hs⟩:=hs;go_enter Tryz.func214,Tryz.ntmps214;go_wp2;go_loopw[8] (fun v wr=>∃j:Nat,j<=n/\v=vI j/\Below w.1.size w wr/\(List.range j).all (fun i=>dY (dR aO i))=true) (fun v _=>n-(intOf v).toNat)
 case atStart=>exact⟨0,Nat.zero_le _,rfl,aJ,rfl⟩
 case round=>
  obtain⟨j,hj,rfl,aF,aP⟩:=hrel;by_cases aN:j<n
  ·rcases hs with hs|⟨b,off,rfl,hb,h1⟩
   ·omega
   ·obtain⟨a',aZ,hc,gy,jJ⟩:=h1 j _ (fI (by omega));have c:=(aF.cell (p:=⟨b,off+j,none⟩) hb).trans hc;have KA:Hid ((List.range j).all (fun i=>dY (dR aO i))=true/\Below w.1.size w wr):=⟨aP,aF⟩
    have hw:=Lm wr a' aZ (dR aO j) ((gy.below aF).mono aF.size) jJ;have HF:Hid (dY (dR aO j)=false->((List.range n).all fun i=>dY (dR aO i))=false):=fun h=>ig aN h
    have HT:Hid (dY (dR aO j)=true->((List.range (j+1)).all fun i=>dY (dR aO i))=true):=fun h=>jL aP h
    clear h1 hc aP gy aF jJ;generalize (dR aO j).length=m at *
    cases hp:dY (dR aO j)with
    | false=>
     rw[hp]at hw;go_wp2_with fail;refine hw.mono ?_;clear hw;rintro e w1 ⟨rfl,b1⟩;go_wp2;go_ret;exact⟨⟨_,rfl,by rw[HF.out hp];simp⟩,KA.out.2.trans (b1.mono KA.out.2.size)⟩
    | true=>
     rw[hp]at hw;go_wp2_with fail;refine hw.mono ?_;clear hw;rintro e w1 ⟨rfl,b1⟩;go_wp2;exact⟨⟨j+1,by omega,by simp,KA.out.2.trans (b1.mono KA.out.2.size),HT.out hp⟩,by simp[intOf];omega⟩
  ·have:j=n:=by omega
   subst this;have hd:decide ((j:Int)<(j:Int))=false:=by simp
   clear hs;go_wp2;go_ret;exact⟨⟨_,rfl,by rw[aP];rfl⟩,aF⟩
theorem vz(w:World)(a:Option Addr)(n cap:Nat)(aO:List (List Int))(hn:n<=maxLen)(hs:uS w w.1.size a n aO):
  Calls Tryz.prog 182 #[.slice a n cap,.func (.func 180) #[] #[]] w fun e w'=>e=.returned (.bool (!((List.range n).all fun i=>dY (dR aO i))))/\Below w.1.size w w':=by
 have hi:=AQ w a n cap aO hn hs;clear hs;generalize (!((List.range n).all fun i=>dY (dR aO i)))=V at *;go_enter Tryz.func182,Tryz.ntmps182;go_wp2_with fail;refine hi.mono ?_;clear hi;rintro e w1 ⟨⟨i,rfl,hb⟩,b1⟩;go_wp2;go_ret;exact⟨rfl,b1⟩
theorem nC(w:World)(a:Option Addr)(n cap:Nat)(aO:List (List Int))(hn:n<=maxLen)(hs:uS w w.1.size a n aO):
  Calls Tryz.prog 150 #[.slice a n cap] w fun e w'=>e=.returned (.bool (dS aO))/\Below w.1.size w w':=by
 have hx:=hs.1;have hc:=vz w a n cap aO hn hs;unfold maxLen at hn;by_cases h1:1<=n
 ·by_cases h6:n<=6
  ·have d1:(1:Int)<=(n:Int):=by omega
   have d6:(n:Int)<=6:=by omega
   have hV:dS aO=((List.range n).all fun i=>dY (dR aO i)):=by simp[dS,hx,h1,h6]
   rw[hV];generalize ((List.range n).all fun i=>dY (dR aO i))=V at *;clear hs hV;go_enter Tryz.func150,Tryz.ntmps150;go_wp2_with fail;refine hc.mono ?_;clear hc;rintro e w1 ⟨rfl,b1⟩;go_wp2;go_ret;exact⟨by simp,b1⟩
  ·have d1:(1:Int)<=(n:Int):=by omega
   have d6:decide ((n:Int)<=6)=false:=by simp;omega
   have hV:dS aO=false:=by simp[dS,hx,h6]
   rw[hV];clear hs hV hc;go_enter Tryz.func150,Tryz.ntmps150;go_wp2;go_ret;exact⟨rfl,aJ⟩
 ·obtain rfl:n=0:=by omega
  have hV:dS aO=false:=by simp[dS,hx]
  rw[hV];clear hs hV hc;go_enter Tryz.func150,Tryz.ntmps150;go_wp2;go_ret;exact⟨rfl,aJ⟩
theorem CZ(w:World)(x:Int):Calls Tryz.prog 163 #[vI x] w fun e w'=>e=.returned (.bool (aY 1 1000000 x))/\w'=w:=by
 have hc:=tx.jl w x;go_enter Tryz.func163,Tryz.ntmps163;go_wp2_with fail;refine hc.mono ?_;clear hc;rintro e w1 ⟨rfl,rfl⟩;go_wp2;go_ret;exact⟨rfl,rfl⟩
theorem pJ(k:C6):aD k=(aY 1 1000000 k.u&&(aY 0 1000000 k.l&&((decide (1<=k.aa.length)&&decide (k.aa.length<=8)&&iK k.aa)&&(dS k.f&&(iw k.f k.aa&&(decide (k.c.length<=60)&&qB k)))))):=by
 unfold aD;ac_rfl
theorem jO(w:World)(a1:Option Addr)(c1:Nat)(a2:Option Addr)(c2:Nat)(a3:Option Addr)(c3:Nat)(k:C6)(hl:bK.L k)(h:bK.Rd w a1 c1 a2 c2 a3 c3 k):Calls Tryz.prog 139 #[.agg #[vI k.u,vI k.l,.slice a1 k.f.length c1,.slice a2 k.aa.length c2,.slice a3 k.c.length c3,.bool k.w]] w fun e w'=>e=.returned (.bool (aD k))/\Below w.1.size w w':=by
 obtain⟨U,hU⟩:∃Y,Y=w.alloc (.cells #[vI k.u,vI k.l,.slice a1 k.f.length c1,.slice a2 k.aa.length c2,.slice a3 k.c.length c3,.bool k.w] 32):=⟨_,rfl⟩
 have b0:Below w.1.size w U:=by rw[hU];exact aJ.alloc aR _
 have FA:Hid (Bx U w.1.size (dJ a1 c1 a2 c2 a3 c3 k)):=by unfold Hid;rw[hU];exact Bx.made w (dJ a1 c1 a2 c2 a3 c3 k) _
 have HR:Hid (bK.Rd U a1 c1 a2 c2 a3 c3 k/\bK.L k/\Below w.1.size w U):=⟨h.later b0,hl,b0⟩
 have HC:Hid (aD k=(aY 1 1000000 k.u&&(aY 0 1000000 k.l&&((decide (1<=k.aa.length)&&decide (k.aa.length<=8)&&iK k.aa)&&(dS k.f&&(iw k.f k.aa&&(decide (k.c.length<=60)&&qB k))))))):=pJ k;have hc:=CZ U k.u;clear b0 h hl;go_enter Tryz.func139,Tryz.ntmps139;go_wp2_with fail;rw[<-hU];clear hU;refine hc.mono ?_;clear hc;rintro e w1 ⟨rfl,rfl⟩;generalize w1=U at *
 cases g1:aY 1 1000000 k.u with
 | false=>
  have hb:Hid (aD k=false):=by unfold Hid;rw[HC.out,g1];rfl
  go_wp2;go_ret;exact⟨by rw[hb.out];rfl,HR.out.2.2⟩
 | true=>
 have p1:=FA.out.1 1 _ rfl;have hc:=tx.kg U k.l;go_wp2_with fail;refine hc.mono ?_;clear hc p1;rintro e w1 ⟨rfl,rfl⟩;generalize w1=U at *
 cases g2:aY 0 1000000 k.l with
 | false=>
  have hb:Hid (aD k=false):=by unfold Hid;rw[HC.out,g2];simp
  go_wp2;go_ret;exact⟨by rw[hb.out];rfl,HR.out.2.2⟩
 | true=>
 have p3:=FA.out.1 3 _ rfl;have hc:=zh U a2 c2 k.aa HR.out.2.1.m HR.out.2.1.ms HR.out.1.m;go_wp2_with fail;refine hc.mono ?_;clear hc p3;rintro e w1 ⟨rfl,b1⟩;have B1:=aB b1;clear b1
 cases g3:(decide (1<=k.aa.length)&&decide (k.aa.length<=8)&&iK k.aa)with
 | false=>
  have hb:Hid (aD k=false):=by unfold Hid;rw[HC.out,g3];simp
  go_wp2;go_ret;exact⟨by rw[hb.out];rfl,ay HR.out.2.2 B1.out⟩
 | true=>
 have p2:=(FA.out.later B1.out).1 2 _ rfl;have hc:=nC w1 a1 k.f.length c1 k.f HR.out.2.1.p (HR.out.1.p.later B1.out);go_wp2_with fail;refine hc.mono ?_;clear hc p2;rintro e w2 ⟨rfl,b2⟩;have B2:Hid (Below U.1.size U w2):=ay B1.out b2;clear b2 B1;generalize w1=wA at *
 cases g4:dS k.f with
 | false=>
  have hb:Hid (aD k=false):=by unfold Hid;rw[HC.out,g4];simp
  go_wp2;go_ret;exact⟨by rw[hb.out];rfl,ay HR.out.2.2 B2.out⟩
 | true=>
 have Cr:Hid (aD k=(iw k.f k.aa&&(decide (k.c.length<=60)&&qB k))):=by unfold Hid;rw[HC.out,g1,g2,g3,g4];rfl
 have HG:Hid (k.aa.length<=8/\iK k.aa=true/\dS k.f=true):=by
  simp only[Bool.and_eq_true,decide_eq_true_eq]at g3;exact⟨g3.1.2,g3.2,g4⟩
 clear g1 g2 g3 g4 HC;have SF:Hid (∀X,Below U.1.size U X->(fun X:World=>Bx X w.1.size (dJ a1 c1 a2 c2 a3 c3 k)) X):=fun X hX=>FA.out.later hX
 go_wp2_with fail;have bd:Below U.1.size U w2.drew:=B2.out.drew;have hS:=SF.out _ bd;refine bu (fun z=>z==10) (fun X:World=>Bx X w.1.size (dJ a1 c1 a2 c2 a3 c3 k)) (by kernel_rfl) ?_;generalize w2.drew=Wd at *;refine cz 0 ?_ rfl ?_ hS ?_;rotate_left
 ·(intro X _;go_simp;first|done|with_reducible rfl)
 simp only[Act.put];refine jg 1 ?_ rfl ?_ hS ?_;rotate_left
 ·(intro X aG;have c0:=aG.1 0 _ rfl;have c1:=aG.1 1 _ rfl;have c2:=aG.1 2 _ rfl;have c3:=aG.1 3 _ rfl;have c4:=aG.1 4 _ rfl;have c5:=aG.1 5 _ rfl;go_simp;first|done|with_reducible rfl)
 simp only[Act.put];refine cz 2 ?_ rfl ?_ hS ?_;rotate_left
 ·(intro X _;go_simp;first|done|with_reducible rfl)
 simp only[Act.put];refine jg 3 ?_ rfl ?_ hS ?_;rotate_left
 ·(intro X aG;have c0:=aG.1 0 _ rfl;have c1:=aG.1 1 _ rfl;have c2:=aG.1 2 _ rfl;have c3:=aG.1 3 _ rfl;have c4:=aG.1 4 _ rfl;have c5:=aG.1 5 _ rfl;go_simp;first|done|with_reducible rfl)
 simp only[Act.put];refine cZ 4 rfl (fun K hK=>?_);go_simp;refine(AZ Wd a2 c2 k.aa HG.out.1 (HR.out.1.m.later bd)).mono ?_;rintro e X1 ⟨rfl,PE,dQ,b1⟩;have bX:=ay bd b1;refine hK.out _ _ (fun _=>SF.out _ bX) ?_;clear hK K;have hS:=SF.out _ bX;refine cZ 5 rfl (fun K hK=>?_);go_simp;refine(Hu Wd X1 a1 c1 Wd.1.size k.f k.aa HR.out.2.1.ms HG.out.2.1 HG.out.2.2 HR.out.2.1.p HR.out.2.1.ps b1 dQ PE (HR.out.1.p.later bX)).mono ?_;rintro e X2 ⟨rfl,b2⟩;have bY:=ay bX b2;refine hK.out _ _ (fun _=>SF.out _ bY) ?_;clear hK K;have hS:=SF.out _ bY
 cases g5:iw k.f k.aa with
 | false=>
  have hb:Hid (aD k=false):=by unfold Hid;rw[Cr.out,g5];rfl
  refine cz 6 ?_ rfl ?_ hS ?_;rotate_left
  ·(intro X _;go_simp;first|done|with_reducible rfl)
  simp only[Act.put];refine wK (i:=7) (v:=undef) rfl (by kernel_rfl) (fun _ _ _ h=>h) (Or.inr ⟨by rfl,rfl⟩) hS ?_;simp only[Act.put];refine wK (i:=8) (v:=undef) rfl (by kernel_rfl) (fun _ _ _ h=>h) (Or.inr ⟨by rfl,rfl⟩) hS ?_;simp only[Act.put];refine cz 9 ?_ rfl ?_ hS ?_;rotate_left
  ·(intro X _;go_simp;first|done|with_reducible rfl)
  simp only[Act.put];refine cZ 10 rfl (fun K hK=>?_);go_simp;refine hK.out _ _ (fun h=>absurd (show false=true from h.symm.trans (by kernel_rfl)) (by decide)) ?_;clear hK K;refine dL (by kernel_rfl) ?_ _;go_wp2;go_ret;exact⟨by rw[hb.out];rfl,ay HR.out.2.2 bY⟩
 | true=>
  have hb:Hid (aD k=(decide (k.c.length<=60)&&qB k)):=by unfold Hid;rw[Cr.out,g5];rfl
  refine cz 6 ?_ rfl ?_ hS ?_;rotate_left
  ·(intro X _;go_simp;first|done|with_reducible rfl)
  simp only[Act.put];refine jg 7 ?_ rfl ?_ hS ?_;rotate_left
  ·(intro X aG;have c0:=aG.1 0 _ rfl;have c1:=aG.1 1 _ rfl;have c2:=aG.1 2 _ rfl;have c3:=aG.1 3 _ rfl;have c4:=aG.1 4 _ rfl;have c5:=aG.1 5 _ rfl;go_simp;first|done|with_reducible rfl)
  simp only[Act.put];refine cZ 8 rfl (fun K hK=>?_);go_simp;refine(Iq X2 a1 c1 a2 c2 a3 c3 k HR.out.2.1 (HR.out.1.later bY)).mono ?_;rintro e X3 ⟨rfl,b3⟩;have bZ:=ay bY b3;refine hK.out _ _ (fun _=>SF.out _ bZ) ?_;clear hK K;have hS:=SF.out _ bZ;refine cz 9 ?_ rfl ?_ hS ?_;rotate_left
  ·(intro X _;go_simp;first|done|with_reducible rfl)
  simp only[Act.put];refine cZ 10 rfl (fun K hK=>?_);go_simp;refine hK.out _ _ (fun h=>absurd (show false=true from h.symm.trans (by kernel_rfl)) (by decide)) ?_;clear hK K;refine dL (by kernel_rfl) ?_ _;go_wp2;go_ret;exact⟨by rw[hb.out];rfl,ay HR.out.2.2 bZ⟩
theorem AJ(w:World)(a1:Option Addr)(c1:Nat)(a2:Option Addr)(c2:Nat)(a3:Option Addr)(c3:Nat)(k:C6)(i:Nat)(hi:i<k.aa.length)(h:bK.Rd w a1 c1 a2 c2 a3 c3 k):Calls Tryz.prog 103 #[.agg #[vI k.u,vI k.l,.slice a1 k.f.length c1,.slice a2 k.aa.length c2,.slice a3 k.c.length c3,.bool k.w],vI (i:Int)] w fun e w'=>e=.returned (.bool (aS k.aa i).x)/\Below w.1.size w w':=by
 obtain⟨W,hW⟩:∃Y,Y=w.alloc (.cells #[vI k.u,vI k.l,.slice a1 k.f.length c1,.slice a2 k.aa.length c2,.slice a3 k.c.length c3,.bool k.w] 32):=⟨_,rfl⟩
 have bW:Below w.1.size w W:=by rw[hW];exact aJ.alloc aR _
 have p3:W.cell? ⟨w.1.size,3,none⟩=some (.slice a2 k.aa.length c2):=by rw[hW];go_simp
 rcases(h.later bW).m with h0|⟨b,off,rfl,hb,fM⟩
 ·rw[h0]at hi;simp at hi
 obtain⟨⟨m0,m1,m2,m3,m4,m5⟩,kz,-⟩:=fM i _ (il hi);have e0:W.cell? ⟨b,off+i*4,none⟩=some (.bool (aS k.aa i).x):=kz 0 _ rfl;have e1:W.cell? ⟨b,off+i*4+1,none⟩=some (.slice m0 (aS k.aa i).af.length m1):=kz 1 _ rfl;have e2:W.cell? ⟨b,off+i*4+2,none⟩=some (.slice m2 (aS k.aa i).h.length m3):=kz 2 _ rfl;have e3:W.cell? ⟨b,off+i*4+3,none⟩=some (.slice m4 (aS k.aa i).ai.length m5):=kz 3 _ rfl;have d0:decide (0<=(i:Int))=true:=by simp
 have d1:decide ((i:Int)<(k.aa.length:Int))=true:=by simp;omega
 have i0:0<=(i:Int):=by omega
 have i1:(i:Int)<(k.aa.length:Int):=by omega
 have BW:Hid (Below w.1.size w W):=bW;rw[hW]at p3 e0 e1 e2 e3;have VU:=ou W m0 m1 m2 m3 m4 m5 (aS k.aa i);clear bW h fM kz hb
 have pa:∀(a:Option Addr) (n c:Nat) (w:World),(method 454 263 (.agg #[.slice a n c]) "loop.example/g00153/impl.lives").run Tryz.prog w=.ok (307,.agg #[.slice a n c]) w:=fun _ _ _ _=>by kernel_rfl
 have oY:∀w:World,(method 454 265 (.agg #[]) "loop.example/g00153/impl.lives").run Tryz.prog w=.ok (309,.agg #[]) w:=fun _=>by kernel_rfl
 go_enter Tryz.func103,Tryz.ntmps103;go_wp2_with fail;rw[<-hW];clear hW;refine VU.mono ?_;clear VU;rintro e w1 ⟨rfl,b1⟩;have B1:Hid (Below w.1.size w w1):=ay BW.out b1;clear b1 p3 e0 e1 e2 e3;unfold mJ
 cases ha:(aS k.aa i).x with
 | true=>
  simp only[if_true];go_wp2_with fail;refine(ze w1 m0 (aS k.aa i).af.length m1).mono ?_;rintro e w2 ⟨rfl,b2⟩;have B2:Hid (Below w.1.size w w2):=ay B1.out b2;clear b2;go_wp2;go_ret;exact⟨by rw[ha];rfl,B2.out⟩
 | false=>
  simp only[Bool.false_eq_true,if_false];go_wp2_with fail;refine(za w1).mono ?_;rintro e w2 ⟨rfl,b2⟩;have B2:Hid (Below w.1.size w w2):=ay B1.out b2;clear b2;go_wp2;go_ret;exact⟨by rw[ha];rfl,B2.out⟩
end Go.Proofs.YtalnmfefmiapoaaGreatDoor
