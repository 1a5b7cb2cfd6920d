import Derived.Test.YtajmlpgodcfghaaGreatDoorJ4Alloc
import Derived.DeepKeys4
set_option maxHeartbeats 16000000
set_option maxRecDepth 100000
namespace Go.Proofs.YtajmlpgodcfghaaGreatDoor
open Go.RowKit
open Go.Sort (grow)
section
open Go.Proofs.Tryz
def Tn(w:World)(xs:List M4)(f:Nat->Bool):Prop:=
 ∀(X:World) (i:Nat) (m0:OA) (m1:Nat) (m2:OA) (m3:Nat) (m4:OA) (m5:Nat),Below w.1.size w X->i<xs.length->gQ.Rd X ⟨m0,m1,m2,m3,m4,m5⟩ (aT xs i)->Calls prog 218 #[.agg #[.bool (aT xs i).x,.slice m0 (aT xs i).af.length m1,.slice m2 (aT xs i).g.length m3,.slice m4 (aT xs i).ai.length m5]] X fun e w'=>e=.returned (.bool (f i))/\Below X.1.size X w'
theorem fL(w:World)(a:OA)(cap:Nat)(xs:List M4)(f:Nat->Bool)(hn:xs.length<=maxLen)(hs:gQ.pK w a xs)(hf:Tn w xs  f):
  Calls prog 246 #[.slice a xs.length cap,.func (.func 218) #[] #[]] w fun e w'=>(∃i:Int,e=.returned (vI i)/\eH f xs.length i)/\Below w.1.size w w':=by
 unfold maxLen at hn;have HF:=ay hf;clear hf;go_enter func246,ntmps246;go_wp2;go_loopw[8] (fun v wr=>∃j:Nat,j<=xs.length/\v=vI j/\Below w.1.size w wr/\∀i,i<j->f i=false) (fun v _=>xs.length-(intOf v).toNat)
 case atStart=>exact⟨0,Nat.zero_le _,rfl,aN,fun i h=>absurd h (by omega)⟩
 case round=>
  obtain⟨j,hj,rfl,aD,aO⟩:=hrel;by_cases aK:j<xs.length
  ·rcases hs with hs|⟨b,off,rfl,hb,h1⟩
   ·rw[hs]at aK;simp at aK
   obtain⟨⟨m0,m1,m2,m3,m4,m5⟩,bg,fG⟩:=h1 j _ (iP aK);have e0:wr.cell? ⟨b,off+j*4,none⟩=some (.bool (aT xs j).x):=(aD.cell (p:=⟨b,off+j*4,none⟩) hb).trans (bg 0 _ rfl);have e1:wr.cell? ⟨b,off+j*4+1,none⟩=some (.slice m0 (aT xs j).af.length m1):=(aD.cell (p:=⟨b,off+j*4+1,none⟩) hb).trans (bg 1 _ rfl);have e2:wr.cell? ⟨b,off+j*4+2,none⟩=some (.slice m2 (aT xs j).g.length m3):=(aD.cell (p:=⟨b,off+j*4+2,none⟩) hb).trans (bg 2 _ rfl);have e3:wr.cell? ⟨b,off+j*4+3,none⟩=some (.slice m4 (aT xs j).ai.length m5):=(aD.cell (p:=⟨b,off+j*4+3,none⟩) hb).trans (bg 3 _ rfl);have hw:=HF.out wr j m0 m1 m2 m3 m4 m5 aD aK (gQ.later fG aD);have KA:Hid ((∀i,i<j->f i=false)/\Below w.1.size w wr):=⟨aO,aD⟩
   have jn:(j:Int)<(xs.length:Int):=by omega
   clear h1 bg fG aO aD
   cases hp:f j with
   | true=>
    rw[hp]at hw;go_wp2_with fail;refine hw.mono ?_;clear hw;rintro e w1 ⟨rfl,b1⟩;go_wp2;go_ret;exact⟨⟨_,rfl,.inr ⟨j,rfl,aK,hp,KA.out.1⟩⟩,KA.out.2.trans (b1.mono KA.out.2.size)⟩
   | false=>
    rw[hp]at hw;go_wp2_with fail;refine hw.mono ?_;clear hw;rintro e w1 ⟨rfl,b1⟩;go_wp2
    exact⟨⟨j+1,by omega,by simp,KA.out.2.trans (b1.mono KA.out.2.size),fun i hi=>by
     by_cases e:i=j
     ·rw[e];exact hp
     ·exact KA.out.1 i (by omega)⟩,by simp[intOf];omega⟩
  ·obtain rfl:j=xs.length:=by omega
   have hd:decide ((xs.length:Int)<(xs.length:Int))=false:=by simp
   have KA:Hid ((∀i,i<xs.length->f i=false)/\Below w.1.size w wr):=⟨aO,aD⟩
   clear aO aD hs;go_wp2;go_ret;exact⟨⟨_,rfl,.inl ⟨rfl,KA.out.1⟩⟩,KA.out.2⟩
theorem Pk(w:World)(a:OA)(cap:Nat)(xs:List M4)(f:Nat->Bool)(hn:xs.length<=maxLen)(hs:gQ.pK w a xs)(hf:Tn w xs  f):
  Calls prog 220 #[.slice a xs.length cap,.func (.func 218) #[] #[]] w fun e w'=>e=.returned (.bool (!((List.range xs.length).all fun j=>!f j)))/\Below w.1.size w w':=by
 have hc:=fL w a cap xs  f hn hs hf;clear hs hf;go_enter func220,ntmps220;go_wp2_with fail;refine hc.mono ?_;clear hc;rintro e w1 ⟨⟨i,rfl,hi⟩,b1⟩;have h:=iC hi;have KB:=ay b1;clear b1 hi;go_wp2;go_ret;exact⟨by rw[<-h];rfl,KB.out⟩
theorem MH(X:World)(m0:OA)(m1:Nat)(m2:OA)(m3:Nat)(m4:OA)(m5:Nat)(m:M4)(hl:ML m)(h:qY X ⟨m0,m1,m2,m3,m4,m5⟩ m):Calls prog 218 #[.agg #[.bool m.x,.slice m0 m.af.length m1,.slice m2 m.g.length m3,.slice m4 m.ai.length m5]] X fun e w'=>e=.returned (.bool (!fw m))/\Below X.1.size X w':=by
 obtain⟨U,hU⟩:∃Y,Y=X.alloc (.cells #[.bool m.x,.slice m0 m.af.length m1,.slice m2 m.g.length m3,.slice m4 m.ai.length m5] 62):=⟨_,rfl⟩
 have b0:Below X.1.size X U:=by rw[hU];exact aN.alloc aU _
 have hc:=vz U ⟨m0,m1,m2,m3,m4,m5⟩ m hl (h.later b0);simp only[MV.val]at hc;have KB:=ay b0;clear b0 hl h;go_enter func218,ntmps218;go_wp2_with fail;rw[<-hU];clear hU;refine hc.mono ?_;clear hc;rintro e w1 ⟨rfl,b1⟩;go_wp2;go_ret;exact⟨rfl,au KB.out b1⟩
theorem Ap(w:World)(a:OA)(cap:Nat)(ms:List M4)(hn:ms.length<=maxLen)(hl:∀m∈ms,ML m)(hs:gQ.pK w a ms):
  Calls prog 186 #[.slice a ms.length cap] w fun e w'=>e=.returned (.bool (decide (1<=ms.length)&&decide (ms.length<=8)&&jg ms))/\Below w.1.size w w':=by
 have hc:=Pk w a cap ms (fun i=>!fw (aT ms i)) hn hs (fun X i m0 m1 m2 m3 m4 m5 hb hi hr=>MH X m0 m1 m2 m3 m4 m5 (aT ms i) (hl _ (List.mem_of_getElem? (iP hi))) hr);have he:(!((List.range ms.length).all fun j=>!(fun i=>!fw (aT ms i)) j))=!jg ms:=by simp[jg]
 rw[he]at hc;clear hs hl he;unfold maxLen at hn;by_cases g1:1<=ms.length
 case neg=>
  have d1:decide ((1:Int)<=(ms.length:Int))=false:=by simp<;>omega
  have hb:(decide (1<=ms.length)&&decide (ms.length<=8)&&jg ms)=false:=by simp[g1]
  rw[hb];clear hc g1 hb;go_enter func186,ntmps186;go_wp2;go_ret;exact⟨rfl,aN⟩
 have d1:decide ((1:Int)<=(ms.length:Int))=true:=by simp<;>omega
 by_cases g2:ms.length<=8
 case neg=>
  have d2:decide ((ms.length:Int)<=8)=false:=by simp<;>omega
  have hb:(decide (1<=ms.length)&&decide (ms.length<=8)&&jg ms)=false:=by simp[g2]
  rw[hb];clear hc g2 hb g1;go_enter func186,ntmps186;go_wp2;go_ret;exact⟨rfl,aN⟩
 have d2:decide ((ms.length:Int)<=8)=true:=by simp<;>omega
 have hb:(decide (1<=ms.length)&&decide (ms.length<=8)&&jg ms)=jg ms:=by simp[g1,g2]
 rw[hb];clear g1 g2 hb;go_enter func186,ntmps186;go_wp2_with fail;refine hc.mono ?_;clear hc;rintro e w1 ⟨rfl,b1⟩;have KB:=ay b1;clear b1;go_wp2;go_ret;exact⟨by simp,KB.out⟩
end
section
open Go.Proofs.Tryz
theorem iM(w:World)(x:Int):Calls prog 208 #[vI x] w fun e w'=>e=.returned (.bool (bH 0 7 x))/\w'=w:=by
 by_cases h0:0<=x
 ·by_cases h8:x<8
  ·rw[jV (by omega) (by omega)];go_enter func208,ntmps208;go_wp2;go_ret;exact⟨rfl,rfl⟩
  ·have hd:decide (x<8)=false:=by simp;omega
   have hb:bH 0 7 x=false:=by cases h:bH 0 7 x with|false=>rfl|true=>rw[dI]at h;omega
   rw[hb];go_enter func208,ntmps208;go_wp2;go_ret;exact⟨rfl,rfl⟩
 ·have hd:decide (0<=x)=false:=by simp;omega
  have hb:bH 0 7 x=false:=by cases h:bH 0 7 x with|false=>rfl|true=>rw[dI]at h;omega
  rw[hb];go_enter func208,ntmps208;go_wp2;go_ret;exact⟨rfl,rfl⟩
theorem MB(w:World)(a:OA)(n cap:Nat)(z:Int)(zs:List Int)(hn:n<=maxLen)(hs:ll w w.1.size a n zs):
  Calls prog 160 #[.slice a n cap,vI z] w fun e w'=>(∃i:Int,e=.returned (vI i)/\decide (0<=i)=hasB zs z)/\w'=w:=by
 unfold maxLen at hn;obtain⟨hx,hs⟩:=hs;go_enter func160,ntmps160;go_wp2;go_loop[8] (fun v=>∃k:Nat,k<=n/\v=vI k/\∀i,i<k->eQ zs i≠z) (fun v=>n-(intOf v).toNat)
 case atStart=>exact⟨0,Nat.zero_le _,rfl,fun i h=>absurd h (by omega)⟩
 case round=>
  obtain⟨k,hk,rfl,aO⟩:=hrel;have K:Hid ((∀i,i<k->eQ zs i≠z)/\zs.length=n):=⟨aO,hx⟩
  by_cases aK:k<n
  ·rcases hs with hs|⟨b,off,rfl,hb,h1⟩
   ·omega
   ·have c:=h1 k _ (jf (by omega));clear h1 aO hx;by_cases he:eQ zs k=z
    ·have q:(z==eQ zs k)=true:=by simp[he]
     have HE:Hid (eQ zs k=z):=he;clear he;go_wp2;go_ret;exact⟨⟨_,rfl,by rw[Lc (by rw[K.out.2];exact aK) HE.out];simp⟩,rfl⟩
    ·have q:(z==eQ zs k)=false:=by simp;exact fun h=>he h.symm
     have HE:Hid (eQ zs k≠z):=he;clear he;go_wp2;refine⟨⟨k+1,by omega,by simp,fun i hi=>?_⟩,by simp[intOf];omega⟩;by_cases e:i=k
     ·rw[e];exact HE.out
     ·exact K.out.1 i (by omega)
  ·have:k=n:=by omega
   subst this;have hd:decide ((k:Int)<(k:Int))=false:=by simp
   clear aO hx hs;go_wp2;go_ret;exact⟨⟨_,rfl,by rw[OO (by rw[K.out.2];exact K.out.1)];rfl⟩,rfl⟩
theorem uU(w:World)(a:OA)(n cap:Nat)(z:Int)(zs:List Int)(hn:n<=maxLen)(hs:ll w w.1.size a n zs):
  Calls prog 117 #[.slice a n cap,vI z] w fun e w'=>e=.returned (.bool (hasB zs z))/\w'=w:=by
 have hi:=MB w a n cap z zs hn hs;clear hs;go_enter func117,ntmps117;go_wp2_with fail;refine hi.mono ?_;clear hi;rintro e w1 ⟨⟨i,rfl,hb⟩,rfl⟩;go_wp2;go_ret;exact⟨rfl,rfl⟩
theorem GU(w:World)(a:OA)(cap:Nat)(zs:List Int)(hs:ll w w.1.size a zs.length zs)(kL:zs.length<=cap):
  Calls prog 192 #[.agg #[.slice a zs.length cap]] w fun e w'=>e=.returned (.bool (eu zs))/\Below w.1.size w w':=by
 have b0:Below w.1.size w (w.alloc (.cells #[.slice a zs.length cap] 102)):=aN.alloc aU _;by_cases h3:zs.length<1\/3<zs.length
 ·have ZB:eu zs=false:=by
   rcases h3 with h|h
   ·simp[eu,show ¬1<=zs.length by omega]
   ·simp[eu,show ¬zs.length<=3 by omega]
  rw[ZB];rcases h3 with h|h
  ·have d3:decide ((zs.length:Int)<1)=true:=by simp;omega
   go_enter func192,ntmps192;go_wp2;go_ret;exact⟨rfl,b0⟩
  ·have d3:decide ((zs.length:Int)<1)=false:=by simp;omega
   have d4:decide ((3:Int)<(zs.length:Int))=true:=by simp;omega
   go_enter func192,ntmps192;go_wp2;go_ret;exact⟨rfl,b0⟩
 ·have d3:decide ((zs.length:Int)<1)=false:=by simp;omega
  have d4:decide ((3:Int)<(zs.length:Int))=false:=by simp;omega
  have HG:Hid (eu zs=(List.range zs.length).all (jL zs)):=by unfold Hid;simp[eu,show 1<=zs.length by omega,show zs.length<=3 by omega]
  have KS:Hid (ll w w.1.size a zs.length zs):=hs;have KB:Hid (Below w.1.size w (w.alloc (.cells #[.slice a zs.length cap] 102))):=b0;clear hs b0;go_enter func192,ntmps192;go_wp2;go_loopw[18] (fun v18 wr=>∃k:Nat,k<=zs.length/\v18=vI k/\Below (w.1.size+1) (w.alloc (.cells #[.slice a zs.length cap] 102)) wr/\(List.range k).all (jL zs)=true) (fun v18 _=>zs.length-(intOf v18).toNat)
  case atStart=>exact⟨0,Nat.zero_le _,rfl,aN,rfl⟩
  case round=>
   obtain⟨k,hk,rfl,Mj,UK⟩:=hrel;have qO:Below w.1.size w wr:=KB.out.trans (Mj.mono (by omega));by_cases Em:k<zs.length
   ·obtain⟨_,oQ⟩:=KS.out;rcases oQ with oQ|⟨b',bR,rfl,gJ,h2⟩
    ·omega
    ·have cp:wr.cell? ⟨w.1.size,0,none⟩=some (.slice (some ⟨b',bR,none⟩) zs.length cap):=(Mj.cell (p:=⟨w.1.size,0,none⟩) (by simp)).trans (by go_simp);have ck:=(qO.cell (p:=⟨b',bR+k,none⟩) gJ).trans (h2 k _ (jf Em))
     have eZ:ll wr wr.1.size (some ⟨b',bR,none⟩) k (zs.take k):=⟨by rw[List.length_take];omega,.inr ⟨b',bR,rfl,Nat.lt_of_lt_of_le gJ qO.size,fun i z e=>by
      rw[List.getElem?_take]at e;split at e
      ·exact(h2.below qO gJ) i z e
      ·cases e⟩⟩
     have KQ:Hid (Below (w.1.size+1) (w.alloc (.cells #[.slice (some ⟨b',bR,none⟩) zs.length cap] 102)) wr/\(List.range k).all (jL zs)=true/\Below w.1.size w wr):=⟨Mj,UK,qO⟩
     have eA:k<=maxLen:=by unfold maxLen;omega
     have cH:Calls prog 117 #[.slice (some ⟨b',bR,none⟩) k cap,vI (eQ zs k)] wr fun e eU=>e=.returned (.bool (hasB (zs.take k) (eQ zs k)))/\eU=wr:=uU wr _ k cap (eQ zs k) (zs.take k) eA eZ
     have cM:=iM wr (eQ zs k);have HK:Hid (jL zs k=(bH 0 7 (eQ zs k)&&!hasB (zs.take k) (eQ zs k))):=rfl;have se:k<=cap:=by omega
     clear h2 Mj UK eZ qO;generalize eQ zs k=z at *
     cases g1:bH 0 7 z with
     | false=>
      rw[g1]at cM;have UJ:jL zs k=false:=by rw[HK.out,g1];rfl
      go_wp2_with fail;refine cM.mono ?_;clear cM cH;rintro e wr ⟨rfl,rfl⟩;go_wp2;go_ret;exact⟨by rw[HG.out,iN Em UJ];rfl,KQ.out.2.2⟩
     | true=>
      rw[g1]at cM
      cases g2:hasB (zs.take k) z with
      | true=>
       rw[g2]at cH;have UJ:jL zs k=false:=by rw[HK.out,g1,g2];rfl
       go_wp2_with fail;refine cM.mono ?_;clear cM;rintro e wr ⟨rfl,rfl⟩;go_wp2_with fail;refine cH.mono ?_;clear cH;rintro e wr ⟨rfl,rfl⟩;go_wp2;go_ret;exact⟨by rw[HG.out,iN Em UJ];rfl,KQ.out.2.2⟩
      | false=>
       rw[g2]at cH;have XV:jL zs k=true:=by rw[HK.out,g1,g2];rfl
       go_wp2_with fail;refine cM.mono ?_;clear cM;rintro e wr ⟨rfl,rfl⟩;go_wp2_with fail;refine cH.mono ?_;clear cH;rintro e wr ⟨rfl,rfl⟩;go_wp2;exact⟨⟨k+1,by omega,by simp,KQ.out.1,kF KQ.out.2.1 XV⟩,by simp[intOf];omega⟩
   ·have:k=zs.length:=by omega
    subst this;have hd:decide ((zs.length:Int)<(zs.length:Int))=false:=by simp
    go_wp2;go_ret;exact⟨by rw[HG.out,UK];rfl,qO⟩
end
section
open Go.Proofs.Tryz
theorem Nr(w:World)(a:OA)(cap:Nat)(zs:List Int)(hs:ll w w.1.size a zs.length zs)(kL:zs.length<=cap):
  Calls prog 191 #[.agg #[.slice a zs.length cap]] w fun e w'=>e=.returned (.bool (!eu zs))/\Below w.1.size w w':=by
 have b0:Below w.1.size w (w.alloc (.cells #[.slice a zs.length cap] 102)):=aN.alloc aU _;have hc:=GU (w.alloc (.cells #[.slice a zs.length cap] 102)) a cap zs (hs.later b0) kL;have B0:Hid (Below w.1.size w (w.alloc (.cells #[.slice a zs.length cap] 102))):=b0;clear hs b0;generalize eu zs=V at *;generalize zs.length=n at *;go_enter func191,ntmps191;go_wp2_with fail;refine hc.mono ?_;clear hc;rintro e w1 ⟨rfl,b1⟩;go_wp2;go_ret;exact⟨rfl,B0.out.trans (b1.mono (by simp))⟩
theorem Cs(w:World)(a:OA)(n cap:Nat)(aP:List (List Int))(hn:n<=maxLen)(hs:wy w w.1.size a n aP):
  Calls prog 227 #[.slice a n cap,.func (.func 191) #[] #[]] w fun e w'=>(∃i:Int,e=.returned (vI i)/\decide (0<=i)=!((List.range n).all fun i=>eu (dY aP i)))/\Below w.1.size w w':=by
 unfold maxLen at hn;obtain⟨hx,hs⟩:=hs;go_enter func227,ntmps227;go_wp2;go_loopw[8] (fun v wr=>∃j:Nat,j<=n/\v=vI j/\Below w.1.size w wr/\(List.range j).all (fun i=>eu (dY aP i))=true) (fun v _=>n-(intOf v).toNat)
 case atStart=>exact⟨0,Nat.zero_le _,rfl,aN,rfl⟩
 case round=>
  obtain⟨j,hj,rfl,aD,aO⟩:=hrel;by_cases aK:j<n
  ·rcases hs with hs|⟨b,off,rfl,hb,h1⟩
   ·omega
   ·obtain⟨a',aW,hc,gM,kL⟩:=h1 j _ (gB (by omega));have c:=(aD.cell (p:=⟨b,off+j,none⟩) hb).trans hc;have KA:Hid ((List.range j).all (fun i=>eu (dY aP i))=true/\Below w.1.size w wr):=⟨aO,aD⟩
    have hw:=Nr wr a' aW (dY aP j) ((gM.below aD).mono aD.size) kL;have HF:Hid (eu (dY aP j)=false->((List.range n).all fun i=>eu (dY aP i))=false):=fun h=>iN aK h
    have HT:Hid (eu (dY aP j)=true->((List.range (j+1)).all fun i=>eu (dY aP i))=true):=fun h=>kF aO h
    clear h1 hc aO gM aD kL;generalize (dY aP j).length=m at *
    cases hp:eu (dY aP j)with
    | false=>
     rw[hp]at hw;go_wp2_with fail;refine hw.mono ?_;clear hw;rintro e w1 ⟨rfl,b1⟩;go_wp2;go_ret;exact⟨⟨_,rfl,by rw[HF.out hp];simp⟩,KA.out.2.trans (b1.mono KA.out.2.size)⟩
    | true=>
     rw[hp]at hw;go_wp2_with fail;refine hw.mono ?_;clear hw;rintro e w1 ⟨rfl,b1⟩;go_wp2;exact⟨⟨j+1,by omega,by simp,KA.out.2.trans (b1.mono KA.out.2.size),HT.out hp⟩,by simp[intOf];omega⟩
  ·have:j=n:=by omega
   subst this;have hd:decide ((j:Int)<(j:Int))=false:=by simp
   clear hs;go_wp2;go_ret;exact⟨⟨_,rfl,by rw[aO];rfl⟩,aD⟩
theorem wK(w:World)(a:OA)(n cap:Nat)(aP:List (List Int))(hn:n<=maxLen)(hs:wy w w.1.size a n aP):
  Calls prog 193 #[.slice a n cap,.func (.func 191) #[] #[]] w fun e w'=>e=.returned (.bool (!((List.range n).all fun i=>eu (dY aP i))))/\Below w.1.size w w':=by
 have hi:=Cs w a n cap aP hn hs;clear hs;generalize (!((List.range n).all fun i=>eu (dY aP i)))=V at *;go_enter func193,ntmps193;go_wp2_with fail;refine hi.mono ?_;clear hi;rintro e w1 ⟨⟨i,rfl,hb⟩,b1⟩;go_wp2;go_ret;exact⟨rfl,b1⟩
theorem oZ(w:World)(a:OA)(n cap:Nat)(aP:List (List Int))(hn:n<=maxLen)(hs:wy w w.1.size a n aP):
  Calls prog 151 #[.slice a n cap] w fun e w'=>e=.returned (.bool (dV aP))/\Below w.1.size w w':=by
 have hx:=hs.1;have hc:=wK w a n cap aP hn hs;unfold maxLen at hn;by_cases h1:1<=n
 ·by_cases h6:n<=6
  ·have d1:(1:Int)<=(n:Int):=by omega
   have d6:(n:Int)<=6:=by omega
   have hV:dV aP=((List.range n).all fun i=>eu (dY aP i)):=by simp[dV,hx,h1,h6]
   rw[hV];generalize ((List.range n).all fun i=>eu (dY aP i))=V at *;clear hs hV;go_enter func151,ntmps151;go_wp2_with fail;refine hc.mono ?_;clear hc;rintro e w1 ⟨rfl,b1⟩;go_wp2;go_ret;exact⟨by simp,b1⟩
  ·have d1:(1:Int)<=(n:Int):=by omega
   have d6:decide ((n:Int)<=6)=false:=by simp;omega
   have hV:dV aP=false:=by simp[dV,hx,h6]
   rw[hV];clear hs hV hc;go_enter func151,ntmps151;go_wp2;go_ret;exact⟨rfl,aN⟩
 ·obtain rfl:n=0:=by omega
  have hV:dV aP=false:=by simp[dV,hx]
  rw[hV];clear hs hV hc;go_enter func151,ntmps151;go_wp2;go_ret;exact⟨rfl,aN⟩
end
section
open Go.Proofs.Tryz
theorem Ew(w:World)(x:Int):Calls prog 184 #[vI x] w fun e w'=>e=.returned (.bool (bH 1 1000000 x))/\w'=w:=by
 have hc:=tx.jM w x;go_enter func184,ntmps184;go_wp2_with fail;refine hc.mono ?_;clear hc;rintro e w1 ⟨rfl,rfl⟩;go_wp2;go_ret;exact⟨rfl,rfl⟩
theorem ru(k:C6):aF k=(bH 1 1000000 k.v&&(bH 0 1000000 k.q&&((decide (1<=k.aa.length)&&decide (k.aa.length<=8)&&jg k.aa)&&(dV k.f&&(iR k.f k.aa&&(decide (k.c.length<=60)&&si k)))))):=by
 unfold aF;ac_rfl
theorem kJ(w:World)(a1:OA)(c1:Nat)(a2:OA)(c2:Nat)(a3:OA)(c3:Nat)(k:C6)(hl:cO.L k)(h:cO.Rd w a1 c1 a2 c2 a3 c3 k):Calls prog 146 #[.agg #[vI k.v,vI k.q,.slice a1 k.f.length c1,.slice a2 k.aa.length c2,.slice a3 k.c.length c3,.bool k.w]] w fun e w'=>e=.returned (.bool (aF k))/\Below w.1.size w w':=by
 obtain⟨U,hU⟩:∃Y,Y=w.alloc (.cells #[vI k.v,vI k.q,.slice a1 k.f.length c1,.slice a2 k.aa.length c2,.slice a3 k.c.length c3,.bool k.w] 32):=⟨_,rfl⟩
 have b0:Below w.1.size w U:=by rw[hU];exact aN.alloc aU _
 have FA:Hid (Bx U w.1.size (dR a1 c1 a2 c2 a3 c3 k)):=by unfold Hid;rw[hU];exact Bx.made w (dR a1 c1 a2 c2 a3 c3 k) _
 have HR:Hid (cO.Rd U a1 c1 a2 c2 a3 c3 k/\cO.L k/\Below w.1.size w U):=⟨h.later b0,hl,b0⟩
 have HC:Hid (aF k=(bH 1 1000000 k.v&&(bH 0 1000000 k.q&&((decide (1<=k.aa.length)&&decide (k.aa.length<=8)&&jg k.aa)&&(dV k.f&&(iR k.f k.aa&&(decide (k.c.length<=60)&&si k))))))):=ru k;have hc:=Ew U k.v;clear b0 h hl;go_enter func146,ntmps146;go_wp2_with fail;rw[<-hU];clear hU;refine hc.mono ?_;clear hc;rintro e w1 ⟨rfl,rfl⟩;generalize w1=U at *
 cases g1:bH 1 1000000 k.v with
 | false=>
  have hb:Hid (aF k=false):=by unfold Hid;rw[HC.out,g1];rfl
  go_wp2;go_ret;exact⟨by rw[hb.out];rfl,HR.out.2.2⟩
 | true=>
 have p1:=FA.out.1 1 _ rfl;have hc:=tx.kX U k.q;go_wp2_with fail;refine hc.mono ?_;clear hc p1;rintro e w1 ⟨rfl,rfl⟩;generalize w1=U at *
 cases g2:bH 0 1000000 k.q with
 | false=>
  have hb:Hid (aF k=false):=by unfold Hid;rw[HC.out,g2];simp
  go_wp2;go_ret;exact⟨by rw[hb.out];rfl,HR.out.2.2⟩
 | true=>
 have p3:=FA.out.1 3 _ rfl;have hc:=Ap U a2 c2 k.aa HR.out.2.1.m HR.out.2.1.ms HR.out.1.m;go_wp2_with fail;refine hc.mono ?_;clear hc p3;rintro e w1 ⟨rfl,b1⟩;have B1:=ay b1;clear b1
 cases g3:(decide (1<=k.aa.length)&&decide (k.aa.length<=8)&&jg k.aa)with
 | false=>
  have hb:Hid (aF k=false):=by unfold Hid;rw[HC.out,g3];simp
  go_wp2;go_ret;exact⟨by rw[hb.out];rfl,au HR.out.2.2 B1.out⟩
 | true=>
 have p2:=(FA.out.later B1.out).1 2 _ rfl;have hc:=oZ w1 a1 k.f.length c1 k.f HR.out.2.1.p (HR.out.1.p.later B1.out);go_wp2_with fail;refine hc.mono ?_;clear hc p2;rintro e w2 ⟨rfl,b2⟩;have B2:Hid (Below U.1.size U w2):=au B1.out b2;clear b2 B1;generalize w1=wA at *
 cases g4:dV k.f with
 | false=>
  have hb:Hid (aF k=false):=by unfold Hid;rw[HC.out,g4];simp
  go_wp2;go_ret;exact⟨by rw[hb.out];rfl,au HR.out.2.2 B2.out⟩
 | true=>
 have Iu:Hid (aF k=(iR k.f k.aa&&(decide (k.c.length<=60)&&si k))):=by unfold Hid;rw[HC.out,g1,g2,g3,g4];rfl
 have HG:Hid (k.aa.length<=8/\jg k.aa=true/\dV k.f=true):=by
  simp only[Bool.and_eq_true,decide_eq_true_eq]at g3;exact⟨g3.1.2,g3.2,g4⟩
 clear g1 g2 g3 g4 HC;have SF:Hid (∀X,Below U.1.size U X->(fun X:World=>Bx X w.1.size (dR a1 c1 a2 c2 a3 c3 k)) X):=fun X hX=>FA.out.later hX
 go_wp2_with fail;have bd:Below U.1.size U w2.drew:=B2.out.drew;have hS:=SF.out _ bd;refine aY (fun z=>z==10) (fun X:World=>Bx X w.1.size (dR a1 c1 a2 c2 a3 c3 k)) (by kernel_rfl) ?_;generalize w2.drew=Wd at *;refine cu 0 rfl hS ?_;simp only[Act.put];refine iZ 1 ?_ rfl ?_ hS ?_;rotate_left
 ·(intro X aH;have c0:=aH.1 0 _ rfl;have c1:=aH.1 1 _ rfl;have c2:=aH.1 2 _ rfl;have c3:=aH.1 3 _ rfl;have c4:=aH.1 4 _ rfl;have c5:=aH.1 5 _ rfl;go_simp;first|done|with_reducible rfl)
 simp only[Act.put];refine cu 2 rfl hS ?_;simp only[Act.put];refine iZ 3 ?_ rfl ?_ hS ?_;rotate_left
 ·(intro X aH;have c0:=aH.1 0 _ rfl;have c1:=aH.1 1 _ rfl;have c2:=aH.1 2 _ rfl;have c3:=aH.1 3 _ rfl;have c4:=aH.1 4 _ rfl;have c5:=aH.1 5 _ rfl;go_simp;first|done|with_reducible rfl)
 simp only[Act.put];refine dJ 4 rfl (fun K hK=>?_);go_simp;refine(Cz Wd a2 c2 k.aa HG.out.1 (HR.out.1.m.later bd)).mono ?_;rintro e X1 ⟨rfl,Rs,dO,b1⟩;have bX:=au bd b1;refine hK.out _ _ (fun _=>SF.out _ bX) ?_;clear hK K;have hS:=SF.out _ bX;refine dJ 5 rfl (fun K hK=>?_);go_simp;refine(JH Wd X1 a1 c1 Wd.1.size k.f k.aa HR.out.2.1.ms HG.out.2.1 HG.out.2.2 HR.out.2.1.p HR.out.2.1.ps b1 dO Rs (HR.out.1.p.later bX)).mono ?_;rintro e X2 ⟨rfl,b2⟩;have bY:=au bX b2;refine hK.out _ _ (fun _=>SF.out _ bY) ?_;clear hK K;have hS:=SF.out _ bY
 cases g5:iR k.f k.aa with
 | false=>
  have hb:Hid (aF k=false):=by unfold Hid;rw[Iu.out,g5];rfl
  refine cu 6 rfl hS ?_;simp only[Act.put];refine sK (i:=7) (v:=undef) rfl (by kernel_rfl) (fun _ _ _ h=>h) (Or.inr ⟨by rfl,rfl⟩) hS ?_;simp only[Act.put];refine sK (i:=8) (v:=undef) rfl (by kernel_rfl) (fun _ _ _ h=>h) (Or.inr ⟨by rfl,rfl⟩) hS ?_;simp only[Act.put];refine cu 9 rfl hS ?_;simp only[Act.put];refine dJ 10 rfl (fun K hK=>?_);go_simp;refine hK.out _ _ (fun h=>absurd (show false=true from h.symm.trans (by kernel_rfl)) (by decide)) ?_;clear hK K;refine df (by kernel_rfl) ?_ _;go_wp2;go_ret;exact⟨by rw[hb.out];rfl,au HR.out.2.2 bY⟩
 | true=>
  have hb:Hid (aF k=(decide (k.c.length<=60)&&si k)):=by unfold Hid;rw[Iu.out,g5];rfl
  refine cu 6 rfl hS ?_;simp only[Act.put];refine iZ 7 ?_ rfl ?_ hS ?_;rotate_left
  ·(intro X aH;have c0:=aH.1 0 _ rfl;have c1:=aH.1 1 _ rfl;have c2:=aH.1 2 _ rfl;have c3:=aH.1 3 _ rfl;have c4:=aH.1 4 _ rfl;have c5:=aH.1 5 _ rfl;go_simp;first|done|with_reducible rfl)
  simp only[Act.put];refine dJ 8 rfl (fun K hK=>?_);go_simp;refine(J5 X2 a1 c1 a2 c2 a3 c3 k HR.out.2.1 (HR.out.1.later bY)).mono ?_;rintro e X3 ⟨rfl,b3⟩;have bZ:=au bY b3;refine hK.out _ _ (fun _=>SF.out _ bZ) ?_;clear hK K;have hS:=SF.out _ bZ;refine cu 9 rfl hS ?_;simp only[Act.put];refine dJ 10 rfl (fun K hK=>?_);go_simp;refine hK.out _ _ (fun h=>absurd (show false=true from h.symm.trans (by kernel_rfl)) (by decide)) ?_;clear hK K;refine df (by kernel_rfl) ?_ _;go_wp2;go_ret;exact⟨by rw[hb.out];rfl,au HR.out.2.2 bZ⟩
end
section
open Go.Proofs.Tryz
theorem Ck(w:World)(a1:OA)(c1:Nat)(a2:OA)(c2:Nat)(a3:OA)(c3:Nat)(k:C6)(i:Nat)(hi:i<k.aa.length)(h:cO.Rd w a1 c1 a2 c2 a3 c3 k):Calls prog 111 #[.agg #[vI k.v,vI k.q,.slice a1 k.f.length c1,.slice a2 k.aa.length c2,.slice a3 k.c.length c3,.bool k.w],vI (i:Int)] w fun e w'=>e=.returned (.bool (aT k.aa i).x)/\Below w.1.size w w':=by
 obtain⟨W,hW⟩:∃Y,Y=w.alloc (.cells #[vI k.v,vI k.q,.slice a1 k.f.length c1,.slice a2 k.aa.length c2,.slice a3 k.c.length c3,.bool k.w] 32):=⟨_,rfl⟩
 have bW:Below w.1.size w W:=by rw[hW];exact aN.alloc aU _
 have p3:W.cell? ⟨w.1.size,3,none⟩=some (.slice a2 k.aa.length c2):=by rw[hW];go_simp
 rcases(h.later bW).m with h0|⟨b,off,rfl,hb,fG⟩
 ·rw[h0]at hi;simp at hi
 obtain⟨⟨m0,m1,m2,m3,m4,m5⟩,lS,-⟩:=fG i _ (iP hi);have e0:W.cell? ⟨b,off+i*4,none⟩=some (.bool (aT k.aa i).x):=lS 0 _ rfl;have e1:W.cell? ⟨b,off+i*4+1,none⟩=some (.slice m0 (aT k.aa i).af.length m1):=lS 1 _ rfl;have e2:W.cell? ⟨b,off+i*4+2,none⟩=some (.slice m2 (aT k.aa i).g.length m3):=lS 2 _ rfl;have e3:W.cell? ⟨b,off+i*4+3,none⟩=some (.slice m4 (aT k.aa i).ai.length m5):=lS 3 _ rfl;have d0:decide (0<=(i:Int))=true:=by simp
 have d1:decide ((i:Int)<(k.aa.length:Int))=true:=by simp;omega
 have i0:0<=(i:Int):=by omega
 have i1:(i:Int)<(k.aa.length:Int):=by omega
 have BW:Hid (Below w.1.size w W):=bW;rw[hW]at p3 e0 e1 e2 e3;have Zy:=qp W m0 m1 m2 m3 m4 m5 (aT k.aa i);clear bW h fG lS hb
 have wa:∀(a:OA) (n c:Nat) (w:World),(method 452 260 (.agg #[.slice a n c]) "loop.example/g00153/impl.lives").run prog w=.ok (311,.agg #[.slice a n c]) w:=fun _ _ _ _=>by kernel_rfl
 have vA:∀w:World,(method 452 262 (.agg #[]) "loop.example/g00153/impl.lives").run prog w=.ok (313,.agg #[]) w:=fun _=>by kernel_rfl
 go_enter func111,ntmps111;go_wp2_with fail;rw[<-hW];clear hW;refine Zy.mono ?_;clear Zy;rintro e w1 ⟨rfl,b1⟩;have B1:Hid (Below w.1.size w w1):=au BW.out b1;clear b1 p3 e0 e1 e2 e3;unfold ou
 cases ha:(aT k.aa i).x with
 | true=>
  simp only[if_true];go_wp2_with fail;refine(Am w1 m0 (aT k.aa i).af.length m1).mono ?_;rintro e w2 ⟨rfl,b2⟩;have B2:Hid (Below w.1.size w w2):=au B1.out b2;clear b2;go_wp2;go_ret;exact⟨by rw[ha];rfl,B2.out⟩
 | false=>
  simp only[Bool.false_eq_true,if_false];go_wp2_with fail;refine(Al w1).mono ?_;rintro e w2 ⟨rfl,b2⟩;have B2:Hid (Below w.1.size w w2):=au B1.out b2;clear b2;go_wp2;go_ret;exact⟨by rw[ha];rfl,B2.out⟩
end
section
open Go.Proofs.Tryz
theorem vM(w:World)(a1:OA)(c1:Nat)(a2:OA)(c2:Nat)(a3:OA)(c3:Nat)(k:C6)(hl:cO.L k)(h:cO.Rd w a1 c1 a2 c2 a3 c3 k):Calls prog 45 #[.agg #[vI k.v,vI k.q,.slice a1 k.f.length c1,.slice a2 k.aa.length c2,.slice a3 k.c.length c3,.bool k.w]] w fun e w'=>e=.returned (.bool (aF k))/\Below w.1.size w w':=by
 obtain⟨U,hU⟩:∃Y,Y=w.alloc (.cells #[vI k.v,vI k.q,.slice a1 k.f.length c1,.slice a2 k.aa.length c2,.slice a3 k.c.length c3,.bool k.w] 32):=⟨_,rfl⟩
 have b0:Below w.1.size w U:=by rw[hU];exact aN.alloc aU _
 have FA:Hid (Bx U w.1.size (dR a1 c1 a2 c2 a3 c3 k)):=by rw[hU];exact Bx.made w (dR a1 c1 a2 c2 a3 c3 k) _
 have HR:Hid (cO.Rd U a1 c1 a2 c2 a3 c3 k/\cO.L k):=⟨h.later b0,hl⟩
 have BW:Hid (Below w.1.size w U):=b0;have lm:=hl.m;have lt:=hl.t;have lp:=hl.p;unfold maxLen at lm lt lp;have p0:=FA.out.1 0 _ rfl;have p1:=FA.out.1 1 _ rfl;have p2:=FA.out.1 2 _ rfl;have p3:=FA.out.1 3 _ rfl;have p4:=FA.out.1 4 _ rfl;clear b0 hl h;by_cases g0:bH 1 1000000 k.v=true
 case neg=>
  have d0:bH 1 1000000 k.v=false:=by simpa using g0
  have hb:aF k=false:=by simp[aF,d0]
  rw[hb];rw[hU]at BW p0 p1 p2 p3 p4;clear FA HR hU;go_enter func45,ntmps45;go_wp2_with (first|(go_at_call 91;refine(tx.iF _ _).mono ?_;rintro e w' ⟨rfl,rfl⟩)|(go_at_call 15;refine(fF _ _ _ _).mono ?_;rintro e w' ⟨rfl,rfl⟩));go_ret;exact⟨rfl,BW.out⟩
 by_cases g1:bH 0 1000000 k.q=true
 case neg=>
  have d1:bH 0 1000000 k.q=false:=by simpa using g1
  have hb:aF k=false:=by simp[aF,d1]
  rw[hb];rw[hU]at BW p0 p1 p2 p3 p4;clear FA HR hU;go_enter func45,ntmps45;go_wp2_with (first|(go_at_call 91;refine(tx.iF _ _).mono ?_;rintro e w' ⟨rfl,rfl⟩)|(go_at_call 15;refine(fF _ _ _ _).mono ?_;rintro e w' ⟨rfl,rfl⟩));go_ret;exact⟨rfl,BW.out⟩
 by_cases g2:1<=k.aa.length
 case neg=>
  have d2:decide ((k.aa.length:Int)<1)=true:=by simp;omega
  have hb:aF k=false:=by simp[aF,g2]
  rw[hb];rw[hU]at BW p0 p1 p2 p3 p4;clear FA HR hU;go_enter func45,ntmps45;go_wp2_with (first|(go_at_call 91;refine(tx.iF _ _).mono ?_;rintro e w' ⟨rfl,rfl⟩)|(go_at_call 15;refine(fF _ _ _ _).mono ?_;rintro e w' ⟨rfl,rfl⟩));go_ret;exact⟨rfl,BW.out⟩
 have d2:decide ((k.aa.length:Int)<1)=false:=by simp;omega
 by_cases g3:k.aa.length<=8
 case neg=>
  have d3:decide ((8:Int)<(k.aa.length:Int))=true:=by simp;omega
  have hb:aF k=false:=by simp[aF,g3]
  rw[hb];rw[hU]at BW p0 p1 p2 p3 p4;clear FA HR hU;go_enter func45,ntmps45;go_wp2_with (first|(go_at_call 91;refine(tx.iF _ _).mono ?_;rintro e w' ⟨rfl,rfl⟩)|(go_at_call 15;refine(fF _ _ _ _).mono ?_;rintro e w' ⟨rfl,rfl⟩));go_ret;exact⟨rfl,BW.out⟩
 have d3:decide ((8:Int)<(k.aa.length:Int))=false:=by simp;omega
 have BF:Hid (∀V,Below U.1.size U V->Below w.1.size w V):=fun V hV=>au BW.out hV
 have hc:=xK U a1 k.f.length c1 k.f HR.out.2.p HR.out.1.p;rw[hU]at p0 p1 p2 p3 p4;clear BW;go_enter func45,ntmps45;go_wp2_with (first|(go_at_call 91;refine(tx.iF _ _).mono ?_;rintro e w' ⟨rfl,rfl⟩)|(go_at_call 15;refine(fF _ _ _ _).mono ?_;rintro e w' ⟨rfl,rfl⟩));rw[<-hU];clear hU p0 p1 p2 p3 p4;refine hc.mono ?_;clear hc;rintro e w1 ⟨rfl,b1⟩;have B1:=tx.ay b1;clear b1;have p4:=(FA.out.later B1.out).1 4 _ rfl
 cases hP:dV k.f with
 | false=>
  have hb:Hid (aF k=false):=by unfold Hid;simp[aF,hP]
  go_wp2;go_ret;exact⟨by rw[hb.out];rfl,BF.out _ B1.out⟩
 | true=>
 by_cases g5:k.c.length<=60
 case neg=>
  have d5:decide ((60:Int)<(k.c.length:Int))=true:=by simp;omega
  have hb:Hid (aF k=false):=by unfold Hid;simp[aF,g5]
  go_wp2;go_ret;exact⟨by rw[hb.out];rfl,BF.out _ B1.out⟩
 have d5:decide ((60:Int)<(k.c.length:Int))=false:=by simp;omega
 have HC:Hid (aF k=(jg k.aa&&iR k.f k.aa&&si k)):=by unfold Hid;simp[aF,g0,g1,g2,g3,hP,g5]
 have HZ:Hid (∀r j,r<k.f.length->j<(dY k.f r).length->0<=eQ (dY k.f r) j/\eQ (dY k.f r) j<=7):=fun r j hr hj=>Ba hP hr hj
 clear g0 g1 hP;go_wp2;clear p4 d2 d3 d5;go_loopw[4] (fun v4 wr=>∃i:Nat,i<=k.aa.length/\v4=vI i/\Below U.1.size U wr/\(List.range i).all (fun i=>fw (aT k.aa i))=true) (fun v4 _=>k.aa.length-(intOf v4).toNat)
 case atStart=>exact⟨0,Nat.zero_le _,rfl,B1.out,rfl⟩
 case round=>
 obtain⟨i,hi,rfl,aD,aO⟩:=hrel;have KB:Hid (Below U.1.size U wr/\(List.range i).all (fun i=>fw (aT k.aa i))=true):=⟨aD,aO⟩
 clear aD aO;by_cases aK:i<k.aa.length
 case pos=>
  have hd:=iP aK;rcases HR.out.1.m with hs|⟨b,off,rfl,hb,h1⟩
  ·rw[hs]at aK;simp at aK
  obtain⟨⟨m0,m1,m2,m3,m4,m5⟩,bg,fG⟩:=h1 i _ hd;have e0:wr.cell? ⟨b,off+i*4,none⟩=some (.bool (aT k.aa i).x):=(KB.out.1.cell (p:=⟨b,off+i*4,none⟩) hb).trans (bg 0 _ rfl);have e1:wr.cell? ⟨b,off+i*4+1,none⟩=some (.slice m0 (aT k.aa i).af.length m1):=(KB.out.1.cell (p:=⟨b,off+i*4+1,none⟩) hb).trans (bg 1 _ rfl);have e2:wr.cell? ⟨b,off+i*4+2,none⟩=some (.slice m2 (aT k.aa i).g.length m3):=(KB.out.1.cell (p:=⟨b,off+i*4+2,none⟩) hb).trans (bg 2 _ rfl);have e3:wr.cell? ⟨b,off+i*4+3,none⟩=some (.slice m4 (aT k.aa i).ai.length m5):=(KB.out.1.cell (p:=⟨b,off+i*4+3,none⟩) hb).trans (bg 3 _ rfl);have IU:=HR.out.2.ms _ (List.mem_of_getElem? hd);have hc:=vO wr ⟨m0,m1,m2,m3,m4,m5⟩ (aT k.aa i) IU.k IU.r IU.n IU.ks IU.rs (gQ.later fG KB.out.1);simp only[MV.val]at hc;have p3:=(FA.out.later KB.out.1).1 3 _ rfl;have jn:(i:Int)<(k.aa.length:Int):=by omega
  clear bg fG h1 hd IU hb;go_wp2_with fail;refine hc.mono ?_;clear hc e0 e1 e2 e3 p3;rintro e w2 ⟨rfl,b2⟩;have K2:Hid (Below U.1.size U w2):=au KB.out.1 b2;clear b2
  cases hB:fw (aT k.aa i)with
  | false=>
   have hb:Hid (aF k=false):=by unfold Hid;rw[HC.out];simp[jg,iN (f:=fun i=>fw (aT k.aa i)) aK hB]
   go_wp2;go_ret;exact⟨by rw[hb.out];rfl,BF.out _ K2.out⟩
  | true=>
   go_wp2;exact⟨⟨i+1,by omega,by simp,K2.out,kF KB.out.2 hB⟩,by simp[intOf];omega⟩
 obtain rfl:i=k.aa.length:=by omega
 have SV:decide ((k.aa.length:Int)<(k.aa.length:Int))=false:=by simp
 have Iu:Hid (aF k=(iR k.f k.aa&&si k)):=by unfold Hid;rw[HC.out,jg,KB.out.2];simp
 go_wp2;generalize wr=wA at *;clear SV;go_loopw[5] (fun v5 wr=>∃r:Nat,r<=k.f.length/\v5=vI r/\Below U.1.size U wr/\(List.range r).all (fun r=>kQ k.aa r (dY k.f r))=true) (fun v5 _=>k.f.length-(intOf v5).toNat)
 case atStart=>exact⟨0,Nat.zero_le _,rfl,KB.out.1,rfl⟩
 case round=>
 obtain⟨r,hr,rfl,aD,aO⟩:=hrel;have KC:Hid (Below U.1.size U wr/\(List.range r).all (fun r=>kQ k.aa r (dY k.f r))=true):=⟨aD,aO⟩
 clear aD aO;have p2:=(FA.out.later KC.out.1).1 2 _ rfl;by_cases Rq:r<k.f.length
 case pos=>
  obtain⟨_,Te⟩:=HR.out.1.p;rcases Te with Te|⟨b,off,rfl,hb,Er⟩
  ·omega
  obtain⟨a',aW,hc,gM,kL⟩:=Er r _ (gB Rq);have c:=(KC.out.1.cell (p:=⟨b,off+r,none⟩) hb).trans hc;have an:Hid (ll U U.1.size a' (dY k.f r).length (dY k.f r)):=gM;have jr:(r:Int)<(k.f.length:Int):=by omega
  have lz:=HR.out.2.ps _ (List.mem_of_getElem? (gB Rq));unfold maxLen at lz;have HF:Hid (kQ k.aa r (dY k.f r)=false->aF k=false):=fun hh=>by rw[Iu.out,iR,iN (f:=fun r=>kQ k.aa r (dY k.f r)) Rq hh];rfl
  have aw:Hid (∀j,j<(dY k.f r).length->0<=eQ (dY k.f r) j/\eQ (dY k.f r) j<=7):=fun j hj=>HZ.out r j Rq hj
  have Xj:Hid (kQ k.aa r (dY k.f r)=(List.range (dY k.f r).length).all fun j=>jK k.aa r (eQ (dY k.f r) j)):=rfl;have Xi:Hid (kQ k.aa r (dY k.f r)=true->(List.range (r+1)).all (fun r=>kQ k.aa r (dY k.f r))=true):=fun hh=>kF (f:=fun r=>kQ k.aa r (dY k.f r)) KC.out.2 hh
  clear Er hc gM;generalize l8:dY k.f r=zs at *;go_wp2;clear c p2 jr l8;generalize wr=wC at *;go_loopw[7] (fun v7 wr=>∃j:Nat,j<=zs.length/\v7=vI j/\Below U.1.size U wr/\(List.range j).all (fun j=>jK k.aa r (eQ zs j))=true) (fun v7 _=>zs.length-(intOf v7).toNat)
  case atStart=>exact⟨0,Nat.zero_le _,rfl,KC.out.1,rfl⟩
  case round=>
  obtain⟨j,hj,rfl,aD,aO⟩:=hrel;have KD:Hid (Below U.1.size U wr/\(List.range j).all (fun j=>jK k.aa r (eQ zs j))=true):=⟨aD,aO⟩
  clear aD aO;by_cases Mm:j<zs.length
  case neg=>
   obtain rfl:j=zs.length:=by omega
   have SV:decide ((zs.length:Int)<(zs.length:Int))=false:=by simp
   have hh:=Xi.out (by rw[Xj.out];exact KD.out.2);go_wp2;exact⟨⟨r+1,by omega,by simp,KD.out.1,hh⟩,by simp[intOf];omega⟩
  obtain⟨_,oQ⟩:=an.out;rcases oQ with oQ|⟨b',bR,rfl,gJ,h2⟩
  ·omega
  have hz:=aw.out j Mm;obtain⟨i,hi⟩:∃i:Nat,eQ zs j=(i:Int):=⟨(eQ zs j).toNat,by omega⟩
  have Mk:=h2 j _ (jf Mm);rw[hi]at Mk;have xz:∀dd os,(grow (redrawn wr dd) os).cell? ⟨b',bR+j,none⟩=some (vI (i:Int)):=fun dd os=>((au KD.out.1 (below_regrown wr dd os)).cell (p:=⟨b',bR+j,none⟩) gJ).trans (Mk)
  have jz:(j:Int)<(zs.length:Int):=by omega
  have jc:j<aW:=by omega
  have HB:Hid (jK k.aa r (eQ zs j)=(decide ((i:Int)<(k.aa.length:Int))&&(!(aT k.aa i).x||ve (aT k.aa i) (r:Int)))):=by unfold Hid jK;rw[hi];rfl
  have Nv:Hid (jK k.aa r (eQ zs j)=false->aF k=false):=fun hh=>HF.out (by rw[Xj.out];exact iN (f:=fun j=>jK k.aa r (eQ zs j)) Mm hh)
  clear Mk h2 hz hi;by_cases Ml:i<k.aa.length
  case neg=>
   have dz:decide ((k.aa.length:Int)<=(i:Int))=true:=by simp<;>omega
   have ct:decide (k.aa.length<=i)=true:=by simp<;>omega
   have tK:Hid (aF k=false):=Nv.out (by rw[HB.out];simp[Ml]);go_wp2_with fail;refine gP ?_;repeat (go_big_quiet_step (fail))
   refine iW fun dq aZ=>?_
   have bq:=below_regrown wr dq aZ;go_wp2;go_ret;exact⟨by rw[tK.out];rfl,BF.out _ (au KD.out.1 bq)⟩
  have dz:decide ((k.aa.length:Int)<=(i:Int))=false:=by simp<;>omega
  have ct:decide (k.aa.length<=i)=false:=by simp<;>omega
  have hd:=iP Ml;rcases HR.out.1.m with hs|⟨b2,jA,rfl,lu,h1⟩
  ·rw[hs]at Ml;simp at Ml
  obtain⟨⟨m0,m1,m2,m3,m4,m5⟩,bg,fG⟩:=h1 i _ hd;have dK:=FA.out.1 3 _ rfl;have x3:∀dd os,(grow (redrawn wr dd) os).cell? ⟨w.1.size,3,none⟩=some (.slice (some ⟨b2,jA,none⟩) k.aa.length c2):=fun dd os=>((au KD.out.1 (below_regrown wr dd os)).cell (p:=⟨w.1.size,3,none⟩) FA.out.2.2).trans (dK)
  clear dK;have e0:∀dd os,(grow (redrawn wr dd) os).cell? ⟨b2,jA+i*4,none⟩=some (.bool (aT k.aa i).x):=fun dd os=>((au KD.out.1 (below_regrown wr dd os)).cell (p:=⟨b2,jA+i*4,none⟩) lu).trans (bg 0 _ rfl)
  have e1:∀dd os,(grow (redrawn wr dd) os).cell? ⟨b2,jA+i*4+1,none⟩=some (.slice m0 (aT k.aa i).af.length m1):=fun dd os=>((au KD.out.1 (below_regrown wr dd os)).cell (p:=⟨b2,jA+i*4+1,none⟩) lu).trans (bg 1 _ rfl)
  have e2:∀dd os,(grow (redrawn wr dd) os).cell? ⟨b2,jA+i*4+2,none⟩=some (.slice m2 (aT k.aa i).g.length m3):=fun dd os=>((au KD.out.1 (below_regrown wr dd os)).cell (p:=⟨b2,jA+i*4+2,none⟩) lu).trans (bg 2 _ rfl)
  have e3:∀dd os,(grow (redrawn wr dd) os).cell? ⟨b2,jA+i*4+3,none⟩=some (.slice m4 (aT k.aa i).ai.length m5):=fun dd os=>((au KD.out.1 (below_regrown wr dd os)).cell (p:=⟨b2,jA+i*4+3,none⟩) lu).trans (bg 3 _ rfl)
  have IU:=HR.out.2.ms _ (List.mem_of_getElem? hd);have cQ:∀dd os,Calls prog 47 #[.agg #[.bool (aT k.aa i).x,.slice m0 (aT k.aa i).af.length m1,.slice m2 (aT k.aa i).g.length m3,.slice m4 (aT k.aa i).ai.length m5],vI (r:Int)] (grow (redrawn wr dd) os) fun e eU=>e=.returned (vI (uu (aT k.aa i) (r:Int)))/\∃p:Regrown,eU=grow (redrawn wr p.d) p.os:=fun dd os=>Calls.regrown_of (Pv _ m0 m1 m2 m3 m4 m5 (aT k.aa i) r IU (gQ.later fG (au KD.out.1 (below_regrown wr dd os))))
  have im:(i:Int)<(k.aa.length:Int):=by omega
  have dC:=ze (aT k.aa i) (r:Int);clear bg fG h1 hd IU
  cases ha:(aT k.aa i).x with
  | false=>
   rw[ha]at e0;have Rv:Hid ((List.range (j+1)).all (fun j=>jK k.aa r (eQ zs j))=true):=kF (f:=fun j=>jK k.aa r (eQ zs j)) KD.out.2 (by rw[HB.out];simp[Ml,ha]);clear cQ dC e1 e2 e3;go_wp2_with fail;refine gP ?_;repeat (go_big_quiet_step (fail))
   refine iW fun dq aZ=>?_
   have bq:=below_regrown wr dq aZ;go_wp2;exact⟨⟨j+1,by omega,by simp,au KD.out.1 bq,Rv.out⟩,by simp[intOf];omega⟩
  | true=>
   rw[ha]at e0 cQ;generalize uu (aT k.aa i) (r:Int)=ic at *
   cases hh:ve (aT k.aa i) (r:Int)with
   | false=>
    rw[hh]at dC;have tK:Hid (aF k=false):=Nv.out (by rw[HB.out];simp[Ml,ha,hh]);go_wp2_with fail;refine gP ?_;repeat (go_big_quiet_step (exact cQ _ _))
    refine iW fun dq aZ=>?_
    have bq:=below_regrown wr dq aZ;go_wp2;go_ret;exact⟨by rw[tK.out];rfl,BF.out _ (au KD.out.1 bq)⟩
   | true=>
    rw[hh]at dC;have Rv:Hid ((List.range (j+1)).all (fun j=>jK k.aa r (eQ zs j))=true):=kF (f:=fun j=>jK k.aa r (eQ zs j)) KD.out.2 (by rw[HB.out];simp[Ml,ha,hh]);go_wp2_with fail;refine gP ?_;repeat (go_big_quiet_step (exact cQ _ _))
    refine iW fun dq aZ=>?_
    have bq:=below_regrown wr dq aZ;go_wp2;exact⟨⟨j+1,by omega,by simp,au KD.out.1 bq,Rv.out⟩,by simp[intOf];omega⟩
 obtain rfl:r=k.f.length:=by omega
 have SV:decide ((k.f.length:Int)<(k.f.length:Int))=false:=by simp
 have SG:Hid (aF k=si k):=by unfold Hid;rw[Iu.out,iR,KC.out.2];simp
 go_wp2;generalize wr=wB at *;clear SV p2;go_loopw[8] (fun v8 wr=>∃i:Nat,i<=k.c.length/\v8=vI i/\Below U.1.size U wr/\(List.range i).all (nY k)=true) (fun v8 _=>k.c.length-(intOf v8).toNat)
 case atStart=>exact⟨0,Nat.zero_le _,rfl,KC.out.1,rfl⟩
 case round=>
 obtain⟨i,hi,rfl,aD,aO⟩:=hrel;have KE:Hid (Below U.1.size U wr/\(List.range i).all (nY k)=true):=⟨aD,aO⟩
 clear aD aO;have p4:=(FA.out.later KE.out.1).1 4 _ rfl;by_cases aK:i<k.c.length
 case neg=>
  obtain rfl:i=k.c.length:=by omega
  have SV:decide ((k.c.length:Int)<(k.c.length:Int))=false:=by simp
  have tK:Hid (aF k=true):=by unfold Hid;rw[SG.out];exact KE.out.2
  go_wp2;go_ret;exact⟨by rw[tK.out];rfl,BF.out _ KE.out.1⟩
 have hd:=ib aK
 have HM:Hid (i=0\/∃j,i=j+1/\k.c[j]?=some (aS k.c j)):=by
  rcases i with _|j
  ·exact .inl rfl
  ·exact .inr ⟨j,rfl,ib (by omega)⟩
 rcases HR.out.1.t with hs|⟨b,off,rfl,hb,h1⟩
 ·rw[hs]at aK;simp at aK
 have HX:Hid (nY k i=(tx.ky (aS k.c i)&&(decide (i=0)||decide ((aS k.c (i-1)).id<(aS k.c i).id))&&decide ((aS k.c i).l<(k.aa.length:Int))&&decide ((aS k.c i).az<=k.q)&&lY k.f.length (aS k.c i).b&&pE k.f.length (aS k.c i).ag)):=rfl;have Nv:Hid (nY k i=false->aF k=false):=fun hh=>by rw[SG.out,si];exact iN (f:=nY k) aK hh
 have Xi:Hid (nY k i=true->(List.range (i+1)).all (nY k)=true):=fun hh=>kF (f:=nY k) KE.out.2 hh
 obtain⟨⟨t0,t1,t2,t3⟩,bg,fG⟩:=h1 i _ hd;have QG:=HR.out.2.ts _ (List.mem_of_getElem? hd)
 have HP:Hid (∀j,i=j+1->U.cell? ⟨b,off+j*7,none⟩=some (vI (aS k.c j).id)):=fun j e=>by
  obtain⟨v,sQ,_⟩:=h1 j _ (ib (by omega));exact sQ 0 _ rfl
 generalize ht:aS k.c i=t at *;have e0:wr.cell? ⟨b,off+i*7,none⟩=some (vI t.id):=(KE.out.1.cell (p:=⟨b,off+i*7,none⟩) hb).trans (bg 0 _ rfl);have e1:wr.cell? ⟨b,off+i*7+1,none⟩=some (vI t.l):=(KE.out.1.cell (p:=⟨b,off+i*7+1,none⟩) hb).trans (bg 1 _ rfl);have e2:wr.cell? ⟨b,off+i*7+2,none⟩=some (vI t.o):=(KE.out.1.cell (p:=⟨b,off+i*7+2,none⟩) hb).trans (bg 2 _ rfl);have e3:wr.cell? ⟨b,off+i*7+3,none⟩=some (vI t.u):=(KE.out.1.cell (p:=⟨b,off+i*7+3,none⟩) hb).trans (bg 3 _ rfl);have e4:wr.cell? ⟨b,off+i*7+4,none⟩=some (.slice t0 t.b.length t1):=(KE.out.1.cell (p:=⟨b,off+i*7+4,none⟩) hb).trans (bg 4 _ rfl);have e5:wr.cell? ⟨b,off+i*7+5,none⟩=some (.slice t2 t.ag.length t3):=(KE.out.1.cell (p:=⟨b,off+i*7+5,none⟩) hb).trans (bg 5 _ rfl);have e6:wr.cell? ⟨b,off+i*7+6,none⟩=some (vI t.az):=(KE.out.1.cell (p:=⟨b,off+i*7+6,none⟩) hb).trans (bg 6 _ rfl);obtain⟨V,hV⟩:∃Y,Y=wr.alloc (.cells #[vI t.id,vI t.l,vI t.o,vI t.u,.slice t0 t.b.length t1,.slice t2 t.ag.length t3,vI t.az] 53):=⟨_,rfl⟩
 have bV:Below wr.1.size wr V:=by rw[hV];exact aN.alloc aU _
 have FT:Hid (Bx V wr.1.size (tx.nO t0 t1 t2 t3 t)):=by rw[hV];exact Bx.made wr (tx.nO t0 t1 t2 t3 t) _
 have KV:Hid (Below U.1.size U V):=au KE.out.1 bV;have Wq:Hid (tx.kR U ⟨t0,t1,t2,t3⟩ t/\tx.TL t):=⟨fG,QG⟩
 have ji:(i:Int)<(k.c.length:Int):=by omega
 clear bg fG h1 hd QG bV;go_upto_region 22 with fail
 rw[<-hV];clear hV p4 e0 e1 e2 e3 e4 e5 e6 ji;generalize wr.1.size=s9 at *;generalize wr=wD at *;generalize V=wr at *;have f0:∀dd os,(grow (redrawn wr dd) os).cell? ⟨s9,0,none⟩=some (vI t.id):=fun dd os=>(FT.out.later (below_regrown wr dd os)).1 0 _ rfl
 have f1:∀dd os,(grow (redrawn wr dd) os).cell? ⟨s9,1,none⟩=some (vI t.l):=fun dd os=>(FT.out.later (below_regrown wr dd os)).1 1 _ rfl
 have f2:∀dd os,(grow (redrawn wr dd) os).cell? ⟨s9,2,none⟩=some (vI t.o):=fun dd os=>(FT.out.later (below_regrown wr dd os)).1 2 _ rfl
 have f3:∀dd os,(grow (redrawn wr dd) os).cell? ⟨s9,3,none⟩=some (vI t.u):=fun dd os=>(FT.out.later (below_regrown wr dd os)).1 3 _ rfl
 have f4:∀dd os,(grow (redrawn wr dd) os).cell? ⟨s9,4,none⟩=some (.slice t0 t.b.length t1):=fun dd os=>(FT.out.later (below_regrown wr dd os)).1 4 _ rfl
 have f5:∀dd os,(grow (redrawn wr dd) os).cell? ⟨s9,5,none⟩=some (.slice t2 t.ag.length t3):=fun dd os=>(FT.out.later (below_regrown wr dd os)).1 5 _ rfl
 have f6:∀dd os,(grow (redrawn wr dd) os).cell? ⟨s9,6,none⟩=some (vI t.az):=fun dd os=>(FT.out.later (below_regrown wr dd os)).1 6 _ rfl
 have cT:∀dd os,Calls prog 55 #[.agg #[vI t.id,vI t.l,vI t.o,vI t.u,.slice t0 t.b.length t1,.slice t2 t.ag.length t3,vI t.az]] (grow (redrawn wr dd) os) fun e eU=>e=.returned (.bool (tx.ky t))/\∃p:Regrown,eU=grow (redrawn wr p.d) p.os:=fun dd os=>by
  have hh:=tx.qD (grow (redrawn wr dd) os) ⟨t0,t1,t2,t3⟩ t Wq.out.2 (Wq.out.1.later (au KV.out (below_regrown wr dd os)));simp only[tx.TV.val]at hh;exact Calls.regrown_of hh
 have dK:=FA.out.1 4 _ rfl;have x4:∀dd os,(grow (redrawn wr dd) os).cell? ⟨w.1.size,4,none⟩=some (.slice (some ⟨b,off,none⟩) k.c.length c3):=fun dd os=>((au KV.out (below_regrown wr dd os)).cell (p:=⟨w.1.size,4,none⟩) FA.out.2.2).trans (dK)
 have dK:=FA.out.1 1 _ rfl;have x1:∀dd os,(grow (redrawn wr dd) os).cell? ⟨w.1.size,1,none⟩=some (vI k.q):=fun dd os=>((au KV.out (below_regrown wr dd os)).cell (p:=⟨w.1.size,1,none⟩) FA.out.2.2).trans (dK)
 clear dK;have KD:Hid (Below U.1.size U wr/\True):=⟨KV.out,trivial⟩
 cases hB:tx.ky t with
 | false=>
  rw[hB]at cT;have tK:Hid (aF k=false):=Nv.out (by rw[HX.out,hB];rfl);go_wp2_with fail;refine gP ?_;repeat (go_big_quiet_step (exact cT _ _))
  refine iW fun dq aZ=>?_
  have bq:=below_regrown wr dq aZ;go_wp2;go_ret;exact⟨by rw[tK.out];rfl,BF.out _ (au KD.out.1 bq)⟩
 | true=>
 rw[hB]at cT;by_cases gi:i=0\/(aS k.c (i-1)).id<t.id
 case neg=>
  obtain⟨j,rfl,-⟩:=HM.out.resolve_left (fun e=>gi (.inl e));have hle:¬(aS k.c j).id<t.id:=fun e=>gi (.inr e)
  have OU:=HP.out j rfl;have xj:∀dd os,(grow (redrawn wr dd) os).cell? ⟨b,off+j*7,none⟩=some (vI (aS k.c j).id):=fun dd os=>((au KV.out (below_regrown wr dd os)).cell (p:=⟨b,off+j*7,none⟩) hb).trans (OU)
  have d0:decide ((0:Int)<((j+1:Nat):Int))=true:=by simp<;>omega
  have ej:((j+1:Nat):Int)-1=(j:Int):=by omega
  have d1:decide (t.id<=(aS k.c j).id)=true:=by simp<;>omega
  have jn:(j:Int)<(k.c.length:Int):=by omega
  have tK:Hid (aF k=false):=Nv.out (by rw[HX.out];simp[hle]);clear OU gi hle;go_wp2_with fail;refine gP ?_;repeat (go_big_quiet_step (exact cT _ _))
  refine iW fun dq aZ=>?_
  have bq:=below_regrown wr dq aZ;go_wp2;go_ret;exact⟨by rw[tK.out];rfl,BF.out _ (au KD.out.1 bq)⟩
 by_cases gh:t.l<(k.aa.length:Int)
 case neg=>
  have dh:decide ((k.aa.length:Int)<=t.l)=true:=by simp<;>omega
  have tK:Hid (aF k=false):=Nv.out (by rw[HX.out];simp[gh]);rcases HM.out with rfl|⟨j,rfl,-⟩
  ·have d0:decide ((0:Int)<((0:Nat):Int))=false:=by simp
   go_wp2_with fail;refine gP ?_;repeat (go_big_quiet_step (exact cT _ _))
   refine iW fun dq aZ=>?_
   have bq:=below_regrown wr dq aZ;go_wp2;go_ret;exact⟨by rw[tK.out];rfl,BF.out _ (au KD.out.1 bq)⟩
  ·have Cj:(aS k.c j).id<t.id:=by rcases gi with e|e;omega;exact e
   have OU:=HP.out j rfl;have xj:∀dd os,(grow (redrawn wr dd) os).cell? ⟨b,off+j*7,none⟩=some (vI (aS k.c j).id):=fun dd os=>((au KV.out (below_regrown wr dd os)).cell (p:=⟨b,off+j*7,none⟩) hb).trans (OU)
   have d0:decide ((0:Int)<((j+1:Nat):Int))=true:=by simp<;>omega
   have ej:((j+1:Nat):Int)-1=(j:Int):=by omega
   have d1:decide (t.id<=(aS k.c j).id)=false:=by simp<;>omega
   have jn:(j:Int)<(k.c.length:Int):=by omega
   clear OU Cj;go_wp2_with fail;refine gP ?_;repeat (go_big_quiet_step (exact cT _ _))
   refine iW fun dq aZ=>?_
   have bq:=below_regrown wr dq aZ;go_wp2;go_ret;exact⟨by rw[tK.out];rfl,BF.out _ (au KD.out.1 bq)⟩
 have dh:decide ((k.aa.length:Int)<=t.l)=false:=by simp<;>omega
 by_cases gs:t.az<=k.q
 case neg=>
  have ds:decide (k.q<t.az)=true:=by simp<;>omega
  have tK:Hid (aF k=false):=Nv.out (by rw[HX.out];simp[gs]);rcases HM.out with rfl|⟨j,rfl,-⟩
  ·have d0:decide ((0:Int)<((0:Nat):Int))=false:=by simp
   go_wp2_with fail;refine gP ?_;repeat (go_big_quiet_step (exact cT _ _))
   refine iW fun dq aZ=>?_
   have bq:=below_regrown wr dq aZ;go_wp2;go_ret;exact⟨by rw[tK.out];rfl,BF.out _ (au KD.out.1 bq)⟩
  ·have Cj:(aS k.c j).id<t.id:=by rcases gi with e|e;omega;exact e
   have OU:=HP.out j rfl;have xj:∀dd os,(grow (redrawn wr dd) os).cell? ⟨b,off+j*7,none⟩=some (vI (aS k.c j).id):=fun dd os=>((au KV.out (below_regrown wr dd os)).cell (p:=⟨b,off+j*7,none⟩) hb).trans (OU)
   have d0:decide ((0:Int)<((j+1:Nat):Int))=true:=by simp<;>omega
   have ej:((j+1:Nat):Int)-1=(j:Int):=by omega
   have d1:decide (t.id<=(aS k.c j).id)=false:=by simp<;>omega
   have jn:(j:Int)<(k.c.length:Int):=by omega
   clear OU Cj;go_wp2_with fail;refine gP ?_;repeat (go_big_quiet_step (exact cT _ _))
   refine iW fun dq aZ=>?_
   have bq:=below_regrown wr dq aZ;go_wp2;go_ret;exact⟨by rw[tK.out];rfl,BF.out _ (au KD.out.1 bq)⟩
 have ds:decide (k.q<t.az)=false:=by simp<;>omega
 have HY:Hid (nY k i=(lY k.f.length t.b&&pE k.f.length t.ag)):=by
  unfold Hid;rw[HX.out];rcases gi with gi|gi<;>simp[hB,gi,gh,gs]
 have lr:=Wq.out.2.r;have ls:=Wq.out.2.s;unfold maxLen at lr ls;have CUT:Hid (∀X,Below wr.1.size wr X->Below U.1.size U X):=fun X hX=>au KV.out hX
 go_cut[149]from 118 to 149 (fun fX wx=>fX=.bool false/\Below wr.1.size wr wx)
 case first=>
  rcases HM.out with rfl|⟨j,rfl,-⟩
  ·have d0:decide ((0:Int)<((0:Nat):Int))=false:=by simp
   go_wp2_with fail;refine gP ?_;repeat (go_big_quiet_step (exact cT _ _))
   refine iW fun dq aZ=>?_
   have bq:=below_regrown wr dq aZ;go_wp2_with fail;go_meet;exact⟨rfl,bq⟩
  ·have Cj:(aS k.c j).id<t.id:=by rcases gi with e|e;omega;exact e
   have OU:=HP.out j rfl;have xj:∀dd os,(grow (redrawn wr dd) os).cell? ⟨b,off+j*7,none⟩=some (vI (aS k.c j).id):=fun dd os=>((au KV.out (below_regrown wr dd os)).cell (p:=⟨b,off+j*7,none⟩) hb).trans (OU)
   have d0:decide ((0:Int)<((j+1:Nat):Int))=true:=by simp<;>omega
   have ej:((j+1:Nat):Int)-1=(j:Int):=by omega
   have d1:decide (t.id<=(aS k.c j).id)=false:=by simp<;>omega
   have jn:(j:Int)<(k.c.length:Int):=by omega
   clear OU Cj;go_wp2_with fail;refine gP ?_;repeat (go_big_quiet_step (exact cT _ _))
   refine iW fun dq aZ=>?_
   have bq:=below_regrown wr dq aZ;go_wp2_with fail;go_meet;exact⟨rfl,bq⟩
 case rest=>
 obtain⟨rfl,bx⟩:=hcut;have KW:Hid (Below wr.1.size wr wc/\Below U.1.size U wc):=⟨bx,au KV.out bx⟩
 clear bx f0 f1 f2 f3 f4 f5 f6 cT x4 x1 dh ds KD;generalize wc=wE at *;go_wp2;generalize wr=wF at *;go_loopw[10] (fun v wr=>∃j:Nat,j<=t.b.length/\v=vI j/\Below wF.1.size wF wr/\(List.range j).all (fun j=>decide ((tx.aG t.b j).a<(k.f.length:Int)))=true) (fun v _=>t.b.length-(intOf v).toNat)
 case atStart=>exact⟨0,Nat.zero_le _,rfl,KW.out.1,rfl⟩
 case round=>
 obtain⟨j,hj,rfl,aD,aO⟩:=hrel;have KD:Hid (Below U.1.size U wr/\Below wF.1.size wF wr/\(List.range j).all (fun j=>decide ((tx.aG t.b j).a<(k.f.length:Int)))=true):=⟨CUT.out _ aD,aD,aO⟩
 clear aD aO;have p9:=(FT.out.later KD.out.2.1).1 4 _ rfl;by_cases Mm:j<t.b.length
 case pos=>
  obtain⟨_,oQ⟩:=Wq.out.1.r;dsimp only at oQ;rcases oQ with oQ|⟨b',bR,rfl,gJ,h2⟩
  ·omega
  have Mk:=(h2 j _ (tx.fP Mm)).c0;have xz:∀dd os,(grow (redrawn wr dd) os).cell? ⟨b',bR+j*5,none⟩=some (vI (tx.aG t.b j).a):=fun dd os=>((au KD.out.1 (below_regrown wr dd os)).cell (p:=⟨b',bR+j*5,none⟩) gJ).trans (Mk)
  have dK:=FA.out.1 2 _ rfl;have x2:∀dd os,(grow (redrawn wr dd) os).cell? ⟨w.1.size,2,none⟩=some (.slice a1 k.f.length c1):=fun dd os=>((au KD.out.1 (below_regrown wr dd os)).cell (p:=⟨w.1.size,2,none⟩) FA.out.2.2).trans (dK)
  have x9:∀dd os,(grow (redrawn wr dd) os).cell? ⟨s9,4,none⟩=some (.slice (some ⟨b',bR,none⟩) t.b.length t1):=fun dd os=>(FT.out.later (au KD.out.2.1 (below_regrown wr dd os))).1 4 _ rfl
  have jz:(j:Int)<(t.b.length:Int):=by omega
  clear Mk h2 dK;by_cases hz:(tx.aG t.b j).a<(k.f.length:Int)
  case neg=>
   have dz:decide ((k.f.length:Int)<=(tx.aG t.b j).a)=true:=by simp<;>omega
   have tK:Hid (aF k=false):=Nv.out (by rw[HY.out,lY,iN (f:=fun j=>decide ((tx.aG t.b j).a<(k.f.length:Int))) Mm (by simpa using hz)];simp);go_wp2_with fail;refine gP ?_;repeat (go_big_quiet_step (fail))
   refine iW fun dq aZ=>?_
   have bq:=below_regrown wr dq aZ;go_wp2;go_ret;exact⟨by rw[tK.out];rfl,BF.out _ (au KD.out.1 bq)⟩
  have dz:decide ((k.f.length:Int)<=(tx.aG t.b j).a)=false:=by simp<;>omega
  have Rv:Hid ((List.range (j+1)).all (fun j=>decide ((tx.aG t.b j).a<(k.f.length:Int)))=true):=kF (f:=fun j=>decide ((tx.aG t.b j).a<(k.f.length:Int))) KD.out.2.2 (by simpa using hz);go_wp2_with fail;refine gP ?_;repeat (go_big_quiet_step (fail))
  refine iW fun dq aZ=>?_
  have bq:=below_regrown wr dq aZ;go_wp2;exact⟨⟨j+1,by omega,by simp,au KD.out.2.1 bq,Rv.out⟩,by simp[intOf];omega⟩
 obtain rfl:j=t.b.length:=by omega
 have SV:decide ((t.b.length:Int)<(t.b.length:Int))=false:=by simp
 have iu:Hid (nY k i=pE k.f.length t.ag):=by unfold Hid;rw[HY.out,lY,KD.out.2.2];simp
 have KX:Hid (Below wF.1.size wF wr):=KD.out.2.1;go_wp2;clear p9 SV;generalize wr=wG at *;go_loopw[11] (fun v wr=>∃j:Nat,j<=t.ag.length/\v=vI j/\Below wF.1.size wF wr/\(List.range j).all (fun j=>decide ((tx.aB t.ag j).a<(k.f.length:Int)))=true) (fun v _=>t.ag.length-(intOf v).toNat)
 case atStart=>exact⟨0,Nat.zero_le _,rfl,KX.out,rfl⟩
 case round=>
 obtain⟨j,hj,rfl,aD,aO⟩:=hrel;have KD:Hid (Below U.1.size U wr/\Below wF.1.size wF wr/\(List.range j).all (fun j=>decide ((tx.aB t.ag j).a<(k.f.length:Int)))=true):=⟨CUT.out _ aD,aD,aO⟩
 clear aD aO;have p9:=(FT.out.later KD.out.2.1).1 5 _ rfl;by_cases Mm:j<t.ag.length
 case pos=>
  obtain⟨_,oQ⟩:=Wq.out.1.s;dsimp only at oQ;rcases oQ with oQ|⟨b',bR,rfl,gJ,h2⟩
  ·omega
  have Mk:=(h2 j _ (tx.eT Mm)).c0;have xz:∀dd os,(grow (redrawn wr dd) os).cell? ⟨b',bR+j*5,none⟩=some (vI (tx.aB t.ag j).a):=fun dd os=>((au KD.out.1 (below_regrown wr dd os)).cell (p:=⟨b',bR+j*5,none⟩) gJ).trans (Mk)
  have dK:=FA.out.1 2 _ rfl;have x2:∀dd os,(grow (redrawn wr dd) os).cell? ⟨w.1.size,2,none⟩=some (.slice a1 k.f.length c1):=fun dd os=>((au KD.out.1 (below_regrown wr dd os)).cell (p:=⟨w.1.size,2,none⟩) FA.out.2.2).trans (dK)
  have x9:∀dd os,(grow (redrawn wr dd) os).cell? ⟨s9,5,none⟩=some (.slice (some ⟨b',bR,none⟩) t.ag.length t3):=fun dd os=>(FT.out.later (au KD.out.2.1 (below_regrown wr dd os))).1 5 _ rfl
  have jz:(j:Int)<(t.ag.length:Int):=by omega
  clear Mk h2 dK;by_cases hz:(tx.aB t.ag j).a<(k.f.length:Int)
  case neg=>
   have dz:decide ((k.f.length:Int)<=(tx.aB t.ag j).a)=true:=by simp<;>omega
   have tK:Hid (aF k=false):=Nv.out (by rw[iu.out,pE,iN (f:=fun j=>decide ((tx.aB t.ag j).a<(k.f.length:Int))) Mm (by simpa using hz)]);go_wp2_with fail;refine gP ?_;repeat (go_big_quiet_step (fail))
   refine iW fun dq aZ=>?_
   have bq:=below_regrown wr dq aZ;go_wp2;go_ret;exact⟨by rw[tK.out];rfl,BF.out _ (au KD.out.1 bq)⟩
  have dz:decide ((k.f.length:Int)<=(tx.aB t.ag j).a)=false:=by simp<;>omega
  have Rv:Hid ((List.range (j+1)).all (fun j=>decide ((tx.aB t.ag j).a<(k.f.length:Int)))=true):=kF (f:=fun j=>decide ((tx.aB t.ag j).a<(k.f.length:Int))) KD.out.2.2 (by simpa using hz);go_wp2_with fail;refine gP ?_;repeat (go_big_quiet_step (fail))
  refine iW fun dq aZ=>?_
  have bq:=below_regrown wr dq aZ;go_wp2;exact⟨⟨j+1,by omega,by simp,au KD.out.2.1 bq,Rv.out⟩,by simp[intOf];omega⟩
 obtain rfl:j=t.ag.length:=by omega
 have SV:decide ((t.ag.length:Int)<(t.ag.length:Int))=false:=by simp
 have hh:=Xi.out (by rw[iu.out,pE];exact KD.out.2.2);go_wp2;exact⟨⟨i+1,by omega,by simp,KD.out.1,hh⟩,by simp[intOf];omega⟩
end
section
open Go.Proofs.Tryz
theorem EB(w:World)(x:Int):Calls prog 190 #[vI x] w fun e w'=>e=.returned (.bool false)/\w'=w:=by
 have h:(x != x)=false:=by simp
 go_enter func190,ntmps190;go_wp2;go_ret;exact⟨rfl,rfl⟩
def uS(x y:Int):Int:=if x<y then -1 else if y<x then 1 else 0
theorem FL(w:World)(x y:Int):Calls prog 148 #[vI x,vI y] w fun e w'=>e=.returned (vI (uS x y))/\w'=w:=by
 by_cases h1:x<y
 ·have e:uS x y=-1:=if_pos h1;rw[e];go_enter func148,ntmps148;go_wp2_with (go_at_call 190;refine(EB _ _).mono ?_;rintro e w' ⟨rfl,rfl⟩);go_ret;exact⟨rfl,rfl⟩
 ·have d1:decide (x<y)=false:=by simp;omega
  by_cases h2:y<x
  ·have e:uS x y=1:=by rw[uS,if_neg h1,if_pos h2]
   have d2:decide (y<x)=true:=by simp[h2]
   rw[e];clear h1;go_enter func148,ntmps148;go_wp2_with (go_at_call 190;refine(EB _ _).mono ?_;rintro e w' ⟨rfl,rfl⟩);go_ret;exact⟨rfl,rfl⟩
  ·have e:uS x y=0:=by rw[uS,if_neg h1,if_neg h2]
   have d2:decide (y<x)=false:=by simp;omega
   rw[e];clear h1 h2;go_enter func148,ntmps148;go_wp2_with (go_at_call 190;refine(EB _ _).mono ?_;rintro e w' ⟨rfl,rfl⟩);go_ret;exact⟨rfl,rfl⟩
end
section
open Go.Proofs.Tryz
variable {ts:List tx.T7}
theorem FE(w:World)(t0:OA)(t1:Nat)(t2:OA)(t3:Nat)(t:tx.T7)(y:Int):Calls prog 147 #[.agg #[vI t.id,vI t.l,vI t.o,vI t.u,.slice t0 t.b.length t1,.slice t2 t.ag.length t3,vI t.az],vI y] w fun e w'=>e=.returned (vI (uS t.id y))/\Below w.1.size w w':=by
 have b0:Below w.1.size w (w.alloc (.cells #[vI t.id,vI t.l,vI t.o,vI t.u,.slice t0 t.b.length t1,.slice t2 t.ag.length t3,vI t.az] 53)):=aN.alloc aU _;go_enter func147,ntmps147;go_wp2_with (go_at_call 148;refine(FL _ _ _).mono ?_;rintro e w' ⟨rfl,rfl⟩);go_ret;exact⟨rfl,b0⟩
def QY(ts:List tx.T7):Prop:=∀i j,i<j->j<ts.length->(aS ts i).id<(aS ts j).id
theorem QY.VI(h:(List.range ts.length).all (Ig ts)=true):QY ts:=by
 intro i j Ga hj
 induction j with
 | zero=>omega
 | succ j ih=>
  have h2:=List.all_eq_true.1 h (j+1) (List.mem_range.2 hj);simp[Ig]at h2;by_cases e:i=j
  ·rw[e];exact h2
  ·have:=ih (by omega) (by omega);omega
structure NT(ts:List tx.T7)(y:Int)(i:Nat):Prop where
 le:i<=ts.length
 lo:∀t,t<i->(aS ts t).id<y
 hi:∀t,i<=t->t<ts.length->y<=(aS ts t).id
def lN(ts:List tx.T7)(y:Int)(i:Nat):Bool:=decide (i<ts.length)&&decide ((aS ts i).id=y)
theorem D5(w:World)(a:OA)(cap:Nat)(ts:List tx.T7)(y:Int)(hn:ts.length<=1000)(hu:QY ts)(hs:gY.pK w a ts):
  Calls prog 149 #[.slice a ts.length cap,vI y,.func (.func 147) #[] #[]] w fun e w'=>∃i:Nat,e=.returned (.tuple #[vI i,.bool (lN ts y i)])/\NT ts y i/\Below w.1.size w w':=by
 have HU:Hid (QY ts):=hu;clear hu;go_enter func149,ntmps149;go_wp2;go_loopw[9,10] (fun v9 v10 wr=>∃i j:Nat,i<=j/\j<=ts.length/\v9=vI i/\v10=vI j/\Below w.1.size w wr/\(∀t,t<i->(aS ts t).id<y)/\(∀t,j<=t->t<ts.length->y<=(aS ts t).id)) (fun v9 v10 _=>(intOf v10).toNat-(intOf v9).toNat)
 case atStart=>exact⟨0,ts.length,Nat.zero_le _,Nat.le_refl _,rfl,rfl,aN,fun t h=>by omega,fun t h1 h2=>by omega⟩
 case round=>
  obtain⟨i,j,Ga,UN,rfl,rfl,aD,Il,QJ⟩:=hrel;by_cases aK:i<j
  ·have hd:(i+j)/2<ts.length:=by omega
   rcases hs with hs|⟨b,off,rfl,hb,h1⟩
   ·rw[hs]at hd;simp at hd
   obtain⟨⟨t0,t1,t2,t3⟩,bg,fG⟩:=h1 ((i+j)/2) _ (ib hd);have e0:wr.cell? ⟨b,off+((i+j)/2)*7,none⟩=some (vI (aS ts ((i+j)/2)).id):=(aD.cell (p:=⟨b,off+((i+j)/2)*7,none⟩) hb).trans (bg 0 _ rfl);have e1:wr.cell? ⟨b,off+((i+j)/2)*7+1,none⟩=some (vI (aS ts ((i+j)/2)).l):=(aD.cell (p:=⟨b,off+((i+j)/2)*7+1,none⟩) hb).trans (bg 1 _ rfl);have e2:wr.cell? ⟨b,off+((i+j)/2)*7+2,none⟩=some (vI (aS ts ((i+j)/2)).o):=(aD.cell (p:=⟨b,off+((i+j)/2)*7+2,none⟩) hb).trans (bg 2 _ rfl);have e3:wr.cell? ⟨b,off+((i+j)/2)*7+3,none⟩=some (vI (aS ts ((i+j)/2)).u):=(aD.cell (p:=⟨b,off+((i+j)/2)*7+3,none⟩) hb).trans (bg 3 _ rfl);have e4:wr.cell? ⟨b,off+((i+j)/2)*7+4,none⟩=some (.slice t0 (aS ts ((i+j)/2)).b.length t1):=(aD.cell (p:=⟨b,off+((i+j)/2)*7+4,none⟩) hb).trans (bg 4 _ rfl);have e5:wr.cell? ⟨b,off+((i+j)/2)*7+5,none⟩=some (.slice t2 (aS ts ((i+j)/2)).ag.length t3):=(aD.cell (p:=⟨b,off+((i+j)/2)*7+5,none⟩) hb).trans (bg 5 _ rfl);have e6:wr.cell? ⟨b,off+((i+j)/2)*7+6,none⟩=some (vI (aS ts ((i+j)/2)).az):=(aD.cell (p:=⟨b,off+((i+j)/2)*7+6,none⟩) hb).trans (bg 6 _ rfl);have K:Hid (Below w.1.size w wr/\(∀t,t<i->(aS ts t).id<y)/\(∀t,j<=t->t<ts.length->y<=(aS ts t).id)):=⟨aD,Il,QJ⟩
   have hc:=FE wr t0 t1 t2 t3 (aS ts ((i+j)/2)) y;clear h1 bg fG aD Il QJ
   have HI:Hid (∀t,t<=(i+j)/2->(aS ts t).id<=(aS ts ((i+j)/2)).id):=fun t ht=>by
    by_cases e:t=(i+j)/2
    ·rw[e];exact Int.le_refl _
    ·exact Int.le_of_lt (HU.out t _ (by omega) hd)
   have HJ:Hid (∀t,(i+j)/2<=t->t<ts.length->(aS ts ((i+j)/2)).id<=(aS ts t).id):=fun t ht BM=>by
    by_cases e:t=(i+j)/2
    ·rw[e];exact Int.le_refl _
    ·exact Int.le_of_lt (HU.out _ t (by omega) BM)
   generalize (aS ts ((i+j)/2)).id=x at *;by_cases hq:x<y
   ·rw[show uS x y=-1 from if_pos hq]at hc;have HQ:=ay hq;clear hq;go_wp2_with fail;refine hc.mono ?_;clear hc e0 e1 e2 e3 e4 e5 e6;rintro e w1 ⟨rfl,b1⟩;go_wp2;exact⟨⟨(i+j)/2+1,j,by omega,UN,by simp,rfl,K.out.1.trans (b1.mono K.out.1.size),fun t ht=>by have:=HI.out t (by omega);have:=HQ.out;omega,K.out.2.2⟩,by simp[intOf];omega⟩
   ·have XP:decide (uS x y<0)=false:=by
     rw[uS,if_neg hq];by_cases h2:y<x
     ·rw[if_pos h2];rfl
     ·rw[if_neg h2];rfl
    have HQ:=ay hq;clear hq;generalize uS x y=cv at *;go_wp2_with fail;refine hc.mono ?_;clear hc e0 e1 e2 e3 e4 e5 e6;rintro e w1 ⟨rfl,b1⟩;go_wp2;exact⟨⟨i,(i+j)/2,by omega,by omega,rfl,by simp,K.out.1.trans (b1.mono K.out.1.size),K.out.2.1,fun t ht BM=>by have:=HJ.out t ht BM;have:=HQ.out;omega⟩,by simp[intOf];omega⟩
  ·obtain rfl:i=j:=by omega
   have hd:decide ((i:Int)<(i:Int))=false:=by simp
   have HP:Hid (NT ts y i):=⟨UN,Il,QJ⟩
   clear Il QJ;by_cases BJ:i<ts.length
   ·rcases hs with hs|⟨b,off,rfl,hb,h1⟩
    ·rw[hs]at BJ;simp at BJ
    obtain⟨⟨t0,t1,t2,t3⟩,bg,fG⟩:=h1 i _ (ib BJ);have e0:wr.cell? ⟨b,off+i*7,none⟩=some (vI (aS ts i).id):=(aD.cell (p:=⟨b,off+i*7,none⟩) hb).trans (bg 0 _ rfl);have e1:wr.cell? ⟨b,off+i*7+1,none⟩=some (vI (aS ts i).l):=(aD.cell (p:=⟨b,off+i*7+1,none⟩) hb).trans (bg 1 _ rfl);have e2:wr.cell? ⟨b,off+i*7+2,none⟩=some (vI (aS ts i).o):=(aD.cell (p:=⟨b,off+i*7+2,none⟩) hb).trans (bg 2 _ rfl);have e3:wr.cell? ⟨b,off+i*7+3,none⟩=some (vI (aS ts i).u):=(aD.cell (p:=⟨b,off+i*7+3,none⟩) hb).trans (bg 3 _ rfl);have e4:wr.cell? ⟨b,off+i*7+4,none⟩=some (.slice t0 (aS ts i).b.length t1):=(aD.cell (p:=⟨b,off+i*7+4,none⟩) hb).trans (bg 4 _ rfl);have e5:wr.cell? ⟨b,off+i*7+5,none⟩=some (.slice t2 (aS ts i).ag.length t3):=(aD.cell (p:=⟨b,off+i*7+5,none⟩) hb).trans (bg 5 _ rfl);have e6:wr.cell? ⟨b,off+i*7+6,none⟩=some (vI (aS ts i).az):=(aD.cell (p:=⟨b,off+i*7+6,none⟩) hb).trans (bg 6 _ rfl);have hc:=FE wr t0 t1 t2 t3 (aS ts i) y;have HF:Hid (lN ts y i=decide ((aS ts i).id=y)/\Below w.1.size w wr):=⟨by simp[lN,BJ],aD⟩
    clear h1 bg fG aD;generalize (aS ts i).id=x at *
    have he:(uS x y==0)=decide (x=y):=by
     unfold uS;by_cases h1:x<y
     ·rw[if_pos h1];simp;omega
     ·rw[if_neg h1];by_cases h2:y<x
      ·rw[if_pos h2];simp;omega
      ·rw[if_neg h2];simp;omega
    generalize uS x y=cv at *;go_wp2_with fail;refine hc.mono ?_;clear hc e0 e1 e2 e3 e4 e5 e6;rintro e w1 ⟨rfl,b1⟩;have HE:=ay he;clear he;go_wp2;refine bodyPost_ret (v:=.tuple #[vI i,.bool (cv==0)]) (by simp[results,results149,go_sem]) rfl ⟨i,by rw[HF.out.1,<-HE.out],HP.out,HF.out.2.trans (b1.mono HF.out.2.size)⟩
   ·have El:decide ((i:Int)<(ts.length:Int))=false:=by simp;omega
    have HF:Hid (lN ts y i=false):=by unfold Hid;simp[lN,BJ]
    clear hs;go_wp2;refine bodyPost_ret (v:=.tuple #[vI i,.bool false]) (by simp[results,results149,go_sem]) rfl ⟨i,by rw[HF.out],HP.out,aD⟩
theorem IG{i:Nat}(h:i<ts.length):aS ts i=ts[i]:=by simp[aS,List.getElem?_eq_getElem h]
theorem Ea{k:C6}(h:aF k=true):QY k.c/\(∀i,i<k.c.length->tx.ky (aS k.c i)=true)/\k.c.length<=60:=by
 simp only[aF,Bool.and_eq_true,decide_eq_true_eq]at h;have h2:=h.2;rw[LP,Bool.and_eq_true]at h2;refine⟨QY.VI h2.1,fun i hi=>?_,h.1.1.1.2⟩;have:=List.all_eq_true.1 h2.2 i (List.mem_range.2 hi);simp only[oo,Bool.and_eq_true]at this;exact this.1.1.1.1
theorem Qs{t:tx.T7}(h:tx.ky t=true):t.b.length<=1048576/\t.ag.length<=1048576:=by
 simp only[tx.ky,Bool.and_eq_true,decide_eq_true_eq]at h;exact⟨by omega,by omega⟩
theorem Jg(w:World)(a1:OA)(c1:Nat)(a2:OA)(c2:Nat)(a3:OA)(c3:Nat)(k:C6)(y:Int)(hl:cO.L k)(h:cO.Rd w a1 c1 a2 c2 a3 c3 k):Calls prog 46 #[.agg #[vI k.v,vI k.q,.slice a1 k.f.length c1,.slice a2 k.aa.length c2,.slice a3 k.c.length c3,.bool k.w],vI y] w fun e w'=>(∃i:Int,e=.returned (vI i)/\eH (fun j=>decide ((aS k.c j).id=y)) k.c.length i)/\Below w.1.size w w':=by
 have hn:=hl.t;unfold maxLen at hn;obtain⟨U,hU⟩:∃Y,Y=w.alloc (.cells #[vI k.v,vI k.q,.slice a1 k.f.length c1,.slice a2 k.aa.length c2,.slice a3 k.c.length c3,.bool k.w] 32):=⟨_,rfl⟩
 have b0:Below w.1.size w U:=by rw[hU];exact aN.alloc aU _
 have p4:U.cell? ⟨w.1.size,4,none⟩=some (.slice a3 k.c.length c3):=by rw[hU];go_simp
 have H:Hid (cO.Rd U a1 c1 a2 c2 a3 c3 k/\Below w.1.size w U):=⟨h.later b0,b0⟩
 clear h b0 hl;go_enter func46,ntmps46;go_wp2;rw[<-hU];clear hU;go_loop[5] (fun v=>∃j:Nat,j<=k.c.length/\v=vI j/\∀t,t<j->(aS k.c t).id≠y) (fun v=>k.c.length-(intOf v).toNat)
 case atStart=>exact⟨0,Nat.zero_le _,rfl,fun t h=>absurd h (by omega)⟩
 case round=>
  obtain⟨j,hj,rfl,Il⟩:=hrel;have HL:=ay Il;clear Il;by_cases aK:j<k.c.length
  ·rcases H.out.1.t with hk|⟨b,off,rfl,hb,h1⟩
   ·rw[hk]at aK;simp at aK
   obtain⟨v,bg,_⟩:=h1 j _ (ib aK);have k0:U.cell? ⟨b,off+j*7,none⟩=some (vI (aS k.c j).id):=bg 0 _ rfl;have jn:(j:Int)<(k.c.length:Int):=by omega
   clear h1 bg;by_cases he:(aS k.c j).id=y
   ·have q:((aS k.c j).id==y)=true:=by simp[he]
    have HE:=ay he;clear he;go_wp2;go_ret;exact⟨⟨_,rfl,.inr ⟨j,rfl,aK,by simp[HE.out],fun t ht=>by simp[HL.out t ht]⟩⟩,H.out.2⟩
   ·have q:((aS k.c j).id==y)=false:=by simp[he]
    have HE:=ay he;clear he;go_wp2
    exact⟨⟨j+1,by omega,by simp,fun t ht=>by
     by_cases e:t=j
     ·rw[e];exact HE.out
     ·exact HL.out t (by omega)⟩,by simp[intOf];omega⟩
  ·obtain rfl:j=k.c.length:=by omega
   have hd:decide ((k.c.length:Int)<(k.c.length:Int))=false:=by simp
   go_wp2;go_ret;exact⟨⟨_,rfl,.inl ⟨rfl,fun t ht=>by simp[HL.out t ht]⟩⟩,H.out.2⟩
theorem IM(w:World)(a:OA)(cap:Nat)(ts:List tx.T7)(y:Int)(hn:ts.length<=1000)(hu:QY ts)(hs:gY.pK w a ts):
  Calls prog 108 #[.slice a ts.length cap,vI y] w fun e w'=>∃i:Nat,e=.returned (.tuple #[vI i,.bool (lN ts y i)])/\NT ts y i/\Below w.1.size w w':=by
 have hc:=D5 w a cap ts y hn hu hs;go_enter func108,ntmps108;go_wp2_with fail;refine hc.mono ?_;clear hc;rintro e w1 ⟨i,rfl,hp,b1⟩;have K:=ay (And.intro hp b1);clear hp b1;go_wp2;refine bodyPost_ret (v:=.tuple #[vI i,.bool (lN ts y i)]) (by simp[results,results108,go_sem]) rfl ?_;exact⟨i,rfl,K.out.1,K.out.2⟩
end
section
open Go.Proofs.Tryz
variable {i:Nat}{ts:List tx.T7}{y:Int}
def iO(ts:List tx.T7)(y:Int):Nat:=ts.findIdx fun t=>decide (t.id=y)
theorem Db(hi:i<ts.length)(he:(aS ts i).id=y)(h:∀j,j<i->(aS ts j).id≠y):iO ts y=i:=by
 unfold iO;rw[List.findIdx_eq hi];refine⟨by rw[IG hi]at he;simpa using he,fun j hj=>?_⟩;have:=h j hj;rw[IG (by omega)]at this;simpa using this
theorem Da(h:∀j,j<ts.length->(aS ts j).id≠y):iO ts y=ts.length:=by
 unfold iO;refine List.findIdx_eq_length_of_false (fun t ht=>?_);obtain⟨i,hi,rfl⟩:=List.getElem_of_mem ht;have:=h i hi;rw[IG hi]at this;simpa using this
theorem NW(hp:NT ts y i)(hf:lN ts y i=true):i<ts.length/\iO ts y=i:=by
 simp only[lN,Bool.and_eq_true,decide_eq_true_eq]at hf;exact⟨hf.1,Db hf.1 hf.2 (fun j hj=>by have:=hp.lo j hj;omega)⟩
theorem NV(hu:QY ts)(hp:NT ts y i)(hf:lN ts y i=false):iO ts y=ts.length:=by
 refine Da (fun j hj e=>?_);by_cases h1:j<i
 ·have:=hp.lo j h1;omega
 ·have hi:i<ts.length:=by omega
  have h2:=hp.hi i aU hi;have h3:(aS ts i).id≠y:=fun e'=>by simp[lN,hi,e']at hf
  by_cases h4:j=i
  ·subst h4;exact h3 e
  ·have:=hu i j (by omega) hj;omega
theorem IE{i:Int}(h:eH (fun j=>decide ((aS ts j).id=y)) ts.length i):(i=-1/\iO ts y=ts.length)\/∃j:Nat,i=(j:Int)/\j<ts.length/\iO ts y=j:=by
 rcases h with ⟨rfl,h⟩|⟨j,rfl,hj,h1,h2⟩
 ·exact .inl ⟨rfl,Da (fun j hj=>by simpa using h j hj)⟩
 ·exact .inr ⟨j,rfl,hj,Db hj (by simpa using h1) (fun t ht=>by simpa using h2 t ht)⟩
end
section
open Go.Proofs.Tryz
def zC:C6:=⟨0,0,[],[],[],false⟩
def eD(k:C6)(y:Int):tx.T7:=aS k.c (iO k.c y)
def Gd(k:C6)(y:Int):Bool:=(aT k.aa (eD k y).l.toNat).x
def gN(k:C6)(y:Int):Int:=if aF k=true then(if iO k.c y<k.c.length then(if Gd k y=true then 0 else 3)else 2)else 1
def gW(k:C6)(y:Int):Int:=if gN k y=0 then(if (eD k y).o=1 then 0 else 4)else gN k y
def kg(k:C6):C6:=if aF k=true then k else zC
theorem FK{k:C6}(h:aF k=true){i:Nat}(hi:i<k.c.length):0<=(aS k.c i).l/\(aS k.c i).l<(k.aa.length:Int):=by
 have h1:=(Ea h).2.1 i hi;simp only[aF,si,Bool.and_eq_true]at h;have:=List.all_eq_true.1 h.2 i (List.mem_range.2 hi);simp only[nY,Bool.and_eq_true,decide_eq_true_eq]at this;simp only[tx.ky,tx.nP,Bool.and_eq_true]at h1;have h3:=h1.1.1.1.1.1.1.1.2;rw[dI]at h3;omega
def nE(X:World)(k:C6)(n:Int)(e:Ending)(w':World):Prop:=∃(a1:OA) (c1:Nat) (a2:OA) (c2:Nat) (a3:OA) (c3:Nat) (P:Nat->Prop),e=.panicked [{ v:=.iface 155 (.agg #[.iface 120 (vI n),vI k.v,vI k.q,.slice a1 k.f.length c1,.slice a2 k.aa.length c2,.slice a3 k.c.length c3,.bool k.w]),recovered:=false }]/\cO.Ow w' X.1.size a1 c1 a2 c2 a3 c3 k P/\Below X.1.size X w'
theorem TM(w:World)(B:Nat):cO.Ow w B none 0 none 0 none 0 zC (fun _=>False):=
 ⟨⟨fun _=>False,fun _=>False,fun _=>False,⟨⟨fun _=>0,.inl ⟨rfl,rfl,rfl⟩,fun b e=>(by cases e),fun i hi=>(by simp[zC]at hi)⟩,fun q h=>h.elim⟩,⟨.inl rfl,fun q h=>h.elim⟩,⟨.inl rfl,fun q h=>h.elim⟩,fun q h=>h.elim,fun q h=>h.elim,fun q h=>h.elim,fun q h=>h.elim,fun q h=>h.elim,fun q h=>h.elim⟩,fun q h=>h.elim⟩
theorem CB(w:World)(a1:OA)(c1:Nat)(a2:OA)(c2:Nat)(a3:OA)(c3:Nat)(k:C6)(hl:cO.L k)(h:cO.Rd w a1 c1 a2 c2 a3 c3 k)(hk:aF k=true):Calls prog 107 #[.agg #[vI k.v,vI k.q,.slice a1 k.f.length c1,.slice a2 k.aa.length c2,.slice a3 k.c.length c3,.bool k.w]] w fun e w'=>e=.returned (.tuple #[])/\Below w.1.size w w':=by
 obtain⟨W,hW⟩:∃Y,Y=w.alloc (.cells #[vI k.v,vI k.q,.slice a1 k.f.length c1,.slice a2 k.aa.length c2,.slice a3 k.c.length c3,.bool k.w] 32):=⟨_,rfl⟩
 have bW:Below w.1.size w W:=by rw[hW];exact aN.alloc aU _
 have hc:=kJ W a1 c1 a2 c2 a3 c3 k hl (h.later bW);rw[hk]at hc;have BW:Hid (Below w.1.size w W):=bW;clear bW h hl;go_enter func107,ntmps107;go_wp2_with fail;rw[<-hW];clear hW;refine hc.mono ?_;clear hc;rintro e w1 ⟨rfl,b1⟩;have B1:Hid (Below w.1.size w w1):=au BW.out b1;clear b1;go_wp2;refine bodyPost_end (v:=.tuple #[]) (by simp[results,results107]) rfl ?_;exact⟨rfl,B1.out⟩
theorem EC(w:World)(a1:OA)(c1:Nat)(a2:OA)(c2:Nat)(a3:OA)(c3:Nat)(k:C6)(hl:cO.L k)(h:cO.Rd w a1 c1 a2 c2 a3 c3 k)(hk:aF k=false):Calls prog 107 #[.agg #[vI k.v,vI k.q,.slice a1 k.f.length c1,.slice a2 k.aa.length c2,.slice a3 k.c.length c3,.bool k.w]] w (nE w zC 1):=by
 obtain⟨W,hW⟩:∃Y,Y=w.alloc (.cells #[vI k.v,vI k.q,.slice a1 k.f.length c1,.slice a2 k.aa.length c2,.slice a3 k.c.length c3,.bool k.w] 32):=⟨_,rfl⟩
 have bW:Below w.1.size w W:=by rw[hW];exact aN.alloc aU _
 have hc:=kJ W a1 c1 a2 c2 a3 c3 k hl (h.later bW);rw[hk]at hc;have BW:Hid (Below w.1.size w W):=bW;clear bW h hl;go_enter func107,ntmps107;go_wp2_with fail;rw[<-hW];clear hW;refine hc.mono ?_;clear hc;rintro e w1 ⟨rfl,b1⟩;have B1:Hid (Below w.1.size w w1):=au BW.out b1;clear b1;go_wp2_with fail;refine(uE w1 1 (vI 0) (vI 0) (.slice none 0 0) (.slice none 0 0) (.slice none 0 0) (.bool false)).mono ?_;rintro e w2 ⟨rfl,rfl⟩;go_wp2;exact⟨rfl,none,0,none,0,none,0,fun _=>False,rfl,TM _ _,B1.out.alloc B1.out.size _⟩
theorem iK(w:World)(d:Nat)(a1:OA)(c1:Nat)(a2:OA)(c2:Nat)(a3:OA)(c3:Nat)(k:C6)(cs:List Value)(n:Int)(hk:aF k=true)(h:cO.Rd w a1 c1 a2 c2 a3 c3 k)(hd:Bx w d ((dR a1 c1 a2 c2 a3 c3 k)++cs)):Calls prog 65 #[.pointer (some ⟨d,0,none⟩),vI n] w (nE w k n):=by
 have p0:=hd.c6;have hc:=nz w a1 c1 a2 c2 a3 c3 k hk h;clear hd h;go_enter func65,ntmps65;go_wp2_with fail;refine hc.mono ?_;clear hc;rintro e w1 ⟨b1,d1,b2,d2,b3,d3,ps,gp,ms,gm,ts,gt,rfl,hr,e1,e2,e3,bl⟩;have K:Hid (cO.Ow w1 w.1.size b1 d1 b2 d2 b3 d3 k (fun q=>Kd.kS (.slice b1 k.f.length d1) ps gp q\/Kd.kS (.slice b2 k.aa.length d2) ms gm q\/Kd.kS (.slice b3 k.c.length d3) ts gt q)/\Below w.1.size w w1):=⟨(hr.ow e1 e2 e3).low (by omega),bl⟩
 clear hr e1 e2 e3 bl p0;go_wp2_with fail;refine(uE w1 n _ _ _ _ _ _).mono ?_;rintro e w2 ⟨rfl,rfl⟩;go_wp2;have bA:Below w1.1.size w1 (w1.alloc (.cells #[vI k.v,vI k.q,.slice b1 k.f.length d1,.slice b2 k.aa.length d2,.slice b3 k.c.length d3,.bool k.w] 32)):=aN.alloc aU _;exact⟨rfl,b1,d1,b2,d2,b3,d3,_,rfl,K.out.1.later bA,au K.out.2 bA⟩
end
section
open Go.Proofs.Tryz
def tX(w:World)(a1:OA)(c1:Nat)(a2:OA)(c2:Nat)(a3:OA)(c3:Nat)(k:C6)(y:Int)(n:Int)(e:Ending)(w':World):Prop:=
 (n≠0/\nE w (kg k) n e w')\/(n=0/\∃(d:Nat) (u0:OA) (u1:Nat) (u2:OA) (u3:Nat) (P:Nat->Prop),e=.returned (.pointer (some ⟨d,0,none⟩))/\Bx w' d [vI k.v,vI k.q,.slice a1 k.f.length c1,.slice a2 k.aa.length c2,.slice a3 k.c.length c3,.bool k.w,vI (iO k.c y),vI (eD k y).id,vI (eD k y).l,vI (eD k y).o,vI (eD k y).u,.slice u0 (eD k y).b.length u1,.slice u2 (eD k y).ag.length u3,vI (eD k y).az]/\KT.Ow w' w.1.size u0 u1 u2 u3 (eD k y) P/\(∀q,P q->q≠d)/\w.1.size<=d/\Below w.1.size w w')
theorem nE.low{w X w':World}{k:C6}{n:Int}{e:Ending}(h:nE X k n e w')(b:Below w.1.size w X):nE w k n e w':=by
 obtain⟨a1,c1,a2,c2,a3,c3,P,h1,h2,h3⟩:=h;exact⟨a1,c1,a2,c2,a3,c3,P,h1,h2.low b.size,au b h3⟩
theorem IJ(w:World)(a1:OA)(c1:Nat)(a2:OA)(c2:Nat)(a3:OA)(c3:Nat)(k:C6)(y:Int)(hl:cO.L k)(h:cO.Rd w a1 c1 a2 c2 a3 c3 k):
  Calls prog 64 #[.agg #[vI k.v,vI k.q,.slice a1 k.f.length c1,.slice a2 k.aa.length c2,.slice a3 k.c.length c3,.bool k.w],vI y] w (tX w a1 c1 a2 c2 a3 c3 k y (gN k y)):=by
 obtain⟨W0,dS,b0,x0,-⟩:=jU w (dR a1 c1 a2 c2 a3 c3 k) 32;have h0:=h.later b0
 cases hk:aF k with
 | false=>
  have hc:=EC W0 a1 c1 a2 c2 a3 c3 k hl h0 hk;have oM:gN k y=1:=by simp[gN,hk]
  have nQ:kg k=zC:=by simp[kg,hk]
  have B0:Hid (Below w.1.size w W0):=b0;have HX:Hid (∀e w',nE W0 zC 1 e w'->tX w a1 c1 a2 c2 a3 c3 k y (gN k y) e w'):=fun e w' h=>.inl ⟨by rw[oM];decide,by rw[oM,nQ];exact h.low B0.out⟩
  clear b0 x0 h0 h hl oM nQ;go_enter func64,ntmps64;go_wp2_with fail;rw[<-dS];clear dS;refine hc.mono ?_;clear hc;intro e w1 hr;have wJ:=hr;obtain⟨b1,d1,b2,d2,b3,d3,P,rfl,-,-⟩:=hr;have HR:=ay wJ;clear wJ;go_wp2;exact⟨rfl,HX.out _ _ HR.out⟩
 | true=>
  have hc:=CB W0 a1 c1 a2 c2 a3 c3 k hl h0 hk;obtain⟨Es,Yo,X7⟩:=Ea hk;have nQ:kg k=k:=by simp[kg,hk]
  have H:Hid (Below w.1.size w W0/\Bx W0 w.1.size (dR a1 c1 a2 c2 a3 c3 k)/\cO.Rd w a1 c1 a2 c2 a3 c3 k/\QY k.c/\(∀i,i<k.c.length->tx.ky (aS k.c i)=true)/\k.c.length<=60/\aF k=true/\kg k=k):=⟨b0,x0,h,Es,Yo,X7,hk,nQ⟩
  clear b0 x0 h0 h hl Es Yo X7 nQ;go_enter func64,ntmps64;go_wp2_with fail;rw[<-dS];clear dS;refine hc.mono ?_;clear hc;rintro e w1 ⟨rfl,b1⟩;have B1:Hid (Below w.1.size w w1/\Bx w1 w.1.size (dR a1 c1 a2 c2 a3 c3 k)/\cO.Rd w1 a1 c1 a2 c2 a3 c3 k):=⟨au H.out.1 b1,H.out.2.1.later b1,H.out.2.2.1.later (au H.out.1 b1)⟩
  clear b1;have p4:=B1.out.2.1.1 4 _ rfl;have hf:=IM w1 a3 c3 k.c y (by have:=H.out.2.2.2.2.2.1;omega) H.out.2.2.2.1 B1.out.2.2.t;go_wp2_with fail;refine hf.mono ?_;clear hf;rintro e w2 ⟨i,rfl,tF,b2⟩;have B2:Hid (Below w.1.size w w2/\Bx w2 w.1.size (dR a1 c1 a2 c2 a3 c3 k)/\cO.Rd w2 a1 c1 a2 c2 a3 c3 k):=⟨au B1.out.1 b2,B1.out.2.1.later b2,B1.out.2.2.later b2⟩
  clear b2 p4 B1
  cases Zu:lN k.c y i with
  | false=>
   have bg:=NV H.out.2.2.2.1 tF Zu;have oM:gN k y=2:=by simp[gN,hk,bg]
   have HX:Hid (∀e w',nE w k 2 e w'->tX w a1 c1 a2 c2 a3 c3 k y (gN k y) e w'):=fun e w' h=>.inl ⟨by rw[oM];decide,by rw[oM,H.out.2.2.2.2.2.2.2];exact h⟩
   have q0:=B2.out.2.1.c6;have ho:=nz w2 a1 c1 a2 c2 a3 c3 k H.out.2.2.2.2.2.2.1 B2.out.2.2;clear bg oM tF;go_wp2_with fail;refine ho.mono ?_;clear ho;rintro e w3 ⟨b1,d1,b2,d2,b3,d3,ps,gp,ms,gm,ts,gt,rfl,hr,e1,e2,e3,bl⟩;have KO:Hid (cO.Ow w3 w.1.size b1 d1 b2 d2 b3 d3 k (fun q=>Kd.kS (.slice b1 k.f.length d1) ps gp q\/Kd.kS (.slice b2 k.aa.length d2) ms gm q\/Kd.kS (.slice b3 k.c.length d3) ts gt q)/\Below w.1.size w w3):=⟨(hr.ow e1 e2 e3).low (by have:=B2.out.1.size;omega),au B2.out.1 bl⟩
   clear hr e1 e2 e3 bl q0;go_wp2_with fail;refine(uE w3 2 _ _ _ _ _ _).mono ?_;rintro e w4 ⟨rfl,rfl⟩;go_wp2;have bA:Below w3.1.size w3 (w3.alloc (.cells #[vI k.v,vI k.q,.slice b1 k.f.length d1,.slice b2 k.aa.length d2,.slice b3 k.c.length d3,.bool k.w] 32)):=aN.alloc aU _;exact⟨rfl,HX.out _ _ ⟨b1,d1,b2,d2,b3,d3,_,rfl,KO.out.1.later bA,au KO.out.2 bA⟩⟩
  | true=>
   obtain⟨hi,bg⟩:=NW tF Zu;have Va:=Qs (H.out.2.2.2.2.1 i hi);have XW:=FK H.out.2.2.2.2.2.2.1 hi;have eK:=(QU.of H.out.2.2.2.2.2.2.1).m;obtain⟨hm,UM⟩:∃m:Nat,(aS k.c i).l=(m:Int):=⟨(aS k.c i).l.toNat,by omega⟩
   have oM:gN k y=if (aT k.aa hm).x=true then 0 else 3:=by
    simp only[gN,hk,if_true,bg,hi,Gd,eD,UM,Int.toNat_natCast]
   have HC:=ay oM;have HH:=ay UM;have HT:Hid (eD k y=aS k.c i/\iO k.c y=i):=⟨by simp[eD,bg],bg⟩
   rcases B2.out.2.2.t with e0|⟨b,off,rfl,hb,fG⟩
   ·rw[e0]at hi;simp at hi
   obtain⟨⟨t0,t1,t2,t3⟩,lS,Li⟩:=fG i _ (ib hi);have jh:=tx.sH w2.drew ⟨t0,t1,t2,t3⟩ (aS k.c i) Va.1 Va.2 (tx.kR.later Li aN.drew);simp only[tx.TV.val]at jh;have jn:(i:Int)<(k.c.length:Int):=by omega
   have dZ:(fun X:World=>Bx X w.1.size (dR a1 c1 a2 c2 (some ⟨b,off,none⟩) c3 k)/\At X b (off+i*7) (tx.nO t0 t1 t2 t3 (aS k.c i))) w2.drew:=⟨B2.out.2.1.later aN.drew,lS.aj rfl⟩
   have HB:Hid (b<w2.drew.1.size/\Below w.1.size w w2.drew/\cO.Rd w2.drew a1 c1 a2 c2 (some ⟨b,off,none⟩) c3 k/\hm<k.aa.length/\k.aa.length<=8/\i<k.c.length):=⟨hb,B2.out.1.drew,B2.out.2.2.later aN.drew,by omega,eK,hi⟩
   clear bg oM tF fG lS Li Va XW eK hb B2 UM;go_wp2_with fail;refine bO 10 (fun X:World=>Bx X w.1.size (dR a1 c1 a2 c2 (some ⟨b,off,none⟩) c3 k)/\At X b (off+i*7) (tx.nO t0 t1 t2 t3 (aS k.c i))) (by kernel_rfl) ?_;generalize w2.drew=XD at *;refine eP 0 ?_ rfl ?_ dZ ?_;rotate_left
   ·(intro w aH;have q0:=aH.1.1 0 _ rfl;have q1:=aH.1.1 1 _ rfl;have q2:=aH.1.1 2 _ rfl;have q3:=aH.1.1 3 _ rfl;have q4:=aH.1.1 4 _ rfl;have q5:=aH.1.1 5 _ rfl;go_simp;first|done|with_reducible rfl|rfl)
   simp only[Act.put];refine eP 1 ?_ rfl ?_ dZ ?_;rotate_left
   ·(intro w aH;go_simp;first|done|with_reducible rfl)
   simp only[Act.put];refine eP 2 ?_ rfl ?_ dZ ?_;rotate_left
   ·(intro w aH;go_simp;first|done|with_reducible rfl)
   simp only[Act.put];refine eP 3 ?_ rfl ?_ dZ ?_;rotate_left
   ·(intro w aH;have q4:=aH.1.1 4 _ rfl;go_simp;first|done|with_reducible rfl|rfl)
   simp only[Act.put];refine eP 4 ?_ rfl ?_ dZ ?_;rotate_left
   ·(intro w aH;go_simp;first|done|with_reducible rfl)
   simp only[Act.put];refine eP 5 ?_ rfl ?_ dZ ?_;rotate_left
   ·(intro w aH;go_simp;first|done|with_reducible rfl|(rw[if_pos (by omega)]))
   simp only[Act.put];refine eP 6 ?_ rfl ?_ dZ ?_;rotate_left
   ·(intro w aH;have q0:w.cell? ⟨b,off+i*7,none⟩=some (vI (aS k.c i).id):=aH.2 0 _ rfl;have q1:w.cell? ⟨b,off+i*7+1,none⟩=some (vI (aS k.c i).l):=aH.2 1 _ rfl;have q2:w.cell? ⟨b,off+i*7+2,none⟩=some (vI (aS k.c i).o):=aH.2 2 _ rfl;have q3:w.cell? ⟨b,off+i*7+3,none⟩=some (vI (aS k.c i).u):=aH.2 3 _ rfl;have q4:w.cell? ⟨b,off+i*7+4,none⟩=some (.slice t0 (aS k.c i).b.length t1):=aH.2 4 _ rfl;have q5:w.cell? ⟨b,off+i*7+5,none⟩=some (.slice t2 (aS k.c i).ag.length t3):=aH.2 5 _ rfl;have q6:w.cell? ⟨b,off+i*7+6,none⟩=some (vI (aS k.c i).az):=aH.2 6 _ rfl;go_simp;first|done|with_reducible rfl|rfl)
   simp only[Act.put];refine ed 7 rfl (fun K hK=>?_);go_simp;refine jh.mono ?_;clear jh;rintro e X2 ⟨u0,u1,u2,u3,PR,PS,rfl,ho,b2⟩;simp only[tx.TV.val];obtain⟨hb,dK,Yf,eJ,eK,vy⟩:=HB.out;have gF:(fun X:World=>Bx X w.1.size (dR a1 c1 a2 c2 (some ⟨b,off,none⟩) c3 k)/\At X b (off+i*7) (tx.nO t0 t1 t2 t3 (aS k.c i))) X2:=⟨dZ.1.later b2,dZ.2.aj (b2.block b (by have:=dK.size;have:=dZ.1.2.2;have:=b2.size;omega))⟩
   obtain⟨X3,nK,b3,x3,-⟩:=jU X2 [vI k.v,vI k.q,.slice a1 k.f.length c1,.slice a2 k.aa.length c2,.slice (some ⟨b,off,none⟩) k.c.length c3,.bool k.w,vI (i:Int),vI (aS k.c i).id,vI (aS k.c i).l,vI (aS k.c i).o,vI (aS k.c i).u,.slice u0 (aS k.c i).b.length u1,.slice u2 (aS k.c i).ag.length u3,vI (aS k.c i).az] 118;have jX:(fun X:World=>Bx X w.1.size (dR a1 c1 a2 c2 (some ⟨b,off,none⟩) c3 k)/\At X b (off+i*7) (tx.nO t0 t1 t2 t3 (aS k.c i))) X3:=⟨gF.1.later b3,gF.2.aj (b3.block b (by have:=gF.1.2.2;have:=hb;have:=dK.size;have:=b2.size;have:=dZ.1.2.2;omega))⟩
   have KD:Hid (Bx X3 X2.1.size [vI k.v,vI k.q,.slice a1 k.f.length c1,.slice a2 k.aa.length c2,.slice (some ⟨b,off,none⟩) k.c.length c3,.bool k.w,vI (i:Int),vI (aS k.c i).id,vI (aS k.c i).l,vI (aS k.c i).o,vI (aS k.c i).u,.slice u0 (aS k.c i).b.length u1,.slice u2 (aS k.c i).ag.length u3,vI (aS k.c i).az]/\KT.Ow X3 w.1.size u0 u1 u2 u3 (aS k.c i) (tx.nC PR PS)/\(∀q,tx.nC PR PS q->q≠X2.1.size)/\w.1.size<=X2.1.size/\Below w.1.size w X3/\cO.Rd X3 a1 c1 a2 c2 (some ⟨b,off,none⟩) c3 k/\Bx X3 w.1.size (dR a1 c1 a2 c2 (some ⟨b,off,none⟩) c3 k)):=⟨x3,((KT.ow ho).low dK.size).later b3,fun q hq e=>by have:=(KT.ow ho).of hq;omega,Nat.le_trans dK.size b2.size,au (au dK b2) b3,(Yf.later b2).later b3,jX.1⟩
   refine hK.out _ _ (fun _=>gF) ?_;clear hK K hb dK Yf b2 b3 x3 ho;refine eP 8 ?_ rfl ?_ gF ?_;rotate_left
   ·(intro w aH;go_simp;first|done|with_reducible rfl)
   simp only[Act.put];refine ed 9 rfl (fun K hK=>?_);go_simp;rw[<-nK];refine hK.out _ _ (fun _=>jX) ?_;clear hK K gF nK;refine ed 10 rfl (fun K hK=>?_);go_simp;refine hK.out _ _ (fun h=>absurd rfl h) ?_;clear hK K jX dZ;refine cZ (by kernel_rfl) ?_ _
   have cQ:∀dd os,Calls prog 111 #[.agg #[vI k.v,vI k.q,.slice a1 k.f.length c1,.slice a2 k.aa.length c2,.slice (some ⟨b,off,none⟩) k.c.length c3,.bool k.w],vI (aS k.c i).l] (grow (redrawn X3 dd) os) fun e eU=>e=.returned (.bool (aT k.aa hm).x)/\∃p:Regrown,eU=grow (redrawn X3 p.d) p.os:=fun dd os=>by
    have hh:=Ck (grow (redrawn X3 dd) os) a1 c1 a2 c2 (some ⟨b,off,none⟩) c3 k hm eJ (KD.out.2.2.2.2.2.1.later (below_regrown X3 dd os));rw[<-HH.out]at hh;exact Calls.regrown_of hh
   have c0:∀dd os,(grow (redrawn X3 dd) os).cell? ⟨w.1.size,0,none⟩=some (vI k.v):=fun dd os=>(KD.out.2.2.2.2.2.2.later (below_regrown X3 dd os)).1 0 _ rfl
   have c1':∀dd os,(grow (redrawn X3 dd) os).cell? ⟨w.1.size,1,none⟩=some (vI k.q):=fun dd os=>(KD.out.2.2.2.2.2.2.later (below_regrown X3 dd os)).1 1 _ rfl
   have c2':∀dd os,(grow (redrawn X3 dd) os).cell? ⟨w.1.size,2,none⟩=some (.slice a1 k.f.length c1):=fun dd os=>(KD.out.2.2.2.2.2.2.later (below_regrown X3 dd os)).1 2 _ rfl
   have c3':∀dd os,(grow (redrawn X3 dd) os).cell? ⟨w.1.size,3,none⟩=some (.slice a2 k.aa.length c2):=fun dd os=>(KD.out.2.2.2.2.2.2.later (below_regrown X3 dd os)).1 3 _ rfl
   have BI:∀dd os,(grow (redrawn X3 dd) os).cell? ⟨w.1.size,4,none⟩=some (.slice (some ⟨b,off,none⟩) k.c.length c3):=fun dd os=>(KD.out.2.2.2.2.2.2.later (below_regrown X3 dd os)).1 4 _ rfl
   have pH:∀dd os,(grow (redrawn X3 dd) os).cell? ⟨w.1.size,5,none⟩=some (.bool k.w):=fun dd os=>(KD.out.2.2.2.2.2.2.later (below_regrown X3 dd os)).1 5 _ rfl
   have c8:∀dd os,(grow (redrawn X3 dd) os).cell? ⟨X2.1.size,8,none⟩=some (vI (aS k.c i).l):=fun dd os=>(KD.out.1.later (below_regrown X3 dd os)).1 8 _ rfl
   go_wp2_with fail;refine gP ?_;repeat (go_big_quiet_step (exact cQ _ _))
   refine iW fun dq aZ=>?_
   have bq:=below_regrown X3 dq aZ
   have K5:Hid (Bx (grow (redrawn X3 dq) aZ) X2.1.size [vI k.v,vI k.q,.slice a1 k.f.length c1,.slice a2 k.aa.length c2,.slice (some ⟨b,off,none⟩) k.c.length c3,.bool k.w,vI (i:Int),vI (aS k.c i).id,vI (aS k.c i).l,vI (aS k.c i).o,vI (aS k.c i).u,.slice u0 (aS k.c i).b.length u1,.slice u2 (aS k.c i).ag.length u3,vI (aS k.c i).az]/\KT.Ow (grow (redrawn X3 dq) aZ) w.1.size u0 u1 u2 u3 (aS k.c i) (tx.nC PR PS)/\(∀q,tx.nC PR PS q->q≠X2.1.size)/\w.1.size<=X2.1.size/\Below w.1.size w (grow (redrawn X3 dq) aZ)/\cO.Rd (grow (redrawn X3 dq) aZ) a1 c1 a2 c2 (some ⟨b,off,none⟩) c3 k):=by
    obtain⟨k1,k2,k3,k4,k5,k6,k7⟩:=KD.out;exact⟨k1.later bq,k2.later bq,k3,k4,au k5 bq,k6.later bq⟩
   clear bq cQ c0 c1' c2' c3' BI pH c8 KD;generalize grow (redrawn X3 dq) aZ=w5 at *
   cases za:(aT k.aa hm).x with
   | true=>
    have hz:gN k y=0:=by rw[HC.out,za];rfl
    have HZ:=ay hz;clear hz;go_wp2;go_ret;refine .inr ⟨HZ.out,X2.1.size,u0,u1,u2,u3,tx.nC PR PS,rfl,?_⟩;rw[HT.out.1,HT.out.2];exact⟨K5.out.1,K5.out.2.1,K5.out.2.2.1,K5.out.2.2.2.1,K5.out.2.2.2.2.1⟩
   | false=>
    have hz:gN k y=3:=by rw[HC.out,za];rfl
    have HX:Hid (∀e w',nE w5 k 3 e w'->tX w a1 c1 a2 c2 (some ⟨b,off,none⟩) c3 k y (gN k y) e w'):=fun e w' h=>.inl ⟨by rw[hz];decide,by rw[hz,H.out.2.2.2.2.2.2.2];exact h.low K5.out.2.2.2.2.1⟩
    have Yg:=iK w5 X2.1.size a1 c1 a2 c2 (some ⟨b,off,none⟩) c3 k [vI (i:Int),vI (aS k.c i).id,vI (aS k.c i).l,vI (aS k.c i).o,vI (aS k.c i).u,.slice u0 (aS k.c i).b.length u1,.slice u2 (aS k.c i).ag.length u3,vI (aS k.c i).az] 3 H.out.2.2.2.2.2.2.1 K5.out.2.2.2.2.2 K5.out.1;clear hz;go_wp2_with fail;refine Yg.mono ?_;clear Yg;intro e w6 hr;have wJ:=hr;obtain⟨b1,d1,b2,d2,b3,d3,P,rfl,-,-⟩:=hr;have HR:=ay wJ;clear wJ;go_wp2;exact⟨rfl,HX.out _ _ HR.out⟩
end
namespace tx
open Go.Proofs.Tryz
theorem jT{t:T7}(h:ky t=true):t.b.length<=12/\t.ag.length<=12:=by
 simp only[ky,Bool.and_eq_true,decide_eq_true_eq]at h;exact⟨h.1.1.1.2,h.1.1.2⟩
end tx
namespace tx
open Go.Proofs.Tryz
open Go.RowKit Go.Maps
variable {W W':World}{b n:Nat}{f:Int->Int->Option Nat}{r s:Int}
def jE(r s:Int):Value:=.agg #[vI r,vI s]
theorem uw:Keyed prog 126:=Keyed.of_law (deep_law_laid (m:=5) (by kernel_rfl) (by omega) (of_decide_eq_true (by kernel_rfl)) (by kernel_rfl) (by kernel_rfl))
theorem Py{i:Nat}(hi:i<=1000000):(Lit.int .i64 (i:Int)).wf=true:=by
 have h1:IntKind.i64.min=-9223372036854775808:=rfl;have h2:IntKind.i64.max=9223372036854775807:=rfl;simp[Lit.wf,h1,h2];omega
theorem six(h:bH 0 5 r=true):r=0\/r=1\/r=2\/r=3\/r=4\/r=5:=by
 rw[dI]at h;omega
theorem y8(h1:bH 0 5 r=true)(h2:bH 0 5 s=true):∃l,keyOf prog 126 (jE r s)=some l:=by
 have:(keyOf prog 126 (jE r s)).isSome=true:=by
  rcases six h1 with rfl|rfl|rfl|rfl|rfl|rfl<;>rcases six h2 with rfl|rfl|rfl|rfl|rfl|rfl<;>kernel_rfl
 exact Option.isSome_iff_exists.1 this
theorem N7{q t:Int}{l:Lit}(h1:keyOf prog 126 (jE r s)=some l)(h2:keyOf prog 126 (jE q t)=some l):r=q/\s=t:=by
 have:=uw.inj h1 h2;simp[jE]at this;exact this
def kE(W:World)(b n:Nat)(f:Int->Int->Option Nat):Prop:=
 ∃D:DataW Unit,W.ownsMap prog 126 (plainElem prog 3) b n D/\∀r s l,keyOf prog 126 (jE r s)=some l->(f r s=none->has D l=false)/\(∀i,f r s=some i->has D l=true/\∀z,D.atKey l z=.lit (.int .i64 (i:Int)))
theorem kE.lt(h:kE W b n f):b<W.1.size:=by obtain⟨D,h,_⟩:=h;exact h.lt
theorem kE.aj(h:kE W b n f)(e:W'.1[b]?=W.1[b]?):kE W' b n f:=by
 obtain⟨D,⟨es,clock,hb,r⟩,h'⟩:=h;exact⟨D,⟨es,clock,e.trans hb,r⟩,h'⟩
theorem kE.later(h:kE W b n f)(hb:Below W.1.size W W'):kE W' b n f:=h.aj (hb.block _ h.lt)
theorem kE.made(W:World):kE (W.alloc (.map #[] 0)) W.1.size 0 (fun _ _=>none):=
 ⟨.map [],World.ownsMap_made W _ _ _,fun r s l _=>⟨fun _=>rfl,fun i h=>by cases h⟩⟩
theorem Qx(W:World):(zeroValue 3).run prog W=.ok (vI 0) W:=by kernel_rfl
theorem kE.look(h:kE W b n f)(h1:bH 0 5 r=true)(h2:bH 0 5 s=true):
  (Instr.lookup 278 (.map (some b)) (jE r s) true).run prog W=.ok (.tuple #[vI (((f r s).getD 0:Nat):Int),.bool (f r s).isSome]) W:=by
 obtain⟨D,hD,hf⟩:=h;obtain⟨l,hl⟩:=y8 h1 h2;obtain⟨v,ps,kU,hv⟩:=hD.look_ok uw underlying278 (Qx W) (plainElem_int underlying3 (by decide)) hl;obtain⟨g1,g2⟩:=hf r s l hl
 cases e:f r s with
 | none=>
  rw[g1 e]at kU;rw[atKey_of_not_has (g1 e)]at hv;obtain⟨a,rfl,ha,_⟩:=plainElem_int_inv underlying3 hv;simp at ha;rw[kU,<-ha.1];rfl
 | some i=>
  rw[(g2 i e).1]at kU;rw[(g2 i e).2]at hv;obtain⟨a,rfl,ha,_⟩:=plainElem_int_inv underlying3 hv;simp at ha;rw[kU,<-ha.1];rfl
def EH(f:Int->Int->Option Nat)(r s:Int)(i:Nat):Int->Int->Option Nat:=fun q t=>if q=r/\t=s then some i else f q t
theorem di.of_map(h:W.mapTurned W' b):di b W W':=by
 have hg:=h.grown;exact⟨hg.os,hg.tape,hg.output,hg.size,fun k hk hc=>hg.block k hk (fun e=>hc (Option.some.inj e))⟩
theorem kE.store{W:World}{b n:Nat}{f:Int->Int->Option Nat}(h:kE W b n f)(hn:n<=1000000){r s:Int}(h1:bH 0 5 r=true)(h2:bH 0 5 s=true)(i:Nat)(hi:i<=1000000):
  ∃W',(Instr.mapUpdate 278 (.map (some b)) (jE r s) (vI (i:Int))).run prog W=.ok () W'/\kE W' b (n+1) (EH f r s i)/\di b W W'/\W'.1.size=W.1.size:=by
 obtain⟨D,hD,hf⟩:=h;obtain⟨l,hl⟩:=y8 h1 h2;have ft:(Lit.int .i64 (i:Int)).wf=true:=Py hi;obtain⟨W',kU,Xy,ht⟩:=hD.store uw underlying278 (by unfold maxLen;omega) hl (plainElem_int underlying3 ft);refine⟨W',kU,⟨_,Xy,fun q t l' X4=>?_⟩,di.of_map ht,?_⟩
 ·obtain⟨g1,g2⟩:=hf q t l' X4;by_cases e:q=r/\t=s
  ·obtain⟨rfl,rfl⟩:=e;rw[hl]at X4;obtain rfl:=Option.some.inj X4;refine⟨fun h=>by simp[EH]at h,fun j hj=>?_⟩;simp[EH]at hj;subst hj;exact⟨has_put_same hD.isMap (uw.key hl) _,fun z=>atKey_put_same hD.isMap (uw.key hl) _ z⟩
  ·have eO:l'≠l:=fun e'=>e (by rw[e']at X4;exact N7 X4 hl)
   have ep:EH f r s i q t=f q t:=by unfold EH;rw[if_neg e]
   rw[ep];refine⟨fun h=>by rw[has_put_other eO];exact g1 h,fun j hj=>?_⟩;rw[has_put_other eO];exact⟨(g2 j hj).1,fun z=>by rw[atKey_put_other eO];exact(g2 j hj).2 z⟩
 ·obtain⟨es,c,es',c',hb,rfl⟩:=ht;simp[ChangeMaps.setBlock]
def sO(W:World)(b n:Nat):Prop:=∃D:DataW Unit,W.ownsMap prog 126 (plainElem prog 3) b n D
theorem kE.any(h:kE W b n f):sO W b n:=by obtain⟨D,h,_⟩:=h;exact⟨D,h⟩
theorem sO.lt(h:sO W b n):b<W.1.size:=by obtain⟨D,h⟩:=h;exact h.lt
theorem sO.aj(h:sO W b n)(e:W'.1[b]?=W.1[b]?):sO W' b n:=by
 obtain⟨D,es,clock,hb,r⟩:=h;exact⟨D,es,clock,e.trans hb,r⟩
theorem sO.store{W:World}{b n:Nat}(h:sO W b n)(hn:n<=1000000){r s:Int}(h1:bH 0 5 r=true)(h2:bH 0 5 s=true)(i:Nat)(hi:i<=1000000):
  ∃W',(Instr.mapUpdate 278 (.map (some b)) (jE r s) (vI (i:Int))).run prog W=.ok () W'/\sO W' b (n+1)/\di b W W'/\W'.1.size=W.1.size:=by
 obtain⟨D,hD⟩:=h;obtain⟨l,hl⟩:=y8 h1 h2;have ft:(Lit.int .i64 (i:Int)).wf=true:=Py hi;obtain⟨W',kU,Xy,ht⟩:=hD.store uw underlying278 (by unfold maxLen;omega) hl (plainElem_int underlying3 ft);refine⟨W',kU,⟨_,Xy⟩,di.of_map ht,?_⟩;obtain⟨es,c,es',c',hb,rfl⟩:=ht;simp[ChangeMaps.setBlock]
theorem sO.drop{W:World}{b n:Nat}(h:sO W b n){r s:Int}(h1:bH 0 5 r=true)(h2:bH 0 5 s=true)(ty:TypeId):
  ∃W',(Builtin.delete_ #[278,126] ty #[.map (some b),jE r s]).run prog W=.ok (.tuple #[]) W'/\sO W' b n/\di b W W'/\W'.1.size=W.1.size:=by
 obtain⟨D,hD⟩:=h;obtain⟨l,hl⟩:=y8 h1 h2;obtain⟨W',kU,Xy,ht⟩:=hD.drop uw underlying278 hl ty;refine⟨W',kU,⟨_,Xy⟩,di.of_map ht,?_⟩;obtain⟨es,c,es',c',hb,rfl⟩:=ht;simp[ChangeMaps.setBlock]
end tx
namespace tx
open Go.Proofs.Tryz
def kz(p q mb:Nat)(x:Nat):Prop:=x=p\/x=q\/x=mb
theorem aA.mJ{P:Nat->Prop}{c:Nat}{a b:World}(h:di c a b)(hc:P c):aA P a b:=⟨h.os,h.tape,h.output,h.size,fun q hq hn=>h.block q hq (fun e=>hn (e▸hc))⟩
end tx
namespace tx
open Go.Proofs.Tryz
variable {V W:World}{mb n p q:Nat}{xs:List N5}
structure lM(W:World)(base p q mb n cap:Nat)(xs:List N5):Prop where
 c0:W.cell? ⟨p,0,none⟩=some (.slice (some ⟨q,0,none⟩) xs.length cap)
 c1:W.cell? ⟨p,1,none⟩=some (.map (some mb))
 fz:∀j,W.frozen? ⟨p,j,none⟩=false
 at_:dm W q 0 xs
 rm:Room W q (xs.length*5)
 cp:xs.length<=cap
 mp:sO W mb n
 ok:∀s∈xs,bI s=true
 pq:p≠q
 pm:p≠mb
 qm:q≠mb
 bp:base<=p
 bq:base<=q
 bm:base<=mb
 lp:p<W.1.size
 lq:q<W.1.size
theorem lM.aL{base cap:Nat}(h:lM W base p q mb n cap xs)(hs:W.1.size<=V.1.size)(hk:∀x,kz p q mb x->V.1[x]?=W.1[x]?):lM V base p q mb n cap xs:=
 ⟨(World.cell?_of_block (a:=⟨p,0,none⟩) (hk p (.inl rfl))).trans h.c0,(World.cell?_of_block (a:=⟨p,1,none⟩) (hk p (.inl rfl))).trans h.c1,fun j=>(World.frozen?_of_block (a:=⟨p,j,none⟩) (hk p (.inl rfl))).trans (h.fz j),h.at_.aj (hk q (.inr (.inl rfl))),h.rm.aj (hk q (.inr (.inl rfl))),h.cp,h.mp.aj (hk mb (.inr (.inr rfl))),h.ok,h.pq,h.pm,h.qm,h.bp,h.bq,h.bm,Nat.lt_of_lt_of_le h.lp hs,Nat.lt_of_lt_of_le h.lq hs⟩
theorem lM.later{base cap:Nat}(h:lM W base p q mb n cap xs)(hb:Below W.1.size W V):lM V base p q mb n cap xs:=h.aL hb.size (fun x hx=>hb.block x (by rcases hx with rfl|rfl|rfl;exact h.lp;exact h.lq;exact h.mp.lt))
theorem lM.ug{base cap:Nat}(h:lM W base p q mb n cap xs)(e:W.drew=V):lM V base p q mb n cap xs:=by rw[<-e];exact h.later (aN.drew)
theorem lM.Bv{base n' cap:Nat}(h:lM W base p q mb n cap xs)(ht:di mb W V)(hm:sO V mb n')(hs:V.1.size=W.1.size):lM V base p q mb n' cap xs:=by
 have hp:=ht.block p h.lp h.pm;have hq:=ht.block q h.lq h.qm;exact⟨(World.cell?_of_block (a:=⟨p,0,none⟩) hp).trans h.c0,(World.cell?_of_block (a:=⟨p,1,none⟩) hp).trans h.c1,fun j=>(World.frozen?_of_block (a:=⟨p,j,none⟩) hp).trans (h.fz j),h.at_.aj hq,h.rm.aj hq,h.cp,hm,h.ok,h.pq,h.pm,h.qm,h.bp,h.bq,h.bm,by rw[hs];exact h.lp,by rw[hs];exact h.lq⟩
theorem lM.GV{base cap i:Nat}{x:N5}(h:lM W base p q mb n cap xs)(hi:xs[i]?=some x)(y:N5)(hy:bI y=true):lM (((((W.setCell ⟨q,i*5,none⟩ (vI y.a)).setCell ⟨q,i*5+1,none⟩ (vI y.e)).setCell ⟨q,i*5+2,none⟩ (vI y.i)).setCell ⟨q,i*5+3,none⟩ (vI y.h)).setCell ⟨q,i*5+4,none⟩ (.bool y.j)) base p q mb n cap (xs.set i y):=by
 have li:=(List.getElem?_eq_some_iff.1 hi).1;have ho:aQ q W (((((W.setCell ⟨q,i*5,none⟩ (vI y.a)).setCell ⟨q,i*5+1,none⟩ (vI y.e)).setCell ⟨q,i*5+2,none⟩ (vI y.i)).setCell ⟨q,i*5+3,none⟩ (vI y.h)).setCell ⟨q,i*5+4,none⟩ (.bool y.j)):=(((((aQ.refl q _).setCell _ _).setCell _ _).setCell _ _).setCell _ _).setCell _ _;have hp:=ho.block p h.pq;have hm:=ho.block mb (Ne.symm h.qm);obtain⟨v0,d0,_⟩:=h.rm (i*5) (by omega);obtain⟨v1,d1,_⟩:=h.rm (i*5+1) (by omega);obtain⟨v2,d2,_⟩:=h.rm (i*5+2) (by omega);obtain⟨v3,d3,_⟩:=h.rm (i*5+3) (by omega);obtain⟨v4,d4,_⟩:=h.rm (i*5+4) (by omega);refine⟨(World.cell?_of_block (a:=⟨p,0,none⟩) hp).trans (by rw[List.length_set];exact h.c0),(World.cell?_of_block (a:=⟨p,1,none⟩) hp).trans h.c1,fun j=>(World.frozen?_of_block (a:=⟨p,j,none⟩) hp).trans (h.fz j),fun k s hk=>?_,by rw[List.length_set];exact((((h.rm.set _).set _).set _).set _).set _,by rw[List.length_set];exact h.cp,h.mp.aj hm,fun s hs=>?_,h.pq,h.pm,h.qm,h.bp,h.bq,h.bm,by rw[ho.size];exact h.lp,by rw[ho.size];exact h.lq⟩
 ·rw[Nat.zero_add];by_cases e:i=k
  ·subst e;rw[List.getElem?_set_self li]at hk;obtain rfl:=Option.some.inj hk;exact aJ.put y d0 d1 d2 d3 d4
  ·rw[List.getElem?_set_ne e]at hk;have:=h.at_ k s hk;rw[Nat.zero_add]at this;exact((((this.set (by omega) _).set (by omega) _).set (by omega) _).set (by omega) _).set (by omega) _
 ·rcases List.mem_or_eq_of_mem_set hs with hs|rfl
  ·exact h.ok s hs
  ·exact hy
theorem uA(w:World)(base p q mb n cap:Nat)(xs:List N5)(i j:Nat)(x y:N5)(h:lM w base p q mb n cap xs)(hn:n<=100000)(hl:xs.length<=1000)(hi:xs[i]?=some x)(hj:xs[j]?=some y):
  Calls prog 251 #[.pointer (some ⟨p,0,none⟩),vI (i:Int),vI (j:Int)] w fun e w'=>e=.returned (.tuple #[])/\lM w' base p q mb (n+1+1) cap ((xs.set i y).set j x)/\aA (kz p q mb) w w':=by
 have li:=(List.getElem?_eq_some_iff.1 hi).1;have lj:=(List.getElem?_eq_some_iff.1 hj).1;have ix:(i:Int)<(xs.length:Int):=by omega
 have jx:(j:Int)<(xs.length:Int):=by omega
 have hS:(fun X:World=>X.cell? ⟨p,0,none⟩=some (.slice (some ⟨q,0,none⟩) xs.length cap)/\aJ X q (i*5) x/\aJ X q (j*5) y) w.drew:=⟨h.c0,(show aJ w q (i*5) x by simpa using h.at_ i x hi).below ((Below.refl w.1.size w).drew) h.lq,(show aJ w q (j*5) y by simpa using h.at_ j y hj).below ((Below.refl w.1.size w).drew) h.lq⟩
 have rd:Room w.drew q (xs.length*5):=h.rm;have KH:=ay h;clear h;go_enter func251,ntmps251;go_upto_region 0 with fail
 refine aY (fun z=>z==25||z==27) (fun X:World=>X.cell? ⟨p,0,none⟩=some (.slice (some ⟨q,0,none⟩) xs.length cap)/\aJ X q (i*5) x/\aJ X q (j*5) y) (by kernel_rfl) ?_;obtain⟨v0,c0,f0⟩:=rd (i*5) (by omega);obtain⟨v1,c1,f1⟩:=rd (i*5+1) (by omega);obtain⟨v2,c2,f2⟩:=rd (i*5+2) (by omega);obtain⟨v3,c3,f3⟩:=rd (i*5+3) (by omega);obtain⟨v4,c4,f4⟩:=rd (i*5+4) (by omega);generalize Ux:w.drew=Wd at *;refine cu 0 rfl hS ?_;simp only[Act.put];refine cu 1 rfl hS ?_;simp only[Act.put];refine cu 2 rfl hS ?_;simp only[Act.put];refine iZ 3 ?_ rfl ?_ hS ?_;rotate_left
 ·(intro w aH;obtain⟨s0,⟨a0,a1,a2,a3,a4⟩,⟨b0,b1,b2,b3,b4⟩⟩:=aH;go_simp;first|done|with_reducible rfl)
 simp only[Act.put];refine cu 4 rfl hS ?_;simp only[Act.put];refine cu 5 rfl hS ?_;simp only[Act.put];refine cu 6 rfl hS ?_;simp only[Act.put];refine cu 7 rfl hS ?_;simp only[Act.put];refine iZ 8 ?_ rfl ?_ hS ?_;rotate_left
 ·(intro w aH;obtain⟨s0,⟨a0,a1,a2,a3,a4⟩,⟨b0,b1,b2,b3,b4⟩⟩:=aH;go_simp;first|done|with_reducible rfl)
 simp only[Act.put];refine cu 9 rfl hS ?_;simp only[Act.put];refine cu 10 rfl hS ?_;simp only[Act.put];refine cu 11 rfl hS ?_;simp only[Act.put];refine cu 12 rfl hS ?_;simp only[Act.put];refine iZ 13 ?_ rfl ?_ hS ?_;rotate_left
 ·(intro w aH;obtain⟨s0,⟨a0,a1,a2,a3,a4⟩,⟨b0,b1,b2,b3,b4⟩⟩:=aH;go_simp;first|done|with_reducible rfl)
 simp only[Act.put];refine cu 14 rfl hS ?_;simp only[Act.put];refine cu 15 rfl hS ?_;simp only[Act.put];refine iZ 16 ?_ rfl ?_ hS ?_;rotate_left
 ·(intro w aH;obtain⟨s0,⟨a0,a1,a2,a3,a4⟩,⟨b0,b1,b2,b3,b4⟩⟩:=aH;go_simp;first|done|with_reducible rfl)
 simp only[Act.put];refine cu 17 rfl hS ?_;simp only[Act.put];refine cu 18 rfl hS ?_;simp only[Act.put];refine cu 19 rfl hS ?_;simp only[Act.put];refine iZ 20 ?_ rfl ?_ hS ?_;rotate_left
 ·(intro w aH;obtain⟨s0,⟨a0,a1,a2,a3,a4⟩,⟨b0,b1,b2,b3,b4⟩⟩:=aH;go_simp;first|done|with_reducible rfl)
 simp only[Act.put];refine cu 21 rfl hS ?_;simp only[Act.put];refine cu 22 rfl hS ?_;simp only[Act.put];refine iZ 23 ?_ rfl ?_ hS ?_;rotate_left
 ·(intro w aH;obtain⟨s0,⟨a0,a1,a2,a3,a4⟩,⟨b0,b1,b2,b3,b4⟩⟩:=aH;go_simp;first|done|with_reducible rfl)
 simp only[Act.put];refine cu 24 rfl hS ?_;simp only[Act.put];refine dJ 25 rfl (fun K hK=>?_);go_simp;refine hK.out _ _ (fun h=>absurd (show false=true from h.symm.trans (by kernel_rfl)) (by decide)) ?_;clear hK K;refine dJ 26 rfl (fun K hK=>?_);go_simp;refine hK.out _ _ (fun h=>absurd (show false=true from h.symm.trans (by kernel_rfl)) (by decide)) ?_;clear hK K;have r1:Room (((((Wd.setCell ⟨q,i*5,none⟩ (vI y.a)).setCell ⟨q,i*5+1,none⟩ (vI y.e)).setCell ⟨q,i*5+2,none⟩ (vI y.i)).setCell ⟨q,i*5+3,none⟩ (vI y.h)).setCell ⟨q,i*5+4,none⟩ (.bool y.j)) q (xs.length*5):=((((rd.set _).set _).set _).set _).set _;generalize gZ:(((((Wd.setCell ⟨q,i*5,none⟩ (vI y.a)).setCell ⟨q,i*5+1,none⟩ (vI y.e)).setCell ⟨q,i*5+2,none⟩ (vI y.i)).setCell ⟨q,i*5+3,none⟩ (vI y.h)).setCell ⟨q,i*5+4,none⟩ (.bool y.j))=W1 at *;obtain⟨u0,e0,g0⟩:=r1 (j*5) (by omega);obtain⟨u1,e1,g1⟩:=r1 (j*5+1) (by omega);obtain⟨u2,e2,g2⟩:=r1 (j*5+2) (by omega);obtain⟨u3,e3,g3⟩:=r1 (j*5+3) (by omega);obtain⟨u4,e4,g4⟩:=r1 (j*5+4) (by omega);refine dJ 27 rfl (fun K hK=>?_);go_simp;refine hK.out _ _ (fun h=>absurd (show false=true from h.symm.trans (by kernel_rfl)) (by decide)) ?_;clear hK K;refine df (by kernel_rfl) ?_ _
 have Rp:(xs.set i y)[j]?=some y:=by
  by_cases e:i=j
  ·subst e;rw[List.getElem?_set_self li]
  ·rw[List.getElem?_set_ne e];exact hj
 have PF:lM (((((W1.setCell ⟨q,j*5,none⟩ (vI x.a)).setCell ⟨q,j*5+1,none⟩ (vI x.e)).setCell ⟨q,j*5+2,none⟩ (vI x.i)).setCell ⟨q,j*5+3,none⟩ (vI x.h)).setCell ⟨q,j*5+4,none⟩ (.bool x.j)) base p q mb n cap ((xs.set i y).set j x):=by
  rw[<-gZ];exact((KH.out.ug Ux).GV hi y (KH.out.ok y (List.mem_of_getElem? hj))).GV Rp x (KH.out.ok x (List.mem_of_getElem? hi))
 have KF:aA (kz p q mb) w (((((W1.setCell ⟨q,j*5,none⟩ (vI x.a)).setCell ⟨q,j*5+1,none⟩ (vI x.e)).setCell ⟨q,j*5+2,none⟩ (vI x.i)).setCell ⟨q,j*5+3,none⟩ (vI x.h)).setCell ⟨q,j*5+4,none⟩ (.bool x.j)):=by
  rw[<-gZ,<-Ux];exact(aA.bN ((Below.refl w.1.size w).drew)).trans (aA.jW (c:=q) (((((((((((aQ.refl q _).setCell _ _).setCell _ _).setCell _ _).setCell _ _).setCell _ _).setCell _ _).setCell _ _).setCell _ _).setCell _ _).setCell _ _) (.inr (.inl rfl)))
 obtain⟨zi,Pf⟩:∃z,((xs.set i y).set j x)[i]?=some z:=⟨_,List.getElem?_eq_getElem (by simpa using li)⟩
 have YA:((xs.set i y).set j x)[j]?=some x:=by rw[List.getElem?_set_self (by simpa using lj)]
 have hle:((xs.set i y).set j x).length=xs.length:=by simp
 have Xl:Hid (aA (kz p q mb) w (((((W1.setCell ⟨q,j*5,none⟩ (vI x.a)).setCell ⟨q,j*5+1,none⟩ (vI x.e)).setCell ⟨q,j*5+2,none⟩ (vI x.i)).setCell ⟨q,j*5+3,none⟩ (vI x.h)).setCell ⟨q,j*5+4,none⟩ (.bool x.j))/\lM (((((W1.setCell ⟨q,j*5,none⟩ (vI x.a)).setCell ⟨q,j*5+1,none⟩ (vI x.e)).setCell ⟨q,j*5+2,none⟩ (vI x.i)).setCell ⟨q,j*5+3,none⟩ (vI x.h)).setCell ⟨q,j*5+4,none⟩ (.bool x.j)) base p q mb n cap ((xs.set i y).set j x)):=⟨KF,PF⟩
 clear KH PF KF Rp rd r1 c0 c1 c2 c3 c4 f0 f1 f2 f3 f4 e0 e1 e2 e3 e4 g0 g1 g2 g3 g4 hS Ux gZ ix jx;generalize (((((W1.setCell ⟨q,j*5,none⟩ (vI x.a)).setCell ⟨q,j*5+1,none⟩ (vI x.e)).setCell ⟨q,j*5+2,none⟩ (vI x.i)).setCell ⟨q,j*5+3,none⟩ (vI x.h)).setCell ⟨q,j*5+4,none⟩ (.bool x.j))=V at *;have KH:=Xl;clear Xl;generalize XK:(xs.set i y).set j x=zs at *;have mh:zs.length=xs.length:=hle;have ix:(i:Int)<(zs.length:Int):=by omega
 have jx:(j:Int)<(zs.length:Int):=by omega
 rw[<-mh]at li lj hl;have HZ:=ay XK;clear hle hi hj XK mh Wd W1;have I1:=Pf;have I4:=YA;clear Pf YA;obtain⟨Yy,Vb⟩:∃hz:bI zi=true,V.1.size=V.1.size:=⟨KH.out.2.ok zi (List.mem_of_getElem? I1),rfl⟩
 have UO:=gL Yy;have hS:(fun X:World=>X.cell? ⟨p,0,none⟩=some (.slice (some ⟨q,0,none⟩) (zs).length cap)/\X.cell? ⟨p,1,none⟩=some (.map (some mb))/\aJ X q (i*5) zi) V.drew:=⟨KH.out.2.c0,KH.out.2.c1,(show aJ V q (i*5) zi by simpa using KH.out.2.at_ i zi I1).below ((Below.refl V.1.size V).drew) KH.out.2.lq⟩
 have hm:∀w:World,(method 452 70 (.agg #[vI zi.a,vI zi.e,vI zi.i,vI zi.h,.bool zi.j]) "loop.example/g00153/impl.cell").run prog w=.ok (203,.agg #[vI zi.a,vI zi.e,vI zi.i,vI zi.h,.bool zi.j]) w:=fun _=>by kernel_rfl
 go_upto_region 1 with fail
 refine aY (fun z=>z==14) (fun X:World=>X.cell? ⟨p,0,none⟩=some (.slice (some ⟨q,0,none⟩) (zs).length cap)/\X.cell? ⟨p,1,none⟩=some (.map (some mb))/\aJ X q (i*5) zi) (by kernel_rfl) ?_;have KD:Hid (Below V.1.size V V.drew):=aN.drew;generalize V.drew=Wd at *;refine cu 0 rfl hS ?_;simp only[Act.put];refine cu 1 rfl hS ?_;simp only[Act.put];refine cu 2 rfl hS ?_;simp only[Act.put];refine iZ 3 ?_ rfl ?_ hS ?_;rotate_left
 ·(intro w aH;obtain⟨s0,s1,⟨a0,a1,a2,a3,a4⟩⟩:=aH;go_simp;first|done|with_reducible rfl)
 simp only[Act.put];refine cu 4 rfl hS ?_;simp only[Act.put];refine cu 5 rfl hS ?_;simp only[Act.put];refine cu 6 rfl hS ?_;simp only[Act.put];refine iZ 7 ?_ rfl ?_ hS ?_;rotate_left
 ·(intro w aH;obtain⟨s0,s1,⟨a0,a1,a2,a3,a4⟩⟩:=aH;go_simp;first|done|with_reducible rfl)
 simp only[Act.put];refine cu 8 rfl hS ?_;simp only[Act.put];refine cu 9 rfl hS ?_;simp only[Act.put];refine iZ 10 ?_ rfl ?_ hS ?_;rotate_left
 ·(intro w aH;obtain⟨s0,s1,⟨a0,a1,a2,a3,a4⟩⟩:=aH;go_simp;first|done|with_reducible rfl)
 simp only[Act.put];refine cu 11 rfl hS ?_;simp only[Act.put];refine cu 13 rfl hS ?_;simp only[Act.put];refine dJ 12 rfl (fun K hK=>?_);go_simp;refine(gI Wd zi).mono ?_;rintro e X2 ⟨rfl,b2⟩;have bX:Below V.1.size V X2:=KD.out.trans (b2.mono KD.out.size);have P2:=KH.out.2.later bX;obtain⟨Y,eZ,sZ,mW,uo⟩:=P2.mp.store (by omega) UO.1 UO.2 i (by omega);have P3:=P2.Bv mW sZ uo;have KX:Hid (aA (kz p q mb) w Y/\lM Y base p q mb (n+1) cap (zs)):=⟨(KH.out.1.trans (aA.bN bX)).trans (aA.mJ mW (.inr (.inr rfl))),P3⟩
 simp only[jE]at eZ;have gF:(fun X:World=>X.cell? ⟨p,0,none⟩=some (.slice (some ⟨q,0,none⟩) (zs).length cap)/\X.cell? ⟨p,1,none⟩=some (.map (some mb))/\aJ X q (i*5) zi) X2:=⟨P2.c0,P2.c1,by simpa using P2.at_ i zi I1⟩
 refine hK.out _ _ (fun _=>gF) ?_;clear hK K gF hS P2 P3 bX KD sZ mW uo hm Yy Vb UO KH b2;refine dJ 14 rfl (fun K hK=>?_);go_simp;refine hK.out _ _ (fun h=>absurd (show false=true from h.symm.trans (by kernel_rfl)) (by decide)) ?_;clear hK K eZ;refine df (by kernel_rfl) ?_ _;have KH:=KX;clear KX;generalize Y=V2 at *;obtain⟨Yz,Vd⟩:∃hz:bI x=true,V2.1.size=V2.1.size:=⟨KH.out.2.ok x (List.mem_of_getElem? I4),rfl⟩
 have UQ:=gL Yz;have hS:(fun X:World=>X.cell? ⟨p,0,none⟩=some (.slice (some ⟨q,0,none⟩) (zs).length cap)/\X.cell? ⟨p,1,none⟩=some (.map (some mb))/\aJ X q (j*5) x) V2.drew:=⟨KH.out.2.c0,KH.out.2.c1,(show aJ V2 q (j*5) x by simpa using KH.out.2.at_ j x I4).below ((Below.refl V2.1.size V2).drew) KH.out.2.lq⟩
 have hm:∀w:World,(method 452 70 (.agg #[vI x.a,vI x.e,vI x.i,vI x.h,.bool x.j]) "loop.example/g00153/impl.cell").run prog w=.ok (203,.agg #[vI x.a,vI x.e,vI x.i,vI x.h,.bool x.j]) w:=fun _=>by kernel_rfl
 go_upto_region 2 with fail
 refine aY (fun z=>z==14) (fun X:World=>X.cell? ⟨p,0,none⟩=some (.slice (some ⟨q,0,none⟩) (zs).length cap)/\X.cell? ⟨p,1,none⟩=some (.map (some mb))/\aJ X q (j*5) x) (by kernel_rfl) ?_;have KD:Hid (Below V2.1.size V2 V2.drew):=aN.drew;generalize V2.drew=Wd at *;refine cu 0 rfl hS ?_;simp only[Act.put];refine cu 1 rfl hS ?_;simp only[Act.put];refine cu 2 rfl hS ?_;simp only[Act.put];refine iZ 3 ?_ rfl ?_ hS ?_;rotate_left
 ·(intro w aH;obtain⟨s0,s1,⟨a0,a1,a2,a3,a4⟩⟩:=aH;go_simp;first|done|with_reducible rfl)
 simp only[Act.put];refine cu 4 rfl hS ?_;simp only[Act.put];refine cu 5 rfl hS ?_;simp only[Act.put];refine cu 6 rfl hS ?_;simp only[Act.put];refine iZ 7 ?_ rfl ?_ hS ?_;rotate_left
 ·(intro w aH;obtain⟨s0,s1,⟨a0,a1,a2,a3,a4⟩⟩:=aH;go_simp;first|done|with_reducible rfl)
 simp only[Act.put];refine cu 8 rfl hS ?_;simp only[Act.put];refine cu 9 rfl hS ?_;simp only[Act.put];refine iZ 10 ?_ rfl ?_ hS ?_;rotate_left
 ·(intro w aH;obtain⟨s0,s1,⟨a0,a1,a2,a3,a4⟩⟩:=aH;go_simp;first|done|with_reducible rfl)
 simp only[Act.put];refine cu 11 rfl hS ?_;simp only[Act.put];refine cu 13 rfl hS ?_;simp only[Act.put];refine dJ 12 rfl (fun K hK=>?_);go_simp;refine(gI Wd x).mono ?_;rintro e X2 ⟨rfl,b2⟩;have bX:Below V2.1.size V2 X2:=KD.out.trans (b2.mono KD.out.size);have P2:=KH.out.2.later bX;obtain⟨Y,eZ,sZ,mW,uo⟩:=P2.mp.store (by omega) UQ.1 UQ.2 j (by omega);have P3:=P2.Bv mW sZ uo;have KX:Hid (aA (kz p q mb) w Y/\lM Y base p q mb (n+1+1) cap (zs)):=⟨(KH.out.1.trans (aA.bN bX)).trans (aA.mJ mW (.inr (.inr rfl))),P3⟩
 simp only[jE]at eZ;have gF:(fun X:World=>X.cell? ⟨p,0,none⟩=some (.slice (some ⟨q,0,none⟩) (zs).length cap)/\X.cell? ⟨p,1,none⟩=some (.map (some mb))/\aJ X q (j*5) x) X2:=⟨P2.c0,P2.c1,by simpa using P2.at_ j x I4⟩
 refine hK.out _ _ (fun _=>gF) ?_;clear hK K gF hS P2 P3 bX KD sZ mW uo hm Yz Vd UQ KH b2;refine dJ 14 rfl (fun K hK=>?_);go_simp;refine hK.out _ _ (fun h=>absurd (show false=true from h.symm.trans (by kernel_rfl)) (by decide)) ?_;clear hK K eZ;refine df (by kernel_rfl) ?_ _;have KH:=KX;clear KX;go_wp2;refine bodyPost_end (v:=.tuple #[]) (by simp[results,results251,go_sem]) rfl ⟨rfl,by rw[HZ.out];exact KH.out.2,KH.out.1⟩
end tx
section
open Go.Proofs.Tryz
namespace bC
variable {c n:Nat}{k:Nat->Int}
def Fv{α:Type}(k:Nat->α)(a b:Nat):Nat->α:=fun i=>if i=a then k b else if i=b then k a else k i
def Hp(k:Nat->Int)(n:Nat):Prop:=∀i,0<i->i<n->k ((i-1)/2)<=k i
def qX(k:Nat->Int)(n c:Nat):Prop:=(∀i,0<i->i<n->i≠c->k ((i-1)/2)<=k i)/\(∀i,0<i->i<n->(i-1)/2=c->0<c->k ((c-1)/2)<=k i)
def mf(k:Nat->Int)(n c:Nat):Prop:=(∀i,0<i->i<n->(i-1)/2≠c->k ((i-1)/2)<=k i)/\(∀i,0<i->i<n->(i-1)/2=c->0<c->k ((c-1)/2)<=k i)
theorem qX.done(h:qX k n c)(hc:c=0\/k ((c-1)/2)<=k c):Hp k n:=fun i h0 hn=>by
 by_cases e:i=c
 ·subst e;rcases hc with hc|hc
  ·omega
  ·exact hc
 ·exact h.1 i h0 hn e
theorem qX.step(h:qX k n c)(h0:0<c)(hn:c<n)(hl:k c<k ((c-1)/2)):qX (Fv k c ((c-1)/2)) n ((c-1)/2):=by
 obtain⟨h1,h2⟩:=h;refine⟨fun i i0 hi eO=>?_,fun i i0 hi hp wb=>?_⟩
 ·unfold Fv;by_cases e1:i=c
  ·subst e1;simp[show ¬(i-1)/2=i by omega];omega
  ·by_cases e2:(i-1)/2=c
   ·simp[e1,eO,e2];exact h2 i i0 hi e2 h0
   ·by_cases e3:(i-1)/2=(c-1)/2
    ·simp[e1,eO,e3,show ¬(c-1)/2=c by omega];have:=h1 i i0 hi e1;rw[e3]at this;omega
    ·simp[e1,eO,e2,e3];exact h1 i i0 hi e1
 ·unfold Fv;have hq:=h1 ((c-1)/2) (by omega) (by omega) (by omega);by_cases e1:i=c
  ·subst e1;simp[show ¬((i-1)/2-1)/2=i by omega,show ¬((i-1)/2-1)/2=(i-1)/2 by omega];exact hq
  ·have Ci:=h1 i i0 hi e1;rw[hp]at Ci;simp[e1,show ¬i=(c-1)/2 by omega,show ¬((c-1)/2-1)/2=c by omega,show ¬((c-1)/2-1)/2=(c-1)/2 by omega];omega
theorem mf.done(h:mf k n c)(h1:2*c+1<n->k c<=k (2*c+1))(h2:2*c+2<n->k c<=k (2*c+2)):Hp k n:=fun i h0 hn=>by
 by_cases e:(i-1)/2=c
 ·rw[e];rcases(show i=2*c+1\/i=2*c+2 by omega)with rfl|rfl
  ·exact h1 hn
  ·exact h2 hn
 ·exact h.1 i h0 hn e
theorem mf.step{l:Nat}(h:mf k n c)(hl:l=2*c+1\/l=2*c+2)(hn:l<n)(aK:k l<k c)(h1:2*c+1<n->k l<=k (2*c+1))(h2:2*c+2<n->k l<=k (2*c+2)):mf (Fv k c l) n l:=by
 obtain⟨g1,g2⟩:=h;have Er:(l-1)/2=c:=by omega
 refine⟨fun i i0 hi eO=>?_,fun i i0 hi hp _=>?_⟩
 ·unfold Fv;by_cases e0:i=c
  ·subst e0;simp[show ¬(i-1)/2=i by omega,eO];exact g2 l (by omega) hn Er i0
  ·by_cases e1:(i-1)/2=c
   ·simp only[e1,e0,if_true,if_false];by_cases e2:i=l
    ·simp[e2];omega
    ·simp[e2];rcases(show i=2*c+1\/i=2*c+2 by omega)with rfl|rfl
     ·exact h1 hi
     ·exact h2 hi
   ·have:=g1 i i0 hi e1;by_cases e2:i=l
    ·omega
    ·simp[e0,e1,e2,eO];exact this
 ·unfold Fv;have:=g1 i i0 hi (by omega);rw[hp]at this;simp[Er,show ¬i=c by omega,show ¬i=l by omega];exact this
theorem Hp.top(h:Hp k n):∀i,i<n->k 0<=k i:=by
 intro i
 induction i using Nat.strongRecOn with
 | ind i ih=>
  intro hi;by_cases e:i=0
  ·subst e;exact Int.le_refl _
  ·have:=ih ((i-1)/2) (by omega) (by omega);have:=h i (by omega) hi;omega
theorem qX.Lx(h:Hp k n):qX k (n+1) n:=⟨fun i h0 hn eO=>h i h0 (by omega),fun i h0 hn hp h'=>by omega⟩
theorem mf.PV(h:Hp k (n+1)):mf (Fv k 0 n) n 0:=⟨fun i h0 hn eO=>by
 have:=h i h0 (by omega);unfold Fv;simp[show ¬i=0 by omega,show ¬i=n by omega,eO,show ¬(i-1)/2=n by omega]
 exact this,fun i h0 hn hp h'=>by omega⟩
end bC
namespace bC
theorem set_set_perm{α:Type}:∀(xs:List α) (a b:Nat) (x y:α),xs[a]?=some x->xs[b]?=some y->((xs.set a y).set b x).Perm xs:=by
 intro xs a b x y ha hb;have sf:=(List.getElem?_eq_some_iff.1 ha).1;have Gb:=(List.getElem?_eq_some_iff.1 hb).1;have tf:=(List.getElem?_eq_some_iff.1 ha).2;have tg:=(List.getElem?_eq_some_iff.1 hb).2;have:=Array.swap_perm (xs:=xs.toArray) (i:=a) (j:=b) (by simpa using sf) (by simpa using Gb);have h2:=Array.perm_iff_toList_perm.1 this;simp[Array.swap,tf,tg]at h2;exact h2
theorem zk{α:Type}(rk:α->Int):∀{l₁ l₂:List α},l₁.Pairwise (fun p q=>rk p<rk q)->l₂.Pairwise (fun p q=>rk p<rk q)->l₁.Perm l₂->l₁=l₂
 | [],l₂,_,_,h=>(List.Perm.nil_eq h)
 | x::r,[],_,_,h=>by have:=h.length_eq;simp at this
 | x::r,y::s,h1,h2,h=>by
  obtain⟨a1,a2⟩:=List.pairwise_cons.1 h1;obtain⟨b1,b2⟩:=List.pairwise_cons.1 h2;have hx:x∈y::s:=h.mem_iff.1 (by simp);have hy:y∈x::r:=h.mem_iff.2 (by simp)
  have e:x=y:=by
   rcases List.mem_cons.1 hx with e|hx
   ·exact e
   ·rcases List.mem_cons.1 hy with e|hy
    ·exact e.symm
    ·have:=a1 y hy;have:=b1 x hx;omega
  subst e;rw[zk rk a2 b2 (List.Perm.cons_inv h)]
theorem mf.congr{k k':Nat->Int}{n:Nat}(h:mf k n 0)(e:∀i,i<n->k' i=k i):mf k' n 0:=
 ⟨fun i h0 hn hc=>by rw[e i hn,e _ (by omega)];exact h.1 i h0 hn hc,fun i _ _ _ h'=>by omega⟩
end bC
end
namespace tx
open Go.Proofs.Tryz
variable {i:Nat}{x:N5}{xs:List N5}
def gV(xs:List N5)(i:Nat):Int:=rk (aG xs i).a (aG xs i).e
theorem lg(h:xs[i]?=some x):gV xs i=rk x.a x.e:=by
 unfold gV aG;rw[h];rfl
theorem uz(w:World)(base p q mb n cap:Nat)(xs:List N5)(i j:Nat)(x y:N5)(h:lM w base p q mb n cap xs)(hi:xs[i]?=some x)(hj:xs[j]?=some y):
  Calls prog 250 #[.pointer (some ⟨p,0,none⟩),vI (i:Int),vI (j:Int)] w fun e w'=>e=.returned (.bool (decide (rk x.a x.e<rk y.a y.e)))/\Below w.1.size w w':=by
 have li:=(List.getElem?_eq_some_iff.1 hi).1;have lj:=(List.getElem?_eq_some_iff.1 hj).1;have ix:(i:Int)<(xs.length:Int):=by omega
 have jx:(j:Int)<(xs.length:Int):=by omega
 obtain⟨t0,t1,t2,t3,t4⟩:=(show aJ w q (i*5) x by simpa using h.at_ i x hi)
 obtain⟨u0,u1,u2,u3,u4⟩:=(show aJ w q (j*5) y by simpa using h.at_ j y hj)
 have lift:∀{o:Nat}{u:Value},w.cell? ⟨q,o,none⟩=some u->∀d os,(grow (redrawn w d) os).cell? ⟨q,o,none⟩=some u:=fun {o u} hh d os=>((below_regrown w d os).cell (p:=⟨q,o,none⟩) h.lq).trans hh
 have x0:=lift t0;have y0:=lift u0;have x1:=lift t1;have y1:=lift u1;have x2:=lift t2;have y2:=lift u2;have x3:=lift t3;have y3:=lift u3;have x4:=lift t4;have y4:=lift u4;have z0:=@cell_regrown w ⟨p,0,none⟩ (.slice (some ⟨q,0,none⟩) xs.length cap) h.c0;have k1:=gL (h.ok x (List.mem_of_getElem? hi));have k2:=gL (h.ok y (List.mem_of_getElem? hj));have cA:∀d os,Calls prog 234 #[.agg #[vI x.a,vI x.e,vI x.i,vI x.h,.bool x.j]] (grow (redrawn w d) os) fun e eU=>e=.returned (vI (rk x.a x.e))/\∃p:Regrown,eU=grow (redrawn w p.d) p.os:=fun d os=>Calls.regrown_of (qy _ _ k1.1 k1.2)
 have cB:∀d os,Calls prog 234 #[.agg #[vI y.a,vI y.e,vI y.i,vI y.h,.bool y.j]] (grow (redrawn w d) os) fun e eU=>e=.returned (vI (rk y.a y.e))/\∃p:Regrown,eU=grow (redrawn w p.d) p.os:=fun d os=>Calls.regrown_of (qy _ _ k2.1 k2.2)
 clear lift t0 t1 t2 t3 t4 u0 u1 u2 u3 u4 k1 k2 h hi hj;generalize rk x.a x.e=rx at *;generalize rk y.a y.e=ry at *;generalize x.a=a0 at *;generalize y.a=e0 at *;generalize x.e=a1 at *;generalize y.e=e1 at *;generalize x.i=a2 at *;generalize y.i=e2 at *;generalize x.h=a3 at *;generalize y.h=e3 at *;generalize x.j=a4 at *;generalize y.j=e4 at *;go_enter func250,ntmps250;go_wp2_with fail;refine gP ?_;repeat (go_big_quiet_step (first|(go_at_call_of 234 (Value.agg #[vI a0,vI a1,vI a2,vI a3,.bool a4]);exact cA _ _)|(go_at_call_of 234 (Value.agg #[vI e0,vI e1,vI e2,vI e3,.bool e4]);exact cB _ _)))
 refine wpQuiet_nil ?_;intro _ wP;obtain⟨⟨jZ,aZ⟩,kW⟩:=wP;subst kW;have bq:=below_regrown w jZ aZ;go_wp2;go_ret;exact⟨rfl,bq⟩
theorem AV{j:Nat}{y:N5}(hi:xs[i]?=some x)(hj:xs[j]?=some y)(k:Nat):gV ((xs.set i y).set j x) k=bC.Fv (gV xs) i j k:=by
 have li:=(List.getElem?_eq_some_iff.1 hi).1;have lj:=(List.getElem?_eq_some_iff.1 hj).1;unfold bC.Fv;by_cases e1:k=i
 ·subst e1;rw[if_pos rfl];by_cases e2:j=k
  ·subst e2;rw[lg (x:=x) (by rw[List.getElem?_set_self (by simpa using lj)]),lg hi]
  ·rw[lg (x:=y) (by rw[List.getElem?_set_ne e2,List.getElem?_set_self li]),lg hj]
 ·rw[if_neg e1];by_cases e2:k=j
  ·subst e2;rw[if_pos rfl,lg (x:=x) (by rw[List.getElem?_set_self (by simpa using lj)]),lg hi]
  ·rw[if_neg e2];unfold gV aG;rw[List.getElem?_set_ne (Ne.symm e2),List.getElem?_set_ne (Ne.symm e1)]
theorem Jw(w:World)(base p q mb n cap:Nat)(xs:List N5)(c:Nat)(h:lM w base p q mb n cap xs)(hn:n<=10000)(hl:xs.length<=1000)(hc:c<xs.length)(hu:bC.qX (gV xs) xs.length c):
  Calls prog 229 #[.pointer (some ⟨p,0,none⟩),vI (c:Int)] w fun e w'=>e=.returned (.tuple #[])/\∃n' ys,n'<=n+2*c/\lM w' base p q mb n' cap ys/\ys.Perm xs/\bC.Hp (gV ys) ys.length/\aA (kz p q mb) w w':=by
 have H:Hid (lM w base p q mb n cap xs/\bC.qX (gV xs) xs.length c):=⟨h,hu⟩
 clear h hu;go_enter func229,ntmps229;go_wp2;go_loopw[1] (fun v wr=>∃(d n':Nat) (ys:List N5),v=vI (d:Int)/\d<xs.length/\n'+2*d<=n+2*c/\ys.length=xs.length/\lM wr base p q mb n' cap ys/\ys.Perm xs/\bC.qX (gV ys) ys.length d/\aA (kz p q mb) w wr) (fun v _=>(intOf v).toNat)
 case atStart=>exact⟨c,n,xs,rfl,hc,by omega,rfl,H.out.1,List.Perm.refl _,H.out.2,aA.refl _ _⟩
 case round=>
  obtain⟨d,n',ys,rfl,hd,Mo,hle,hp,jN,hu,hk⟩:=hrel;rcases d with _|e
  ·have KE:Hid (lM wr base p q mb n' cap ys/\ys.Perm xs/\bC.Hp (gV ys) ys.length/\aA (kz p q mb) w wr):=⟨hp,jN,hu.done (.inl rfl),hk⟩
   clear hp jN hu hk;have d0:decide ((0:Int)<((0:Nat):Int))=false:=by simp
   go_wp2;refine bodyPost_end (v:=.tuple #[]) (by simp[results,results229,go_sem]) rfl ⟨rfl,n',ys,by omega,KE.out.1,KE.out.2.1,KE.out.2.2.1,KE.out.2.2.2⟩
  ·have d0:decide ((0:Int)<((e+1:Nat):Int))=true:=by simp
   obtain⟨x,hx⟩:∃x,ys[e+1]?=some x:=⟨_,List.getElem?_eq_getElem (by omega)⟩
   obtain⟨y,hy⟩:∃y,ys[e/2]?=some y:=⟨_,List.getElem?_eq_getElem (by omega)⟩
   have c1:=uz wr base p q mb n' cap ys (e+1) (e/2) x y hp hx hy;have KA:Hid (lM wr base p q mb n' cap ys/\ys.Perm xs/\bC.qX (gV ys) ys.length (e+1)/\aA (kz p q mb) w wr/\ys[e+1]?=some x/\ys[e/2]?=some y/\ys.length=xs.length):=⟨hp,jN,hu,hk,hx,hy,hle⟩
   have Yh:rk x.a x.e=gV ys (e+1):=(lg hx).symm;have O9:rk y.a y.e=gV ys (e/2):=(lg hy).symm;rw[Yh,O9]at c1;clear hp jN hu hk hx hy hle Yh O9;by_cases aK:gV ys (e+1)<gV ys (e/2)
   ·have dl:decide (gV ys (e+1)<gV ys (e/2))=true:=by simpa using aK
    rw[dl]at c1;have Iw:=ay aK;have ea:((e+1:Nat):Int)=(e:Int)+1:=by omega
    have eb:((e/2:Nat):Int)=(e:Int)/2:=by omega
    rw[ea,eb]at c1;clear aK dl ea eb;go_wp2_with fail;refine c1.mono ?_;clear c1;rintro e' w1 ⟨rfl,b1⟩;have c2:=uA w1 base p q mb n' cap ys (e+1) (e/2) x y (KA.out.1.later b1) (by omega) (by have:=KA.out.2.2.2.2.2.2;omega) KA.out.2.2.2.2.1 KA.out.2.2.2.2.2.1;have ea:((e+1:Nat):Int)=(e:Int)+1:=by omega
    have eb:((e/2:Nat):Int)=(e:Int)/2:=by omega
    rw[ea,eb]at c2;have KB:Hid (Below wr.1.size wr w1):=b1;clear ea eb b1;go_wp2_with fail;refine c2.mono ?_;clear c2;rintro e' w2 ⟨rfl,p2,k2⟩;have KE:Hid (lM w2 base p q mb (n'+1+1) cap ((ys.set (e+1) y).set (e/2) x)/\aA (kz p q mb) w w2):=⟨p2,(KA.out.2.2.2.1.trans (aA.bN KB.out)).trans k2⟩
    clear p2 k2;go_wp2;obtain⟨f1,f2,f3,f4,f5,f6,f7⟩:=KA.out;refine⟨⟨e/2,n'+1+1,(ys.set (e+1) y).set (e/2) x,by simp,by omega,by omega,by simpa using f7,KE.out.1,(bC.set_set_perm ys (e+1) (e/2) x y f5 f6).trans f2,?_,KE.out.2⟩,by simp[intOf];omega⟩;have eZ:=f3.step (by omega) (by omega) (by simpa using Iw.out);rw[show(e+1-1)/2=e/2 by omega]at eZ;have zT:gV ((ys.set (e+1) y).set (e/2) x)=bC.Fv (gV ys) (e+1) (e/2):=funext fun k=>AV f5 f6 k
    rw[zT];simpa using eZ
   ·have dl:decide (gV ys (e+1)<gV ys (e/2))=false:=by simpa using aK
    rw[dl]at c1;have KE:Hid (bC.Hp (gV ys) ys.length):=KA.out.2.2.1.done (.inr (by simp at aK ⊢;omega));have ea:((e+1:Nat):Int)=(e:Int)+1:=by omega
    have eb:((e/2:Nat):Int)=(e:Int)/2:=by omega
    rw[ea,eb]at c1;clear aK dl ea eb;go_wp2_with fail;refine c1.mono ?_;clear c1;rintro e' w1 ⟨rfl,b1⟩;have KB:Hid (Below wr.1.size wr w1):=b1;clear b1;go_wp2;refine bodyPost_ret (v:=.tuple #[]) (by simp[results,results229,go_sem]) rfl ⟨rfl,n',ys,by omega,KA.out.1.later KB.out,KA.out.2.1,KE.out,KA.out.2.2.2.1.trans (aA.bN KB.out)⟩
end tx
namespace tx
open Go.Proofs.Tryz
theorem Jy(w:World)(base p q mb n cap:Nat)(xs:List N5)(h:lM w base p q mb n cap xs)(hn:n<=10000)(hl:xs.length<=1000)(hu:bC.mf (gV xs) xs.length 0):
  Calls prog 252 #[.pointer (some ⟨p,0,none⟩),vI 0] w fun e w'=>e=.returned (.tuple #[])/\∃n' ys,n'<=n+2*xs.length/\lM w' base p q mb n' cap ys/\ys.Perm xs/\bC.Hp (gV ys) ys.length/\aA (kz p q mb) w w':=by
 have H:Hid (lM w base p q mb n cap xs/\bC.mf (gV xs) xs.length 0):=⟨h,hu⟩
 clear h hu;go_enter func252,ntmps252;go_wp2;go_loopw[1] (fun v wr=>∃(d n':Nat) (ys:List N5),v=vI (d:Int)/\(d<xs.length\/d=0)/\n'<=n+2*d/\ys.length=xs.length/\lM wr base p q mb n' cap ys/\ys.Perm xs/\bC.mf (gV ys) ys.length d/\aA (kz p q mb) w wr) (fun v _=>2000-(intOf v).toNat)
 case atStart=>exact⟨0,n,xs,rfl,.inr rfl,by omega,rfl,H.out.1,List.Perm.refl _,H.out.2,aA.refl _ _⟩
 case round=>
  obtain⟨d,n',ys,rfl,hd,Mo,hle,hp,jN,hu,hk⟩:=hrel;have KA:Hid (lM wr base p q mb n' cap ys/\ys.Perm xs/\bC.mf (gV ys) ys.length d/\aA (kz p q mb) w wr/\ys.length=xs.length):=⟨hp,jN,hu,hk,hle⟩
  clear hp jN hu hk hle;have dj:d<=1000:=by omega
  go_wp2;generalize wr=W0 at *;go_loopw[4,5] (fun v4 v5 wr=>∃l b:Nat,v4=vI (l:Int)/\v5=vI (b:Int)/\2*d+1<=b/\b<=2*d+3/\Below W0.1.size W0 wr/\(l=d\/(2*d+1<=l/\l<b/\l<ys.length/\gV ys l<gV ys d))/\(∀j,2*d+1<=j->j<b->j<ys.length->gV ys l<=gV ys j)) (fun _ v5 _=>2*d+3-(intOf v5).toNat)
  case atStart=>exact⟨d,2*d+1,rfl,by simp,by omega,by omega,aN,.inl rfl,fun j h1 h2=>by omega⟩
  case round=>
   obtain⟨l,b,rfl,rfl,IY,lu,aD,sS,I8⟩:=hrel;have hlen:=KA.out.2.2.2.2;by_cases UC:b<=2*d+2
   ·have db:decide ((b:Int)<=2*(d:Int)+2)=true:=by simp;omega
    have p0:=(KA.out.1.later aD).c0;rw[hlen]at p0;by_cases yx:b<xs.length
    ·have dn:decide ((b:Int)<(xs.length:Int))=true:=by simp;omega
     have mh:l<ys.length:=by omega
     obtain⟨x,hx⟩:∃x,ys[b]?=some x:=⟨_,List.getElem?_eq_getElem (by omega)⟩
     obtain⟨y,hy⟩:∃y,ys[l]?=some y:=⟨_,List.getElem?_eq_getElem mh⟩
     have c1:=uz wr base p q mb n' cap ys b l x y (KA.out.1.later aD) hx hy;rw[(lg hx).symm,(lg hy).symm]at c1;have KB:Hid (Below W0.1.size W0 wr/\(l=d\/(2*d+1<=l/\l<b/\l<ys.length/\gV ys l<gV ys d))/\(∀j,2*d+1<=j->j<b->j<ys.length->gV ys l<=gV ys j)/\ys.length=xs.length):=⟨aD,sS,I8,hlen⟩
     clear hx hy aD sS I8 hlen mh;by_cases aK:gV ys b<gV ys l
     ·have dl:decide (gV ys b<gV ys l)=true:=by simpa using aK
      rw[dl]at c1;have Iw:=ay aK;clear aK dl;go_wp2_with fail;refine c1.mono ?_;clear c1;rintro e' w1 ⟨rfl,b1⟩;have KC:Hid (Below W0.1.size W0 w1):=KB.out.1.trans (b1.mono KB.out.1.size);clear b1 p0;go_wp2;obtain⟨_,g1,g2,g3⟩:=KB.out;have g4:=Iw.out;refine⟨⟨b,b+1,rfl,by simp,by omega,by omega,KC.out,.inr ⟨by omega,by omega,by omega,?_⟩,fun j h1 h2 h3=>?_⟩,by simp[intOf];omega⟩
      ·rcases g1 with rfl|g1
       ·exact g4
       ·have:=g1.2.2.2;omega
      ·by_cases e:j=b
       ·subst e;exact Int.le_refl _
       ·have:=g2 j h1 (by omega) h3;omega
     ·have dl:decide (gV ys b<gV ys l)=false:=by simpa using aK
      rw[dl]at c1;have Iw:=ay aK;clear aK dl;go_wp2_with fail;refine c1.mono ?_;clear c1;rintro e' w1 ⟨rfl,b1⟩;have KC:Hid (Below W0.1.size W0 w1):=KB.out.1.trans (b1.mono KB.out.1.size);clear b1 p0;go_wp2;obtain⟨_,g1,g2,g3⟩:=KB.out;have g4:=Iw.out;refine⟨⟨l,b+1,rfl,by simp,by omega,by omega,KC.out,?_,fun j h1 h2 h3=>?_⟩,by simp[intOf];omega⟩
      ·rcases g1 with g1|g1
       ·exact .inl g1
       ·exact .inr ⟨g1.1,by omega,g1.2.2.1,g1.2.2.2⟩
      ·by_cases e:j=b
       ·subst e;omega
       ·exact g2 j h1 (by omega) h3
    ·have dn:decide ((b:Int)<(xs.length:Int))=false:=by simp;omega
     have KB:Hid (Below W0.1.size W0 wr/\(l=d\/(2*d+1<=l/\l<b/\l<ys.length/\gV ys l<gV ys d))/\(∀j,2*d+1<=j->j<b->j<ys.length->gV ys l<=gV ys j)/\ys.length=xs.length):=⟨aD,sS,I8,hlen⟩
     clear aD sS I8 hlen;go_wp2;obtain⟨g0,g1,g2,g3⟩:=KB.out;refine⟨⟨l,b+1,rfl,by simp,by omega,by omega,g0,?_,fun j h1 h2 h3=>?_⟩,by simp[intOf];omega⟩
     ·rcases g1 with g1|g1
      ·exact .inl g1
      ·exact .inr ⟨g1.1,by omega,g1.2.2.1,g1.2.2.2⟩
     ·exact g2 j h1 (by omega) h3
   ·have db:decide ((b:Int)<=2*(d:Int)+2)=false:=by simp;omega
    have KB:Hid (Below W0.1.size W0 wr/\(l=d\/(2*d+1<=l/\l<=2*d+2/\l<ys.length/\gV ys l<gV ys d))/\(∀j,2*d+1<=j->j<=2*d+2->j<ys.length->gV ys l<=gV ys j)):=⟨aD,by
     rcases sS with g|g
     ·exact .inl g
     ·exact .inr ⟨g.1,by omega,g.2.2.1,g.2.2.2⟩,fun j h1 h2 h3=>I8 j h1 (by omega) h3⟩
    clear sS I8 aD IY lu UC;by_cases OX:l=d
    ·have ql:((l:Int)==(d:Int))=true:=by simp;omega
     have KE:Hid (bC.Hp (gV ys) ys.length):=KA.out.2.2.1.done (fun h1=>by have:=KB.out.2.2 (2*d+1) (by omega) (by omega) h1;rwa[OX]at this) (fun h1=>by have:=KB.out.2.2 (2*d+2) (by omega) (by omega) h1;rwa[OX]at this);have HD:Hid (d<xs.length\/d=0):=hd;clear OX hlen hd;go_wp2;obtain⟨f1,f2,f3,f4,f5⟩:=KA.out;have f6:=HD.out;refine bodyPost_ret (v:=.tuple #[]) (by simp[results,results252,go_sem]) rfl ⟨rfl,n',ys,by omega,f1.later KB.out.1,f2,KE.out,f4.trans (aA.bN KB.out.1)⟩
    ·have ql:((l:Int)==(d:Int))=false:=by simp;omega
     have UT:2*d+1<=l/\l<=2*d+2/\l<ys.length/\gV ys l<gV ys d:=KB.out.2.1.resolve_left OX;obtain⟨x,hx⟩:∃x,ys[d]?=some x:=⟨_,List.getElem?_eq_getElem (by omega)⟩
     obtain⟨y,hy⟩:∃y,ys[l]?=some y:=⟨_,List.getElem?_eq_getElem UT.2.2.1⟩
     have c2:=uA wr base p q mb n' cap ys d l x y (KA.out.1.later KB.out.1) (by omega) (by omega) hx hy;have KX:Hid (ys[d]?=some x/\ys[l]?=some y/\2*d+1<=l/\l<=2*d+2/\l<ys.length/\gV ys l<gV ys d):=⟨hx,hy,UT⟩
     clear hx hy UT OX hlen;go_wp2_with fail;refine c2.mono ?_;clear c2;rintro e' w2 ⟨rfl,p2,k2⟩;have KE:Hid (lM w2 base p q mb (n'+1+1) cap ((ys.set d y).set l x)/\aA (kz p q mb) w w2):=⟨p2,(KA.out.2.2.2.1.trans (aA.bN KB.out.1)).trans k2⟩
     clear p2 k2;go_wp2;obtain⟨f1,f2,f3,f4,f5⟩:=KA.out;obtain⟨g1,g2,g3,g4,g5,g6⟩:=KX.out;refine⟨⟨l,n'+1+1,(ys.set d y).set l x,rfl,.inl (by omega),by omega,by simpa using f5,KE.out.1,(bC.set_set_perm ys d l x y g1 g2).trans f2,?_,KE.out.2⟩,by simp[intOf];omega⟩;have eZ:=f3.step (l:=l) (by omega) g5 g6 (fun h1=>KB.out.2.2 _ (by omega) (by omega) h1) (fun h1=>KB.out.2.2 _ (by omega) (by omega) h1);have zT:gV ((ys.set d y).set l x)=bC.Fv (gV ys) d l:=funext fun k=>AV g1 g2 k
     rw[zT];simpa using eZ
end tx
namespace tx
open Go.Proofs.Tryz
variable {W:World}{xs:List N5}
theorem aJ.jY{V:World}{b o:Nat}{s:N5}(h:aJ W b o s)(e:V.1[b]?=W.1[b]?):aJ V b o s:=
 ⟨(World.cell?_of_block (a:=⟨b,o,none⟩) e).trans h.c0,(World.cell?_of_block (a:=⟨b,o+1,none⟩) e).trans h.c1,(World.cell?_of_block (a:=⟨b,o+2,none⟩) e).trans h.c2,(World.cell?_of_block (a:=⟨b,o+3,none⟩) e).trans h.c3,(World.cell?_of_block (a:=⟨b,o+4,none⟩) e).trans h.c4⟩
theorem lM.trunc{base p q mb n cap:Nat}(h:lM W base p q mb n cap xs)(m:Nat)(hm:m<=xs.length):lM (W.setCell ⟨p,0,none⟩ (.slice (some ⟨q,0,none⟩) m cap)) base p q mb n cap (xs.take m):=by
 have Ik:(xs.take m).length=m:=by rw[List.length_take];omega
 have hq:(W.setCell ⟨p,0,none⟩ (.slice (some ⟨q,0,none⟩) m cap)).1[q]?=W.1[q]?:=Below.heap_setCell _ _ _ _ (fun e=>h.pq e.symm);refine⟨by rw[Ik];exact ax h.c0,(ae (by omega)).trans h.c1,fun j=>by rw[World.frozen?_setCell];exact h.fz j,fun i s e=>?_,fun j hj=>?_,by have:=h.cp;omega,h.mp.aj (Below.heap_setCell _ _ _ _ (fun e=>h.pm e.symm)),fun s hs=>h.ok s (List.mem_of_mem_take hs),h.pq,h.pm,h.qm,h.bp,h.bq,h.bm,by simpa[World.setCell]using h.lp,by simpa[World.setCell]using h.lq⟩
 ·rw[List.getElem?_take]at e;split at e
  ·exact(h.at_.aj hq) i s e
  ·cases e
 ·exact(h.rm.aj hq) j (by rw[Ik]at hj;have:m*5<=xs.length*5:=Nat.mul_le_mul_right 5 hm;omega)
theorem Vx{m:Nat}{x y:N5}(hl:xs.length=m+1)(hx:xs[0]?=some x)(hy:xs[m]?=some y):((xs.set 0 y).set m x)[m]?=some x/\xs.Perm (x::((xs.set 0 y).set m x).take m):=by
 have h1:((xs.set 0 y).set m x)[m]?=some x:=by rw[List.getElem?_set_self (by simp;omega)]
 have h2:=bC.set_set_perm xs 0 m x y hx hy;have so:((xs.set 0 y).set m x).length=m+1:=by simpa using hl
 refine⟨h1,h2.symm.trans ?_⟩;generalize (xs.set 0 y).set m x=zs at *
 have h3:zs=zs.take m++[x]:=by
  have e:zs.take (m+1)=zs:=List.take_of_length_le (by omega);have:=List.take_add_one (l:=zs) (i:=m);rw[h1,e]at this;simpa using this
 exact(List.Perm.of_eq h3).trans List.perm_append_comm
theorem Jz(w:World)(base p q mb n cap m:Nat)(xs:List N5)(x:N5)(h:lM w base p q mb n cap xs)(hn:n<=9000)(hl:xs.length=m+1)(I8:m<=100)(hx:xs[0]?=some x)(hu:bC.Hp (gV xs) xs.length):
  Calls prog 230 #[.pointer (some ⟨p,0,none⟩)] w fun e w'=>e=.returned (.agg #[vI x.a,vI x.e,vI x.i,vI x.h,.bool x.j])/\∃n' ys,n'<=n+2+2*m/\lM w' base p q mb n' cap ys/\xs.Perm (x::ys)/\bC.Hp (gV ys) ys.length/\aA (kz p q mb) w w':=by
 obtain⟨y,hy⟩:∃y,xs[m]?=some y:=⟨_,List.getElem?_eq_getElem (by omega)⟩
 obtain⟨W0,dS⟩:∃W,W=w.alloc (.cells #[vI 0,vI 0,vI 0,vI 0,.bool false] 70):=⟨_,rfl⟩
 have b0:Below w.1.size w W0:=by rw[dS];exact aN.alloc aU _
 have h0:=h.later b0;have zr:W0.1[w.1.size]?=some (.cells #[vI 0,vI 0,vI 0,vI 0,.bool false] 70 (0,0)):=by rw[dS];exact heap_alloc_new w _
 have p0:=h0.c0;rw[hl,dS]at p0;have sb:IntKind.i64.wrap (((m+1:Nat):Int)-1)=(m:Int):=by simp[IntKind.wrap,IntKind.bits,IntKind.signed];omega
 have c1:=uA W0 base p q mb n cap xs 0 m x y h0 (by omega) (by omega) hx hy;obtain⟨lL,nL⟩:=Vx hl hx hy
 have El:bC.mf (gV (((xs.set 0 y).set m x).take m)) m 0:=by
  rw[hl]at hu;have hd:=bC.mf.PV hu;have zT:gV ((xs.set 0 y).set m x)=bC.Fv (gV xs) 0 m:=funext fun k=>AV hx hy k
  rw[<-zT]at hd;refine hd.congr (fun i hi=>?_);unfold gV aG;rw[List.getElem?_take,if_pos hi]
 have H:Hid (Below w.1.size w W0/\w.1.size<W0.1.size/\W0.1[w.1.size]?=some (.cells #[vI 0,vI 0,vI 0,vI 0,.bool false] 70 (0,0))/\((xs.set 0 y).set m x)[m]?=some x/\xs.Perm (x::((xs.set 0 y).set m x).take m)/\bC.mf (gV (((xs.set 0 y).set m x).take m)) m 0/\bI x=true/\p≠w.1.size/\q≠w.1.size/\mb≠w.1.size):=⟨b0,by rw[dS];simp,zr,lL,nL,El,h.ok x (List.mem_of_getElem? hx),by have:=h.lp;omega,by have:=h.lq;omega,by have:=h.mp.lt;omega⟩
 have qV:((xs.set 0 y).set m x).length=m+1:=by simpa using hl
 clear h h0 b0 zr lL nL El hu hx hy;generalize (xs.set 0 y).set m x=zs at *;go_enter func230,ntmps230;go_wp2_with fail;rw[<-dS];clear dS;refine c1.mono ?_;clear c1 p0;rintro e w1 ⟨rfl,p1,k1⟩;have e0:=p1.c0;rw[qV]at e0;obtain⟨t0,t1,t2,t3,t4⟩:=(show aJ w1 q (m*5) x by simpa using p1.at_ m x H.out.2.2.2.1)
 have mx:(m:Int)<((m+1:Nat):Int):=by omega
 obtain⟨W1,gZ⟩:∃W,W=w1.alloc (.cells #[vI x.a,vI x.e,vI x.i,vI x.h,.bool x.j] 70):=⟨_,rfl⟩
 have b1:Below w1.1.size w1 W1:=by rw[gZ];exact aN.alloc aU _
 have z1:W1.1.size=w1.1.size+1:=by rw[gZ];simp
 have e1:W1.cell? ⟨p,0,none⟩=some (.slice (some ⟨q,0,none⟩) (m+1) cap):=(b1.cell (p:=⟨p,0,none⟩) p1.lp).trans e0;have f1:=(p1.later b1).fz 0;have zQ:=p1.cp;rw[qV]at zQ;have bx1:aJ W1 w1.1.size 0 x:=by rw[gZ];exact aJ.box w1 x _
 have pt:=(p1.later b1).trunc m (by omega);obtain⟨W2,y9⟩:∃W,W=W1.setCell ⟨p,0,none⟩ (.slice (some ⟨q,0,none⟩) m cap):=⟨_,rfl⟩
 rw[<-y9]at pt;have wI:p≠w1.1.size:=by have:=p1.lp;omega
 have Xx:aJ W2 w1.1.size 0 x:=by
  rw[y9];exact aJ.jY bx1 (Below.heap_setCell _ _ _ _ (fun e=>wI e.symm))
 have K2:Hid (lM W2 base p q mb (n+1+1) cap (zs.take m)/\aJ W2 w1.1.size 0 x/\aA (kz p q mb) w W2/\w1.1.size<W2.1.size/\W2.1[w.1.size]?=some (.cells #[vI 0,vI 0,vI 0,vI 0,.bool false] 70 (0,0))/\w.1.size<w1.1.size/\p≠w1.1.size/\q≠w1.1.size/\mb≠w1.1.size):=by
  have kk:aA (kz p q mb) w1 W2:=by
   rw[y9];exact(aA.bN b1).trans (aA.rW _ _ (.inl rfl))
  have e8:¬kz p q mb w.1.size:=by
   rintro (e|e|e)
   ·exact H.out.2.2.2.2.2.2.2.1 e.symm
   ·exact H.out.2.2.2.2.2.2.2.2.1 e.symm
   ·exact H.out.2.2.2.2.2.2.2.2.2 e.symm
  have YC:=k1.trans kk;exact⟨pt,Xx,(aA.bN H.out.1).trans YC,by rw[y9];simp[World.setCell,z1],(YC.block _ H.out.2.1 e8).trans H.out.2.2.1,Nat.lt_of_lt_of_le H.out.2.1 k1.size,wI,by have:=p1.lq;omega,by have:=p1.mp.lt;omega⟩
 clear p1 k1 b1 z1 bx1 Xx pt wI;rw[gZ]at y9 e1 f1;have eL:(m:Int)<=(cap:Int):=by omega
 go_upto_region 5 with fail
 rw[<-y9];clear y9 gZ e0 e1 f1 t0 t1 t2 t3 t4 W1;have hk:=gL H.out.2.2.2.2.2.2.1;obtain⟨lb,Gb⟩:∃lb,lb=w1.1.size:=⟨_,rfl⟩
 rw[<-Gb]at K2 ⊢;have pa:Hid (lb=w1.1.size):=Gb;clear Gb;have hS:(fun X:World=>X.cell? ⟨p,1,none⟩=some (.map (some mb))/\aJ X lb 0 x) W2.drew:=⟨K2.out.1.c1,K2.out.2.1.below ((Below.refl W2.1.size W2).drew) K2.out.2.2.2.1⟩
 have hm:∀w:World,(method 452 70 (.agg #[vI x.a,vI x.e,vI x.i,vI x.h,.bool x.j]) "loop.example/g00153/impl.cell").run prog w=.ok (203,.agg #[vI x.a,vI x.e,vI x.i,vI x.h,.bool x.j]) w:=fun _=>by kernel_rfl
 refine aY (fun _=>false) (fun X:World=>X.cell? ⟨p,1,none⟩=some (.map (some mb))/\aJ X lb 0 x) (by kernel_rfl) ?_;have KD:Hid (Below W2.1.size W2 W2.drew):=aN.drew;generalize W2.drew=Wd at *;refine cu 0 rfl hS ?_;simp only[Act.put];refine cu 1 rfl hS ?_;simp only[Act.put];refine cu 2 rfl hS ?_;simp only[Act.put];refine iZ 3 ?_ rfl ?_ hS ?_;rotate_left
 ·(intro w aH;obtain⟨s1,⟨a0,a1,a2,a3,a4⟩⟩:=aH;go_simp;first|done|with_reducible rfl)
 simp only[Act.put];refine iZ 4 ?_ rfl ?_ hS ?_;rotate_left
 ·(intro w aH;obtain⟨s1,⟨a0,a1,a2,a3,a4⟩⟩:=aH;go_simp;first|done|with_reducible rfl)
 simp only[Act.put];refine cu 5 rfl hS ?_;simp only[Act.put];refine dJ 6 rfl (fun K hK=>?_);go_simp;refine(gI Wd x).mono ?_;rintro e X2 ⟨rfl,b2⟩;have bX:Below W2.1.size W2 X2:=KD.out.trans (b2.mono KD.out.size);have P2:=K2.out.1.later bX;obtain⟨Y,eZ,sZ,mW,uo⟩:=P2.mp.drop hk.1 hk.2 0;have P3:=P2.Bv mW sZ uo;have gF:(fun X:World=>X.cell? ⟨p,1,none⟩=some (.map (some mb))/\aJ X lb 0 x) X2:=⟨P2.c1,K2.out.2.1.below bX K2.out.2.2.2.1⟩
 have K3:Hid (lM Y base p q mb (n+1+1) cap (zs.take m)/\aJ Y lb 0 x/\aA (kz p q mb) w Y/\lb<Y.1.size/\Y.1[w.1.size]?=some (.cells #[vI 0,vI 0,vI 0,vI 0,.bool false] 70 (0,0))/\w.1.size<lb/\p≠lb/\q≠lb/\mb≠lb):=by
  obtain⟨_,g1,g2,g3,g4,g5,g6,g7,g8⟩:=K2.out;have dK:=bX.size;refine⟨P3,aJ.jY (gF.2) (mW.block lb (by omega) (Ne.symm g8)),(g2.trans (aA.bN bX)).trans (aA.mJ mW (.inr (.inr rfl))),by rw[uo];omega,?_,g5,g6,g7,g8⟩;exact(mW.block _ (by omega) (fun e=>H.out.2.2.2.2.2.2.2.2.2 e.symm)).trans ((bX.block _ (by omega)).trans g4)
 simp only[jE]at eZ;refine hK.out _ _ (fun _=>gF) ?_;have jX:(fun X:World=>X.cell? ⟨p,1,none⟩=some (.map (some mb))/\aJ X lb 0 x) Y:=⟨K3.out.1.c1,K3.out.2.1⟩
 clear hK K gF hS P2 P3 bX KD sZ mW uo hm hk b2 K2;refine dJ 7 rfl (fun K hK=>?_);go_simp;refine hK.out _ _ (fun _=>jX) ?_;clear hK K eZ jX;refine df (by kernel_rfl) ?_ _;have aK:(zs.take m).length=m:=by rw[List.length_take];omega
 have c3:=Jy Y base p q mb (n+1+1) cap (zs.take m) K3.out.1 (by omega) (by omega) (by rw[aK];exact H.out.2.2.2.2.2.1);rw[aK]at c3;have Iw:=ay aK;clear aK;go_wp2_with fail;refine c3.mono ?_;clear c3;rintro e w5 ⟨rfl,n5,ys,eN,p5,YU,tu,k5⟩;have Vw:∀b,b≠p->b≠q->b≠mb->¬kz p q mb b:=fun b h1 h2 h3 h=>by rcases h with h|h|h;exact h1 h;exact h2 h;exact h3 h
 obtain⟨_,g1,g2,g3,g4,g5,g6,g7,g8⟩:=K3.out;obtain⟨t0,t1,t2,t3,t4⟩:=aJ.jY g1 (k5.block lb g3 (Vw lb (Ne.symm g6) (Ne.symm g7) (Ne.symm g8)));have BG:=(k5.block w.1.size (by omega) (Vw _ (Ne.symm H.out.2.2.2.2.2.2.2.1) (Ne.symm H.out.2.2.2.2.2.2.2.2.1) (Ne.symm H.out.2.2.2.2.2.2.2.2.2))).trans g4;have r0:w5.cell? ⟨w.1.size,0,none⟩=some (vI 0):=by rw[cell_of_row w5 _ 0 _ _ _ BG];rfl
 have r1:w5.cell? ⟨w.1.size,1,none⟩=some (vI 0):=by rw[cell_of_row w5 _ 1 _ _ _ BG];rfl
 have r2:w5.cell? ⟨w.1.size,2,none⟩=some (vI 0):=by rw[cell_of_row w5 _ 2 _ _ _ BG];rfl
 have r3:w5.cell? ⟨w.1.size,3,none⟩=some (vI 0):=by rw[cell_of_row w5 _ 3 _ _ _ BG];rfl
 have r4:w5.cell? ⟨w.1.size,4,none⟩=some (.bool false):=by rw[cell_of_row w5 _ 4 _ _ _ BG];rfl
 have q0:w5.frozen? ⟨w.1.size,0,none⟩=false:=frozen_of_row w5 _ 0 _ _ BG;have q1:w5.frozen? ⟨w.1.size,1,none⟩=false:=frozen_of_row w5 _ 1 _ _ BG;have q2:w5.frozen? ⟨w.1.size,2,none⟩=false:=frozen_of_row w5 _ 2 _ _ BG;have q3:w5.frozen? ⟨w.1.size,3,none⟩=false:=frozen_of_row w5 _ 3 _ _ BG;have q4:w5.frozen? ⟨w.1.size,4,none⟩=false:=frozen_of_row w5 _ 4 _ _ BG;have KE:Hid (n5<=n+2+2*m/\lM w5 base p q mb n5 cap ys/\xs.Perm (x::ys)/\bC.Hp (gV ys) ys.length/\aA (kz p q mb) w w5):=⟨by omega,p5,H.out.2.2.2.2.1.trans (List.Perm.cons x YU.symm),tu,g2.trans k5⟩
 have HP:Hid (p≠w.1.size/\q≠w.1.size/\mb≠w.1.size):=H.out.2.2.2.2.2.2.2;simp only[Nat.zero_add]at t0 t1 t2 t3 t4;clear g1 g2 g3 g4 g5 g6 g7 g8 BG Vw p5 YU tu k5 eN H K3 qV Iw zQ;go_wp2;refine bodyPost_ret (v:=.agg #[vI x.a,vI x.e,vI x.i,vI x.h,.bool x.j]) (by simp[results,results230,go_sem,r0,r1,r2,r3,r4]) rfl ⟨rfl,n5,ys,KE.out.1,?_,KE.out.2.2.1,KE.out.2.2.2.1,?_⟩
 ·refine KE.out.2.1.aL (by simp[World.setCell]) (fun b hb=>?_)
  have yx:b≠w.1.size:=by
   rcases hb with rfl|rfl|rfl
   ·exact HP.out.1
   ·exact HP.out.2.1
   ·exact HP.out.2.2
  exact(Below.heap_setCell _ _ _ _ yx).trans ((Below.heap_setCell _ _ _ _ yx).trans ((Below.heap_setCell _ _ _ _ yx).trans ((Below.heap_setCell _ _ _ _ yx).trans (Below.heap_setCell _ _ _ _ yx))))
 ·have kk:=KE.out.2.2.2.2;refine⟨kk.os,kk.tape,kk.output,by simpa[World.setCell]using kk.size,fun b hb zZ=>?_⟩;have yx:b≠w.1.size:=by omega
  exact((Below.heap_setCell _ _ _ _ yx).trans ((Below.heap_setCell _ _ _ _ yx).trans ((Below.heap_setCell _ _ _ _ yx).trans ((Below.heap_setCell _ _ _ _ yx).trans (Below.heap_setCell _ _ _ _ yx))))).trans (kk.block b hb zZ)
end tx
namespace tx
open Go.Proofs.Tryz
variable {x:N5}
def kv(s:N5):Int:=rk s.a s.e
def TA:Value->Nat
 | .slice _ n _=>n
 | _=>0
theorem Dr{xs:List N5}{i:Nat}(h:xs[i]?=some x):gV xs i=kv x:=lg h
theorem YR{ys:List N5}(h:bC.Hp (gV ys) ys.length)(hx:ys[0]?=some x):∀b∈ys,kv x<=kv b:=fun b hb=>by
 obtain⟨i,hi,rfl⟩:=List.getElem_of_mem hb;have:=h.top i hi;rwa[Dr hx,Dr (List.getElem?_eq_getElem hi)]at this
theorem CE(w:World)(base p q mb n cap:Nat)(xs:List N5)(h:lM w base p q mb n cap xs)(hn:n<=5000)(hl:xs.length<=13)(hu:bC.Hp (gV xs) xs.length)(hd:xs.Pairwise (fun a b=>kv a≠kv b)):
  Calls prog 206 #[.pointer (some ⟨p,0,none⟩)] w fun e w'=>∃v out,e=.returned v/\fA w' w.1.size v out/\out.Perm xs/\out.Pairwise (fun a b=>kv a<kv b)/\aA (kz p q mb) w w':=by
 have En:p<w.1.size/\q<w.1.size/\mb<w.1.size:=⟨h.lp,h.lq,h.mp.lt⟩
 have H:Hid (lM w base p q mb n cap xs/\bC.Hp (gV xs) xs.length/\xs.Pairwise (fun a b=>kv a≠kv b)/\p<w.1.size/\q<w.1.size/\mb<w.1.size):=⟨h,hu,hd,En⟩
 clear h hu hd En;go_enter func206,ntmps206;go_wp2;go_loopw[3] (fun v wr=>∃(n':Nat) (ys out:List N5),fA wr w.1.size v out/\lM wr base p q mb n' cap ys/\bC.Hp (gV ys) ys.length/\(out++ys).Perm xs/\out.Pairwise (fun a b=>kv a<kv b)/\(∀a∈out,∀b∈ys,kv a<kv b)/\n'+60*ys.length<=n+60*xs.length/\aA (kz p q mb) w wr) (fun v _=>100-TA v)
 case atStart=>exact⟨n,xs,[],fA.nil _ _,H.out.1,H.out.2.1,by simp,by simp,by simp,Nat.le_refl _,aA.refl _ _⟩
 case round=>
  obtain⟨n',ys,out,eX,hp,hu,jN,Rx,aK,Mo,hk⟩:=hrel;obtain⟨a3,k3,rfl,-⟩:=eX.form;have hlen:out.length+ys.length=xs.length:=by have:=jN.length_eq;simpa using this
  have p0:=hp.c0
  cases RA:ys with
  | nil=>
   subst RA;have KE:Hid (fA wr w.1.size (.slice a3 out.length k3) out/\out.Perm xs/\out.Pairwise (fun a b=>kv a<kv b)/\aA (kz p q mb) w wr):=⟨eX,by simpa using jN,Rx,hk⟩
   simp only[List.length_nil]at p0;clear eX hp hu jN Rx aK hk hlen Mo;go_wp2;go_ret;exact⟨_,out,rfl,KE.out.1,KE.out.2.1,KE.out.2.2.1,KE.out.2.2.2⟩
  | cons x r=>
   have hx:ys[0]?=some x:=by rw[RA];rfl
   have Pe:ys.length=r.length+1:=by rw[RA];rfl
   have c1:=Jz wr base p q mb n' cap r.length ys x hp (by omega) Pe (by omega) hx hu;rw[Pe]at p0;have d0:decide ((0:Int)<((r.length+1:Nat):Int))=true:=by simp
   have F6:(out++ys).Pairwise (fun a b=>kv a≠kv b):=(jN.symm.pairwise_iff (fun {a b} (h:kv a≠kv b)=>h.symm)).1 H.out.2.2.1;have KA:Hid (fA wr w.1.size (.slice a3 out.length k3) out/\(out++ys).Perm xs/\out.Pairwise (fun a b=>kv a<kv b)/\(∀a∈out,∀b∈ys,kv a<kv b)/\aA (kz p q mb) w wr/\(∀b∈ys,kv x<=kv b)/\x∈ys/\(out++ys).Pairwise (fun a b=>kv a≠kv b)/\ys.length=r.length+1):=⟨eX,jN,Rx,aK,hk,YR hu hx,List.mem_of_getElem? hx,F6,Pe⟩
   clear eX hp hu jN Rx aK hk hx F6 RA;go_wp2_with fail;refine c1.mono ?_;clear c1 p0;rintro e w1 ⟨rfl,n1,zs,Rt,p1,M5,Mr,k1⟩;obtain⟨g1,g2,g3,g4,g5,g6,g7,g8,g9⟩:=KA.out
   have I9:∀b,w.1.size<=b->¬kz p q mb b:=fun b hb h=>by
    obtain⟨_,_,_,l1,l2,l3⟩:=H.out;rcases h with h|h|h<;>omega
   have jB:fA w1 w.1.size (.slice a3 out.length k3) out:=g1.aL (fun b hb aK _=>k1.block b aK (I9 b hb));obtain⟨V,hV⟩:∃V,V=w1.alloc (.cells #[vI x.a,vI x.e,vI x.i,vI x.h,.bool x.j] 70):=⟨_,rfl⟩
   have bV:Below w1.1.size w1 V:=by rw[hV];exact aN.alloc aU _
   have gG:dm V w1.1.size 0 [x]:=by rw[hV];exact(aJ.box w1 _ _).one
   have Tk:w.1.size<=w1.1.size:=Nat.le_trans g5.size k1.size;obtain⟨v',Y,hr,iY,fI,fK⟩:=uC (jB.later bV) [x] (by simp;omega) 50 w1.1.size 0 1 gG (by have:=bV.size;omega);have qV:zs.length=r.length:=by have:=M5.length_eq;simp at this;omega
   have Yw:∀b∈zs,kv x<kv b:=fun b hb=>by
    have h1:=g6 b (M5.mem_iff.2 (by simp[hb]));have h2:(x::zs).Pairwise (fun a b=>kv a≠kv b):=(M5.pairwise_iff (fun {a b} (h:kv a≠kv b)=>h.symm)).1 ((List.pairwise_append.1 g8).2.1);have h3:=(List.pairwise_cons.1 h2).1 b hb;omega
   have kY:aA (kz p q mb) w Y:=by
    have k0:aA (kz p q mb) w V:=(g5.trans k1).trans (aA.bN bV);exact⟨fI.os.trans k0.os,fI.tape.trans k0.tape,fI.output.trans k0.output,Nat.le_trans k0.size fI.size,fun b hb zZ=>(fI.block b (Nat.lt_of_lt_of_le hb k0.size) (fun e=>by have:=(jB.lt e.symm).1;omega)).trans (k0.block b hb zZ)⟩
   have KE:Hid (fA Y w.1.size v' (out++[x])/\lM Y base p q mb n1 cap zs/\bC.Hp (gV zs) zs.length/\((out++[x])++zs).Perm xs/\(out++[x]).Pairwise (fun a b=>kv a<kv b)/\(∀a∈out++[x],∀b∈zs,kv a<kv b)/\n1+60*zs.length<=n+60*xs.length/\aA (kz p q mb) w Y):=by
    refine⟨iY,?_,Mr,?_,?_,?_,by omega,kY⟩
    ·refine(p1.later bV).aL fI.size (fun b hb=>fI.block b ?_ (fun e=>?_))
     ·have:=bV.size;rcases hb with rfl|rfl|rfl
      ·have:=p1.lp;omega
      ·have:=p1.lq;omega
      ·have:=p1.mp.lt;omega
     ·exact I9 b (jB.lt e.symm).1 hb
    ·rw[List.append_assoc];exact((List.Perm.refl out).append (M5.symm:(x::zs).Perm ys)).trans g2
    ·rw[List.pairwise_append];exact⟨g3,by simp,fun a ha b hb=>by simp at hb;subst hb;exact g4 a ha b g7⟩
    ·intro a ha b hb;rcases List.mem_append.1 ha with ha|ha
     ·exact g4 a ha b (M5.mem_iff.2 (by simp[hb]))
     ·simp at ha;subst ha;exact Yw b hb
   have HL:Hid (out.length<13/\∃a c,v'=.slice a (out++[x]).length c):=⟨by omega,by obtain⟨a,c,e,_⟩:=iY.form;exact⟨a,c,e⟩⟩
   rw[hV]at hr;clear hV bV gG iY fI fK jB I9 qV Yw kY g1 g2 g3 g4 g5 g6 g7 g8 g9 p1 M5 Mr k1 Tk;simp only[List.length_cons,List.length_nil,Nat.zero_add]at hr;go_wp2_with (at_builtin;refine dF _ rfl (.tmp 10) (.tmp 13) 50 rfl _ _ _ _ rfl rfl hr ?_);obtain⟨g1,a,c,rfl⟩:=HL.out;exact⟨⟨n1,zs,out++[x],KE.out⟩,by simp[TA];omega⟩
end tx
end Go.Proofs.YtajmlpgodcfghaaGreatDoor
