/- Part 11 of the proof. -/
import Derived.Test.YtejkelcaljmnoaaGreatDoorHy10
set_option maxRecDepth 100000
set_option maxHeartbeats 4000000
set_option linter.all false
namespace Go.Proofs.YtejkelcaljmnoaaGreatDoor
open Go.Conc Go.Hx Go.Lo Go.Proofs.Tryz
attribute [local irreducible] EY KO K6 Kw Kc Ku Kd Program.underlying
theorem HJ {P:Program}{N:Nat}{e:Env}{L:Ka}{d:Option Tmp}{t u ty:TypeId}{ps:String}{af:Array Edge}{g:Option (Nat×Bool)}{x y:Operand}{a b:Bool}(hu:P.underlying t=some .bool)(hx:ev e x=some (.bool a):=by rfl)(hy:ev e y=some (.bool b):=by rfl):EY P N e L ⟨d, .binOp .neq t x y u,ty,ps,af,g⟩ (.bool (a !=b)):=by
 unfold EY;intro c hc
 refine cN (λ_=>rfl) λK f=> ?_;rw[hc.ev hx,hc.ev hy];have i:eqGuard .neq t x y (.bool a) (.bool b)=pure ():=by unfold eqGuard;rfl
 show Kz P (eqGuard .neq t x y (.bool a) (.bool b)>>=λ_=>binOp .neq t (.bool a) (.bool b)) K L;rw[i];show Kz P (do pure (.bool (!(<-Op.equal t (.bool a) (.bool b))))) K L;rw[aq,dg,Op.equalIn.eq_def,aq,aE hu];exact f
section
variable {o R:Nat}{B B':RB}{S S' T T':St}{X:RX}{L L1 L':Ka}{u v k2 b c:Nat}{x y:PS}{k k':Nat×Nat}{N:Nat->Nat}{P:Nat->Prop}
theorem tG (p:(T.wt.map (·.1)).Nodup)(k':Nat×Nat):(T.IN b k).rowAt k'=if k'=k then T.rowAt k++[b] else T.rowAt k':=by
 by_cases d: ∀e∈T.wt,e.1≠k
 ·have e:(T.IN b k).wt=T.wt++[(k,[b])]:=eU d;unfold St.rowAt;rw[e,tz];by_cases h:k'=k
  ·subst h;rw[if_pos rfl,sS.2 (λe he=>by simpa using d e he)];simp
  ·rw[if_neg h];cases T.wt.find? λe=>decide (e.1=k') with
   |none=>simp[ft h]
   |some e=>rfl
 ·have f:k∈T.wt.map (·.1):=ti λa=>d λe he n=>a (cm.2 ⟨e,he,n⟩);obtain⟨l,m,j,g,i,o⟩:=cu p f;have e:(T.IN b k).wt=l++(k,m++[b])::j:=by show KT b k T.wt=_;rw[g,gG i o]
  unfold St.rowAt;rw[e,g,tz,tz,tz];by_cases h:k'=k
  ·subst h;rw[if_pos rfl,sS.2 (λe he=>by simpa using i e he)];simp
  ·rw[if_neg h];simp[ON,ft h]
theorem Ak.calm (h:MI (λ_=>False) N T)(h0: ∀q∈T.ps,q.1≠0) (ho: ∀y,(o,y)∈T.ps->y.st≠4/\y.st≠5):Ak o T 0:=λe he c hc y a=>by
 have d:=h.c e he c hc y a;obtain⟨z,f,b⟩:=h.i.rm e he c hc;rw[<-aS h.i.g.pn a f] at b;refine⟨⟨λj=>(d j).elim,λe=>absurd e (h0 _ a)⟩,λk=> ?_⟩;subst k;have:=ho y a;have m:=b.s;have l:=(h.i.ke e he).2;exact(d bl).elim
theorem Ak.asks (h:MI (· =b) N T)(hb:(b,x)∈T.ps)(h1:x.st=1):Ak b T b:=λe he c hc y a=>⟨⟨λf=>h.c e he c hc y a f,λd=>by subst d;rw[aS h.i.g.pn a hb];exact h1⟩,λe=>e⟩
theorem D3 {l:List Nat}:(wo l b).length<l.length↔b∈l:=by
 unfold wo;rw[List.length_filter_lt_length_iff_exists];simp
def St.JX (T:St)(b:Nat)(x:PS)(w:Bool):St:=match T.Jf b x (if w then 5 else 4) (if w then 8 else 64) with
 |(some i,_)=>T.ID b (x.r0 (KB i))
 |(none,S)=>S
theorem Af {e:(Nat×Nat)×List Nat}(he:e∈(T.IN b k).wt)(hc:c∈e.2):c=b\/ ∃e'∈T.wt,c∈e'.2:=by
 have a:e∈KT b k T.wt:=he;unfold KT at a
 split at a
 ·rcases cE.1 a with h|h
  ·exact .inr ⟨e,h,hc⟩
  ·simp at h;rw[h] at hc;simp at hc;exact .inl hc
 ·obtain⟨e',d,f⟩:=cm.1 a
  split at f
  ·rw[<-f] at hc;rcases cE.1 hc with h|h
   ·exact .inr ⟨e',d,h⟩
   ·simp at h;exact .inl h
  ·rw[f] at d;exact .inr ⟨e,d,hc⟩
theorem Ki.IN (h:Ki o R B T X L)(p:(T.wt.map (·.1)).Nodup)(hu:X.nu u≠0)(g:k2=4\/k2=5)(hb:(b,x)∈T.ps)(ha:(B.e b).ad=x.r 1/\(B.e b).mn=x.r 2){d:Sl}(hp:MM L 3 (B.a (2*X.nu u+(k2-3))) (KM (T.rowAt (u,k2))++[.int .i64 (b:Nat)]) d L1)(i:K4 L1 (B.q (X.nu u)) (.cells ((Me B (X.nu u)).setIfInBounds (k2-2) (Kj d 1 ((T.rowAt (u,k2)).length+1))) 238) L'):To o R B T L {B with a:=put B.a (2*X.nu u+(k2-3)) d,w:=put B.w (2*X.nu u+(k2-3)) (T.rowAt (u,k2)++[b])} (T.IN b (u,k2)) X L':=by
 have m:KM (T.rowAt (u,k2))++[.int .i64 (b:Nat)]=KM (T.rowAt (u,k2)++[b]):=by rw[KM,KM,l3];rfl
 have j:(T.rowAt (u,k2)).length+1=(T.rowAt (u,k2)++[b]).length:=bE
 rw[m] at hp;rw[j] at i;refine To.of (h.I8 (h.nq hu) bl hp i (tF B _ g _ _) _ (h.pp.wput hu g _ (tG p) h.pp.fi rfl λe he c hc y f=> ?_) rfl);rcases Af he hc with rfl|⟨k,l,n⟩
 ·rw[aS h.pn f hb];exact ha
 ·exact h.pp.wa k l c n y f
theorem jI (hf:x.file (x.r 0)=k)(a:KX k):x.r 0<6/\x.f (x.r 0).toNat=k:=by
 unfold PS.file at hf
 split at hf
 ·exact⟨‹_›,hf⟩
 ·rw[<-hf] at a;exact absurd a.1.1 bx
end
theorem Fy: ∃n,∀{σ}{F:Kn σ}{Δ:DM F}{I' s}(R:Nat)(B:RB)(T:St)(X:RX)(L:Ka)(b:Nat)(x:PS)(w:Bool),(∀s o,(Δ s).New o)->Ki b R B T X L->MI (λ_=>False) (λb=>b) T->X.ask=0->X.no<=10000->(b,x)∈T.ps->x.st=1->
 Kb Δ prog I' 159 [ptr R,ptr (B.p b), .bool w].toArray n s L (λs' v L'=>s=s'/\v= .tuple #[]/\ ∃B',To b R B T L B' (T.JX b x w) X L'):=by
 obtain⟨n1,g1⟩:=z9;obtain⟨n2,g2⟩:=uC;obtain⟨n3,g3⟩:=fK;obtain⟨n4,g4⟩:=jH;constructor;intro σ F Δ I' s R B T X L b x w hN K hM hask hno hb V';have hI:=hM.i;have hn:=hI.g.pn;have f':T.out b:=hM.out hb V';have wx0:0<=x.r 0/\x.r 0<65536:=(hI.wf _ hb).r 0 bl;have wx1:0<=x.r 1/\x.r 1<65536:=(hI.wf _ hb).r 1 bl;have wx2:0<=x.r 2/\x.r 2<65536:=(hI.wf _ hb).r 2 bl;have w0:IntKind.i64.wrap (x.r 0)=x.r 0:=ag
 have w1:IntKind.i64.wrap (x.r 1)=x.r 1:=ag
 have w2:IntKind.i64.wrap (x.r 2)=x.r 2:=ag
 have w3:IntKind.i64.wrap (x.r 1+x.r 2)=x.r 1+x.r 2:=ag
 have hx0:At L (B.p b) 7 (.int .u16 (x.r 0)):=K.pat hb (mH x _ (i:=0) bl);have hx1:At L (B.p b) 8 (.int .u16 (x.r 1)):=K.pat hb (mH x _ (i:=1) bl);co_applyP ar 188 func159 ntmps159;co_applyP(aH);co_applyP(aC);rw[w0,w1];co_applyP osm rfl (hs:=bJ) (hm:=K.p _ hb) (hi:=by rw[aX];decide);intro L1 hU1;have D':=To.of (K.ID hb hU1 x {B.e b with ad:=x.r 1} b (Cz x _ _) (hwa:=λe he hc=>absurd hc (f' e he)) (hun:=K.un _ hb) (hdu:=K.du _ hb) (ho:=λ_ _ _=>fz) (hsz:=K.sz _ hb));rw[eJ hn hb] at D';have W:=D'.r;have hx2:At L1 (B.p b) 9 (.int .u16 (x.r 2)):=W.pat hb (mH x _ (i:=2) bl);co_applyP(bZ);rw[w2];co_applyP osm rfl (hs:=bJ) (hm:=W.p _ hb) (hi:=by rw[aX];decide);intro Y hU2;have O:=D'.trans (To.of (W.ID hb hU2 x {put B.e b {B.e b with ad:=x.r 1} b with mn:=x.r 2} b (CB x _ _) (hwa:=λe he hc=>absurd hc (f' e he)) (hun:=W.un _ hb) (hdu:=W.du _ hb) (ho:=λ_ _ _=>fz) (hsz:=W.sz _ hb)));rw[eJ hn hb] at O;generalize Q':({B with e:=_}:RB)=B2 at O;have R':(B2.e b).ad=x.r 1:=by rw[<-Q'];simp[put]
 have S':(B2.e b).mn=x.r 2:=by rw[<-Q'];simp[put]
 clear hU1 hU2 D' W Q' hx0 hx1 hx2;have j:=O.r;have b':=O.q K hb;have X':=hI.Ju hb (x.r 0);obtain⟨kf,D⟩: ∃kf,x.file (x.r 0)=kf:=⟨_,rfl⟩;rw[D] at X';obtain⟨use,M⟩: ∃use,use=if w then 5 else 4:=⟨_,rfl⟩;obtain⟨d,P⟩: ∃d,d=if w then 8 else 64:=⟨_,rfl⟩;have hm8:use=5->d<=8:=by rw[M,P];cases w<;>simp
 have huo:use=4\/use=5:=by rw[M];cases w<;>simp
 have A':T.JX b x w=match T.Jf b x use d with
  |(some i,_)=>T.ID b (x.r0 (KB i))
  |(none,S)=>S:=by rw[M,P];rfl
 have bad: ∀{i:Nat},x.IQ use d=some i->T.JX b x w=T.ID b (x.r0 (KB i)):=λh=>by rw[A'];unfold St.Jf;rw[h]
 have sr: ∀{v:Int}{L3:Ka},K4 Y (B.p b) (.cells ((KV x (B2.e b)).setIfInBounds 7 (.int .u16 v)) 154) L3-> ∃B3,To b R B T L B3 (T.ID b (x.r0 v)) X L3:=λhU=>⟨_,O.trans (To.of (j.ID hb (by rw[b'];exact hU) (x.r0 _) (B2.e b) b (cS x _ (i:=0) bx _) (hun:=j.un _ hb) (hdu:=j.du _ hb) (ho:=λ_ _ _=>fz) (hsz:=j.sz _ hb)))⟩;have N':(B.p b,true,Obj.cells (KV x (B2.e b)) 154)∈Y:=by rw[<-b'];exact j.p _ hb
 have hm92:At Y (B.p b) 92 (.int .i64 (x.r 2)):=by rw[<-S',<-b'];exact j.pat hb rfl
 have hm91:At Y (B.p b) 91 (.int .i64 (x.r 1)):=by rw[<-R',<-b'];exact j.pat hb rfl
 co_applyP(av);co_applyP bL ((λd' E c'=>s=d'/\Y=c'/\kn E [(7, .int .i64 (d:Nat)),(6, .int .i64 (x.r 0)),(2, .bool w),(1,ptr (B.p b)),(0,ptr R)]));co_applyP(ax);co_applyP aI rfl;intro O';co_applyP(ax);change _=_/\_=_/\kn _ _
 ·have em:d=8:=by rw[P,O'];rfl
  exact⟨rfl,rfl,by rw[em];rfl⟩
 intro O';co_applyP(zo);change _=_/\_=_/\kn _ _;have em:d=64:=by rw[P,O'];rfl
 exact⟨rfl,rfl,by rw[em];rfl⟩;rintro _ ε3 _ ⟨rfl,rfl,he3⟩;co_applyP aA he3;have hnu0:=j.pp.n0;co_applyP bL ((λd' E c'=>s=d'/\Y=c'/\kn E [(6, .int .i64 (x.r 0)),(2, .bool w),(1,ptr (B.p b)),(0,ptr R)]/\x.IQ use d=none));co_applyP(zo);co_applyP aK;co_applyP ct ([(40, .bool (decide (kf.2≠use))),(7, .int .i64 (d:Nat)),(6, .int .i64 (x.r 0)),(2, .bool w),(1,ptr (B.p b)),(0,ptr R)])
 ·by_cases h6:(6:Int)<=x.r 0
  ·have hg:decide ((6:Int)<=x.r 0)=true:=by simp[h6]
   co_applyP(av);rw[hg];co_applyP(aH);co_applyP(au);change _=_/\_=_/\kn _ _;refine⟨rfl,rfl, ?_⟩;have e:kf.2≠use:=by
    rw[<-D];unfold PS.file;rw[if_neg bl];show 0≠use;omega
   rw[show decide (kf.2≠use)=true from decide_eq_true e];rfl
  ·have hg:decide ((6:Int)<=x.r 0)=false:=ao
   have hj:(x.r 0).toNat<6:=bl
   have V:x.f (x.r 0).toNat=kf:=by rw[<-D];unfold PS.file;rw[if_pos bl]
   obtain⟨f1,f2,f3⟩:=j.pp.fi _ hb _ hj;have f1':(B2.e b).pi (x.r 0).toNat=X.nu kf.1:=by rw[<-V];exact f1
   have f2':(B2.e b).wr (x.r 0).toNat=decide (kf.2=5):=by rw[<-V];exact f2
   have hpi:At Y (B.p b) (79+(x.r 0).toNat) (.int .i64 (X.nu kf.1:Nat)):=by rw[<-f1',<-b'];exact j.pat hb (fV _ _ hj)
   have hwr:At Y (B.p b) (85+(x.r 0).toNat) (.bool (decide (kf.2=5))):=by rw[<-f2',<-b'];exact j.pat hb (uB _ _ hj)
   by_cases G:kf=(0,0)
   ·have hg2:((X.nu kf.1:Int)==0)=true:=by rw[G];simp[hnu0]
    co_applyP(av);rw[hg];co_applyP(bm);rw[hg2];co_applyP(bf);change _=_/\_=_/\kn _ _;refine⟨rfl,rfl, ?_⟩;have e:kf.2≠use:=by rw[G];show 0≠use;omega
    rw[show decide (kf.2≠use)=true from decide_eq_true e];rfl
   ·have hg2:((X.nu kf.1:Int)==0)=false:=by
     have:=f3 (by rw[show (b,x).2.f (x.r 0).toNat=kf from V];exact G);rw[show (b,x).2.f (x.r 0).toNat=kf from V] at this;exact beq_false_of_ne bl
    co_applyP(av);rw[hg];co_applyP(bm);rw[hg2];co_applyP(aR);co_applyP oy rfl (HJ underlying4);co_applyP(ax);change _=_/\_=_/\kn _ _;refine⟨rfl,rfl, ?_⟩;have e:decide (kf.2≠use)=(decide (kf.2=5) !=w):=by
     have:=(X'.resolve_left G).2;rw[M];rcases this with h|h<;>rw[h]<;>cases w<;>rfl
    rw[e];rfl
 co_applyP aI rfl;intro hc1;co_applyP(aC)
 ·have U:kf.2≠use:=by simpa using hc1
  co_applyP osm rfl (hs:=bh) (hm:=N') (hi:=by rw[aX];decide);intro L3 p';obtain⟨B3,H⟩:=sr p';co_applyP(ay);exact xI _ ⟨rfl,rfl,rfl,B3,by rw[bad (i:=3) (by unfold PS.IQ;rw[D,if_pos U])];exact H⟩
 intro hc1;co_applyP aK;have U: ¬kf.2≠use:=by simpa using hc1
 co_applyP ct ([(67, .bool (decide (x.r 2=0\/(d:Int)<x.r 2))),(6, .int .i64 (x.r 0)),(2, .bool w),(1,ptr (B.p b)),(0,ptr R)])
 ·by_cases G:x.r 2=0
  ·have hg:(x.r 2==0)=true:=by simp[G]
   co_applyP(aR);rw[hg];co_applyP(bm);change _=_/\_=_/\kn _ _;exact⟨rfl,rfl,by rw[show decide (x.r 2=0\/(d:Int)<x.r 2)=true from decide_eq_true (.inl G)];rfl⟩
  ·have hg:(x.r 2==0)=false:=beq_false_of_ne G;co_applyP(aR);rw[hg];co_applyP(bm);change _=_/\_=_/\kn _ _;exact⟨rfl,rfl,by rw[show decide (x.r 2=0\/(d:Int)<x.r 2)=decide ((d:Int)<x.r 2) by simp[G]];rfl⟩
 co_applyP aI rfl;intro K';co_applyP(aC)
 ·have i':x.r 2=0\/(d:Int)<x.r 2:=by simpa using K'
  co_applyP osm rfl (hs:=bh) (hm:=N') (hi:=by rw[aX];decide);intro L3 p';obtain⟨B3,H⟩:=sr p';co_applyP(ay);exact xI _ ⟨rfl,rfl,rfl,B3,by rw[bad (i:=9) (by unfold PS.IQ;rw[D,if_neg U,if_pos i'])];exact H⟩
 intro K';co_applyP(dE);change Kw ..;have i': ¬(x.r 2=0\/(d:Int)<x.r 2):=by simpa using K'
 rw[w3];co_applyP aI rfl;intro Y';co_applyP(aC)
 ·have t':64<x.r 1+x.r 2:=by simpa using Y'
  co_applyP osm rfl (hs:=bh) (hm:=N') (hi:=by rw[aX];decide);intro L3 p';obtain⟨B3,H⟩:=sr p';co_applyP(ay);exact xI _ ⟨rfl,rfl,rfl,B3,by rw[bad (i:=8) (by unfold PS.IQ;rw[D,if_neg U,if_neg i',if_pos t'])];exact H⟩
 intro Y';co_applyP(zo);change _=_/\_=_/\kn _ _/\_;have t': ¬64<x.r 1+x.r 2:=by simpa using Y'
 exact⟨rfl,rfl,rfl,by unfold PS.IQ;rw[D,if_neg U,if_neg i',if_neg t']⟩;rintro _ ε4 _ ⟨rfl,rfl,he4,hcu⟩;co_applyP aA he4;obtain⟨c1,c2,c3⟩:=ey hcu;rw[D] at c1;have hok:KX kf:=X'.resolve_left λe=>by rw[e] at c1;simp only at c1;omega
 obtain⟨u,hu⟩: ∃u,u=kf.1:=⟨_,rfl⟩;have C':kf=(u,use):=Prod.ext hu.symm c1;obtain⟨h6,V⟩:=jI D hok;have hj:(x.r 0).toNat<6:=bl
 obtain⟨f1,f2,f3⟩:=j.pp.fi _ hb _ hj;have A:X.nu u≠0:=by
  have:=f3 (by rw[show (b,x).2.f (x.r 0).toNat=kf from V];intro e;rw[e] at c1;simp only at c1;omega);rw[show (b,x).2.f (x.r 0).toNat=kf from V,C'] at this;exact this
 have hpi:At Y (B.p b) (79+(x.r 0).toNat) (.int .i64 (X.nu u:Nat)):=by
  have:=j.pat hb (fV x (B2.e b) hj);rw[show (B2.e b).pi (x.r 0).toNat=X.nu u by rw[hu,<-V];exact f1,b'] at this;exact this
 have hid2:At Y (B.p b) 0 (.int .i64 (b:Nat)):=O.num K hb;have y':=j.nq A;co_applyP(aO);co_applyP oc rfl rfl rfl (g1 b R B2 T X Y (X.nu u) j y' (by rw[j.no];exact hno));rintro _ _ _ ⟨rfl,rfl,rfl⟩;co_applyP(aP);co_applyP bL ((λd' E c'=>s=d'/\kn E [(9, .int .i64 (b:Nat)),(8,ptr (B2.q (X.nu u))),(1,ptr (B.p b)),(0,ptr R)]/\ ∃B3,To b R B T L B3 (T.IN b (u,use)) X c'));co_applyP(ax);co_applyP aI rfl;intro P'
 ·have eu:use=5:=by rw[M,P'];rfl
  subst eu;obtain⟨ew,Z⟩:=j.JP A (k2:=5) (.inr rfl);have hr8:=rM hI (u,5);have h3:At Y (B2.q (X.nu u)) 3 (Kj (B2.a (2*X.nu u+(5-3))) 1 (T.rowAt (u,5)).length):=by rw[<-ew];exact j.qat y' rfl
  co_applyP(aR);co_applyP bB rfl (mI (hN _ _));intro nb L3 hA;co_applyP oeN rfl (λhnd=>fh (e:=3) (hnd:=hnd) (hu:=U54) (hs:=bJ) (hb:=jv) (hz:=mm) (hzs:=rfl) (hN:=λcs=>hN _ _) (ha:=Z.mono λc _ o=>hA.sub _) (hn:=bE) (v:= .int .i64 (b:Nat)) (hm:=hA.self) (hpl:=rfl) (h8:=bl));rintro _ L4 ⟨a',rfl,hp⟩;co_applyP(ay);have hE:Ext Y L3:=⟨hA.fn,hA.sub⟩;have I:=j.ext hE;co_applyP oeN rfl (λhnd=>bX (hnd:=hnd) (hm:=hp.ch.keep (Lg.sl I.fn (Z.mono λc _ o=>hA.sub _) bx) (I.q _ y')) (hi:=by show 3<4;decide) (hp:=bj _ _ _) (hs:=dC));rintro _ L5 ⟨rfl,hU⟩;co_applyP(zo);change _=_/\kn _ _/\ ∃B3,_;exact⟨rfl,rfl,_,O.trans (To.pre hE (I.IN hI.kn A (.inr rfl) hb ⟨R',S'⟩ hp hU))⟩
 intro P';have eu:use=4:=by rw[M,P'];rfl
 subst eu;obtain⟨ew,Z⟩:=j.JP A (k2:=4) (.inl rfl);have hr8:=rM hI (u,4);have h3:At Y (B2.q (X.nu u)) 2 (Kj (B2.a (2*X.nu u+(4-3))) 1 (T.rowAt (u,4)).length):=by rw[<-ew];exact j.qat y' rfl
 co_applyP(aR);co_applyP bB rfl (mI (hN _ _));intro nb L3 hA;co_applyP oeN rfl (λhnd=>fh (e:=3) (hnd:=hnd) (hu:=U54) (hs:=bJ) (hb:=jv) (hz:=mm) (hzs:=rfl) (hN:=λcs=>hN _ _) (ha:=Z.mono λc _ o=>hA.sub _) (hn:=bE) (v:= .int .i64 (b:Nat)) (hm:=hA.self) (hpl:=rfl) (h8:=bl));rintro _ L4 ⟨a',rfl,hp⟩;co_applyP(ay);have hE:Ext Y L3:=⟨hA.fn,hA.sub⟩;have I:=j.ext hE;co_applyP oeN rfl (λhnd=>bX (hnd:=hnd) (hm:=hp.ch.keep (Lg.sl I.fn (Z.mono λc _ o=>hA.sub _) bx) (I.q _ y')) (hi:=by show 2<4;decide) (hp:=bj _ _ _) (hs:=dC));rintro _ L5 ⟨rfl,hU⟩;co_applyP(zo);change _=_/\kn _ _/\ ∃B3,_;exact⟨rfl,rfl,_,O.trans (To.pre hE (I.IN hI.kn A (.inl rfl) hb ⟨R',S'⟩ hp hU))⟩;rintro _ ε5 L5 ⟨rfl,he5,B3,H⟩;co_applyP aA he5;have eq32:B3.q (X.nu u)=B2.q (X.nu u):=(H.qq.2 _ (K.nq A).2).trans (O.qq.2 _ (K.nq A).2).symm;rw[<-eq32];have I:=H.r;have hb3:(b,x)∈(T.IN b (u,use)).ps:=hb;have hAs:NQ x (u,use):=⟨by rw[D,C'],c3,λh5=>by have:=hm8 h5;omega, .inl V'⟩;have hj:MI (· =b) (λb=>b) (T.IN b (u,use)):=⟨hI.IN hb f' hAs (C'▸hok),(hM.c.JR λc hc=>hc.elim).join rfl hI.kn,hM.x.congr rfl rfl rfl⟩;co_applyP(au);co_applyP osm rfl (hs:=bJ) (hm:=I.k) (hi:=by show 12<16;decide);intro L6 hU6;have hT6:=H.trans (To.of (I.JM hU6 (T.IN b (u,use)) {X with ask:=b} rfl));have hA6:Ak b (T.IN b (u,use)) ({X with ask:=b}:RX).ask:=Ak.asks hj hb3 V';co_applyP(av);co_applyP oc rfl rfl rfl (g2 b R B3 _ {X with ask:=b} L6 u hN hT6.r hj.i hA6 A);rintro _ _ _ ⟨rfl,rfl,B7,m'⟩;co_applyP(au);rename_i L7;have m':=hT6.trans m';co_applyP osm rfl (hs:=bJ) (hm:=m'.r.k) (hi:=by show 12<16;decide);intro L8 hU8;obtain⟨m,N⟩: ∃m,m=(T.IN b (u,use)).look u:=⟨_,rfl⟩;rw[<-N] at m';have r':=m'.trans (To.of (m'.r.JM hU8 m X (by rw[N];simp[ME,hask])));have l':=r'.r;have J:MI (· =b) (λb=>b) m:=by rw[N];exact MI.looks u 16 hj
 obtain⟨z,G⟩: ∃z,(b,z)∈m.ps:=dU (by rw[N,(hj.i.look u).f];exact fp hb3);have M': ∀{k':Nat×Nat},b∈m.rowAt k'->k'=(u,use):=λ{k'} h=>by
  obtain⟨xs,q1,q2⟩:=cK h;rw[N] at q1;obtain⟨e',h3,h4,h5⟩:=fG _ _ _ _ q1;rw[<-show e'.1=k' from h4];exact qV hI.kn f' h3 (h5 b (by rw[q2];exact h))
 have F':T.JX b x w=if b∈m.rowAt (u,use) then m.IT b z use else m:=by
  rw[A'];unfold St.Jf;rw[hcu];simp only[D,C'];rw[<-N,aY J.i.g.pn G]
 have eq7:B7.q (X.nu u)=B3.q (X.nu u):=(r'.qq.2 _ (K.nq A).2).trans (H.qq.2 _ (K.nq A).2).symm;have hq8:=l'.nq A;have ep8:=r'.q K hb;obtain⟨ew4,E'⟩:=l'.JP A (k2:=4) (.inl rfl);obtain⟨ew5,hro5⟩:=l'.JP A (k2:=5) (.inr rfl);have hr4:=rM J.i (u,4);have hr5:=rM J.i (u,5);have h2:At L8 (B7.q (X.nu u)) 2 (Kj (B7.a (2*X.nu u+(4-3))) 1 (m.rowAt (u,4)).length):=by rw[<-ew4];exact l'.qat hq8 rfl
 have h3:At L8 (B7.q (X.nu u)) 3 (Kj (B7.a (2*X.nu u+(5-3))) 1 (m.rowAt (u,5)).length):=by rw[<-ew5];exact l'.qat hq8 rfl
 rw[<-eq7];have stp: ∀{C:Nat}{L9 x':Ka}{B9:RB},To b R B T L B9 m X L9->b∈m.rowAt (u,C)->C=4\/C=5->K4 L9 (B.p b) (.cells ((KV z (B9.e b)).setIfInBounds 2 (.int .i64 (C:Nat))) 154) x'-> ∃B10,To b R B T L B10 (m.ID b {z with st:=C}) X x':=λ{C L9 x' B9} hT hmem hst hU=>by
  have hA:=(J.i.JE hmem G).1.s;simp only at hA;have W':=hT.r;rw[<-hT.q K hb] at hU;exact⟨_,hT.trans (To.of (W'.ID G hU {z with st:=C} (B9.e b) b rfl (hun:=λh=>by have h':C=3:=h;omega) (hdu:=W'.du _ G) (ho:=λ_ _ _=>fz) (hsz:=λ_=>W'.sz _ G (by show z.st≠6;omega))))⟩
 have hgo: ∀C,(m.ID b {z with st:=C}).gone b=m.IT b z C:=λC=>by
  show (m.gone b).ID b _=_;rw[jF J.i.g J.x.r3 G];rfl
 co_applyP(aR);co_applyP oc rfl rfl rfl (g3 L8 _ (m.rowAt (u,4)) b hN l'.fn E' hr4);rintro _ _ _ ⟨rfl,a4,rfl,q',hp4,hfr4⟩;rename_i L9;have h39:=q'.at h3;obtain⟨b4,c4,hv4,_⟩:=dm hp4.ok (n:=(wo (m.rowAt (u,4)) b).length) bE;rw[hv4];co_applyP(aO);co_applyP oc rfl rfl rfl (g3 L9 _ (m.rowAt (u,5)) b hN q'.f (hro5.mono λc _ o=>q'.s _) hr5);rintro _ _ _ ⟨rfl,a5,rfl,hE5,hp5,hfr5⟩;rename_i x';obtain⟨b5,c5,hv5,_⟩:=dm hp5.ok (n:=(wo (m.rowAt (u,5)) b).length) bE;rw[hv5];obtain⟨b6,c6,hv6,_⟩:=dm E' (n:=(m.rowAt (u,4)).length) bE;rw[hv6] at h2;have h210:=hE5.at (q'.at h2);have u':=(r'.ext q').ext hE5;have Z':(B.p b,true,Obj.cells (KV z (B7.e b)) 154)∈x':=by rw[<-ep8];exact u'.r.p _ G
 co_applyP(ay);co_applyP bL ((λd' E c'=>s=d'/\kn E [(11, .slice b5 (wo (m.rowAt (u,5)) b).length c5),(8,ptr (B7.q (X.nu u))),(1,ptr (B.p b)),(0,ptr R)]/\ ∃B9,To b R B T L B9 (if b∈m.rowAt (u,4) then m.IT b z 4 else m) X c'));co_applyP(aP);co_applyP aI rfl;intro J';co_applyP(au)
 ·have g':b∈m.rowAt (u,4):=D3.1 (by simp at J';omega);co_applyP osm rfl (hs:=bJ) (hm:=Z') (hi:=by rw[aX];decide);intro L11 hU11;obtain⟨B11,n'⟩:=stp u' g' (.inl rfl) hU11;have H':=n'.q K hb;rw[<-H'];co_applyP(av);co_applyP oc rfl rfl rfl (g4 b R B11 _ X L11 b {z with st:=4} hN n'.r (ai G) (λl hl=>J.i.g.r8 hl) J.x.r3);rintro _ _ _ ⟨rfl,rfl,z',y⟩;co_applyP(zo);change _=_/\kn _ _/\ ∃B9,_;rw[hgo] at y;exact⟨rfl,by rw[H'];rfl,z',by rw[if_pos g'];exact n'.trans y⟩
 intro J';co_applyP(zo);change _=_/\kn _ _/\ ∃B9,_;have g': ¬b∈m.rowAt (u,4):=λh=>by have:=(D3 (b:=b)).2 h;simp at J';omega
 exact⟨rfl,rfl,B7,by rw[if_neg g'];exact u'⟩;rintro _ ε12 L12 ⟨rfl,he12,z',y⟩;co_applyP aA he12;obtain⟨T3,j'⟩: ∃T3,T3=if b∈m.rowAt (u,4) then m.IT b z 4 else m:=⟨_,rfl⟩;rw[<-j'] at y;have w':=y.r;have ew12:T3.rowAt (u,5)=m.rowAt (u,5):=l9 (by rw[j'];split<;>rfl) _;have eq12:z'.q (X.nu u)=B7.q (X.nu u):=(y.qq.2 _ (K.nq A).2).trans (r'.qq.2 _ (K.nq A).2).symm;obtain⟨ew,Z⟩:=w'.JP A (k2:=5) (.inr rfl);obtain⟨b8,c8,hv8,_⟩:=dm Z (n:=(T3.rowAt (u,5)).length) bE;have h312:At L12 (B7.q (X.nu u)) 3 (.slice b8 (m.rowAt (u,5)).length c8):=by rw[<-ew12,<-hv8,<-ew,<-eq12];exact w'.qat (w'.nq A) rfl
 co_applyP(aP);co_applyP aI rfl;intro T';co_applyP(au)
 ·have Q:b∈m.rowAt (u,5):=D3.1 (by simp at T';omega);have e5:=M' Q;have hu5:use=5:=(Prod.mk.inj e5).2.symm;have e3:T3=m:=by rw[j',if_neg];intro h;have:=(Prod.mk.inj (M' h)).2;omega
  rw[e3] at y;have ep12:=y.q K hb;have U':(B.p b,true,Obj.cells (KV z (z'.e b)) 154)∈L12:=by rw[<-ep12];exact y.r.p _ G
  co_applyP osm rfl (hs:=bJ) (hm:=U') (hi:=by rw[aX];decide);intro L13 hU13;obtain⟨B13,v'⟩:=stp y Q (.inr rfl) hU13;have ep13:=v'.q K hb;rw[<-ep13];co_applyP(av);co_applyP oc rfl rfl rfl (g4 b R B13 _ X L13 b {z with st:=5} hN v'.r (ai G) (λl hl=>J.i.g.r8 hl) J.x.r3);rintro _ _ _ ⟨rfl,rfl,B14,G'⟩;co_applyP(zo);change∃v,Ko .. =some v/\_;rw[hgo] at G';exact⟨_,rfl,rfl,rfl,B14,by rw[F',hu5,if_pos Q];exact v'.trans G'⟩
 intro T';co_applyP(zo);change∃v,Ko .. =some v/\_;have Q: ¬b∈m.rowAt (u,5):=λh=>by have:=(D3 (b:=b)).2 h;simp at T';omega
 refine⟨_,rfl,rfl,rfl,z', ?_⟩;have e3:T.JX b x w=T3:=by
  rw[F',j'];rcases huo with h|h
  ·rw[h]
  ·rw[h,if_neg Q,if_neg];intro h4;have:=(Prod.mk.inj (M' h4)).2;omega
 rw[e3];exact y
section
variable {o R:Nat}{B B':RB}{T T':St}{X:RX}{L L1 L':Ka}{u v b c n:Nat}{x y:PS}{k:Nat×Nat}{nu:Nat->Nat}
theorem Ki.opnN (h:Ki o R B T X L)(j:Inv T)(hn:n≠0)(w:Bool):(∃q∈T.ps,∃i,i<6/\Go.Proofs.YtejkelcaljmnoaaGreatDoor.opn (B.e q.1) n w i=true)↔ ∃u,X.nu u=n/\T.IM (u,if w then 5 else 4)=true:=by
 constructor
 ·rintro⟨q,g,i,d,a⟩;have k:(B.e q.1).pi i=n:=by unfold Go.Proofs.YtejkelcaljmnoaaGreatDoor.opn at a;simp at a;exact a.1
  have b:X.nu (q.2.f i).1=n:=(h.pp.fi q g i d).1.symm.trans k;refine⟨(q.2.f i).1,b,(h.opn j (by rw[b];exact hn) w).1 ⟨q,g,i,d,by rw[b];exact a⟩⟩
 ·rintro⟨u,rfl,a⟩;exact(h.opn j hn w).2 a
def NH (T:St)(nu:Nat->Nat)(n:Nat):Bool:=[1,2,3,4].any λu=>decide (nu u=n)&& !T.I0 u
theorem pB (hp:Nr B T nu)(hn:n≠0):NH T nu n=true↔ ∃u,nu u=n/\T.I0 u=false:=by
 unfold NH;rw[OH];constructor
 ·rintro⟨u,_,h⟩;simp at h;exact⟨u,h⟩
 ·rintro⟨u,a,b⟩;have h0:u≠0:=λe=>by rw[e,hp.n0] at a;exact hn a.symm
  have d:u<5:=ti λh=>hn (by rw[<-a,hp.n5 u bl]);exact⟨u,by simp;omega,by simp[a,b]⟩
theorem HK:T.I0 u=false↔T.IM (u,4)=true\/T.IM (u,5)=true:=by
 unfold St.I0;cases T.IM (u,4)<;>cases T.IM (u,5)<;>simp
theorem CG (hp:Nr B T nu)(h:T.I0 u=false)(k:Inv T)(hu:0<u):nu u≠0:=by
 have aux: ∀{j:Nat},T.IM (u,j)=true->nu u≠0:=λ{j} a=>by
  unfold St.IM at a;rw[OH] at a;obtain⟨q,g,b⟩:=a;obtain⟨i,d,e⟩:=CC.1 b;have:=(hp.fi q g i d).2.2 (by rw[<-e];intro f;have:=(Prod.mk.inj f).1;omega);rw[<-e] at this;exact this
 rcases HK.1 h with h|h
 ·exact aux h
 ·exact aux h
theorem Ag (hp:Nr B T nu)(C:Inv T):4<=((List.range B.no).filter λi=>NH T nu (i+1)).length↔T.unused=0:=by
 constructor
 ·intro A;refine kz λj b f=> ?_;cases x:T.I0 j with
  |false=>rfl
  |true=>
   exfalso;have d:=fF (l:=(List.range B.no).filter λi=>NH T nu (i+1)) (m:=([1,2,3,4].filter λu=> !T.I0 u).map λu=>nu u-1) (List.nodup_range.filter _) λi n=>by
    obtain⟨u,g,r⟩:=(pB hp bl).1 (l4.1 n).2;have h0:u≠0:=λe=>by rw[e,hp.n0] at g;omega
    have f:u<5:=ti λh=>by have:=hp.n5 u bl;omega
    exact cm.2 ⟨u,l4.2 ⟨by simp;omega,by simp[r]⟩,bl⟩
   have s:([1,2,3,4].filter λu=> !T.I0 u).length<[1,2,3,4].length:=List.length_filter_lt_length_iff_exists.2 ⟨j,by simp;omega,by simp[x]⟩;simp only[ia,gf,km] at d s;omega
 ·intro h0;have z: ∀j,1<=j->j<5->T.I0 j=false:=λj b f=>by
   cases x:T.I0 j with
   |false=>rfl
   |true=>
    exfalso;unfold St.unused at h0;cases o:(List.range' 1 4).find? T.I0 with
    |none=>exact sS.1 o j (List.mem_range'_1.2 ⟨b,bl⟩) x
    |some p=>
     rw[o] at h0;have:=(List.mem_range'_1.1 (Ox o)).1;simp only at h0;omega
  have k: ∀j,1<=j->j<5->nu j≠0:=λj b f=>CG hp (z j b f) C bl;have:=fF (l:=[1,2,3,4].map λu=>nu u-1) (m:=(List.range B.no).filter λi=>NH T nu (i+1)) ?_ λi n=> ?_
  ·simpa using this
  ·have ne: ∀i j,1<=i->i<5->1<=j->j<5->i≠j->nu i-1≠nu j-1:=λi j b g r A y e=>y (hp.ni i j (by have:=k i b g;have:=k j r A;omega) (k i b g));simp[x8,ne]
  ·obtain⟨u,hu,rfl⟩:=cm.1 n;have a:1<=u/\u<5:=by simp at hu;omega
   have:=k u a.1 a.2;have D:=hp.nl u;exact l4.2 ⟨by simp;omega,(pB hp bl).2 ⟨u,bl,z u a.1 a.2⟩⟩
abbrev RB.more (B:RB)(a':Sl)(nb:Nat):RB:={B with al:=a',q:=put B.q (B.no+1) nb,no:=B.no+1,a:=put (put B.a (2*(B.no+1)+1) ⟨none,[]⟩) (2*(B.no+1)+2) ⟨none,[]⟩,y:=put B.y (B.no+1) ⟨none,[]⟩,yb:=put B.yb (B.no+1) []}
theorem Ki.I6 (h:Ki o R B T X L){nb:Nat}{r:Sl}(hb:(nb,true,Obj.cells #[.int .i64 ((B.no+1:Nat):Nat), .slice none 0 0, .slice none 0 0, .slice none 0 0] 238)∈L)(hp:MM L 236 B.al (((List.range B.no).map λj=>ptr (B.q (j+1)))++[ptr nb]) r L1)(z:K4 L1 R (.cells ((ME B T X).setIfInBounds 6 (Kj r 1 (B.no+1))) 150) L'){L0:Ka}(he: ∀t∈L0,t∈L) (hnew: ∀t∈L0,t.1≠nb):Ki o R (B.more r nb) T {X with no:=X.no+1} L'/\K1 (Kv R B T) (Kv R (B.more r nb) T) L0 L':=by
 have J: ∀e,236≠e->Lg L (λc=>B.al.b=some c) e:=λe he=> .sl h.fn h.al he;have F:=hp.ch.keep (J _ bx) h.k;have O: ∀e,150≠e->Lg L1 (· =R) e:=λe he=> .one hp.fn F he;have K:=h.toRM.kp (ok:=λe=>e≠236/\e≠150) (hp.ch.trans z.ch) λW A=>(J W A.1.symm).or λb cs hm hb=>by
  subst hb;exact A.2 (cY h.fn hm h.k)
 have i: ∀u,X.nu u≠B.no+1:=λu e=>by have:=h.pp.nl u;omega
 obtain⟨H,I⟩:=h.pp.rz _ i;have Y:(List.range (B.no+1)).map (λj=>ptr (put B.q (B.no+1) nb (j+1)))=((List.range B.no).map λj=>ptr (B.q (j+1)))++[ptr nb]:=by
  rw[O4,l3];congr 1
  ·apply k0;intro j V;have:=OV.1 V;unfold put;rw[if_neg bl]
  ·simp[put]
 have G: ∀l,l<3->put (put B.a (2*(B.no+1)+1) ⟨none,[]⟩) (2*(B.no+1)+2) ⟨none,[]⟩ l=B.a l:=λl Z=>by unfold put;rw[if_neg bl,if_neg bl]
 have U:(ME B T X).setIfInBounds 6 (Kj r 1 (B.no+1))=ME (B.more r nb) T {X with no:=X.no+1}:=by
  unfold ME RB.more;simp only[G 0 bx,G 1 bx,G 2 bx];rfl
 rw[U] at z;refine⟨⟨⟨z.self,K.p bx,K.pl bx,λl=> ?_,K.ev bx, ?_,λm hm=> ?_,λl=> ?_⟩,z.fn,λl D s c hc f=> ?_,λl D s c hc f=> ?_,⟨h.im.n,h.im.g,h.im.b⟩,h.id,h.le,h.pn,h.un,h.du,h.sz,h.ab,by show B.no+1=X.no+1;rw[h.no], ?_⟩,⟨λt E C=>z.ne t (hp.sub t (he t E) λe=>C (.inr (.inr (.inr (.inr (.inr (.inl e))))))) λe=>C (.inl e),λc hc=> ?_⟩⟩
 ·show Kf (put (put B.a (2*(B.no+1)+1) ⟨none,[]⟩) (2*(B.no+1)+2) ⟨none,[]⟩ l) (KM (M6 B T l)) 3 L';have M:3<=l->M6 B T l=B.w l:=λh=>if_neg bl;unfold put
  split
  ·rename_i e;rw[M bl,e,I];exact⟨rfl,rfl⟩
  ·split
   ·rename_i e;rw[M bl,e,H];exact⟨rfl,rfl⟩
   ·exact K.rs bx l
 ·show Kf r ((List.range (B.no+1)).map λj=>ptr (put B.q (B.no+1) nb (j+1))) 236 L';rw[Y];exact z.ch.Jr (O _ bx) hp.ok
 ·show (put B.q (B.no+1) nb m,true,Obj.cells (Me (B.more r nb) m) 238)∈L';by_cases e:m=B.no+1
  ·subst e;have x:Me (B.more r nb) (B.no+1)= #[.int .i64 ((B.no+1:Nat):Nat), .slice none 0 0, .slice none 0 0, .slice none 0 0]:=by
    unfold Me RB.more;simp only[put,if_true,H,I,ite_self];rfl
   rw[x];show (put B.q (B.no+1) nb (B.no+1),_)∈L';rw[show put B.q (B.no+1) nb (B.no+1)=nb by simp[put]];exact z.ne _ (hp.sub _ hb λe=>absurd (cY h.fn hb (h.al.mem e)) bx) λe=>absurd (cY h.fn hb ((show nb=R from e)▸h.k)) bx
  ·have x:Me (B.more r nb) m=Me B m:=by
    unfold Me RB.more put;simp only[];rw[if_neg e,if_neg e,if_neg bl,if_neg bl,if_neg bl,if_neg bl]
   have N:put B.q (B.no+1) nb m=B.q m:=by unfold put;rw[if_neg e]
   rw[x,N];exact K.q bx m ⟨hm.1,by have:m<=B.no+1:=hm.2;omega⟩
 ·show Kf (put B.y (B.no+1) ⟨none,[]⟩ l) (M4 (put B.yb (B.no+1) [] l)) 5 L';unfold put
  split
  ·exact⟨rfl,rfl⟩
  ·exact K.y bx l
 ·simp only[RB.more,put] at hc f
  split at hc
  ·cases hc
  ·split at hc
   ·cases hc
   ·split at f
    ·cases f
    ·split at f
     ·cases f
     ·exact h.dj l D s c hc f
 ·simp only[RB.more,put] at hc f
  split at hc
  ·cases hc
  ·split at f
   ·cases f
   ·exact h.dy l D s c hc f
 ·refine⟨h.pp.n0,λu=>Nat.le_succ_of_le (h.pp.nl u),h.pp.ni,h.pp.n5,h.pp.fi,λu hu=> ?_,h.pp.rz,h.pp.wa⟩;obtain⟨P,Q,S⟩:=h.pp.rl u hu;refine⟨?_,Q,S⟩;show put B.yb (B.no+1) [] (X.nu u)=_;unfold put;rw[if_neg (i u)];exact P
 ·rcases hc with e|e|e|⟨l,e⟩|e|e|⟨m,hm,e⟩|⟨l,e⟩
  ·exact .inl (.inl e)
  ·exact .inl (.inr (.inl e))
  ·exact .inl (.inr (.inr (.inl e)))
  ·simp only[RB.more,put] at e
   split at e
   ·cases e
   ·split at e
    ·cases e
    ·exact .inl (.inr (.inr (.inr (.inl ⟨l,e⟩))))
  ·exact .inl (.inr (.inr (.inr (.inr (.inl e)))))
  ·rcases hp.d c e with x|x
   ·exact .inl (.inr (.inr (.inr (.inr (.inr (.inl x))))))
   ·exact .inr λt E=>x t (he t E)
  ·simp only[RB.more,put] at e hm
   split at e
   ·exact .inr (by rw[e];exact hnew)
   ·exact .inl (.inr (.inr (.inr (.inr (.inr (.inr (.inl ⟨m,⟨hm.1,bl⟩,e⟩)))))))
  ·simp only[RB.more,put] at e
   split at e
   ·cases e
   ·exact .inl (.inr (.inr (.inr (.inr (.inr (.inr (.inr ⟨l,e⟩)))))))
theorem Ki.reNu (h:Ki o R B T X L)(hn:n<=B.no)(hf: ∀v,X.nu v≠n) (h0:0<u) (P:u<5) (F:B.yb n=[]) (G: ∀q∈T.ps,∀i,i<6->(q.2.f i).1≠u) (hr: ∀j,T.rowAt (u,j)=[]):Ki o R B (T.IY u []) {X with nu:=put X.nu u n} L:=by
 have a: ∀v,v≠u->put X.nu u n v=X.nu v:=λv s=>by unfold put;rw[if_neg s]
 have pu:put X.nu u n u=n:=by simp[put]
 refine{h with toRM:=⟨h.k,h.p,h.pl,h.rs,h.ev,h.al,h.q,h.y⟩,im:=⟨h.im.n,h.im.g,h.im.b⟩,pp:=⟨?_,λv=> ?_,λv w e C=> ?_,λv s=> ?_,λq I i H=> ?_,λv s=> ?_,λm hm=> ?_,h.pp.wa⟩}
 ·show put X.nu u n 0=0;rw[a 0 bl];exact h.pp.n0
 ·show put X.nu u n v<=B.no;by_cases e:v=u
  ·rw[e,pu];exact hn
  ·rw[a v e];exact h.pp.nl v
 ·have l:put X.nu u n v=put X.nu u n w:=e;have d:put X.nu u n v≠0:=C;by_cases r:v=u
  ·by_cases z:w=u
   ·rw[r,z]
   ·rw[r,pu,a w z] at l;exact absurd l.symm (hf w)
  ·rw[a v r] at l d;by_cases z:w=u
   ·rw[z,pu] at l;exact absurd l (hf v)
   ·rw[a w z] at l;exact h.pp.ni v w l d
 ·show put X.nu u n v=0;rw[a v bl];exact h.pp.n5 v s
 ·have:=h.pp.fi q I i H;show _=put X.nu u n _/\_/\(_->put X.nu u n _≠0);rw[a _ (G q I i H)];exact this
 ·have x:put X.nu u n v≠0:=s;show B.yb (put X.nu u n v)=put T.by_ u [] v/\B.w (2*put X.nu u n v+1)=T.rowAt (v,4)/\B.w (2*put X.nu u n v+2)=T.rowAt (v,5);by_cases e:v=u
  ·obtain⟨K,N⟩:=h.pp.rz n hf;rw[e,pu,hr,hr,K,N,F];simp[put]
  ·rw[a v e] at x⊢;obtain⟨J,D,E⟩:=h.pp.rl v x;refine⟨?_,D,E⟩;unfold put;rw[if_neg e];exact J
 ·have A: ∀v,put X.nu u n v≠m:=hm;by_cases e:X.nu u=m
  ·have O:m≠0:=λM=>A 0 (by rw[a 0 bl,h.pp.n0,M]);obtain⟨_,D,E⟩:=h.pp.rl u (by rw[e];exact O);rw[<-e,D,E];exact⟨hr 4,hr 5⟩
  ·exact h.pp.rz m λv=>by
    by_cases r:v=u
    ·rw[r];exact e
    ·rw[<-a v r];exact A v
end
def St.JZ (T:St)(b:Nat)(x:PS):St:=match T.I4 b x with
 |(some i,_)=>T.ID b (x.r0 (KB i))
 |(none,S)=>S
def MY (T:St)(X:RX)(b:Nat)(x:PS):RX:=match T.I4 b x with
 |(some _,_)=>X
 |(none,_)=>{X with no:=X.no+1,op:=X.no+1,nu:=put X.nu T.unused (X.no+1)}
theorem CH:KJ prog 236=some 8:=bD
theorem Ah:zeroAt prog 236=some (.pointer none):=bD
theorem Fz (n:Int):KF prog (Instr.build 238 [(0, .int .i64 n)].toArray) []=some (.agg #[.int .i64 n, .slice none 0 0, .slice none 0 0, .slice none 0 0],[]):=bD
section
variable {T:St}{u:Nat}{x:PS}
theorem rQ (h:T.unused≠0):0<T.unused/\T.unused<5/\T.I0 T.unused=true:=by
 unfold St.unused at*;cases a:(List.range' 1 4).find? T.I0 with
 |none=>rw[a] at h;exact absurd rfl h
 |some p=>
  have:=List.mem_range'_1.1 (Ox a);exact⟨by show 0<p;omega,by show p<5;omega,OU a⟩
theorem mK (g:Inv T)(h0:0<u)(hs:T.I0 u=true){q:Nat×PS}(hq:q∈T.ps){i:Nat}(hi:i<6):(q.2.f i).1≠u:=λe=>by
 have d:T.I0 u=false:=HK.2 (by
  rcases g.fl q hq i hi with h|h
  ·rw[h] at e;simp at e;omega
  ·have b:T.IM (q.2.f i)=true:=OH.2 ⟨q,hq,CC.2 ⟨i,hi,rfl⟩⟩;rcases h.2 with a|a
   ·left;rw[show (u,4)=q.2.f i from Prod.ext e.symm a.symm];exact b
   ·right;rw[show (u,5)=q.2.f i from Prod.ext e.symm a.symm];exact b)
 rw[hs] at d;cases d
theorem wC (a:Inv T)(h0:0<u)(hs:T.I0 u=true)(j:Nat):T.rowAt (u,j)=[]:=by
 cases h:T.rowAt (u,j) with
 |nil=>rfl
 |cons c l=>
  exfalso;obtain⟨y,b,e⟩:=a.rowP (k:=(u,j)) (c:=c) (by rw[h];simp);obtain⟨xs,g,o⟩:=cK (S:=T) (k:=(u,j)) (c:=c) (by rw[h];simp);obtain⟨n,m⟩:=jI e.f (a.ke _ g);have d:0<=y.r 0/\y.r 0<65536:=(a.wf _ b).r 0 bl;exact mK a h0 hs b (i:=(y.r 0).toNat) bl (by rw[show (c,y).2.f (y.r 0).toNat=(u,j) from m])
theorem oh {i:Nat}(h:i∈x.IS 6):i<6/\x.f i=(0,0):=by
 unfold PS.IS at h;obtain⟨a,b⟩:=l4.1 h;exact⟨OV.1 a,by simpa using b⟩
end
theorem FB: ∃n,∀{σ}{F:Kn σ}{Δ:DM F}{r' s}(o R:Nat)(B:RB)(T:St)(X:RX)(L:Ka)(b:Nat)(x:PS),(∀s o,(Δ s).New o)->Ki o R B T X L->Inv T->X.op=X.no->X.no<=10000->(b,x)∈T.ps->T.out b->
 Kb Δ prog r' 158 [ptr R,ptr (B.p b)].toArray n s L (λs' v L'=>s=s'/\v= .tuple #[]/\ ∃B',To o R B T L B' (T.JZ b x) (MY T X b x) L'):=by
 obtain⟨n1,g1⟩:=tC;constructor;intro σ F Δ r' s o R B T X L b x hN l hI hop hno hb I';co_applyP ar 143 func158 ntmps158;co_applyP(aO);co_applyP aU (λk s' H L'=>s=s'/\Ext L L'/\ ∃(i:Nat) (C:Sl),k+i=6/\Kf C (KM (x.IS i)) 3 L'/\(∀c,C.b=some c-> ∀t∈L,t.1≠c)/\kn H [(5, .int .i64 i),(4,Kj C 1 (x.IS i).length),(1,ptr (B.p b)),(0,ptr R)]) 6
 ·exact⟨rfl,⟨l.fn,λ_ h=>h⟩,0,⟨none,[]⟩,rfl,⟨rfl,rfl⟩,bE,rfl⟩
 rintro k s' H L' ⟨rfl,hE,i,C,hk,j',l',he⟩;co_applyP aA he;co_applyP(au);co_applyP aI rfl;intro hc
 ·have A:i<6:=by simp at hc;omega
  obtain⟨f1,f2,f3⟩:=l.pp.fi _ hb i A;have hpi:At L' (B.p b) (79+i) (.int .i64 (X.nu (x.f i).1:Nat)):=by
   have:=(l.ext hE).pat hb (fV x (B.e b) A);rw[show (B.e b).pi i=X.nu (x.f i).1 from f1] at this;exact this
  have e:IntKind.i64.wrap ((i:Int)+1)=((i+1:Nat):Int):=ag
  have hfl:=nJ x i;co_applyP(zo);co_applyP bL ((λC' Q f'=>s=C'/\Ext L f'/\ ∃C,Kf C (KM (x.IS (i+1))) 3 f'/\(∀c,C.b=some c-> ∀t∈L,t.1≠c)/\kn Q [(5, .int .i64 i),(4,Kj C 1 (x.IS (i+1)).length),(1,ptr (B.p b)),(0,ptr R)]));co_applyP(aP);co_applyP aI rfl;intro hq;co_applyP(ax)
  ·have hz:x.f i=(0,0):=ti λh=>f3 h (by simpa using hq);co_applyP bB rfl (mI (hN _ _));intro nb L1 hA;co_applyP oeN rfl (λhnd=>fh (e:=3) (hnd:=hnd) (hu:=U54) (hs:=bJ) (hb:=jv) (hz:=mm) (hzs:=rfl) (hN:=λcs=>hN _ _) (ha:=j'.mono λc _ o=>hA.sub _) (hn:=bE) (v:= .int .i64 (i:Nat)) (hm:=hA.self) (hpl:=rfl) (h8:=bl));rintro _ L2 ⟨a2,rfl,hp⟩;co_applyP(ay);change _=_/\Ext _ _/\ ∃C,_;rw[um hz];refine⟨rfl,⟨hp.fn,λt ht=>hp.sub t (hA.sub t (hE.s t ht)) λe=>l' _ e t ht rfl⟩,a2,by have:=hp.ok;simpa [KM] using this,λc hc t ht=> ?_,by simp;rfl⟩;rcases hp.d c hc with h1|h1
   ·exact l' c h1 t ht
   ·exact h1 t (hA.sub t (hE.s t ht))
  intro hq;co_applyP(zo);change _=_/\Ext _ _/\ ∃C,_;have hz: ¬x.f i=(0,0):=λh=>by rw[h,l.pp.n0] at hq;simp at hq
  rw[o9 hz];exact⟨rfl,hE,C,j',l',rfl⟩;rintro _ ε2 L2 ⟨rfl,hE2,a2,ha2,Z',he2⟩;co_applyP aA he2;co_applyP(au);change∃k',k'<_/\_;rw[e];exact⟨k-1,bl,rfl,hE2,i+1,a2,bl,ha2,Z',rfl⟩
 intro hc;co_applyP(bm);have A:i=6:=by simp at hc;omega
 subst A;have a:=l.ext hE;have hBno:B.no<=10000:=by rw[l.no];exact hno
 obtain⟨T',cap,hv,hat⟩:=dm a.al (n:=B.no) bE;have h6:At L' R 6 (.slice T' B.no cap):=by rw[<-hv];exact a.kat rfl
 co_applyP aU (λk s' H L2=>s=s'/\L'=L2/\ ∃j:Nat,j<=B.no/\k+j=10000/\kn H [(7, .int .i64 j),(6, .int .i64 (((List.range j).filter λi=>NH T X.nu (i+1)).length:Nat)),(4,Kj C 1 (x.IS 6).length),(1,ptr (B.p b)),(0,ptr R)]) 10000
 ·exact⟨rfl,rfl,0,hX _,rfl,rfl⟩
 rintro k2 s' H L2 ⟨rfl,rfl,j,hj,hk2,he⟩;co_applyP aA he;co_applyP(aP);co_applyP aI rfl;intro hc
 ·have c':j<B.no:=by simp at hc;omega
  obtain⟨g,hg,z',hbv⟩:=hat j (ptr (B.q (j+1))) (by rw[sE,List.getElem?_range c'];rfl);subst z';have hq:At L' (B.q (j+1)) 0 (.int .i64 ((j+1:Nat):Nat)):=a.qat ⟨bl,bl⟩ rfl;have e:IntKind.i64.wrap ((j:Int)+1)=((j+1:Nat):Int):=ag
  have hml:((List.range j).filter λi=>NH T X.nu (i+1)).length<=j:=by have:=O5 (λi=>NH T X.nu (i+1)) (List.range j);simpa using this
  generalize hm:((List.range j).filter λi=>NH T X.nu (i+1)).length=m at hml;have em:IntKind.i64.wrap ((m:Int)+1)=((m+1:Nat):Int):=ag
  have V':((List.range (j+1)).filter λi=>NH T X.nu (i+1)).length=if NH T X.nu (j+1) then m+1 else m:=by
   rw[O4,O3,mb,hm];cases h:NH T X.nu (j+1)<;>simp[h]
  co_applyP(zo);co_applyP bL ((λC' Q f'=>s=C'/\L'=f'/\kn Q [(7, .int .i64 j),(6, .int .i64 (((List.range (j+1)).filter λi=>NH T X.nu (i+1)).length:Nat)),(4,Kj C 1 (x.IS 6).length),(1,ptr (B.p b)),(0,ptr R)]));co_applyP(bQ);co_applyP oc rfl rfl rfl (g1 o R B T X L' (j+1) a hI.g.p8);rintro _ _ _ ⟨rfl,rfl,r,w,rfl,hr48,hw48,hr,hw⟩;co_applyP(bZ);change Kw ..;have ho:0<r+w↔NH T X.nu (j+1)=true:=by
   rw[pB l.pp bl];have h1:=hr.trans (a.opnN hI bl false);have h2:=hw.trans (a.opnN hI bl true);constructor
   ·intro h;by_cases h0:0<r
    ·obtain⟨u,e1,e2⟩:=h1.1 h0;exact⟨u,e1,HK.2 (.inl e2)⟩
    ·obtain⟨u,e1,e2⟩:=h2.1 bl;exact⟨u,e1,HK.2 (.inr e2)⟩
   ·rintro⟨u,e1,e2⟩;rcases HK.1 e2 with h|h
    ·have:=h1.2 ⟨u,e1,h⟩;omega
    ·have:=h2.2 ⟨u,e1,h⟩;omega
  have ew:IntKind.i64.wrap ((r:Int)+(w:Int))=((r+w:Nat):Int):=ag
  rw[ew];co_applyP aI rfl;intro t';co_applyP(au);change _=_/\_=_/\kn _ _
  ·have Y:NH T X.nu (j+1)=true:=ho.1 (by simp at t';omega);rw[em];exact⟨rfl,rfl,by rw[V',if_pos Y];rfl⟩
  intro t';co_applyP(zo);change _=_/\_=_/\kn _ _;have Y: ¬NH T X.nu (j+1)=true:=λh=>by have:=ho.2 h;simp at t';omega
  exact⟨rfl,rfl,by rw[V',if_neg Y];rfl⟩;rintro _ ε3 _ ⟨rfl,rfl,he3⟩;co_applyP aA he3;co_applyP(au);change∃k',k'<_/\_;rw[e];exact⟨k2-1,bl,rfl,rfl,j+1,c',bl,rfl⟩
 intro hc;co_applyP(ay);co_applyP aK;have c':j=B.no:=by simp at hc;omega
 subst c';have x':=Ag l.pp hI;generalize hm:((List.range B.no).filter λi=>NH T X.nu (i+1)).length=m at x'⊢;obtain⟨fb,fc,hfv,M'⟩:=dm j' (n:=(x.IS 6).length) bE;rw[hfv];have hpm1:(B.p b,true,Obj.cells (KV x (B.e b)) 154)∈L':=a.p _ hb;co_applyP ct ([(61, .bool (decide (T.unused=0\/(x.IS 6).length<2))),(4, .slice fb (x.IS 6).length fc),(1,ptr (B.p b)),(0,ptr R)])
 ·by_cases hu:T.unused=0
  ·have hg:decide ((4:Int)<=(m:Int))=true:=by have:=x'.2 hu;simp;omega
   co_applyP(av);rw[hg];co_applyP(au);change _=_/\_=_/\kn _ _;exact⟨rfl,rfl,by rw[show decide (T.unused=0\/(x.IS 6).length<2)=true from decide_eq_true (.inl hu)];rfl⟩
  ·have hg:decide ((4:Int)<=(m:Int))=false:=by have:=mt x'.1 hu;simp;omega
   co_applyP(av);rw[hg];co_applyP(au);change _=_/\_=_/\kn _ _;refine⟨rfl,rfl, ?_⟩;have e:decide (T.unused=0\/(x.IS 6).length<2)=decide (((x.IS 6).length:Int)<2):=by
    rw[decide_eq_decide];omega
   rw[e];rfl
 co_applyP aI rfl;intro M;co_applyP(aC)
 ·have y:T.unused=0\/(x.IS 6).length<2:=by simpa using M
  have v':T.I4 b x=(some 4,T):=by
   unfold St.I4
   split
   ·rfl
   ·rename_i hu;have:=y.resolve_left hu
    match hf:x.IS 6 with
    |[]=>rfl
    |[_]=>rfl
    |_::_::_=>rw[hf] at this;simp at this;omega
  co_applyP osm rfl (hs:=bh) (hm:=hpm1) (hi:=by rw[aX];decide);intro L3 u';have b':=To.of (a.ID hb u' (x.r0 65534) (B.e b) o (cS x _ (i:=0) bx _) (hun:=l.un _ hb) (hdu:=l.du _ hb) (ho:=λ_ _ _=>fz) (hsz:=l.sz _ hb));co_applyP(ay);exact xI _ ⟨rfl,rfl,rfl,_,To.pre hE (by unfold St.JZ MY;rw[v'];exact b')⟩
 intro M;have y: ¬(T.unused=0\/(x.IS 6).length<2):=by simpa using M
 have K':T.unused≠0:=λh=>y (.inl h);have i':2<=(x.IS 6).length:=Nat.le_of_not_lt λh=>y (.inr h);obtain⟨i0,i1,D,E⟩: ∃i0 i1 D,x.IS 6=i0::i1::D:=by
  match hf:x.IS 6 with
  |[]=>rw[hf] at i';simp at i'
  |[_]=>rw[hf] at i';simp at i'
  |i0::i1::D=>exact⟨i0,i1,D,rfl⟩
 have v':T.I4 b x=(none,(T.IY T.unused []).ID b (x.piped T.unused i0 i1)):=by
  unfold St.I4;rw[if_neg K',E]
 obtain⟨H',hf0⟩:=oh (x:=x) (i:=i0) (by rw[E];simp);obtain⟨G',hf1⟩:=oh (x:=x) (i:=i1) (by rw[E];simp);obtain⟨u1,u2,u3⟩:=rQ K';obtain⟨ab,J',z',_⟩:=M' 0 (.int .i64 i0) (by rw[E];rfl);subst z';have S':=j'.mem J';have q': ¬Kv R B T ab:=l.J6 (l' ab J');have U:ab≠B.p b:=λe=>q' (.inr (.inl ⟨_,hb,e⟩));have G: ∀{L9:Ka},(ab,true,Obj.cells (KM (x.IS 6)++C.junk).toArray 3)∈L9->At L9 ab 0 (.int .i64 (i0:Nat))/\At L9 ab 1 (.int .i64 (i1:Nat)):=λh=>⟨⟨true,_,_,_,h,by rw[E];rfl⟩,⟨true,_,_,_,h,by rw[E];rfl⟩⟩;have h11:At L' R 11 (.int .i64 (X.op:Nat)):=a.kat rfl;have eop:IntKind.i64.wrap ((X.op:Int)+1)=((X.no+1:Nat):Int):=by rw[hop];simp[IntKind.wrap_i64];omega
 co_applyP(bm);rw[eop];co_applyP osm rfl (hs:=bJ) (hm:=a.k) (hi:=by show 11<16;decide);intro L3 u';have b':To o R B T L' B T {X with op:=X.no+1} L3:=To.of (a.JM u' T {X with op:=X.no+1} rfl);have y':=b'.r;have h113:At L3 R 11 (.int .i64 ((X.no+1:Nat):Nat)):=y'.kat rfl;have h63:At L3 R 6 (Kj B.al 1 B.no):=y'.kat rfl;co_applyP(ay);co_applyP aM [] 12 (nf:=0) mixed;co_applyP(bm);co_applyP tr 9 rfl (aQ (Fz _)) pN;co_applyP lD (i:=10) rfl (bA (hN _ _));intro nb L4 Z;refine⟨cx bE Z.sub, ?_⟩;co_applyP lD (i:=11) rfl (gI (v:=ptr nb) (sz:=1) (hN:=hN _ _) (hv:=rfl) (hu:=underlying147) (hs:=sL) (hz:=Ah) (h0:=bx) (h24:=bx));intro nc L5 K;refine⟨cx bE (λt ht=>K.sub t (Z.sub t ht)), ?_⟩;co_applyP aF;intro hnd;have O':Ext L3 L5:=⟨K.fn,λt ht=>K.sub t (Z.sub t ht)⟩;have O:=y'.ext O';co_applyP te (i:=12) rfl (fh (e:=236) (hnd:=hnd) (hu:=underlying147) (hs:=sL) (hb:=CH) (hz:=Ah) (hzs:=rfl) (hN:=λcs=>hN _ _) (ha:=O.al) (hn:=bE) (v:=ptr nb) (hm:=K.self) (hpl:=rfl) (h8:=bl));rintro _ _ ⟨a6,rfl,U'⟩;refine⟨aj bE, ?_⟩;co_applyP to 13 rfl (bI) (aj bE);co_applyP to 14 rfl ((br (hf:=qE))) (aj bE);co_applyP aF;intro Y';co_applyP te (i:=15) rfl (bX (hnd:=Y') (hm:=U'.ch.keep (Lg.sl O.fn O.al bx) O.k) (hi:=by show 6<16;decide) (hp:=bj _ _ _) (hs:=Et));rintro _ _ ⟨rfl,hU7⟩;refine⟨aj bE, ?_⟩;rename_i L7;have P':To o R B T L' (B.more a6 nb) T {X with op:=X.no+1,no:=X.no+1} L7:=b'.trans (To.of (O.I6 (nb:=nb) (by rw[l.no];exact K.sub _ Z.self) U' hU7 (L0:=L3) O'.s Z.new) (hq:=⟨xq _,λn hn=>by show put B.q (B.no+1) nb n=B.q n;unfold put;rw[if_neg bl]⟩));have z:=P'.r.reNu (n:=X.no+1) (u:=T.unused) (by show X.no+1<=B.no+1;rw[l.no];exact cD _) (λv e=>by have:=l.pp.nl v;have e':X.nu v=X.no+1:=e;rw[l.no] at this;omega) u1 u2 (by show put B.yb (B.no+1) [] (X.no+1)=[];rw[l.no];simp[put]) (λq hq i A=>mK hI u1 u3 hq A) (λj=>wC hI u1 u3 j)
 have R':=P'.trans (To.of ⟨z,K1.refl _ _⟩);have p':=R'.f.s _ S' q';obtain⟨a07,a17⟩:=G p';have Q':(R,true,Obj.cells _ 150)∈L7:=z.k;have N:(B.p b,true,Obj.cells (KV x (B.e b)) 154)∈L7:=z.p _ hb;have N':R≠B.p b:=λe=>by
  rw[<-e] at N;exact absurd (cY z.fn Q' N) bx
 have h117:At L7 R 11 (.int .i64 ((X.no+1:Nat):Nat)):=z.kat rfl;co_applyP(ay);co_applyP aM [] 11 (nf:=0) mixed;co_applyP(bf);co_applyP aF;intro hnd8;co_applyP te (i:=11) rfl (bX (hnd:=hnd8) (hm:=N) (hi:=by rw[aX];omega) (hs:=bJ));rintro _ _ ⟨rfl,d'⟩;refine⟨aj bE, ?_⟩;rename_i L8;have n':=d'.ne _ p' U;have hk8:=d'.ne _ Q' N';obtain⟨a08,a18⟩:=G n';co_applyP(ay);co_applyP aM [] 7 (nf:=0) mixed;co_applyP(aR);co_applyP aF;intro hnd9;co_applyP te (i:=7) rfl (bX (hnd:=hnd9) (hm:=d'.self) (hi:=by simp only[tE,aX];omega) (hs:=xJ));rintro _ _ ⟨rfl,g'⟩;refine⟨aj bE, ?_⟩;rename_i L9;have m':=g'.ne _ n' U;have hk9:=g'.ne _ hk8 N';obtain⟨a09,a19⟩:=G m';have h119:At L9 R 11 (.int .i64 ((X.no+1:Nat):Nat)):=⟨true,_,_,_,hk9,rfl⟩;co_applyP(ay);co_applyP aM [] 11 (nf:=0) mixed;co_applyP(bf);co_applyP aF;intro A';co_applyP te (i:=11) rfl (bX (hnd:=A') (hm:=g'.self) (hi:=by simp only[tE,aX];omega) (hs:=bJ))
 rintro _ _ ⟨rfl,V⟩;refine⟨aj bE, ?_⟩;rename_i L10;have W:=V.ne _ m' U;obtain⟨a010,a110⟩:=G W;co_applyP(ay);co_applyP aM [] 7 (nf:=0) mixed;co_applyP(aR);co_applyP aF;intro E';co_applyP te (i:=7) rfl (bX (hnd:=E') (hm:=V.self) (hi:=by simp only[tE,aX];omega) (hs:=xJ));rintro _ _ ⟨rfl,J⟩;refine⟨aj bE, ?_⟩;rename_i L11;have P:=J.ne _ W U;obtain⟨a011,a111⟩:=G P;co_applyP(ay);co_applyP aM [] 9 (nf:=0) mixed;co_applyP(bm);co_applyP aF;intro D';co_applyP te (i:=9) rfl (bX (hnd:=D') (hm:=J.self) (hi:=by simp only[tE,aX];decide) (hs:=bh));rintro _ _ ⟨rfl,I⟩;refine⟨aj bE, ?_⟩;rename_i L12;have w':=I.ne _ P U;obtain⟨a012,a112⟩:=G w';co_applyP(zo);co_applyP aM [] 9 (nf:=0) mixed;co_applyP(bm);co_applyP aF;intro F';co_applyP te (i:=9) rfl (bX (hnd:=F') (hm:=I.self) (hi:=by simp only[tE,aX];decide) (hs:=bh));rintro _ _ ⟨rfl,W'⟩;refine⟨aj bE, ?_⟩;have hU:=K4.two (K4.two (K4.two (K4.two (K4.two d' g') V) J) I) W'
 rw[bC,bC,Int.emod_eq_of_lt (OW _) bl,Int.emod_eq_of_lt (OW _) bl,py _ _ H',pz _ _ H',py _ _ G',pz _ _ G'] at hU;have e7:=cS x {B.e b with pi:=put (put (B.e b).pi i0 (X.no+1)) i1 (X.no+1),wr:=put (put (B.e b).wr i0 false) i1 true} (i:=0) bx (i0:Nat);have e8:=cS {x with r:=put x.r 0 ((i0:Nat):Int)} {B.e b with pi:=put (put (B.e b).pi i0 (X.no+1)) i1 (X.no+1),wr:=put (put (B.e b).wr i0 false) i1 true} (i:=1) bx (i1:Nat);rw[<-e7] at e8;rw[show (7:Nat)=7+0 from rfl,show (8:Nat)=7+1 from rfl] at hU;have S:put X.nu T.unused (X.no+1) T.unused=X.no+1:=by simp[put]
 have ecs:KV {x with r:=put (put x.r 0 ((i0:Nat):Int)) 1 ((i1:Nat):Int)} {B.e b with pi:=put (put (B.e b).pi i0 (X.no+1)) i1 (X.no+1),wr:=put (put (B.e b).wr i0 false) i1 true}=KV (x.piped T.unused i0 i1) {B.e b with pi:=put (put (B.e b).pi i0 (X.no+1)) i1 (X.no+1),wr:=put (put (B.e b).wr i0 false) i1 true}:=rfl;have hT9:=R'.trans (To.of (z.ID hb hU (x.piped T.unused i0 i1) {B.e b with pi:=put (put (B.e b).pi i0 (X.no+1)) i1 (X.no+1),wr:=put (put (B.e b).wr i0 false) i1 true} o (e8.trans ecs) (hfi:=λh=>by
  have h':FI (put X.nu T.unused (X.no+1)) (B.e b) x:=h;have X':put X.nu T.unused (X.no+1) 0=0:=z.pp.n0;have h1:=(h'.put i0 (k:=(T.unused,4)) X' (.inr (by rw[S];exact Nat.succ_ne_zero _))).put i1 (k:=(T.unused,5)) X' (.inr (by rw[S];exact Nat.succ_ne_zero _));simp only[S] at h1;exact h1) (hwa:=λe he hc=>absurd hc (I' e he)) (hun:=l.un _ hb) (hdu:=l.du _ hb) (ho:=λ_ _ _=>fz) (hsz:=l.sz _ hb)))
 co_applyP(zo);exact xI _ ⟨rfl,rfl,rfl,_,To.pre hE (by unfold St.JZ MY;rw[v'];exact hT9)⟩
section
variable {o R:Nat}{B B1:RB}{S T T1:St}{X X1:RX}{L L0 L1 L2:Ka}{D:Nat->Prop}{b c n k2:Nat}{x y:PS}{N:Nat->Nat}{P:Nat->Prop}{k:Nat×Nat}
theorem To.other (h:To o R B T L B1 T1 X1 L1)(c:Ch D L1 L2)(e: ∀b,D b-> ¬Kv R B1 T1 b/\ ∀t∈L,¬Kv R B T t.1->t.1≠b) (u:Lg L1 D 154):To o R B T L B1 T1 X1 L2:=
 ⟨h.r.other c λb hb=>(e b hb).1,⟨λt d a=>c.s _ (h.f.s t d a) λj=>(e _ j).2 t d a rfl,h.f.n⟩,h.p,h.l,λq k=>(h.i q k).imp id λ⟨cs,g,m⟩=>⟨cs,c.keep u g,m⟩,h.le,h.qq⟩
theorem K1.free {own a:Nat->Prop}(h:K1 own a L L1){fl:Bool}{obj:Obj}(hm:(b,fl,obj)∈L)(hn: ¬own b):(b,fl,obj)∈L1/\ ¬a b:=⟨h.s _ hm hn,λe=>by
 rcases h.n b e with d|d
 ·exact hn d
 ·exact d _ hm rfl⟩
theorem k9 (a:Good T)(r3: ∀l,3<=l->T.rows l=[]) (hb:(b,x)∈T.ps) (s:Int):(T.IT b x 6).ID b {x with st:=6,stat:=s}=T.JC b x s:=by
 unfold St.IT St.JC;rw[jF a r3 hb,cZ,cZ,bd]
theorem MI.JC (h:MI P N T)(ho:T.out b)(hb:(b,x)∈T.ps)(s:Int):MI P N (T.JC b x s):=by
 rw[<-k9 h.i.g h.x.r3 hb];exact(h.IT hb ho (s:=6) bx).Jq (x':={x with st:=6,stat:=s}) (ai hb) ho rfl rfl ⟨(h.i.wf _ hb).r,(h.i.wf _ hb).m⟩ (h.i.fl (b,x) hb) rfl rfl (h.x.un (b,x) hb)
theorem j8 (id:Nat): ∀(bs:List Nat)(S:St),(S.IH id bs).ps.map (·.1)=S.ps.map (·.1)
 |[],S=>rfl
 |b::bs,S=>by
  unfold St.IH;rw[j8 id bs]
  split
  ·split
   ·exact eA _ _ _
   ·rfl
  ·rfl
theorem dM (h:c∈S.ps.map (·.1)): ∃y,(c,y)∈S.ps:=by
 obtain⟨q,a,rfl⟩:=cm.1 h;exact⟨q.2,a⟩
def St.isW (S:St)(c:Nat):Bool:=match S.get c with
 |some y=>y.st==2
 |none=>false
theorem pC (hn:(S.ps.map (·.1)).Nodup)(h:(c,y)∈S.ps):S.isW c=(y.st==2):=by unfold St.isW;rw[aY hn h]
theorem pD (hn:(S.ps.map (·.1)).Nodup)(h:(c,y)∈S.ps)(h2:y.st=2):S.IJ c=S.Jz c y:=by
 unfold St.IJ St.Jz;rw[aY hn h];simp only[if_pos h2];have a: ¬y.st=1:=bl
 cases S.II y with
 |none=>rfl
 |some i=>
  simp only[if_neg a];cases S.ps[i]? <;>rfl
theorem pE (hn:(S.ps.map (·.1)).Nodup)(h:(b,x)∈S.ps)(h2:x.st=2)(a:b≠c):(b,x)∈(S.IJ c).ps:=by
 unfold St.IJ
 split
 ·rename_i y n
  split
  ·split
   ·rename_i i l
    split
    ·rename_i q g;refine bK ?_ a;unfold St.take;rw[g];refine bK ?_ a;show (b,x)∈S.ps.eraseIdx i;rw[G2];obtain⟨j,f⟩:=mx h;refine⟨j,λe=> ?_,f⟩;subst e;rw[f] at g;have:=OG.1 l;obtain⟨d,k,_⟩:=this;have m:S.ps[j]=(b,x):=by
      have:=sy d;rw[f] at this;exact(gu this).symm
     rw[m] at k;simp[Kl] at k;omega
    ·exact h
   ·exact h
  ·exact h
 ·exact h
theorem D4 {b:Type}{f:b->Option b}: ∀{l:List b},(∀e∈l,f e=some e)->l.filterMap f=l
 |[],_=>rfl
 |a::l,h=>by
  rw[O9,h a eT];simp only[];rw[D4 λe he=>h e (dc _ he)]
theorem fL (h: ∀e∈T.wt,e.1=k->b∉e.2) (a: ∀e∈T.wt,e.2≠[]):T.IE b k=T:=by
 have e:KR b k T.wt=T.wt:=D4 λe he=>by
  split
  ·rename_i d;have f:(e.2.filter λc=> !decide (c=b))=e.2:=List.filter_eq_self.2 λc hc=>by
    have:=h e he d;simp only[Bool.not_eq_true',decide_eq_false_iff_not];rintro rfl;exact this hc
   rw[f,if_neg (λh0=>a e he (OI.1 h0)),<-d]
  ·rfl
 unfold St.IE;rw[e];rfl
def Dp (T:St)(b:Nat)(x:PS)(S:St):Prop:=S=T\/S=T.IE b (x.file (x.r 0))
theorem Dp.IE (a:Inv T)(hb:(b,x)∈T.ps)(h:Dp T b x S)(k:Nat×Nat):S.IE b k=if k=x.file (x.r 0) then T.IE b (x.file (x.r 0)) else S:=by
 have g: ∀k,(T.IE b (x.file (x.r 0))).IE b k=T.IE b (x.file (x.r 0)):=λk=>fL (λe he _=>a.I3 hb e he) a.IE.ne;rcases h with rfl|rfl
 ·split
  ·rename_i e;rw[e]
  ·rename_i d;exact fL (λe he i hm=>d (by rw[<-i];exact(a.row hb he hm).f.symm)) a.ne
 ·rw[g];split<;>rfl
theorem Dp.next (a:Inv T)(hb:(b,x)∈T.ps)(h:Dp T b x S)(k:Nat×Nat):Dp T b x (S.IE b k):=by
 rw[h.IE a hb]
 split
 ·exact .inr rfl
 ·exact h
theorem Ki.J9 (h:Ki o R B (T.gone b) X L)(s:(T.wt.map (·.1)).Nodup)(hn:0<n/\n<=B.no)(f:k2=4\/k2=5){i:Sl}(hp:MM L 3 (B.a (2*n+(k2-3))) (KM (wo (B.w (2*n+(k2-3))) b)) i L1)(g:K4 L1 (B.q n) (.cells ((Me B n).setIfInBounds (k2-2) (Kj i 1 (wo (B.w (2*n+(k2-3))) b).length)) 238) L2): ∃r T',To o R B (T.gone b) L r (T'.gone b) X L2/\((T'=T/\ ∀u,X.nu u≠n)\/ ∃u,X.nu u=n/\T'=T.IE b (u,k2)):=by
 by_cases hu: ∃u,X.nu u=n
 ·obtain⟨u,rfl⟩:=hu;have e:=(h.JP (u:=u) bl f).1;rw[e] at hp g;exact⟨_,T.IE b (u,k2),h.JU (T:=T.gone b) s bl f hp g, .inr ⟨u,rfl,rfl⟩⟩
 ·have d: ∀u,X.nu u≠n:=λu e=>hu ⟨u,e⟩;obtain⟨k,j⟩:=h.pp.rz n d;have e:B.w (2*n+(k2-3))=[]:=by rcases f with rfl|rfl;exact k;exact j
  have p:put B.w (2*n+(k2-3)) []=B.w:=by
   funext l
   unfold put
   split
   ·rename_i m;rw[m,e]
   ·rfl
  rw[e] at hp g;exact⟨_,T,To.of (h.I8 hn bl (zs:=[]) hp g (tF B _ f _ _) (T.gone b) (h.pp.of (hw:=p) (hfi:=h.pp.fi) (hwa:=h.pp.wa)) rfl), .inl ⟨rfl,d⟩⟩
theorem Ki.w8 (h:Ki o R B T X L)(h8: ∀k,(T.rowAt k).length<=8) (b:k2=4\/k2=5) (hn:n≠0):(B.w (2*n+(k2-3))).length<=8/\Kf (B.a (2*n+(k2-3))) (KM (B.w (2*n+(k2-3)))) 3 L:=by
 refine⟨?_, ?_⟩
 ·by_cases hu: ∃u,X.nu u=n
  ·obtain⟨u,rfl⟩:=hu;rw[(h.JP hn b).1];exact h8 _
  ·obtain⟨f,d⟩:=h.pp.rz n λu e=>hu ⟨u,e⟩;rcases b with rfl|rfl
   ·show (B.w (2*n+1)).length<=8;rw[f];simp
   ·show (B.w (2*n+2)).length<=8;rw[d];simp
 ·have:=h.rs (2*n+(k2-3));unfold M6 at this;rw[if_neg bl] at this;exact this
theorem MI.stay (h:MI (λ_=>False) N S)(hb:(b,x)∈S.ps)(ho:S.out b)(n:Nat)(p: ∀y,(c,y)∈S.ps->y.st=1\/y.st=6): ∀y,(c,y)∈(S.shut b n).ps->y.st=1\/y.st=6:=λy l=>by
 have k:=h.i.shut hb ho n;have hm:c∈(S.ID b {x with f:=put x.f n (0,0)}).ps.map (·.1):=by rw[<-k.f];exact fp l
 rw[eA] at hm;obtain⟨z,a⟩:=dU hm;have d:=p z a;have j:S.out c:=by
  rcases d with o|r
  ·exact h.out a o
  ·exact h.i.JI a bl bl bl
 have aux: ∀{w:PS},(c,w)∈(S.ID b {x with f:=put x.f n (0,0)}).ps->w.st=z.st->y.st=1\/y.st=6:=λ{w} hw e=>by
  rw[aS k.i.g.pn l (k.m c w j hw),e];exact d
 by_cases e:c=b
 ·subst e;rw[aS h.i.g.pn a hb] at d aux;exact aux (ai hb) rfl
 ·exact aux (bK a e) rfl
end
abbrev MZ (X:RX)(b:Nat)(st:Int):RX:={tellX X 4 b st with over:=X.over||decide (b=1)}
theorem Ai: ∃n,∀{σ}{F:Kn σ}{Δ:DM F}{W' s}(o R:Nat)(B:RB)(T:St)(X:RX)(L:Ka)(b:Nat)(x:PS)(st:Int),(∀s o,(Δ s).New o)->Ki o R B T X L->MI (λ_=>False) (λb=>b) T->X.ask=0->X.no<=10000->(b,x)∈T.ps->x.st≠6->X.ws.length<=10000->(∀y,(o,y)∈T.ps->y.st=1)->
 Kb Δ prog W' 139 [ptr R,ptr (B.p b), .int .i64 st].toArray n s L (λs' v L'=>s=s'/\v= .tuple #[]/\ ∃E,To o R B T L E (T.fin b x st) (MZ X b st) L'):=by
 obtain⟨n1,g1⟩:=jH;obtain⟨n2,g2⟩:=pv;obtain⟨n3,g3⟩:=z8;obtain⟨n4,g4⟩:=fK;obtain⟨n5,g5⟩:=rP;constructor;intro σ F Δ W' s o R B T X L b x st hN Z hM hask hno hb h6 hw ho;have hI:=hM.i;have hg:=hM.i.g;co_applyP ar 161 func139 ntmps139;co_applyP(ax);co_applyP oc rfl rfl rfl (g1 o R B T X L b x hN Z hb (λl Y=>hg.r8 Y) hM.x.r3);rintro _ _ _ ⟨rfl,rfl,B1,hT1⟩;co_applyP(aC);rename_i L1;have hBn:B.no<=10000:=by rw[Z.no];exact hno
 obtain⟨Q,I⟩: ∃Q,Q=x.file (x.r 0):=⟨_,rfl⟩;co_applyP aU (λk s' N L'=>s=s'/\ ∃(j:Nat) (E:RB) (S:St),j<=B.no/\k+j=10000/\To o R B T L E (S.gone b) X L'/\Dp T b x S/\(X.nu Q.1<=j->X.nu Q.1≠0->S=T.IE b Q)/\kn N [(6, .int .i64 j),(2, .int .i64 st),(1,ptr (B.p b)),(0,ptr R)]) 10000
 ·exact⟨rfl,0,B1,T,hX _,rfl,hT1, .inl rfl,λh h0=>absurd (Nat.le_zero.1 h) h0,rfl⟩
 rintro k s' N L' ⟨rfl,j,B2,S,hj,hk,V,h',Z',he⟩;co_applyP aA he;have b':=V.r;have eno:B2.no=B.no:=b'.no.trans Z.no.symm;obtain⟨r',cap,hv,m'⟩:=dm b'.al (n:=B2.no) bE;have hat6:At L' R 6 (.slice r' B2.no cap):=by rw[<-hv];exact b'.kat rfl
 co_applyP(aP);co_applyP aI rfl;intro hc
 ·have hj':j<B2.no:=by simp at hc;omega
  obtain⟨g,hgb,D',hbv⟩:=m' j (ptr (B2.q (j+1))) (by rw[sE,List.getElem?_range hj'];rfl);subst D';have hq:0<j+1/\j+1<=B2.no:=⟨bl,bl⟩;have R': ∀{S:St},Dp T b x S->Inv S:=λh=>by
   rcases h with rfl|rfl
   ·exact hI
   ·exact hI.IE
  have hwk:=(R' h').kn;obtain⟨hl4,hro4⟩:=b'.w8 (λk=>rM (R' h') k) (k2:=4) (n:=j+1) (.inl rfl) bl;have h2:At L' (B2.q (j+1)) 2 (Kj (B2.a (2*(j+1)+(4-3))) 1 (B2.w (2*(j+1)+(4-3))).length):=b'.qat hq rfl;have hid:At L' (B.p b) 0 (.int .i64 (b:Nat)):=V.num Z hb;have e:IntKind.i64.wrap ((j:Int)+1)=((j+1:Nat):Int):=ag
  co_applyP(dE);co_applyP aM [] 10 mixed;co_applyP(aP);co_applyP tc 10 rfl rfl rfl (g4 L' _ (B2.w (2*(j+1)+(4-3))) b hN b'.fn hro4 hl4);rintro _ _ _ ⟨rfl,a3,rfl,hE3,hp3,_⟩;refine⟨aj bE, ?_⟩;co_applyP to 11 rfl (bI) (aj bE);co_applyP to 12 rfl ((br (hf:=lL))) (aj bE);co_applyP aF;intro hnd;co_applyP te (i:=13) rfl (bX (hnd:=hnd) (hm:=hE3.s _ (b'.q _ hq)) (hi:=by show 2<4;decide) (hp:=bj _ _ _) (hs:=dC));rintro _ _ ⟨rfl,hU3⟩;refine⟨aj bE, ?_⟩;rename_i L3;obtain⟨B3,S3,O,hS3⟩:=b'.J9 hwk hq (.inl rfl) hp3 hU3;have f':Dp T b x S3:=by
   rcases hS3 with ⟨rfl,_⟩|⟨u,_,rfl⟩
   ·exact h'
   ·exact h'.next hI hb _
  have C':=O.r;have eq3:B3.q (j+1)=B2.q (j+1):=O.qq.2 _ hq.2;have hq3:0<j+1/\j+1<=B3.no:=⟨hq.1,l6 hq.2 O.qq.1⟩;obtain⟨hl5,hro5⟩:=C'.w8 (λk=>rM (R' f') k) (k2:=5) (n:=j+1) (.inr rfl) bl;have h3:At L3 (B3.q (j+1)) 3 (Kj (B3.a (2*(j+1)+(5-3))) 1 (B3.w (2*(j+1)+(5-3))).length):=C'.qat hq3 rfl;have hid3:At L3 (B.p b) 0 (.int .i64 (b:Nat)):=(V.trans O).num Z hb;rw[<-eq3];co_applyP(zo);co_applyP aM [] 10 mixed;co_applyP(aP);co_applyP tc 10 rfl rfl rfl (g4 L3 _ (B3.w (2*(j+1)+(5-3))) b hN C'.fn hro5 hl5);rintro _ _ _ ⟨rfl,a4,rfl,hE4,hp4,_⟩;refine⟨aj bE, ?_⟩;co_applyP to 11 rfl (bI) (aj bE);co_applyP to 12 rfl ((br (hf:=lM))) (aj bE);co_applyP aF;intro hnd4;co_applyP te (i:=13) rfl (bX (hnd:=hnd4) (hm:=hE4.s _ (C'.q _ hq3)) (hi:=by show 3<4;decide) (hp:=bj _ _ _) (hs:=dC));rintro _ _ ⟨rfl,hU4⟩;refine⟨aj bE, ?_⟩;rename_i L4;obtain⟨B4,S4,c',hS4⟩:=C'.J9 (R' f').kn hq3 (.inr rfl) hp4 hU4;have hDp4:Dp T b x S4:=by
   rcases hS4 with ⟨rfl,_⟩|⟨u,_,rfl⟩
   ·exact f'
   ·exact f'.next hI hb _
  have hDj4:X.nu Q.1<=j+1->X.nu Q.1≠0->S4=T.IE b Q:=λhle h0=>by
   have stay: ∀{U:St},U=T.IE b Q-> ∀k,U.IE b k=T.IE b Q:=λ{U} hU k=>by
    rw[Dp.IE (S:=U) hI hb (.inr (by rw[hU,I])),<-I]
    split
    ·rfl
    ·exact hU
   have A':S3=T.IE b Q->S4=T.IE b Q:=λh=>by
    rcases hS4 with ⟨K,_⟩|⟨u,_,K⟩
    ·rw[K,h]
    ·rw[K];exact stay h _
   by_cases hle':X.nu Q.1<=j
   ·refine A' ?_;have hS:=Z' hle' h0;rcases hS3 with ⟨K,_⟩|⟨u,_,K⟩
    ·rw[K,hS]
    ·rw[K];exact stay hS _
   ·have hn:X.nu Q.1=j+1:=bl
    have hk2:Q.2=4\/Q.2=5:=by
     rcases hI.Ju hb (x.r 0) with h|h
     ·rw[<-I] at h;rw[h,Z.pp.n0] at h0;exact absurd rfl h0
     ·rw[<-I] at h;exact h.2
    rcases hS3 with ⟨_,K⟩|⟨u,hu,K⟩
    ·exact absurd hn (K _)
    ·have eu:u=Q.1:=Z.pp.ni u Q.1 (hu.trans hn.symm) bl;rcases hk2 with h4|h5
     ·refine A' ?_;rw[K,Dp.IE hI hb h',if_pos (by rw[<-I,eu,<-h4]),I]
     ·rcases hS4 with ⟨_,h2⟩|⟨u',hu',h2⟩
      ·exact absurd hn (h2 _)
      ·have eu':u'=Q.1:=Z.pp.ni u' Q.1 (hu'.trans hn.symm) bl;rw[h2,Dp.IE hI hb f',if_pos (by rw[<-I,eu',<-h5]),I]
  co_applyP(aC);change∃k',k'<_/\_;rw[e];exact⟨k-1,bl,rfl,j+1,B4,S4,bl,bl,(V.trans O).trans c',hDp4,hDj4,rfl⟩
 intro hc;have hjn:j=B.no:=by simp at hc;omega
 have hSD:S=T.IE b Q:=by
  rcases hI.Ju hb (x.r 0) with h|h
  ·rw[<-I] at h;have hD:T.IE b Q=T:=fL (λe he e1=>by have:=(hI.ke e he).1.1;rw[e1,h] at this;exact absurd this bx) hI.ne;rcases h' with K|K
   ·rw[K,hD]
   ·rw[K,I]
  ·obtain⟨h7,hf⟩:=jI rfl h;have wx0:0<=x.r 0/\x.r 0<65536:=(hI.wf _ hb).r 0 bl;have:=(Z.pp.fi _ hb (x.r 0).toNat bl).2.2 (by rw[show (b,x).2.f (x.r 0).toNat=_ from hf];intro e;rw[e] at h;exact absurd h.1.1 bx);rw[show (b,x).2.f (x.r 0).toNat=_ from hf,<-I] at this;exact Z' (by rw[hjn];exact Z.pp.nl _) this
 obtain⟨D,hD⟩: ∃D,D=T.IE b Q:=⟨_,rfl⟩;rw[hSD,<-hD] at V;have hMD:MI (λ_=>False) (λb=>b) D:=by rw[hD];exact hM.IE
 have hoD:D.out b:=by rw[hD,I];exact hI.I3 hb
 have hbD:(b,x)∈D.ps:=by rw[hD];exact hb
 have hfD:D.ps=T.ps:=by rw[hD];rfl
 clear b' m' hat6 hv Z' h' hSD;have F':(b,x)∈(D.gone b).ps:=hbD;have ep1:=V.q Z hb;rw[<-ep1];co_applyP(aC);co_applyP osm rfl (hs:=bJ) (hm:=V.r.p _ F') (hi:=by rw[aX];decide);intro L2 hU2;have O:=V.trans (To.of (V.r.ID F' hU2 {x with st:=6} (B2.e b) o rfl (hun:=λh=>nomatch h) (hdu:=V.r.du _ F') (ho:=λ_ _ _=>fz) (hsz:=λh=>absurd rfl h)));have hb2:=ai (x:={x with st:=6}) F';co_applyP(aR);co_applyP osm rfl (hs:=bJ) (hm:=O.r.p _ hb2) (hi:=by rw[aX];decide);intro L3 hU3;have c':=O.trans (To.of (O.r.ID hb2 hU3 {x with st:=6,stat:=st} (put B2.e b (B2.e b) b) o rfl (hun:=λh=>nomatch h) (hdu:=O.r.du _ hb2) (ho:=λ_ _ _=>fz) (hsz:=λh=>absurd rfl h)));rw[bd] at c';replace c':To o R B T L _ (D.JC b x st) X L3:=c';clear hT1 V O;have hid3:At L3 (B2.p b) 0 (.int .i64 (b:Nat)):=by rw[ep1];exact c'.num Z hb
 co_applyP(bm);co_applyP oc rfl rfl rfl (g2 o R _ _ X L3 4 b st hN c'.r hw);rintro _ _ _ ⟨rfl,rfl,B5,P⟩;co_applyP(aC);replace P:=c'.trans P;rename_i L5;clear c';rw[ep1];have hb5:(b,{x with st:=6,stat:=st})∈(D.JC b x st).ps:=ai F';have hM5:=hMD.JC hoD hbD st;have hf5:(D.JC b x st).ps.map (·.1)=T.ps.map (·.1):=by rw[<-hfD];exact eA _ _ _
 have ho5: ∀y,(o,y)∈(D.JC b x st).ps->y.st=1\/y.st=6:=λy J=>by
  rcases aN J with e|⟨K,_⟩
  ·cases e;exact .inr rfl
  ·exact .inl (ho y (by rw[<-hfD];exact K))
 co_applyP aU (λk s' N L'=>s=s'/\ ∃(i:Nat) (E:RB) (S:St) (f:Nat->Nat×Nat),i<=6/\k+i=6/\To o R B T L E S (tellX X 4 b st) L'/\MI (λ_=>False) (λb=>b) S/\S.out b/\(b,{x with st:=6,stat:=st,f:=f})∈S.ps/\(∀l,i<=l->f l=x.f l)/\S.ps.map (·.1)=T.ps.map (·.1)/\(∀y,(o,y)∈S.ps->y.st=1\/y.st=6)/\S.I1 b x.f (List.range' i (6-i))=(D.JC b x st).I1 b x.f (List.range' 0 6)/\kn N [(8, .int .i64 i),(2, .int .i64 st),(1,ptr (B.p b)),(0,ptr R)]) 6
 ·exact⟨rfl,0,B5,_,x.f,bl,rfl,P,hM5,hoD,hb5,λ_ _=>rfl,hf5,ho5,rfl,rfl⟩
 rintro k s' N L' ⟨rfl,i,B6,A,f,hi6,hk,H,d',i',g',hff,hf6,P',hsh,he⟩;co_applyP aA he;have ep6:=H.q Z hb;co_applyP(au);co_applyP aI rfl;intro hc
 ·have hi:i<6:=by simp at hc;omega
  have e1:IntKind.i64.wrap ((i:Int)+1)=((i+1:Nat):Int):=ag
  obtain⟨f1,f2,f3⟩:=H.r.pp.fi _ g' i hi;have J':f i=x.f i:=hff i (cD _);have hpi:At L' (B.p b) (79+i) (.int .i64 (X.nu (x.f i).1:Nat)):=by
   have:=H.r.pat g' (fV {x with st:=6,stat:=st,f:=f} (B6.e b) hi);rw[show (B6.e b).pi i=X.nu (f i).1 from f1,J',ep6] at this;exact this
  have p':(if x.f i=(0,0) then A else A.shut b i).I1 b x.f (List.range' (i+1) (6-(i+1)))=(D.JC b x st).I1 b x.f (List.range' 0 6):=by
   rw[<-hsh,show 6-i=(6-(i+1))+1 by omega,List.range'_succ];rfl
  co_applyP(zo);co_applyP bL ((λM' e' j'=>s=M'/\ ∃(E:RB) (S:St) (f:Nat->Nat×Nat),To o R B T L E S (tellX X 4 b st) j'/\MI (λ_=>False) (λb=>b) S/\S.out b/\(b,{x with st:=6,stat:=st,f:=f})∈S.ps/\(∀l,i+1<=l->f l=x.f l)/\S.ps.map (·.1)=T.ps.map (·.1)/\(∀y,(o,y)∈S.ps->y.st=1\/y.st=6)/\S.I1 b x.f (List.range' (i+1) (6-(i+1)))=(D.JC b x st).I1 b x.f (List.range' 0 6)/\kn e' [(8, .int .i64 i),(2, .int .i64 st),(1,ptr (B.p b)),(0,ptr R)]));co_applyP(aP);co_applyP aI rfl;intro hz;co_applyP(av)
  ·have O':f i≠(0,0):=λh=>by
    rw[J'] at h;rw[h,show X.nu 0=0 from Z.pp.n0] at hz;simp at hz
   rw[if_neg (by rw[<-J'];exact O')] at p';have h0: ∀q∈A.ps,q.1≠0:=λq hq=>by have:=(d'.x.idr q hq).1;rw[H.r.id q hq] at this;omega
   have hAk:Ak o A (tellX X 4 b st).ask:=by
    show Ak o A X.ask;rw[hask];exact Ak.calm d' h0 λy J=>by have:=P' y J;omega
   have Y:=d'.i.shut g' i' i;rw[<-ep6];co_applyP oc rfl rfl rfl (g5 o R B6 A (tellX X 4 b st) L' b {x with st:=6,stat:=st,f:=f} i hN H.r d'.i hAk g' i' hi O' hno);rintro _ _ _ ⟨rfl,rfl,B7,E'⟩;co_applyP(zo);change _=_/\ ∃E S f,_;rw[ep6];exact⟨rfl,B7,A.shut b i,put f i (0,0),H.trans E',d'.shut g' i' i,Y.o b i',Y.m b _ i' (ai g'),λl Y=>by unfold put;rw[if_neg bl];exact hff l bl,by rw[Y.f,eA];exact hf6,d'.stay g' i' i P',p',rfl⟩
  intro hz;co_applyP(zo);change _=_/\ ∃E S f,_;have O':x.f i=(0,0):=ti λh=>by
   have:=f3 (by show f i≠(0,0);rw[J'];exact h);have h2:X.nu (x.f i).1≠0:=by rw[<-J'];exact this
   simp at hz;exact h2 hz
  rw[if_pos O'] at p';exact⟨rfl,B6,A,f,H,d',i',g',λl Y=>hff l bl,hf6,P',p',rfl⟩;rintro _ ε7 L7 ⟨rfl,B7,S7,f7,E',H',ho7,hb7,hff7,hf7,hO7,hsh7,he7⟩;co_applyP aA he7;co_applyP(au);change∃k',k'<_/\_;rw[e1];exact⟨k-1,bl,rfl,i+1,B7,S7,f7,bl,bl,E',H',ho7,hb7,hff7,hf7,hO7,hsh7,rfl⟩
 intro hc;co_applyP(bm);have hi6':i=6:=by simp at hc;omega
 subst hi6';have hsh6:A=(D.JC b x st).I1 b x.f (List.range' 0 6):=hsh;have I':=d';have q':A.ps.map (·.1)=T.ps.map (·.1):=hf6;have hfin0:T.fin b x st=(A.IH x.id (A.ps.map (·.1))).parents ((A.IH x.id (A.ps.map (·.1))).ps.map (·.1)):=by
  unfold St.fin;simp only[];rw[<-I,<-hD,k9 hMD.i.g hMD.x.r3 hbD,<-hsh6]
 have h1b:1<=b:=by have:=(hM.x.idr _ hb).1;rw[Z.idb hb] at this;exact this
 have hbid:=Z.idb hb;have hnd:=hg.pn;generalize hns:T.ps.map (·.1)=ns at q' hnd;have hl8:ns.length<=8:=by rw[<-hns];simpa using hg.p8
 co_applyP aU (λk s' N L'=>s=s'/\ ∃C l2 E a',ns=C++l2/\k+C.length=8/\To o R B T L E (A.IH b C) (tellX X 4 b st) L'/\Kf a' ((C.filter A.isW).map λc=>ptr (B.p c)) 155 L'/\(∀c,a'.b=some c->E.ap.b≠some c/\ ∀t∈L,¬Kv R B T t.1->t.1≠c)/\kn N [(10, .int .i64 C.length),(9,Kj a' 1 (C.filter A.isW).length),(1,ptr (B.p b)),(0,ptr R)]) 8
 ·exact⟨rfl,[],ns,B6,⟨none,[]⟩,rfl,rfl,H,⟨rfl,rfl⟩,bE,rfl⟩
 rintro k s' N L' ⟨rfl,C,l2,E,a',Y,hk,hT,ha,Q',he⟩;co_applyP aA he;have G:=congrArg List.length Y;simp only[mb] at G;have M:=hT.r;have hMo:=MI.IH b h1b C I';have S':(A.IH b C).ps.map (·.1)=ns:=by rw[j8,q']
 have X':(A.IH b C).ps.length=ns.length:=by rw[<-S'];simp
 obtain⟨r',cap,hv,m'⟩:=dm M.pl (n:=ns.length) (by simp[X']);have h5:At L' R 5 (.slice r' ns.length cap):=by rw[<-hv,<-X'];exact M.kat rfl
 co_applyP(aP);co_applyP aI rfl;intro hc
 ·cases l2 with
  |nil=>simp at hc G;omega
  |cons c l2=>
   obtain⟨y,J⟩:=dM (c:=c) (S:=A.IH b C) (by rw[S',Y];simp);obtain⟨z,hz,v',_⟩:=fJ b C _ J;have hgi:((A.IH b C).ps.map λq=>ptr (E.p q.1))[C.length]? =some (ptr (E.p c)):=by
    have:((A.IH b C).ps.map (·.1))[C.length]? =some c:=by rw[S',Y];simp
    rw[sE] at this⊢;cases h:(A.IH b C).ps[C.length]? with
    |none=>rw[h] at this;cases this
    |some q=>rw[h] at this;simp at this;simp[this]
   obtain⟨g,hgb,D',hbv⟩:=m' C.length _ hgi;subst D';simp at G;have hcT: ∃w,(c,w)∈T.ps:=dM (by rw[hns,Y];simp);obtain⟨w,N'⟩:=hcT;have l':E.p c=B.p c:=hT.q Z N';have e1:IntKind.i64.wrap ((C.length:Int)+1)=((C++[c]).length:Int):=ag
   have hy1:At L' (B.p c) 1 (.int .i64 (y.par:Nat)):=by rw[<-l'];exact M.pat J (i:=1) rfl
   have hb0:At L' (B.p b) 0 (.int .i64 (b:Nat)):=hT.num Z hb;have T':A.isW c=(y.st==2):=by rw[pC I'.i.g.pn hz,v']
   have w':A.IH b (C++[c])=if y.par=b then(A.IH b C).ID c {y with par:=1} else A.IH b C:=by
    rw[jl];show St.IH (match (A.IH b C).get c with|some x=>_|none=>_) b []=_;rw[aY hMo.i.g.pn J];rfl
   rw[l'] at hbv;co_applyP(zo);co_applyP bL ((λM' e' j'=>s=M'/\ ∃E a',To o R B T L E (A.IH b (C++[c])) (tellX X 4 b st) j'/\Kf a' (((C++[c]).filter A.isW).map λc=>ptr (B.p c)) 155 j'/\(∀c,a'.b=some c->E.ap.b≠some c/\ ∀t∈L,¬Kv R B T t.1->t.1≠c)/\kn e' [(10, .int .i64 C.length),(9,Kj a' 1 ((C++[c]).filter A.isW).length),(1,ptr (B.p b)),(0,ptr R)]));co_applyP(bf);co_applyP bL ((λM' e' j'=>s=M'/\ ∃E y',To o R B T L E (A.IH b (C++[c])) (tellX X 4 b st) j'/\Kf a' ((C.filter A.isW).map λc=>ptr (B.p c)) 155 j'/\(∀c,a'.b=some c->E.ap.b≠some c/\ ∀t∈L,¬Kv R B T t.1->t.1≠c)/\(c,y')∈(A.IH b (C++[c])).ps/\y'.st=y.st/\kn e' [(11,ptr (B.p c)),(10, .int .i64 C.length),(9,Kj a' 1 (C.filter A.isW).length),(1,ptr (B.p b)),(0,ptr R)]));co_applyP(dE);co_applyP aI rfl;intro hp;co_applyP(au)
   ·have hp':y.par=b:=by simp at hp;omega
    rw[if_pos hp'] at w';rw[<-l'];co_applyP osm rfl (hs:=bJ) (hm:=M.p _ J) (hi:=by rw[aX];decide);intro L5 hU5;have P:=hT.trans (To.of (M.ID J hU5 {y with par:=1} (E.e c) o rfl (hun:=M.un _ J) (hdu:=M.du _ J) (ho:=λ_ _ _=>fz) (hsz:=M.sz _ J)));rw[<-w'] at P;co_applyP(zo);change _=_/\ ∃E y',_;rw[l'];refine⟨rfl,_,{y with par:=1},P,hU5.ch.Jr (.one M.fn (M.p _ J) bx) ha,Q',by rw[w'];exact ai J,rfl,rfl⟩
   intro hp;co_applyP(zo);change _=_/\ ∃E y',_;have hp': ¬y.par=b:=by simp at hp;omega
   rw[if_neg hp'] at w';exact⟨rfl,E,y,by rw[w'];exact hT,ha,Q',by rw[w'];exact J,rfl,rfl⟩;rintro _ ε5 L5 ⟨rfl,B5,y5,P,ha5,t',hy5,hys5,he5⟩;co_applyP aA he5;have epc5:B5.p c=B.p c:=P.q Z N';have hy52:At L5 (B.p c) 2 (.int .i64 (y.st:Nat)):=by rw[<-epc5,<-hys5];exact P.r.pat hy5 (i:=2) rfl
   co_applyP(aO);co_applyP aI rfl;intro hw2;co_applyP(ax)
   ·have G':y.st=2:=by simp at hw2;omega
    have ew:(C++[c]).filter A.isW=C.filter A.isW++[c]:=by rw[O3];simp[T',G']
    have hfl:(C.filter A.isW).length<=C.length:=O5 _ _;co_applyP bB rfl (gI (v:=ptr (B.p c)) (sz:=1) (hN:=hN _ _) (hv:=rfl) (hu:=kH) (hs:=eO) (hz:=gL) (h0:=bx) (h24:=bx));intro nb L6 hA;co_applyP oeN rfl (λhnd=>fh (e:=155) (hnd:=hnd) (hu:=kH) (hs:=eO) (hb:=jG) (hz:=gL) (hzs:=rfl) (hN:=λcs=>hN _ _) (ha:=ha5.mono λc _ o=>hA.sub _) (hn:=bE) (hm:=hA.self) (hpl:=rfl) (h8:=bl));rintro _ L7 ⟨a7,rfl,hp7⟩;co_applyP(ay);change _=_/\ ∃E y',_;have H:=P.ext (L2:=L6) ⟨hA.fn,hA.sub⟩;have ha6:Kf a' ((C.filter A.isW).map λc=>ptr (B.p c)) 155 L6:=ha5.mono λc _ o=>hA.sub _;have E':=H.other hp7.ch (λd hd=>⟨H.r.no155 (ha6.mem hd) (t' d hd).1,(t' d hd).2⟩) (.sl H.r.fn ha6 bx);rw[ew];refine⟨rfl,B5,a7,E',by have:=hp7.ok;simpa using this,λd hd=> ?_,by simp;rfl⟩;rcases hp7.d d hd with h|h
    ·exact t' d h
    ·exact⟨λe=>h _ (H.r.pl.mem e) rfl,λt ht hown e=>h _ (H.f.s t ht hown) e⟩
   intro hw2;co_applyP(zo);change _=_/\ ∃E y',_;have G': ¬y.st=2:=by simp at hw2;omega
   have ew:(C++[c]).filter A.isW=C.filter A.isW:=by rw[O3];simp[T',G']
   rw[ew];exact⟨rfl,B5,a',P,ha5,t',rfl⟩;rintro _ ε8 L8 ⟨rfl,B8,a8,x',ha8,hfr8,he8⟩;co_applyP aA he8;co_applyP(au);change∃k',k'<_/\_;rw[e1];exact⟨k-1,bl,rfl,C++[c],l2,B8,a8,by simp[Y],by simp;omega,x',ha8,hfr8,rfl⟩
 intro hc;co_applyP(aC);have hl2:l2=[]:=by
  cases l2 with
  |nil=>rfl
  |cons c l2=>simp at hc G;omega
 subst hl2;simp only[wc] at Y;subst Y;have hT0:=hT;have hM4:=hMo;have hWm: ∀c∈ns.filter A.isW,∃w,(c,w)∈T.ps/\c≠o:=λc hc=>by
  obtain⟨K,h2⟩:=l4.1 hc;obtain⟨z,hz⟩:=dM (c:=c) (S:=A) (by rw[q'];exact K);rw[pC I'.i.g.pn hz] at h2;have h2':z.st=2:=by simpa using h2
  obtain⟨w,hw⟩:=dM (c:=c) (S:=T) (by rw[hns];exact K);exact⟨w,hw,λe=>by have:=P' z (e▸hz);omega⟩
 have hW4: ∀c∈ns.filter A.isW,∃y,(c,y)∈(A.IH b ns).ps/\y.st=2:=λc hc=>by
  obtain⟨K,h2⟩:=l4.1 hc;obtain⟨y,J⟩:=dM (c:=c) (S:=A.IH b ns) (by rw[S'];exact K);obtain⟨z,hz,v',_⟩:=fJ b ns _ J;rw[pC I'.i.g.pn hz,v'] at h2;exact⟨y,J,by simpa using h2⟩
 have hpf:(A.IH b ns).parents ns=(A.IH b ns).parents (ns.filter A.isW):=eW _ _ _ λc hc y J h2=>by
  obtain⟨z,hz,v',_⟩:=fJ b ns _ J;rw[pC I'.i.g.pn hz,v',h2];rfl
 have K':T.fin b x st=(A.IH b ns).parents (ns.filter A.isW):=by rw[hfin0,j8,q',hbid,hpf]
 have hWn:(ns.filter A.isW).Nodup:=hnd.sublist List.filter_sublist;have hW8:(ns.filter A.isW).length<=8:=l6 (O5 _ _) hl8;have U': ∀c,a'.b=some c-> ¬Kv R E (A.IH b ns) c:=λc hc=>M.no155 (ha.mem hc) (Q' c hc).1;generalize ns.filter A.isW=W at ha hWm hW4 K' hWn hW8;generalize A.IH b ns=T4 at hT0 hM4 hW4 K' U';clear hT M hMo m' hv h5 Q' hpf G;co_applyP aU (λk s' N L'=>s=s'/\ ∃w1 w2 E,W=w1++w2/\k+w1.length=8/\To o R B T L E (T4.parents w1) (tellX X 4 b st) L'/\Kf a' (W.map λc=>ptr (B.p c)) 155 L'/\(∀c,a'.b=some c-> ¬Kv R E (T4.parents w1) c)/\(∀c∈w2,∃y,(c,y)∈(T4.parents w1).ps/\y.st=2)/\MI (λ_=>False) (λb=>b) (T4.parents w1)/\kn N [(12, .int .i64 w1.length),(9,Kj a' 1 W.length),(1,ptr (B.p b)),(0,ptr R)]) 8
 ·exact⟨rfl,[],W,E,rfl,rfl,hT0,ha,U',hW4,hM4,rfl⟩
 rintro k s' N L' ⟨rfl,w1,w2,B7,Y,hk,hT,n',V',hw7,H',he⟩;co_applyP aA he;have G:=congrArg List.length Y;simp only[mb] at G;obtain⟨r',cap,hv,m'⟩:=dm n' (n:=W.length) bE;rw[hv];co_applyP(aR);co_applyP aI rfl;intro hc
 ·cases w2 with
  |nil=>simp at hc G;omega
  |cons c w2=>
   obtain⟨g,hgb,D',hbv⟩:=m' w1.length (ptr (B.p c)) (by rw[Y];simp);subst D';simp at G;obtain⟨w,N',hco⟩:=hWm c (by rw[Y];simp);obtain⟨y,J,hy2⟩:=hw7 c eT;have l':B7.p c=B.p c:=hT.q Z N';have e1:IntKind.i64.wrap ((w1.length:Int)+1)=((w1++[c]).length:Int):=ag
   have hys:At L' (B.p c) 2 (.int .i64 2):=by
    have:At L' (B7.p c) 2 (.int .i64 (y.st:Nat)):=hT.r.pat J (i:=2) rfl;rw[l',hy2] at this;exact this
   have z':=H'.i.g;co_applyP(aH);co_applyP(aC);rw[<-l'];co_applyP oc rfl rfl rfl (g3 o R B7 _ _ L' c y hN hT.r J bl (z'.lv _ J) (l6 (z'.r8 (z'.lv _ J)) bx) (.inr hco) z'.p8 (H'.i.JI J bl bl bl));rintro _ _ _ ⟨rfl,rfl,B8,x'⟩;co_applyP(aC);change∃k',k'<_/\_;rename_i L8;have hpt:(T4.parents w1).Jz c y=T4.parents (w1++[c]):=by rw[dI,<-pD z'.pn J hy2];rfl
   rw[hpt] at x';have hM8:MI (λ_=>False) (λb=>b) (T4.parents (w1++[c])):=by rw[dI];exact MI.IJ H' c
   rw[e1];refine⟨k-1,bl,rfl,w1++[c],w2,B8,by simp[Y],by simp;omega,hT.trans x', ?_,λd hd=> ?_,λd hd=> ?_,hM8,rfl⟩
   ·unfold Kf at n'⊢
    split
    ·rename_i h;rw[h] at n';exact n'
    ·rename_i d h;rw[h] at n';exact(x'.f.free n' (V' d h)).1
   ·exact(x'.f.free (n'.mem hd) (V' d hd)).2
   ·obtain⟨z,hz,hz2⟩:=hw7 d (dc _ hd);refine⟨z, ?_,hz2⟩;rw[dI];refine pE z'.pn hz hz2 λe=> ?_;rw[Y] at hWn;have:=(ss.1 hWn).2.1;rw[x8] at this;exact this.1 (e▸hd)
 intro hc;have hl2:w2=[]:=by
  cases w2 with
  |nil=>rfl
  |cons c l2=>simp at hc G;omega
 subst hl2;simp only[wc] at Y;subst Y;rw[<-K'] at hT;have hb0:At L' (B.p b) 0 (.int .i64 (b:Nat)):=hT.num Z hb;co_applyP(bm);co_applyP aI rfl;intro K;co_applyP(av)
 ·have Y':b=1:=by simp at K;omega
  co_applyP osm rfl (hs:=xJ) (hm:=hT.r.k) (hi:=by show 14<16;decide);intro L9 hU9;co_applyP(zo);exact xI _ ⟨rfl,rfl,rfl,B7,hT.trans (To.of (hT.r.JM hU9 (T.fin b x st) (MZ X b st) (by simp[ME,Y'])))⟩
 intro K;co_applyP(zo);change∃v,Ko .. =some v/\_;have Y': ¬b=1:=by simp at K;omega
 exact⟨_,rfl,rfl,rfl,B7,by unfold MZ;simp only[Y',decide_false,Bool.or_false];exact hT⟩
def St.JL (T:St)(b:Nat)(x:PS):St:=if T.Ja x then(T.Jd b x).2 else T.ID b (x.r0 65533)
theorem FC: ∃n,∀{σ}{F:Kn σ}{Δ:DM F}{D s}(o R:Nat)(B:RB)(T:St)(X:RX)(L:Ka)(b:Nat)(x:PS),(∀s o,(Δ s).New o)->Ki o R B T X L->MI (λ_=>False) (λb=>b) T->(b,x)∈T.ps->x.st=1->
 Kb Δ prog D 157 [ptr R,ptr (B.p b)].toArray n s L (λs' v L'=>s=s'/\v= .tuple #[]/\ ∃B',To o R B T L B' (T.JL b x) X L'):=by
 obtain⟨n1,g1⟩:=z8;obtain⟨n2,g2⟩:=jH;constructor;intro σ F Δ D s o R B T X L b x hN m P hb z;have H:=P.i.g;have h8:=H.p8;obtain⟨N,cap,hv,a'⟩:=dm m.pl (n:=T.ps.length) bE;have h5:At L R 5 (.slice N T.ps.length cap):=by rw[<-hv];exact m.kat rfl
 have d':At L (B.p b) 0 (.int .i64 (x.id:Nat)):=m.pat hb (i:=0) rfl;co_applyP ar 55 func157 ntmps157;co_applyP(aO);co_applyP aU (λk s' I L'=>s=s'/\L=L'/\ ∃f A,T.ps=f++A/\k+f.length=8/\kn I [(5, .int .i64 f.length),(4, .bool (f.any λq=>decide (q.2.par=x.id))),(1,ptr (B.p b)),(0,ptr R)]) 8
 ·exact⟨rfl,rfl,[],T.ps,rfl,rfl,rfl⟩
 rintro k s' I L' ⟨rfl,rfl,f,A,C,hk,he⟩;co_applyP aA he;have j:=congrArg List.length C;simp only[mb] at j;co_applyP(aP);co_applyP aI rfl;intro hc
 ·cases A with
  |nil=>simp at hc j;omega
  |cons q A=>
   obtain⟨g,f',W,e'⟩:=a' f.length (ptr (B.p q.1)) (by rw[C];simp);subst W;have hq:q∈T.ps:=by rw[C];simp
   have h':At L (B.p q.1) 1 (.int .i64 (q.2.par:Nat)):=m.pat (b:=q.1) (x:=q.2) hq (i:=1) rfl;simp at j;have e1:IntKind.i64.wrap ((f.length:Int)+1)=((f++[q]).length:Int):=ag
   co_applyP(zo);co_applyP bL ((λZ M V=>s=Z/\L=V/\kn M [(4, .bool ((f++[q]).any λq=>decide (q.2.par=x.id))),(5, .int .i64 f.length),(1,ptr (B.p b)),(0,ptr R)]));co_applyP(av)
   ·by_cases O:(f.any λq=>decide (q.2.par=x.id))=true
    ·rw[O];co_applyP tu 2 rfl pI;co_applyP(aH);co_applyP(av);change _=_/\_=_/\kn _ _;refine⟨rfl,rfl, ?_⟩;have Q:true=(f++[q]).any λq=>decide (q.2.par=x.id):=by rw[List.any_append,O];rfl
     rw[<-Q];rfl
    ·rw[Bool.not_eq_true] at O;rw[O];co_applyP tr 2 rfl (bk) pI;co_applyP(aH);co_applyP(av);change _=_/\_=_/\kn _ _;refine⟨rfl,rfl, ?_⟩;have Q:((q.2.par:Int)==(x.id:Int))=(f++[q]).any λq=>decide (q.2.par=x.id):=by
      rw[List.any_append,O];by_cases h:q.2.par=x.id
      ·simp[h]
      ·have: ¬(q.2.par:Int)=x.id:=bl
       simp[h,this]
     rw[<-Q];rfl
   rintro _ g' _ ⟨rfl,rfl,c'⟩;co_applyP aA c';co_applyP(au);change∃k',k'<_/\_;rw[e1];exact⟨k-1,bl,rfl,rfl,f++[q],A,by simp[C],by simp;omega,rfl⟩
 intro hc;co_applyP(aC);change Kw ..;have Y:A=[]:=by
  cases A with
  |nil=>rfl
  |cons c A=>simp at hc j;omega
 subst Y;simp only[wc] at C;subst C;have U:(T.ps.any λq=>decide (q.2.par=x.id))=T.Ja x:=rfl;rw[U];co_applyP aI rfl;intro S;co_applyP(aC)
 ·have y:T.Ja x=false:=by simpa using S
  co_applyP osm rfl (hs:=bh) (hm:=m.p _ hb) (hi:=by rw[aX];decide);intro L1 hU;have a:=To.of (m.ID hb hU (x.r0 65533) (B.e b) o (cS x _ (i:=0) bx _) (hun:=m.un _ hb) (hdu:=m.du _ hb) (ho:=λ_ _ _=>fz) (hsz:=m.sz _ hb));co_applyP(ay);exact xI _ ⟨rfl,rfl,rfl,_,by unfold St.JL;rw[if_neg (by rw[y];decide)];exact a⟩
 intro S;co_applyP(av);have y:T.Ja x=true:=by simpa using S
 have hw:T.JL b x=match T.II x with
  |some i=>T.take b x i
  |none=>T.IT b x 2:=by unfold St.JL St.Jd;rw[if_pos y,if_pos y];rfl
 co_applyP oc rfl rfl rfl (g1 o R B T X L b x hN m hb bl (H.lv _ hb) (l6 (H.r8 (H.lv _ hb)) bx) (.inl z) h8 (P.out hb z));rintro _ _ _ ⟨rfl,rfl,B1,a⟩;co_applyP(aC);change Kw ..;rename_i L1;co_applyP aI rfl;intro u;co_applyP(au)
 ·have d:T.II x=none:=by
   cases h:T.II x with
   |none=>rfl
   |some i=>rw[h] at u;cases u
  have E:T.Jz b x=T:=by unfold St.Jz;rw[d]
  rw[E] at a;have G:=a.r;have ep:=a.q m hb;rw[<-ep];co_applyP osm rfl (hs:=bJ) (hm:=G.p _ hb) (hi:=by rw[aX];decide);intro L2 b';have K:=a.trans (To.of (G.ID hb b' {x with st:=2} (B1.e b) o rfl (hun:=λh=>nomatch h) (hdu:=G.du _ hb) (ho:=λ_ _ _=>fz) (hsz:=λ_=>m.sz _ hb (by rw[show (b,x).2.st=1 from z];decide))));co_applyP(av);co_applyP oc rfl rfl rfl (g2 o R _ _ X L2 b {x with st:=2} hN K.r (ai hb) (λl C=>H.r8 C) P.x.r3);rintro _ _ _ ⟨rfl,rfl,B3,J⟩;co_applyP(zo);change∃v,Ko .. =some v/\_;have hgo:(T.ID b {x with st:=2}).gone b=T.IT b x 2:=by
   show (T.gone b).ID b _=_;rw[jF H P.x.r3 hb];rfl
  rw[hgo] at J;exact⟨_,rfl,rfl,rfl,B3,by rw[hw,d];exact K.trans J⟩
 intro u;co_applyP(zo);change∃v,Ko .. =some v/\_;cases d:T.II x with
 |none=>rw[d] at u;cases u
 |some i=>
  have E:T.Jz b x=T.take b x i:=by
   unfold St.Jz;rw[d];simp only[if_pos z];have:=(OG.1 d).1;rw[sy this]
  exact⟨_,rfl,rfl,rfl,B1,by rw[hw,d];rw[E] at a;exact a⟩
theorem rx0 (x:PS)(e:RE):Value.agg ((KV x e).extract 0 (0+15))= .agg (Md x e++(List.range 8).map λi=>Value.int .u16 (x.r i)).toArray:=bD
theorem rx1 (x:PS)(e:RE):Value.agg ((KV x e).extract 15 (15+64))= .agg ((List.range 64).map λi=>Value.int .u8 (x.m i)).toArray:=bD
theorem rx2 (x:PS)(e:RE):Value.agg ((KV x e).extract 79 (79+6))= .agg ((List.range 6).map λi=>Value.int .i64 (e.pi i:Nat)).toArray:=bD
theorem rx3 (x:PS)(e:RE):Value.agg ((KV x e).extract 85 (85+6))= .agg ((List.range 6).map λi=>Value.bool (e.wr i)).toArray:=bD
theorem FD (x:PS)(e:RE):KF prog (Instr.build 154 [(0, .agg (Md x e++(List.range 8).map λi=>Value.int .u16 (x.r i)).toArray),(1, .agg ((List.range 64).map λi=>Value.int .u8 (x.m i)).toArray),(2, .agg ((List.range 6).map λi=>Value.int .i64 (e.pi i:Nat)).toArray),(3, .agg ((List.range 6).map λi=>Value.bool (e.wr i)).toArray)].toArray) []=some (.agg (KV x {e with ad:=0,mn:=0,un:=0}),[]):=bD
section
variable {o R:Nat}{B B1:RB}{S T T1:St}{X X1:RX}{L L0 L1 L2:Ka}{D:Nat->Prop}{b c:Nat}{x y:PS}
theorem To.fresh {o':Nat}(h:To o R B T L B1 T1 X1 L1)(u:Ki o' R B T X L)(c:Ch D L1 L2)(d: ∀b,D b-> ¬Kv R B1 T1 b/\ ∀t∈L,t.1≠b):To o R B T L B1 T1 X1 L2:=
 ⟨h.r.other c λb hb=>(d b hb).1,⟨λt e k=>c.s _ (h.f.s t e k) λa=>(d _ a).2 t e rfl,h.f.n⟩,h.p,h.l,λq g=>(h.i q g).imp id λ⟨cs,j,m⟩=>⟨cs,c.s _ j λa=>(d _ a).2 _ (u.p q g) rfl,m⟩,h.le,h.qq⟩
def St.JK (T:St)(b:Nat)(x:PS):St:=if 8<=T.ps.length then T.ID b (x.r0 65534) else T.Jt b x (T.last+1)
def NX (T:St)(x:PS)(d:Nat):PS:=⟨T.last+1,x.id,x.st,x.stat,x.at_,0,x.used+d,put x.r 0 0,x.m,x.f,0⟩
theorem CI (d:Nat)(hle: ∀q∈T.ps,q.1<=T.last) (hb:b<=T.last) (hz:x.stat=0) (v:Int):({(({T with last:=T.last+1}:St).ID b (x.r0 v)).IP ((({T with last:=T.last+1}:St).ID b (x.r0 v)).ps++[(T.last+1,NX T x d)]) with last:=T.last+1}:St).IV (T.last+1) (NX T x d)=(T.Jw (T.last+1) (x.copy.r0 0)).ID b (x.r0 v):=by
 have a: ¬T.last+1=b:=bl
 unfold St.Jw St.taken St.IV St.setRow St.IP St.ID;simp only[l3,kt,ix,OD];congr 1
 ·congr 1
  ·apply k0;intro q i;have g: ¬q.1=T.last+1:=by have:=hle q i;omega
   simp only[Function.comp];have f: ¬b=T.last+1:=λe=>a e.symm;by_cases e:q.1=b
   ·simp[e,f]
   ·simp[e,g]
  ·simp only[Function.comp,if_true,if_neg a];unfold NX PS.copy PS.r0;simp[hz]
end
theorem FE: ∃n,∀{σ}{F:Kn σ}{Δ:DM F}{b' s}(R:Nat)(B:RB)(T:St)(X:RX)(L:Ka)(b:Nat)(x:PS),(∀s o,(Δ s).New o)->Ki b R B T X L->MI (λ_=>False) (λb=>b) T->(b,x)∈T.ps->x.st=1->T.last<4611686018427387904->
 Kb Δ prog b' 156 [ptr R,ptr (B.p b)].toArray n s L (λs' v L'=>s=s'/\v= .tuple #[]/\ ∃B',To b R B T L B' (T.JK b x) X L'):=by
 obtain⟨n1,g1⟩:=k8;constructor;intro σ F Δ b' s R B T X L b x hN z hM hb l' M';have hg:=hM.i.g;have h8:=hg.p8;have hz:x.stat=0:=z.sz _ hb (by rw[show (b,x).2.st=1 from l'];decide);obtain⟨z',cap,hv,V'⟩:=dm z.pl (n:=T.ps.length) bE;have h5:At L R 5 (.slice z' T.ps.length cap):=by rw[<-hv];exact z.kat rfl
 have U':At L R 10 (.int .i64 (T.last:Nat)):=z.kat rfl;co_applyP ar 90 func156 ntmps156;co_applyP(bm);co_applyP aI rfl;intro hf;co_applyP(aC)
 ·have q':8<=T.ps.length:=by simp at hf;omega
  co_applyP osm rfl (hs:=bh) (hm:=z.p _ hb) (hi:=by rw[aX];decide);intro L1 hU;have S:=To.of (z.ID hb hU (x.r0 65534) (B.e b) b (cS x _ (i:=0) bx _) (hun:=z.un _ hb) (hdu:=z.du _ hb) (ho:=λ_ _ _=>fz) (hsz:=z.sz _ hb));co_applyP(ay);exact xI _ ⟨rfl,rfl,rfl,_,by unfold St.JK;rw[if_pos q'];exact S⟩
 intro hf;co_applyP(bm);have q': ¬8<=T.ps.length:=by simp at hf;omega
 have w1:IntKind.i64.wrap ((T.last:Int)+1)=((T.last+1:Nat):Int):=ag
 rw[w1];co_applyP osm rfl (hs:=bJ) (hm:=z.k) (hi:=by show 10<16;decide);intro L1 hU;have S:To b R B T L B {T with last:=T.last+1} X L1:=by
  have h:=z.JM hU {T with last:=T.last+1} X rfl (hls:=xq _);exact⟨h.1,h.2,λ_ _=>rfl,xq _,λq j=> .inl (cm.2 ⟨q,j,rfl⟩),z.le,cD _,λ_ _=>rfl⟩
 have D:(b,x)∈({T with last:=T.last+1}:St).ps:=hb;have I:=S.r;co_applyP(ay);co_applyP aM [] 17 (nf:=0) mixed;co_applyP(ax);co_applyP tr 4 rfl bk pN;co_applyP(ay);co_applyP tr 8 rfl bk pN;co_applyP(ay);co_applyP tr 12 rfl bk pN;co_applyP(ay);co_applyP t0 3 rfl (aW (i:=0) (ht:=qD) (hs:=gq) (hm:=I.p _ D) (hi:=by rw[aX];decide)) pN;co_applyP t0 7 rfl (aW (i:=15) (ht:=Dw) (hs:=Dv) (hm:=I.p _ D) (hi:=by rw[aX];decide)) pN;co_applyP t0 11 rfl (aW (i:=79) (ht:=Ex) (hs:=Ew) (hm:=I.p _ D) (hi:=by rw[aX];decide)) pN;co_applyP t0 15 rfl (aW (i:=85) (ht:=Ez) (hs:=Ey) (hm:=I.p _ D) (hi:=by rw[aX];decide)) pN;rw[rx0,rx1,rx2,rx3];co_applyP tr 16 rfl (aQ (FD x (B.e b))) pN;co_applyP lD (i:=17) rfl (bA (hN _ _));intro G L2 Y;refine⟨aj bE, ?_⟩;co_applyP to 18 rfl (fX) (aj bE);replace Y:Add L1 G (.cells (KV x {B.e b with ad:=0,mn:=0,un:=0}) 154) L2:=Y;have D': ∀t∈L,t.1≠G:=λt K e=>by
  by_cases a':Kv R B T t.1
  ·obtain⟨cs,C,W,_⟩:=I.toRM.own (show Kv R B {T with last:=T.last+1} t.1 from a');exact Y.new _ W e
  ·exact Y.new _ (S.f.s t K a') e
 have E:=I.J6 Y.new;have h':=S.ext (L2:=L2) ⟨Y.fn,Y.sub⟩;have hD: ∀d,d=G-> ¬Kv R B {T with last:=T.last+1} d/\ ∀t∈L,t.1≠d:=λd hd=>hd▸⟨E,D'⟩;have R':At L2 R 10 (.int .i64 ((T.last+1:Nat):Nat)):=h'.r.kat rfl;co_applyP(aP);co_applyP osm rfl (hs:=bJ) (hm:=Y.self) (hi:=by rw[aX];decide);intro L3 g';have c':=h'.fresh z g'.ch hD;have O':At L3 (B.p b) 0 (.int .i64 (b:Nat)):=c'.num z hb;co_applyP(bf);co_applyP osm rfl (hs:=bJ) (hm:=g'.self) (hi:=by rw[tE,aX];decide);intro L4 j';have y':=c'.fresh z j'.ch hD;co_applyP(aC);co_applyP osm rfl (hs:=bJ) (hm:=j'.self) (hi:=by rw[tE,tE,aX];decide);intro L5 d';have t':=y'.fresh z d'.ch hD;co_applyP(aR);co_applyP osm rfl (hs:=bh) (hm:=d'.self) (hi:=by rw[tE,tE,tE,aX];decide);intro L6 f';have u':=t'.fresh z f'.ch hD;have r':=z.idb hb;have I':(G,true,Obj.cells (KV (NX T x (B.e b).du) {B.e b with ad:=0,mn:=0,un:=0,du:=0}) 154)∈L6:=by
  have h:=f'.self;have e1:(((KV x {B.e b with ad:=0,mn:=0,un:=0}).setIfInBounds 0 (.int .i64 ((T.last+1:Nat):Nat))).setIfInBounds 1 (.int .i64 (b:Nat))).setIfInBounds 5 (.int .i64 0)=KV {x with id:=T.last+1,par:=b,lv:=0} {B.e b with ad:=0,mn:=0,un:=0}:=rfl;have C:=cS {x with id:=T.last+1,par:=b,lv:=0} {B.e b with ad:=0,mn:=0,un:=0} (i:=0) bx 0;have e3:KV (NX T x (B.e b).du) {B.e b with ad:=0,mn:=0,un:=0,du:=0}=KV {x with id:=T.last+1,par:=b,lv:=0,r:=put x.r 0 0} {B.e b with ad:=0,mn:=0,un:=0}:=by
   unfold NX;rw[r'];rfl
  rw[e3,<-C,<-e1];exact h
 clear g' j' d' f' h' c' y' t';have k':=u'.r;have Q':At L6 R 10 (.int .i64 ((T.last+1:Nat):Nat)):=k'.kat rfl;co_applyP(ay);co_applyP aM [] 10 (nf:=0) mixed;co_applyP(aP);co_applyP aF;intro hnd;co_applyP te (i:=10) rfl (bX (hnd:=hnd) (hm:=k'.p _ D) (hi:=by rw[aX];decide) (hs:=bh));rintro _ _ ⟨rfl,n'⟩;refine⟨aj bE, ?_⟩;rename_i L7;rw[bC] at n';have J:=u'.trans (To.of (k'.ID D n' (x.r0 (((T.last+1:Nat):Int)%65536)) (B.e b) b (cS x _ (i:=0) bx _) (hun:=z.un _ hb) (hdu:=z.du _ hb) (ho:=λ_ _ _=>fz) (hsz:=z.sz _ hb)));have K':=n'.ne _ I' λe=>E (.inr (.inl ⟨_,D,e⟩));have V:=J.r;generalize J':((T.last+1:Nat):Int)%65536=v7 at J V;generalize U:({B with e:=put B.e b (B.e b)}:RB)=B7 at J V;have w':B7.p=B.p:=by rw[<-U]
 have P': ¬Kv R B7 (({T with last:=T.last+1}:St).ID b (x.r0 v7)) G:=λh=>by
  rcases h with C|⟨q,j,C⟩|C|C|C
  ·exact E (.inl C)
  ·rw[w'] at C;rcases aN j with rfl|⟨W,_⟩
   ·exact E (.inr (.inl ⟨_,D,C⟩))
   ·exact E (.inr (.inl ⟨_,W,C⟩))
  ·rw[<-U] at C;exact E (.inr (.inr (.inl C)))
  ·rw[<-U] at C;exact E (.inr (.inr (.inr (.inl C))))
  ·rw[<-U] at C;exact E (.inr (.inr (.inr (.inr C))))
 have i':(({T with last:=T.last+1}:St).ID b (x.r0 v7)).ps.length=T.ps.length:=by simp[St.ID]
 have S':At L7 R 5 (Kj B7.ap 1 T.ps.length):=by rw[<-i'];exact V.kat rfl
 co_applyP(aO);co_applyP bB rfl (gI (v:=ptr G) (sz:=1) (hN:=hN _ _) (hv:=rfl) (hu:=kH) (hs:=eO) (hz:=gL) (h0:=bx) (h24:=bx));intro nl L8 M;have u:=V.ext (L':=L8) ⟨M.fn,M.sub⟩;co_applyP oeN rfl (λhnd=>fh (e:=155) (n:=T.ps.length) (v:=ptr G) (hnd:=hnd) (hu:=kH) (hs:=eO) (hb:=jG) (hz:=gL) (hzs:=rfl) (hN:=λcs=>hN _ _) (ha:=u.pl) (hn:=by rw[ia,i']) (hm:=M.self) (hpl:=rfl) (h8:=bl));rintro _ L9 ⟨a9,rfl,m'⟩;have E':=m'.ch.keep (Lg.sl u.fn u.pl bx) u.k;co_applyP(ay);co_applyP osm rfl (hs:=sK) (hm:=E') (hi:=by show 5<16;decide) (hp:=bj _ _ _);intro C' A';have O: ∀q∈T.ps,q.1≠T.last+1:=λq j e=>by have:=z.le q j;omega
 have N: ∀q∈(({T with last:=T.last+1}:St).ID b (x.r0 v7)).ps,q.1≠T.last+1:=λq j=>by
  rcases aN j with rfl|⟨W,_⟩
  ·exact O (b,x) hb
  ·exact O q W
 have A: ∀q∈(({T with last:=T.last+1}:St).ID b (x.r0 v7)).ps,put B7.p (T.last+1) G q.1=B7.p q.1/\put B7.e (T.last+1) {B.e b with ad:=0,mn:=0,un:=0,du:=0} q.1=B7.e q.1:=λq j=>by
  unfold put;rw[if_neg (N q j),if_neg (N q j)];exact⟨rfl,rfl⟩
 have H:put B7.p (T.last+1) G (T.last+1)=G/\put B7.e (T.last+1) {B.e b with ad:=0,mn:=0,un:=0,du:=0} (T.last+1)={B.e b with ad:=0,mn:=0,un:=0,du:=0}:=by
  unfold put;simp
 have m: ∀{P:Nat×PS->Prop},(∀q∈(({T with last:=T.last+1}:St).ID b (x.r0 v7)).ps,P q)->P (T.last+1,NX T x (B.e b).du)-> ∀q∈(({T with last:=T.last+1}:St).ID b (x.r0 v7)).ps++[(T.last+1,NX T x (B.e b).du)],P q:=λW h2 q j=>by
  rcases cE.1 j with h|h
  ·exact W q h
  ·simp at h;rw[h];exact h2
 have G':((({T with last:=T.last+1}:St).ID b (x.r0 v7)).ps++[(T.last+1,NX T x (B.e b).du)]).map (λq=>ptr (put B7.p (T.last+1) G q.1))=((({T with last:=T.last+1}:St).ID b (x.r0 v7)).ps.map λq=>ptr (B7.p q.1))++[ptr G]:=by
  rw[l3];congr 1
  ·exact k0 λq j=>by rw[(A q j).1]
  ·simp[H.1]
 rw[<-G'] at m'
 have Q:=u.setL (p':=put B7.p (T.last+1) G) (e':=put B7.e (T.last+1) {B.e b with ad:=0,mn:=0,un:=0,du:=0}) (T':={(({T with last:=T.last+1}:St).ID b (x.r0 v7)).IP ((({T with last:=T.last+1}:St).ID b (x.r0 v7)).ps++[(T.last+1,NX T x (B.e b).du)]) with last:=T.last+1}) m' A' (by unfold ME St.IP;simp[i'];rfl)
  (hb:=m (λq j=>by rw[(A q j).1,(A q j).2];exact u.p q j) (by rw[H.1,H.2];exact M.sub _ K'))
  (hid:=m (λq j=>u.id q j) rfl) (hle:=m (λq j=>u.le q j) (cD _))
  (hpn:=by
   show ((_++[(T.last+1,NX T x (B.e b).du)]).map (·.1)).Nodup;rw[l3,ss];refine⟨u.pn,bE,λa ha d hd e=> ?_⟩;obtain⟨q,j,rfl⟩:=cm.1 ha;simp at hd;exact N q j (e.trans hd))
  (hfi:=m (λq j=>by rw[(A q j).2];exact u.pp.fi q j) (by rw[H.2];exact z.pp.fi _ hb))
  (hwa:=λe he c hc y hy=>by
   rcases cE.1 hy with h|h
   ·have:=u.pp.wa e he c hc y h;rw[(A (c,y) h).2];exact this
   ·obtain⟨y0,N',_⟩:=hM.i.rm e he c hc;have W:c=T.last+1:=congrArg Prod.fst (wx.1 h);exact absurd W (O (c,y0) N'))
  (hun:=m (λq j h=>by rw[(A q j).2];exact u.un q j h) (λh=>by rw[show (T.last+1,NX T x (B.e b).du).2.st=1 from l'] at h;cases h))
  (hdu:=m (λq j=>by rw[(A q j).2];exact u.du q j) (by rw[H.2,if_neg (λe=>O _ hb e.symm)]))
  (hsz:=m (λq j=>u.sz q j) (λ_=>hz)) (hab:=m (λq j=>u.ab q j) (z.ab (b,x) hb)) (L0:=L7.filter λt=> !decide (t.1=G)) (he:=λt K=>M.sub _ (l4.1 K).1) (hnew:=m (λq j=> .inl ⟨q,j,(A q j).1⟩) (.inr λt K e=>by
   rw[H.1] at e;have:=(l4.1 K).2;simp[e] at this))
 have hF:K1 (Kv R B T) (Kv R B7 (({T with last:=T.last+1}:St).ID b (x.r0 v7))) L (L7.filter λt=> !decide (t.1=G)):=⟨λt K hn=>l4.2 ⟨J.f.s t K hn,by simp[D' t K]⟩,J.f.n⟩;have Z:To b R B T L _ _ X C':=⟨Q.1,hF.trans Q.2,λd hd=>by
  show put B7.p (T.last+1) G d=B.p d;unfold put;rw[if_neg bl,w'],xq _,λq j=>by
  have F':q.1∈(({T with last:=T.last+1}:St).ID b (x.r0 v7)).ps.map (·.1):=by rw[eA];exact cm.2 ⟨q,j,rfl⟩
  obtain⟨r,hr,e⟩:=cm.1 F';exact .inl (cm.2 ⟨r,nx _ hr,e⟩),z.le,J.qq⟩
 co_applyP(av);rw[<-H.1];co_applyP oc rfl rfl rfl (g1 b R _ _ X C' (T.last+1) (NX T x (B.e b).du) hN Z.r (rv _ eT) (by show 0<3;decide) (l6 (hg.r8 (l:=0) bx) bx) (λe=>O _ hb e.symm) (by rw[show (NX T x (B.e b).du).st=1 from l'];decide));rintro _ _ _ ⟨rfl,rfl,H',v'⟩;co_applyP(zo);refine xI _ ⟨rfl,rfl,rfl,H', ?_⟩;have x':T.JK b x=(T.Jw (T.last+1) (x.copy.r0 0)).ID b (x.r0 v7):=by
  unfold St.JK St.Jt;rw[if_neg q',J']
 rw[x',<-CI (B.e b).du z.le (z.le _ hb) hz];exact Z.trans v'
section
variable {S S' T:St}{b c n:Nat}{x y:PS}{g:PS->PS}{k:Nat×Nat}{N:Nat->Nat}
structure MJ (g:PS->PS):Prop extends NT g where
 f: ∀y,(g y).f=y.f
 pf: ∀y F,g {y with f:=F}={g y with f:=F}
theorem D5 (v:Int):MJ (·.r0 v):=⟨pt v,λ_=>rfl,λ_ _=>rfl⟩
theorem iK (a:MJ g)(k:Nat×Nat):(S.upd b g).IM k=S.IM k:=by
 unfold St.IM St.upd;rw[List.any_map];congr 1
 funext q
 simp only[Function.comp]
 split
 ·unfold PS.has;simp only[a.f]
 ·rfl
theorem wD (a:MJ g)(hc:c≠b):(S.upd b g).carry c x k=(S.carry c x k).upd b g:=by
 unfold St.carry;rw[iK a]
 split
 ·unfold St.JN;show ((S.upd b g).ID c _).IY _ _=((S.ID c _).upd b g).IY _ _;rw[upd_ne hc];rfl
 ·split
  ·unfold St.JO;show ((S.upd b g).IY _ _).ID c _=_;rw[upd_ne hc];rfl
  ·rw[upd_ne hc]
theorem rR (a:MJ g):(S.upd b g).carried x k=S.carried x k:=by
 unfold St.carried;rw[iK a];rfl
theorem oq (a:MJ g)(ho:S.out b):(S.upd b g).serve k=(S.serve k).map (·.upd b g):=by
 unfold St.serve;rw[show (S.upd b g).rowAt k=S.rowAt k from rfl];cases d:S.rowAt k with
 |nil=>rfl
 |cons c l=>
  have hc:c≠b:=λe=>by
   obtain⟨xs,f,j⟩:=cK (S:=S) (k:=k) (c:=c) (by rw[d];simp);exact ho _ f (by rw[j,d,<-e];simp)
  simp only[];rw[k6];cases S.get c with
  |none=>rfl
  |some z=>
   simp only[qs,if_neg hc];have i:(S.upd b g).IL z k=S.IL z k:=by unfold St.IL;rw[iK a];rfl
   rw[i]
   split
   ·rw[qs,show (S.upd b g).IE c k=(S.IE c k).upd b g from rfl,wD a hc,rR a];congr 1
    split
    ·rfl
    ·unfold St.IV;show _=((((S.IE c k).carry c z k).ID c _).upd b g).setRow _ _;rw[upd_ne hc];rfl
   ·rfl
theorem ig (a:MJ g)(p:Nat): ∀(n:Nat){S:St},S.out b->St.looks n (S.upd b g) p=(St.looks n S p).upd b g
 |0,S,_=>rfl
 |n+1,S,ho=>by
  unfold St.looks;rw[oq a ho,oq a ho];cases e:S.serve (p,5) with
  |some S5=>exact ig a p n (gU ho e)
  |none=>
   cases d:S.serve (p,4) with
   |some S4=>exact ig a p n (gU ho d)
   |none=>rfl
theorem rS (a:MJ g)(ho:S.out b)(n:Nat):(S.upd b g).shut c n=(S.shut c n).upd b g:=by
 unfold St.shut;rw[k6];cases d:S.get c with
 |none=>rfl
 |some x=>
  simp only[qs];by_cases hc:c=b
  ·subst hc;simp only[if_true];rw[a.f,<-a.pf,<-tA];exact ig a _ 16 ho
  ·simp only[if_neg hc];rw[<-upd_ne hc];exact ig a _ 16 ho
theorem j9 (e:MJ g)(f:Nat->Nat×Nat): ∀(a:List Nat){S:St}{x:PS},MI (λ_=>False) N S->(c,x)∈S.ps->S.out c->S.out b->(∀y,(b,y)∈S.ps->y.st=1\/y.st=6)->(S.upd b g).I1 c f a=(S.I1 c f a).upd b g/\ ∀y,(b,y)∈(S.I1 c f a).ps->y.st=1\/y.st=6
 |[],S,x,_,_,_,_,hO=>⟨rfl,hO⟩
 |n::a,S,x,hM,hc,ho,hb,hO=>by
  unfold St.I1
  split
  ·exact j9 e f a hM hc ho hb hO
  ·rw[rS e hb];have d:=hM.i.shut hc ho n;exact j9 e f a (hM.shut hc ho n) (d.m c _ ho (ai hc)) (d.o c ho) (d.o b hb) (hM.stay hc ho n hO)
theorem uD (S:St)(b:Nat)(g:PS->PS):(S.upd b g).ps.map (·.1)=S.ps.map (·.1):=by
 unfold St.upd;rw[kt];apply k0;intro q _;simp only[Function.comp]
 split
 ·rename_i h;exact h.symm
 ·rfl
theorem FF (j:MI (λ_=>False) N T)(hb:(b,x)∈T.ps)(hs:x.st=1)(hc:(c,y)∈T.ps)(v s:Int):(T.ID b (x.r0 v)).fin c (if c=b then x.r0 v else y) s=(T.fin c y s).r0 b v:=by
 have k:=j.i.g.pn;have d:=j.out hb hs;rw[zY (j.fin hc s).i.g.pn,<-tB (g:=λy=>y.r0 v) k hb];have a:MI (λ_=>False) N (T.IE c (y.file (y.r 0))):=j.IE;have l:(T.IE c (y.file (y.r 0))).out c:=j.i.I3 hc;have p:=a.JC l hc s;have D:(((T.upd b (·.r0 v)).IE c ((if c=b then x.r0 v else y).file ((if c=b then x.r0 v else y).r 0))).IT c (if c=b then x.r0 v else y) 6).ID c {(if c=b then x.r0 v else y) with st:=6,stat:=s}=((T.IE c (y.file (y.r 0))).JC c y s).upd b (·.r0 v):=by
  rw[<-k9 a.i.g a.x.r3 hc];unfold St.IT;rw[cZ,cZ,bd,bd];by_cases e:c=b
  ·subst e;have u:=aS k hc hb;subst u;simp only[if_true];rw[fL (T:=T.upd c (·.r0 v)) (λe he _=>d e he) j.i.ne,fL (λe he _=>d e he) j.i.ne];show ((T.upd c (·.r0 v)).ID c _).setRow _ _=((T.ID c _).upd c (·.r0 v)).setRow _ _;rw[tA];rfl
  ·simp only[if_neg e];show ((T.upd b (·.r0 v)).IE c _|>.ID c _).setRow _ _=(((T.IE c _).ID c _).upd b (·.r0 v)).setRow _ _;rw[upd_ne e];rfl
 have A: ∀z,(b,z)∈((T.IE c (y.file (y.r 0))).JC c y s).ps->z.st=1\/z.st=6:=λz n=>by
  rcases aN n with e|⟨E,_⟩
  ·cases e;exact .inr rfl
  ·rw[aS k (show (b,z)∈T.ps from E) hb];exact .inl hs
 have C:(if c=b then x.r0 v else y).f=y.f:=by
  split
  ·rename_i e;subst e;rw[aS k hc hb];rfl
  ·rfl
 have m:(if c=b then x.r0 v else y).id=y.id:=by
  split
  ·rename_i e;subst e;rw[aS k hc hb];rfl
  ·rfl
 obtain⟨B,o⟩:=j9 (b:=b) (D5 v) y.f (List.range' 0 6) p (ai hc) l (jq d) A;unfold St.fin;simp only[];rw[D,k9 a.i.g a.x.r3 hc,C,m,B,uD,od (pt v),uD,kF (pt v)];intro z n;obtain⟨w,hw,F,_⟩:=fJ _ _ _ n;have:=o w hw;omega
theorem CJ (d:MI (λ_=>False) N T)(hb:(b,x)∈T.ps)(hs:x.st=1)(n:Nat)(v:Int):(T.ID b (x.r0 v)).shut b n=(T.shut b n).r0 b v:=by
 have e:=d.i.g.pn;have a:=d.out hb hs;rw[zY (d.shut hb a n).i.g.pn,<-tB (g:=λy=>y.r0 v) e hb];exact rS (D5 v) a n
end
def St.Ji (T:St)(b:Nat)(x:PS)(m:Int):St:=if m=5 then T.ID b (x.r0 0) else match T.IW b x m with
 |some i=>(T.IK b x m (T.last+1)).r0 b (KB i)
 |none=>T.IK b x m (T.last+1)
def Ly (T:St)(X:RX)(b:Nat)(x:PS)(m:Int):RX:=
 if m=0 then MZ X b (x.r 0)
 else if m=3 then(match T.find (x.r 0) with
  |some q=>if q.2.st=6 then X else MZ X q.1 65280
  |none=>X)
 else if m=7 then MY T X b x else if m=11 then tellX X 3 b (x.r 0%256) else X
section
variable {T:St}{b:Nat}{x:PS}
theorem mL (hn:(T.ps.map (·.1)).Nodup)(hb:(b,x)∈T.ps)(v:Int):T.r0 b v=T.ID b (x.r0 v):=by unfold St.r0;rw[aY hn hb]
theorem CK (hn:(T.ps.map (·.1)).Nodup)(hb:(b,x)∈T.ps):T.Ji b x 1=T.JK b x:=by
 by_cases h:8<=T.ps.length
 ·simp[St.Ji,St.IW,St.IK,St.JK,h,mL hn hb,KB]
 ·simp[St.Ji,St.IW,St.IK,St.JK,h]
theorem CL (hn:(T.ps.map (·.1)).Nodup)(hb:(b,x)∈T.ps):T.Ji b x 2=T.JL b x:=by
 by_cases h:T.Ja x=true
 ·simp[St.Ji,St.IW,St.IK,St.JL,St.Jd,h]
 ·simp[St.Ji,St.IW,St.IK,St.JL,St.Jd,h,mL hn hb,KB]
def St.Jy (T:St)(x:PS):Bool:=match T.find (x.r 0) with
 |some q=>decide (q.2.st=6)
 |none=>true
theorem rT (hn:(T.ps.map (·.1)).Nodup)(hb:(b,x)∈T.ps)(h:T.Jy x=true)(X:RX):T.Ji b x 3=T.ID b (x.r0 65532)/\Ly T X b x 3=X:=by
 unfold St.Jy at h;cases a:T.find (x.r 0) with
 |none=>simp[St.Ji,St.IW,St.IK,Ly,a,mL hn hb,KB]
 |some q=>
  rw[a] at h;have d:q.2.st=6:=by simpa using h
  simp[St.Ji,St.IW,St.IK,Ly,a,d,mL hn hb,KB]
theorem Aj (h:T.Jy x=false)(X:RX): ∃q,T.find (x.r 0)=some q/\q.2.st≠6/\T.Ji b x 3=(T.fin q.1 q.2 65280).r0 b 0/\Ly T X b x 3=MZ X q.1 65280:=by
 unfold St.Jy at h;cases a:T.find (x.r 0) with
 |none=>rw[a] at h;cases h
 |some q=>
  rw[a] at h;have d: ¬q.2.st=6:=by simpa using h
  exact⟨q,rfl,d,by simp[St.Ji,St.IW,St.IK,a,d],by simp[Ly,a,d]⟩
def ansR (T:St)(b:Nat)(x:PS):Option Nat×St->St
 |(some i,_)=>T.ID b (x.r0 (KB i))
 |(none,S)=>S
theorem Al (hn:(T.ps.map (·.1)).Nodup)(hb:(b,x)∈T.ps): ∀{r:Option Nat×St},(∀i,r.1=some i->r.2=T)->(match r.1 with
 |some i=>r.2.r0 b (KB i)
 |none=>r.2)=ansR T b x r
 |(none,S),hr=>rfl
 |(some i,S),hr=>by
  have e:S=T:=hr i rfl;show S.r0 b (KB i)=T.ID b (x.r0 (KB i));rw[e,mL hn hb]
theorem tH {i:Nat}(h:(T.I4 b x).1=some i):(T.I4 b x).2=T:=by
 unfold St.I4 at*
 split
 ·rfl
 ·rename_i hu;rw[if_neg hu] at h
  split
  ·rename_i a;rw[a] at h;cases h
  ·rfl
theorem ox {i use a:Nat}(h:(T.Jf b x use a).1=some i):(T.Jf b x use a).2=T:=by
 unfold St.Jf at*;cases hc:x.IQ use a with
 |some j=>rfl
 |none=>rw[hc] at h;cases h
theorem CM (hn:(T.ps.map (·.1)).Nodup)(hb:(b,x)∈T.ps):T.Ji b x 7=T.JZ b x:=(Al hn hb (r:=T.I4 b x) λi h=>tH h).trans rfl
theorem CN (hn:(T.ps.map (·.1)).Nodup)(hb:(b,x)∈T.ps):T.Ji b x 9=T.JX b x false:=(Al hn hb (r:=T.Jf b x 4 64) λi h=>ox h).trans rfl
theorem Am (hn:(T.ps.map (·.1)).Nodup)(hb:(b,x)∈T.ps):T.Ji b x 10=T.JX b x true:=(Al hn hb (r:=T.Jf b x 5 8) λi h=>ox h).trans rfl
end
abbrev z47:Value:= .agg #[.int .u16 0, .int .u16 0, .int .u16 0, .int .u16 0, .int .u16 0, .int .u16 0, .int .u16 0, .int .u16 0]
theorem HL:zeroAt prog 47=some z47:=bD
abbrev regs (x:PS):List Value:=[.int .u16 (x.r 0), .int .u16 (x.r 1), .int .u16 (x.r 2), .int .u16 (x.r 3), .int .u16 (x.r 4), .int .u16 (x.r 5), .int .u16 (x.r 6), .int .u16 (x.r 7)]
theorem rx4 (x:PS)(e:RE):Value.agg ((KV x e).extract 7 (7+8))= .agg (regs x).toArray:=by rfl
theorem HM (x:PS):(KP z47.cells 0 (regs x))[0]? =some (.int .u16 (x.r 0)):=bD
theorem FG: ∃n,∀{σ}{F:Kn σ}{Δ:DM F}{Z s}(R:Nat)(B:RB)(T:St)(X:RX)(L:Ka)(b:Nat)(x:PS)(m:Int),(∀s o,(Δ s).New o)->Ki b R B T X L->MI (λ_=>False) (λb=>b) T->X.ask=0->X.op=X.no->X.no<=10000->(b,x)∈T.ps->x.st=1->X.ws.length<=10000->X.now=T.now->T.now<4611686018427387904->T.last<4611686018427387904->
 Kb Δ prog Z 140 [ptr R,ptr (B.p b), .int .i64 m].toArray n s L (λs' v L'=>s=s'/\v= .tuple #[]/\ ∃B',To b R B T L B' (T.Ji b x m) (Ly T X b x m) L'):=by
 obtain⟨n1,g1⟩:=Ai;obtain⟨n2,g2⟩:=FE;obtain⟨n3,g3⟩:=FC;obtain⟨n4,g4⟩:=pw;obtain⟨n5,g5⟩:=jH;obtain⟨n6,g6⟩:=pv;obtain⟨n7,g7⟩:=FB;obtain⟨n8,g8⟩:=rP;obtain⟨n9,g9⟩:=Fy;constructor;intro σ F Δ Z s R B T X L b x m Q S D G w' O hb C hw h' S' F';have W:=D.i.g;have P:=W.pn;have E:T.out b:=D.out hb C;have t':0<=x.r 0/\x.r 0<65536:=(D.i.wf _ hb).r 0 bl;have w0:IntKind.i64.wrap (x.r 0)=x.r 0:=ag
 have h6:x.st≠6:=bl
 have ho: ∀y,(b,y)∈T.ps->y.st=1:=λy hy=>by rw[<-aS P hb hy];exact C
 have hz:=S.sz _ hb h6;co_applyP ar 168 func140 ntmps140;co_applyP(au);co_applyP oy rfl (aW (i:=7) (ht:=Ds) (hs:=xL) (hm:=S.p _ hb) (hi:=by rw[aX];decide));rw[rx4];co_applyP bB rfl (eN (Q _ _) HL);intro nb L1 M;co_applyP oeN rfl (λhnd=>fA (hs:=xL) (vs:=regs x) (hnd:=hnd) (hm:=M.self) (hi:=cD _));rintro _ J ⟨rfl,hU⟩;have A:=(S.to.ext (L2:=L1) ⟨M.fn,M.sub⟩).fresh S hU.ch (λd hd=>hd▸⟨S.J6 M.new,M.new⟩);have U':At J nb 0 (.int .u16 (x.r 0)):=⟨true,_,_,_,hU.self,HM x⟩;clear hU M;have k:=A.r;have U: ∀{v:Int}{H:Ka},K4 J (B.p b) (.cells ((KV x (B.e b)).setIfInBounds 7 (.int .u16 v)) 154) H->To b R B T L {B with e:=put B.e b (B.e b)} (T.ID b (x.r0 v)) X H:=λhU=>A.trans (To.of (k.ID hb hU (x.r0 _) (B.e b) b (cS x _ (i:=0) bx _) (hun:=S.un _ hb) (hdu:=S.du _ hb) (ho:=λ_ _ _=>fz) (hsz:=S.sz _ hb)));co_applyP(aH);change Kw ..;rw[w0];co_applyP aI rfl;intro c0;co_applyP(av)
 ·have e:m=0:=by simpa using c0
  subst e;co_applyP oc rfl rfl rfl (g1 b R B T X J b x (x.r 0) Q k D G O hb h6 hw ho);rintro _ _ _ ⟨rfl,rfl,V,a⟩;co_applyP(zo);exact xI _ ⟨rfl,rfl,rfl,V,A.trans a⟩
 intro c0;co_applyP aA (by rfl:kn _ [(17, .int .i64 m),(7, .int .i64 (x.r 0)),(2, .int .i64 m),(1,ptr (B.p b)),(0,ptr R)]);co_applyP(av);co_applyP aI rfl;intro c1;co_applyP(ax)
 ·have e:m=1:=by simpa using c1
  subst e;co_applyP oc rfl rfl rfl (g2 R B T X J b x Q k D hb C F');rintro _ _ _ ⟨rfl,rfl,V,a⟩;co_applyP(zo);exact xI _ ⟨rfl,rfl,rfl,V,by rw[CK P hb];exact A.trans a⟩
 intro c1;co_applyP aA (by rfl:kn _ [(17, .int .i64 m),(7, .int .i64 (x.r 0)),(2, .int .i64 m),(1,ptr (B.p b)),(0,ptr R)]);co_applyP(av);co_applyP aI rfl;intro c2;co_applyP(ax)
 ·have e:m=2:=by simpa using c2
  subst e;co_applyP oc rfl rfl rfl (g3 b R B T X J b x Q k D hb C);rintro _ _ _ ⟨rfl,rfl,V,a⟩;co_applyP(zo);exact xI _ ⟨rfl,rfl,rfl,V,by rw[CL P hb];exact A.trans a⟩
 intro c2;co_applyP aA (by rfl:kn _ [(17, .int .i64 m),(7, .int .i64 (x.r 0)),(2, .int .i64 m),(1,ptr (B.p b)),(0,ptr R)]);co_applyP(av);co_applyP aI rfl;intro c3;co_applyP(ax)
 ·have e:m=3:=by simpa using c3
  subst e;co_applyP oc rfl rfl rfl (g4 b R B T X J (x.r 0) k W.p8);rintro _ _ _ ⟨rfl,rfl,rfl⟩;co_applyP(ax);co_applyP aK;co_applyP ct ([(53, .bool (T.Jy x)),(8,MB ((T.find (x.r 0)).map λq=>B.p q.1)),(1,ptr (B.p b)),(0,ptr R)])
  ·cases hf:T.find (x.r 0) with
   |none=>
    co_applyP(bZ);change _=_/\_=_/\kn _ _;refine⟨rfl,rfl, ?_⟩;have e:T.Jy x=true:=by unfold St.Jy;rw[hf]
    rw[e];rfl
   |some q=>
    obtain⟨hq,_⟩:=dK hf;have V':At J (B.p q.1) 2 (.int .i64 (q.2.st:Nat)):=k.pat (b:=q.1) (x:=q.2) hq (i:=2) rfl;co_applyP(bZ);change _=_/\_=_/\kn _ _;refine⟨rfl,rfl, ?_⟩;have e:T.Jy x=((q.2.st:Int)==6):=by
     unfold St.Jy;rw[hf];by_cases h:q.2.st=6
     ·simp[h]
     ·have: ¬(q.2.st:Int)=6:=bl
      simp[h,this]
    rw[e];rfl
  co_applyP aI rfl;intro hk;co_applyP(aC)
  ·skip
   co_applyP osm rfl (hs:=bh) (hm:=k.p _ hb) (hi:=by rw[aX];decide);intro H u;co_applyP(ay);exact xI _ ⟨rfl,rfl,rfl,_,by rw[(rT P hb hk X).1,(rT P hb hk X).2];exact U u⟩
  intro hk;co_applyP(aR);obtain⟨q,hf,p',et,ex⟩:=Aj (b:=b) hk X;obtain⟨hq,_⟩:=dK hf;rw[hf];co_applyP osm rfl (hs:=bh) (hm:=k.p _ hb) (hi:=by rw[aX];decide);intro H u;have a:=U u;have K:=D.r0 hb E (v:=0) bx;have C':(q.1,if q.1=b then x.r0 0 else q.2)∈(T.ID b (x.r0 0)).ps:=by
   by_cases e:q.1=b
   ·rw[if_pos e,e];exact ai hb
   ·rw[if_neg e];exact bK hq e
  have x':(if q.1=b then x.r0 0 else q.2).st≠6:=by
   split
   ·exact h6
   ·exact p'
  have N': ∀y,(b,y)∈(T.ID b (x.r0 0)).ps->y.st=1:=λy hy=>by
   rcases aN hy with e|⟨_,h2⟩
   ·cases e;exact C
   ·exact absurd rfl h2
  co_applyP(av);co_applyP oc rfl rfl rfl (g1 b R {B with e:=put B.e b (B.e b)} _ X H q.1 _ 65280 Q a.r K G O C' x' hw N');rintro _ _ _ ⟨rfl,rfl,B4,z⟩;co_applyP(zo);change∃v,Ko .. =some v/\_;rw[FF D hb C hq 0 65280] at z;exact⟨_,rfl,rfl,rfl,B4,by rw[et,ex];exact a.trans z⟩
 intro c3;co_applyP aA (by rfl:kn _ [(17, .int .i64 m),(7, .int .i64 (x.r 0)),(2, .int .i64 m),(1,ptr (B.p b)),(0,ptr R)]);co_applyP(av);co_applyP aI rfl;intro c4;co_applyP(aC)
 ·have e:m=4:=by simpa using c4
  subst e;co_applyP osm rfl (hs:=bh) (hm:=k.p _ hb) (hi:=by rw[aX];decide);intro H u;have a:=U u;co_applyP(au);co_applyP aI rfl;intro hp;co_applyP(au)
  ·have c': ¬x.r 0=0:=by simp at hp;omega
   have I:=ai (x:=x.r0 0) hb;co_applyP osm rfl (hs:=bJ) (hm:=a.r.p _ I) (hi:=by rw[aX];decide);intro L4 z';have z:=a.trans (To.of (a.r.ID I z' {x.r0 0 with st:=3,til:=(put B.e b (B.e b) b).un} (put B.e b (B.e b) b) b rfl (hun:=λ_=>rfl) (hdu:=a.r.du _ I) (ho:=λ_ _ _=>fz) (hsz:=λ_=>hz)));rw[bd] at z;have d':=ai (x:={x.r0 0 with st:=3,til:=(put B.e b (B.e b) b).un}) hb;have R':At L4 R 13 (.int .i64 (T.now:Nat)):=by rw[<-h'];exact z.r.kat rfl
   have wn:IntKind.i64.wrap ((T.now:Int)+x.r 0)=(T.now:Int)+x.r 0:=ag
   co_applyP(bf);rw[wn];co_applyP osm rfl (hs:=bJ) (hm:=z.r.p _ d') (hi:=by rw[aX];decide);intro L5 q';have a':=z.trans (To.of (z.r.ID d' q' {x.r0 0 with st:=3,til:=(T.now:Int)+x.r 0} {put (put B.e b (B.e b)) b (put B.e b (B.e b) b) b with un:=(T.now:Int)+x.r 0} b rfl (hun:=λ_=>rfl) (hdu:=z.r.du _ d') (ho:=λ_ _ _=>fz) (hsz:=λ_=>hz)));rw[bd] at a';have M':=ai (x:={x.r0 0 with st:=3,til:=(T.now:Int)+x.r 0}) hb;co_applyP(av);co_applyP oc rfl rfl rfl (g5 b R _ _ X L5 b _ Q a'.r M' (λl hl=>W.r8 hl) D.x.r3);rintro _ _ _ ⟨rfl,rfl,B6,r'⟩;co_applyP(zo);change∃v,Ko .. =some v/\_;have et:T.Ji b x 4=(T.ID b {x.r0 0 with st:=3,til:=(T.now:Int)+x.r 0}).gone b:=by
    show T.I7 b x=(T.gone b).ID b _;rw[jF W D.x.r3 hb];unfold St.I7 St.IT;rw[if_neg c',bd];rfl
   exact⟨_,rfl,rfl,rfl,B6,by rw[et];exact a'.trans r'⟩
  intro hp;co_applyP(zo);change∃v,Ko .. =some v/\_;have c':x.r 0=0:=by simp at hp;omega
  exact⟨_,rfl,rfl,rfl,_,by rw[show T.Ji b x 4=T.ID b (x.r0 0) by show T.I7 b x=_;unfold St.I7;rw[if_pos c']];exact a⟩
 intro c4;co_applyP aA (by rfl:kn _ [(17, .int .i64 m),(7, .int .i64 (x.r 0)),(2, .int .i64 m),(1,ptr (B.p b)),(0,ptr R)]);co_applyP(av);co_applyP aI rfl;intro c5;co_applyP(aC)
 ·have e:m=5:=by simpa using c5
  subst e;co_applyP osm rfl (hs:=bh) (hm:=k.p _ hb) (hi:=by rw[aX];decide);intro H u;co_applyP(zo);exact xI _ ⟨rfl,rfl,rfl,_,U u⟩
 intro c5;co_applyP aA (by rfl:kn _ [(17, .int .i64 m),(7, .int .i64 (x.r 0)),(2, .int .i64 m),(1,ptr (B.p b)),(0,ptr R)]);co_applyP(av);co_applyP aI rfl;intro c6
 ·have e:m=6:=by simpa using c6
  subst e;have P':At J (B.p b) 0 (.int .i64 (x.id:Nat)):=k.pat hb (i:=0) rfl;co_applyP aM [] 11 (nf:=0) mixed;co_applyP(bf);co_applyP aF;intro hnd;co_applyP te (i:=11) rfl (bX (hnd:=hnd) (hm:=k.p _ hb) (hi:=by rw[aX];decide) (hs:=bh));rintro _ _ ⟨rfl,u⟩;refine⟨aj bE, ?_⟩;rw[bC] at u;co_applyP(zo);exact xI _ ⟨rfl,rfl,rfl,_,U u⟩
 intro c6;co_applyP aA (by rfl:kn _ [(17, .int .i64 m),(7, .int .i64 (x.r 0)),(2, .int .i64 m),(1,ptr (B.p b)),(0,ptr R)]);co_applyP(av);co_applyP aI rfl;intro c7;co_applyP(ax)
 ·have e:m=7:=by simpa using c7
  subst e;co_applyP oc rfl rfl rfl (g7 b R B T X J b x Q k D.i w' O hb E);rintro _ _ _ ⟨rfl,rfl,V,a⟩;co_applyP(zo);exact xI _ ⟨rfl,rfl,rfl,V,by rw[CM P hb];exact A.trans a⟩
 intro c7;co_applyP aA (by rfl:kn _ [(17, .int .i64 m),(7, .int .i64 (x.r 0)),(2, .int .i64 m),(1,ptr (B.p b)),(0,ptr R)]);co_applyP(av);co_applyP aI rfl;intro c8
 ·have e:m=8:=by simpa using c8
  subst e;have H':=D.i.Ju hb (x.r 0);co_applyP(zo);co_applyP aK;co_applyP ct ([(129, .bool (decide (x.file (x.r 0)=(0,0)))),(7, .int .i64 (x.r 0)),(1,ptr (B.p b)),(0,ptr R)])
  ·by_cases hj:(6:Int)<=x.r 0
   ·have W:decide ((6:Int)<=x.r 0)=true:=by simp[hj]
    co_applyP(av);rw[W];co_applyP(bm);change _=_/\_=_/\kn _ _;exact⟨rfl,rfl,by rw[show decide (x.file (x.r 0)=(0,0))=true from decide_eq_true (by unfold PS.file;rw[if_neg bl])];rfl⟩
   ·have W:decide ((6:Int)<=x.r 0)=false:=ao
    have l':(x.r 0).toNat<6:=bl
    have e':x.file (x.r 0)=x.f (x.r 0).toNat:=by unfold PS.file;rw[if_pos bl]
    obtain⟨f1,f2,f3⟩:=k.pp.fi _ hb _ l';have T':At J (B.p b) (79+(x.r 0).toNat) (.int .i64 (X.nu (x.f (x.r 0).toNat).1:Nat)):=by
     have:=k.pat hb (fV x (B.e b) l');rw[show (B.e b).pi (x.r 0).toNat=X.nu (x.f (x.r 0).toNat).1 from f1] at this;exact this
    co_applyP(av);rw[W];co_applyP(bm);change _=_/\_=_/\kn _ _;refine⟨rfl,rfl, ?_⟩;have e:decide (x.file (x.r 0)=(0,0))=((X.nu (x.f (x.r 0).toNat).1:Int)==0):=by
     rw[e'];by_cases h:x.f (x.r 0).toNat=(0,0)
     ·rw[h,k.pp.n0];rfl
     ·have h1:X.nu (x.f (x.r 0).toNat).1≠0:=f3 h;rw[decide_eq_false h];exact(beq_false_of_ne bl).symm
    rw[e];rfl
  co_applyP aI rfl;intro hz;co_applyP(aC)
  ·have N:x.file (x.r 0)=(0,0):=by simpa using hz
   co_applyP osm rfl (hs:=bh) (hm:=k.p _ hb) (hi:=by rw[aX];decide);intro H u;have a:=U u;co_applyP(ay);change∃v,Ko .. =some v/\_;have et:T.Ji b x 8=T.ID b (x.r0 65535):=by
    show (match (T.IZ b x).1 with|some i=>(T.IZ b x).2.r0 b (KB i)|none=>(T.IZ b x).2)=_;unfold St.IZ;rw[if_pos N];exact mL P hb _
   exact⟨_,rfl,rfl,rfl,_,by rw[et];exact a⟩
  intro hz;co_applyP(aR);have N: ¬x.file (x.r 0)=(0,0):=by simpa using hz
  obtain⟨h7,e'⟩:=jI rfl (H'.resolve_left N);co_applyP osm rfl (hs:=bh) (hm:=k.p _ hb) (hi:=by rw[aX];decide);intro H u;have a:=U u;have K:=D.r0 hb E (v:=0) bx;have I:=ai (x:=x.r0 0) hb;obtain⟨j,hj⟩: ∃j:Nat,x.r 0=j:=⟨(x.r 0).toNat,bl⟩;have i':(x.r 0).toNat=j:=bl
  have y':Ak b (T.ID b (x.r0 0)) X.ask:=by
   rw[G];refine Ak.calm K (λq hq=> ?_) λy hy=> ?_
   ·have:=(K.x.idr q hq).1;rw[a.r.id q hq] at this;omega
   ·have e2:=aS K.i.g.pn hy I;rw[e2];show x.st≠4/\x.st≠5;omega
  co_applyP(au);rw[hj];co_applyP oc rfl rfl rfl (g8 b R {B with e:=put B.e b (B.e b)} _ X H b (x.r0 0) j Q a.r K.i y' I E bl (by show x.f j≠(0,0);rw[<-i',e'];exact N) O);rintro _ _ _ ⟨rfl,rfl,B4,z⟩;co_applyP(zo);change∃v,Ko .. =some v/\_;have et:T.Ji b x 8=(T.ID b (x.r0 0)).shut b j:=by
   show (match (T.IZ b x).1 with|some i=>(T.IZ b x).2.r0 b (KB i)|none=>(T.IZ b x).2)=_;unfold St.IZ;rw[if_neg N,CJ D hb C,i']
  exact⟨_,rfl,rfl,rfl,B4,by rw[et];exact a.trans z⟩
 intro c8;co_applyP aA (by rfl:kn _ [(17, .int .i64 m),(7, .int .i64 (x.r 0)),(2, .int .i64 m),(1,ptr (B.p b)),(0,ptr R)]);co_applyP bL ((λE' k' u'=>s=E'/\J=u'/\kn k' [(144, .bool (decide (m=9\/m=10))),(17, .int .i64 m),(7, .int .i64 (x.r 0)),(2, .int .i64 m),(1,ptr (B.p b)),(0,ptr R)]));co_applyP(av);co_applyP aI rfl;intro c9;co_applyP(zo);change _=_/\_=_/\kn _ _
 ·have e:m=9:=by simpa using c9
  exact⟨rfl,rfl,by rw[show decide (m=9\/m=10)=(m==9) by simp[e]];rfl⟩
 intro c9;co_applyP(av);change _=_/\_=_/\kn _ _;have h9: ¬m=9:=by simpa using c9
 exact⟨rfl,rfl,by rw[show decide (m=9\/m=10)=(m==10) by simp[h9];rfl];rfl⟩;rintro _ Q' _ ⟨rfl,rfl,A'⟩;co_applyP aA A';co_applyP aI rfl;intro cA;co_applyP(au)
 ·have M:m=9\/m=10:=by simpa using cA
  co_applyP oc rfl rfl rfl (g9 R B T X J b x (m==10) Q k D G O hb C);rintro _ _ _ ⟨rfl,rfl,V,a⟩;co_applyP(zo);refine xI _ ⟨rfl,rfl,rfl,V, ?_⟩;rcases M with e|e
  ·subst e;rw[CN P hb];exact A.trans a
  ·subst e;rw[Am P hb];exact A.trans a
 intro cA;have M: ¬(m=9\/m=10):=by simpa using cA
 co_applyP aA (by rfl:kn _ [(17, .int .i64 m),(7, .int .i64 (x.r 0)),(2, .int .i64 m),(1,ptr (B.p b)),(0,ptr R)]);co_applyP(av);co_applyP aI rfl;intro b';co_applyP(aC)
 ·have e:m=11:=by simpa using b'
  subst e;co_applyP osm rfl (hs:=bh) (hm:=k.p _ hb) (hi:=by rw[aX];decide);intro H u;have a:=U u;have O':At H (B.p b) 0 (.int .i64 (b:Nat)):=a.num S hb;co_applyP(aP);have et:(x.r 0).tmod 256=x.r 0%256:=OP t'.1;rw[et];co_applyP oc rfl rfl rfl (g6 b R _ _ X H 3 b (x.r 0%256) Q a.r hw);rintro _ _ _ ⟨rfl,rfl,B4,z⟩;co_applyP(zo);exact xI _ ⟨rfl,rfl,rfl,B4,a.trans z⟩
 intro b';co_applyP(aC);co_applyP osm rfl (hs:=bh) (hm:=k.p _ hb) (hi:=by rw[aX];decide);intro H u;co_applyP(zo);change∃v,Ko .. =some v/\_;have m': ¬m=0:=by simpa using c0
 have n': ¬m=1:=by simpa using c1
 have J': ¬m=2:=by simpa using c2
 have f': ¬m=3:=by simpa using c3
 have G': ¬m=4:=by simpa using c4
 have v': ¬m=5:=by simpa using c5
 have K': ¬m=6:=by simpa using c6
 have Y: ¬m=11:=by simpa using b'
 have j': ¬m=7:=by simpa using c7
 have I': ¬m=8:=by simpa using c8
 have D': ¬m=9:=λh=>M (.inl h);have g': ¬m=10:=λh=>M (.inr h);have a:=U u;have et:T.Ji b x m=T.ID b (x.r0 65529):=by simp[St.Ji,St.IW,St.IK,m',n',J',f',G',v',K',j',I',D',g',Y,mL P hb,KB]
 have ex:Ly T X b x m=X:=by simp[Ly,m',f',j',Y]
 exact⟨_,rfl,rfl,rfl,_,by rw[et,ex];exact a⟩
theorem rU {P:Program}{N:Nat}{f:Env}{L:Ka}{d:Option Tmp}{ty:TypeId}{ps:String}{af:Array Edge}{g:Option (Nat×Bool)}{x y:Operand}{t:TypeId}{l:List Int}{k:IntKind}{i v:Int}(hu:P.underlying t=some .string)(hx:ev f x=some (KU l):=by rfl)(hy:ev f y=some (.int k i):=by rfl)(h0:0<=i)(hv:l[i.toNat]? =some v)(hb:0<=v/\v<256):
 EY P N f L ⟨d, .index t x y,ty,ps,af,g⟩ (.int .u8 v):=by
 unfold EY;intro _ j
 refine cN (λ_=>rfl) λK m=> ?_;rw[j.ev hx,j.ev hy];unfold Instr.index;simp only[aq,asIntOf,bM,aE hu,KU,if_pos h0];have a:=(mo.1 hv).1;have b:(⟨(l.map λn=>UInt8.ofNat n.toNat).toArray⟩:ByteArray).size=l.length:=by simp[ByteArray.size]
 have e:(⟨(l.map λn=>UInt8.ofNat n.toNat).toArray⟩:ByteArray)[i.toNat]? =some (UInt8.ofNat v.toNat):=by
  rw[getElem?_pos _ _ (by rw[b];exact a)];congr 1;show (l.map λn=>UInt8.ofNat n.toNat).toArray[i.toNat]'_=_;have:=(mo.1 hv).2;simp[this]
 rw[e];simp only[bM];have o:((UInt8.ofNat v.toNat).toNat:Int)=v:=by
  rw[UInt8.toNat_ofNat_of_lt' (by show v.toNat<256;omega)];omega
 rw[o];exact m
theorem cv (l:List Int):(⟨(l.map λn=>UInt8.ofNat n.toNat).toArray⟩:ByteArray).size=l.length:=by simp[ByteArray.size]
def Lz (op m:Int):Bool:=decide (op<1)||decide (9<op)||((op==7||op==8)&&decide (64<=m))
def St.Jb (T:St)(b:Nat)(x:PS):St:=if T.pn<=x.at_ then T.fin b x 65281 else if T.pg x.at_ 0=9 then(T.ID b x.next).Ji b x.next (T.pg x.at_ 1) else match T.doR x with
 | .ok x'=>T.ID b x'
 | .error _=>T.fin b x 65281
def stepX (T:St)(X:RX)(b:Nat)(x:PS):RX:=if T.pn<=x.at_ then MZ X b 65281 else if T.pg x.at_ 0=9 then Ly (T.ID b x.next) X b x.next (T.pg x.at_ 1) else match T.doR x with
 | .ok _=>X
 | .error _=>MZ X b 65281
def St.Jg (T:St)(x:PS):Bool:=decide (x.at_<T.pn)&&(T.pg x.at_ 0==9)&&(T.pg x.at_ 1==5)
section
variable {T:St}{b:Nat}{x x':PS}{X:RX}
theorem CO (h: ¬T.pn<=x.at_)(a: ¬T.pg x.at_ 0=9)(hd:T.doR x= .ok x'):T.Jb b x=T.ID b x'/\stepX T X b x=X/\T.Jg x=false:=by
 refine⟨?_, ?_, ?_⟩
 ·unfold St.Jb;rw[if_neg h,if_neg a,hd]
 ·unfold stepX;rw[if_neg h,if_neg a,hd]
 ·unfold St.Jg;simp[a]
theorem rV (h:T.pn<=x.at_\/(¬T.pg x.at_ 0=9/\ ∃e,T.doR x= .error e)):T.Jb b x=T.fin b x 65281/\stepX T X b x=MZ X b 65281/\T.Jg x=false:=by
 by_cases a:T.pn<=x.at_
 ·refine⟨?_, ?_, ?_⟩
  ·unfold St.Jb;rw[if_pos a]
  ·unfold stepX;rw[if_pos a]
  ·unfold St.Jg;simp;omega
 ·rcases h with h|⟨d,e,f⟩
  ·exact absurd h a
  ·refine⟨?_, ?_, ?_⟩
   ·unfold St.Jb;rw[if_neg a,if_neg d,f]
   ·unfold stepX;rw[if_neg a,if_neg d,f]
   ·unfold St.Jg;simp[d]
theorem wE (h: ¬T.pn<=x.at_)(a:T.pg x.at_ 0=9):T.Jb b x=(T.ID b x.next).Ji b x.next (T.pg x.at_ 1)/\stepX T X b x=Ly (T.ID b x.next) X b x.next (T.pg x.at_ 1)/\T.Jg x=(T.pg x.at_ 1==5):=by
 refine⟨?_, ?_, ?_⟩
 ·unfold St.Jb;rw[if_neg h,if_pos a]
 ·unfold stepX;rw[if_neg h,if_pos a]
 ·unfold St.Jg;rw[a];simp;intro _;omega
theorem FH {op a c d:Int}(h:Lz op (x.r (c%8).toNat+d)=true): ¬op=9/\ ∃e,x.do op a c d= .error e:=by
 unfold Lz at h;simp only[Bool.or_eq_true,Bool.and_eq_true,decide_eq_true_eq,beq_iff_eq] at h;rcases h with (h|h)|⟨h|h,b⟩
 ·refine⟨bl,1, ?_⟩;unfold PS.do
  simp[show¬op=1 by omega,show¬op=2 by omega,show¬op=3 by omega,show¬op=4 by omega,show¬op=5 by omega,show¬op=6 by omega,show¬op=7 by omega,show¬op=8 by omega]
 ·refine⟨bl,1, ?_⟩;unfold PS.do
  simp[show¬op=1 by omega,show¬op=2 by omega,show¬op=3 by omega,show¬op=4 by omega,show¬op=5 by omega,show¬op=6 by omega,show¬op=7 by omega,show¬op=8 by omega]
 ·refine⟨bl,10, ?_⟩;unfold PS.do
  simp[h,show¬x.r (c%8).toNat+d<64 by omega]
 ·refine⟨bl,10, ?_⟩;unfold PS.do
  simp[h,show¬x.r (c%8).toNat+d<64 by omega]
end
theorem FK: ∃n,∀{σ}{F:Kn σ}{Δ:DM F}{Y s}(R:Nat)(B:RB)(T:St)(X:RX)(L:Ka)(b:Nat)(x:PS),(∀s o,(Δ s).New o)->Ki b R B T X L->MI (λ_=>False) (λb=>b) T->X.ask=0->X.op=X.no->X.no<=10000->(b,x)∈T.ps->x.st=1->X.ws.length<=10000->X.now=T.now->T.now<4611686018427387904->T.last<4611686018427387904->T.pn<=256->
 Kb Δ prog Y 117 [ptr R,ptr (B.p b)].toArray n s L (λs' v L'=>s=s'/\v= .bool (T.Jg x)/\ ∃J,To b R B T L J (T.Jb b x) (stepX T X b x) L'):=by
 obtain⟨n1,g1⟩:=Ai;obtain⟨n2,g2⟩:=FG;constructor;intro σ F Δ Y s R B T X L b x hN k W N g' c' hb d' hw j' A' R' Y';have hg:=W.i.g;have hn:=hg.pn;have U:T.out b:=W.out hb d';have K:=W.i.wf _ hb;have h6:x.st≠6:=bl
 have hz:=k.sz _ hb h6;have h':x.at_<=65536:=k.ab _ hb;have ho: ∀y,(b,y)∈T.ps->y.st=1:=λy hy=>by rw[<-aS hn hb hy];exact d'
 have hat:At L (B.p b) 4 (.int .i64 (x.at_:Nat)):=k.pat hb (i:=4) rfl;have him:At L R 4 (KU X.img):=k.kat rfl;have w4:IntKind.i64.wrap (4*(x.at_:Int))=((4*x.at_:Nat):Int):=ag
 co_applyP ar 224 func117 ntmps117;co_applyP(aH);co_applyP(aR);change Kw ..;rw[w4,cv,k.im.n];co_applyP aI rfl;intro hf;co_applyP(ax)
 ·have S:T.pn<=x.at_:=by simp at hf;omega
  co_applyP oc rfl rfl rfl (g1 b R B T X L b x 65281 hN k W N c' hb h6 hw ho);rintro _ _ _ ⟨rfl,rfl,B3,Z⟩;co_applyP(au);change∃v,Ko .. =some v/\_;obtain⟨e1,e2,e3⟩:=rV (b:=b) (X:=X) (.inl S);exact⟨_,rfl,rfl,by rw[e3],B3,by rw[e1,e2];exact Z⟩
 intro hf;have S: ¬T.pn<=x.at_:=by simp at hf;omega
 have I:x.at_<T.pn:=bl
 have u':=k.im.g x.at_ 0 I bl;have f':=k.im.g x.at_ 1 I bl;have n':=k.im.g x.at_ 2 I bl;have e':=k.im.g x.at_ 3 I bl;have E':=k.im.b _ (l5 u');have p':=k.im.b _ (l5 f');have l':=k.im.b _ (l5 n');have v':=k.im.b _ (l5 e');have k':T.doR x=x.do (T.pg x.at_ 0) (T.pg x.at_ 1) (T.pg x.at_ 2) (T.pg x.at_ 3):=rfl
 have N':Lz (T.pg x.at_ 0) (x.r (T.pg x.at_ 2%8).toNat+T.pg x.at_ 3)=true->T.Jb b x=T.fin b x 65281/\stepX T X b x=MZ X b 65281/\T.Jg x=false:=λh=>by
  obtain⟨h9,e,he⟩:=FH (x:=x) (a:=T.pg x.at_ 1) h;exact rV (.inr ⟨h9,e,k'.trans he⟩)
 have i':=λh9=>wE (b:=b) (X:=X) S h9;have j:=λh9 (H:PS) hd=>CO (b:=b) (X:=X) (x':=H) S h9 (k'.trans hd);generalize T.pg x.at_ 0=op at*;generalize T.pg x.at_ 1=a at*;generalize T.pg x.at_ 2=bb at*;generalize T.pg x.at_ 3=c at*;have V':IntKind.i64.wrap op=op:=ag
 have H':IntKind.i64.wrap a=a:=ag
 have w':IntKind.i64.wrap bb=bb:=ag
 have S':IntKind.i64.wrap c=c:=ag
 have M':IntKind.i64.wrap (((4*x.at_:Nat):Int)+1)=((4*x.at_+1:Nat):Int):=ag
 have C':IntKind.i64.wrap (((4*x.at_:Nat):Int)+2)=((4*x.at_+2:Nat):Int):=ag
 have G':IntKind.i64.wrap (((4*x.at_:Nat):Int)+3)=((4*x.at_+3:Nat):Int):=ag
 have Q':IntKind.i64.wrap (256*c)=256*c:=ag
 have K':IntKind.i64.wrap (bb+256*c)=bb+256*c:=ag
 have ta:a.tmod 8=a%8:=OP p'.1;have tb:bb.tmod 8=bb%8:=OP l'.1;have E:(a%8).toNat<8:=bl
 have r':(bb%8).toNat<8:=bl
 have hya:0<=x.r (a%8).toNat/\x.r (a%8).toNat<65536:=K.r _ E;have hyb:0<=x.r (bb%8).toNat/\x.r (bb%8).toNat<65536:=K.r _ r';have wy:IntKind.i64.wrap (x.r (bb%8).toNat)=x.r (bb%8).toNat:=ag
 have wm:IntKind.i64.wrap (x.r (bb%8).toNat+c)=x.r (bb%8).toNat+c:=ag
 have W':At L (B.p b) (7+(bb%8).toNat) (.int .u16 (x.r (bb%8).toNat)):=k.pat hb (mH x _ r');co_applyP aA (by rfl:kn _ [(5, .int .i64 (x.at_:Nat)),(1,ptr (B.p b)),(0,ptr R)]);co_applyP(aO);rw[w4];co_applyP oy rfl (rU U9 (h0:=OW _) (hv:=u') (hb:=E'));co_applyP(bf);rw[V',w4,M'];co_applyP oy rfl (rU U9 (h0:=OW _) (hv:=f') (hb:=p'));co_applyP(bf);rw[H',w4,C'];co_applyP oy rfl (rU U9 (h0:=OW _) (hv:=n') (hb:=l'));co_applyP(bf);rw[w',w4,G'];co_applyP oy rfl (rU U9 (h0:=OW _) (hv:=e') (hb:=v'));co_applyP(aH);co_applyP(aR);rw[S',Q',K',ta,tb];co_applyP oy rfl (cW U47 bh (h0:=bl) (h1:=by show _<(8:Int);omega));co_applyP(aP)
 co_applyP(zo);co_applyP aK;rw[wy,wm];co_applyP aA (by rfl:kn _ [(13, .int .i64 (x.r (bb%8).toNat+c)),(12, .int .u16 (x.r (bb%8).toNat)),(11, .int .i64 (a%8)),(10, .int .i64 (bb+256*c)),(7, .int .i64 a),(6, .int .i64 op),(5, .int .i64 (x.at_:Nat)),(1,ptr (B.p b)),(0,ptr R)]);generalize hm:x.r (bb%8).toNat+c=m at*;co_applyP ct ([(100, .bool (Lz op m)),(13, .int .i64 m),(12, .int .u16 (x.r (bb%8).toNat)),(11, .int .i64 (a%8)),(10, .int .i64 (bb+256*c)),(7, .int .i64 a),(6, .int .i64 op),(5, .int .i64 (x.at_:Nat)),(1,ptr (B.p b)),(0,ptr R)]);co_applyP(av)
 ·by_cases h1:op<1
  ·rw[show decide (op<1)=true by simp[h1]];co_applyP(aR);co_applyP on rfl;co_applyP on rfl;co_applyP(ay);co_applyP on rfl;co_applyP on rfl;co_applyP(ax);change _=_/\_=_/\kn _ _;refine⟨rfl,rfl, ?_⟩;rw[show Lz op m=true by simp[Lz,h1]];rfl
  rw[show decide (op<1)=false by simp[h1]];by_cases V:9<op
  ·skip
   co_applyP(av);rw[show decide (9<op)=true by simp[V]];co_applyP(ax);co_applyP on rfl;co_applyP on rfl;co_applyP(ay);co_applyP on rfl;co_applyP on rfl;co_applyP(ax);change _=_/\_=_/\kn _ _;refine⟨rfl,rfl, ?_⟩;rw[show Lz op m=true by simp[Lz,V]];rfl
  have z:Lz op m=((op==7||op==8)&&decide (64<=m)):=by simp[Lz,h1,V]
  by_cases h7:op=7
  ·skip
   co_applyP(av);rw[show decide (9<op)=false by simp[V]];co_applyP(ax);rw[show (op==7)=true by simp[h7]];co_applyP(bm);change _=_/\_=_/\kn _ _;refine⟨rfl,rfl, ?_⟩;rw[z,show (op==7)=true by simp[h7]];rfl
  by_cases h8:op=8
  ·skip
   co_applyP(av);rw[show decide (9<op)=false by simp[V]];co_applyP(ax);rw[show (op==7)=false by simp[h7]];co_applyP(ay);rw[show (op==8)=true by simp[h8]];co_applyP(aR);change _=_/\_=_/\kn _ _;refine⟨rfl,rfl, ?_⟩;rw[z,show (op==7)=false by simp[h7],show (op==8)=true by simp[h8]];rfl
  ·skip
   co_applyP(av);rw[show decide (9<op)=false by simp[V]];co_applyP(ax);rw[show (op==7)=false by simp[h7]];co_applyP(ay);rw[show (op==8)=false by simp[h8]];co_applyP(aR);change _=_/\_=_/\kn _ _;refine⟨rfl,rfl, ?_⟩;rw[z,show (op==7)=false by simp[h7],show (op==8)=false by simp[h8]];rfl
 co_applyP aI rfl;intro M;co_applyP(ax)
 ·skip
  co_applyP oc rfl rfl rfl (g1 b R B T X L b x 65281 hN k W N c' hb h6 hw ho);rintro _ _ _ ⟨rfl,rfl,B3,Z⟩;co_applyP(au);change∃v,Ko .. =some v/\_;obtain⟨e1,e2,e3⟩:=N' M;exact⟨_,rfl,rfl,by rw[e3],B3,by rw[e1,e2];exact Z⟩
 intro M;have z:Lz op m=false:=M;have w1:IntKind.i64.wrap ((x.at_:Int)+1)=((x.at_+1:Nat):Int):=ag
 co_applyP(aO);rw[w1];co_applyP osm rfl (hs:=bJ) (hm:=k.p _ hb) (hi:=by rw[aX];decide);intro L1 I';have O:=To.of (k.ID hb I' x.next (B.e b) b rfl (hun:=k.un _ hb) (hdu:=k.du _ hb) (ho:=λ_ _ _=>fz) (hsz:=k.sz _ hb) (hab:= .inr (by show x.at_+1<=65536;omega)));have G:=O.r;have D:=ai (x:=x.next) hb;have P: ∀{cs:Array Value}{L3:Ka}(H:PS),K4 L1 (B.p b) (.cells cs 154) L3->cs=KV H (put B.e b (B.e b) b)->H.id=x.id->H.st=x.st->H.stat=x.stat->H.til=x.til->H.at_<=65536->H.f=x.f->To b R B T L {B with e:=put (put B.e b (B.e b)) b (put B.e b (B.e b) b)} (T.ID b H) X L3:=λH hU hc h1 V h3 h4 h5 h6=>by
  have:=O.trans (To.of (G.ID D hU H (put B.e b (B.e b) b) b hc h1 (λh=>by unfold FI at*;rw[h6];exact h) (λe he hc=>absurd hc (U e he)) (hun:=λh=>by rw[h4];exact G.un _ D (V.symm.trans h)) (hdu:=G.du _ D) (ho:=λ_ _ _=>fz) (hsz:=λ_=>h3.trans hz) (hab:= .inr h5)));rw[bd] at this;exact this
 generalize t':({B with e:=put B.e b (B.e b)}:RB)=B1 at O G;generalize D':put B.e b (B.e b) b=e1 at P;have u:(B.p b,true,Obj.cells (KV x.next e1) 154)∈L1:=by
  have:=G.p _ D;rw[<-t'] at this;rw[<-D'];exact this
 have ea: ∀{i:Nat}{v:Value},(KV x.next e1)[i]? =some v->At L1 (B.p b) i v:=λh=>⟨true,_,_,_,u,h⟩;have haa:At L1 (B.p b) (7+(a%8).toNat) (.int .u16 (x.r (a%8).toNat)):=ea (mH x.next _ E);have Q:(bb+256*c)%65536=bb+256*c:=bl
 co_applyP(zo);co_applyP aA (by rfl:kn _ [(13, .int .i64 m),(12, .int .u16 (x.r (bb%8).toNat)),(11, .int .i64 (a%8)),(10, .int .i64 (bb+256*c)),(7, .int .i64 a),(6, .int .i64 op),(1,ptr (B.p b)),(0,ptr R)]);co_applyP bL ((λP' q' z'=>s=P'/\kn q' []/\T.Jg x=false/\ ∃J,To b R B T L J (T.Jb b x) (stepX T X b x) z'));co_applyP(aO);co_applyP aI rfl;intro c1;co_applyP(bm)
 ·have e:op=1:=by simpa using c1
  co_applyP osm rfl (hs:=bh) (hm:=u) (hi:=by rw[aX];omega);intro L3 d;rw[bC,Q] at d;co_applyP(zo);change _=_/\kn _ _/\_=_/\ ∃J,_;obtain⟨C,A,l⟩:=j bl {x.next with r:=put x.r (a%8).toNat (bb+256*c)} (by rw[e];unfold PS.do;simp[Q,PS.next]);exact⟨rfl,rfl,l,_,by rw[C,A];exact P _ d (cS x.next _ E _) rfl rfl rfl rfl (by show x.at_+1<=65536;omega) rfl⟩
 intro c1;co_applyP aA (by rfl:kn _ [(13, .int .i64 m),(12, .int .u16 (x.r (bb%8).toNat)),(11, .int .i64 (a%8)),(10, .int .i64 (bb+256*c)),(7, .int .i64 a),(110, .int .i64 op),(1,ptr (B.p b)),(0,ptr R)]);co_applyP(av);co_applyP aI rfl;intro c2;co_applyP(aO)
 ·have e:op=2:=by simpa using c2
  co_applyP osm rfl (hs:=bh) (hm:=u) (hi:=by rw[aX];omega);intro L3 d;co_applyP(zo);change _=_/\kn _ _/\_=_/\ ∃J,_;obtain⟨C,A,l⟩:=j bl {x.next with r:=put x.r (a%8).toNat (x.r (bb%8).toNat)} (by rw[e];rfl);exact⟨rfl,rfl,l,_,by rw[C,A];exact P _ d (cS x.next _ E _) rfl rfl rfl rfl (by show x.at_+1<=65536;omega) rfl⟩
 intro c2;co_applyP aA (by rfl:kn _ [(13, .int .i64 m),(12, .int .u16 (x.r (bb%8).toNat)),(11, .int .i64 (a%8)),(10, .int .i64 (bb+256*c)),(7, .int .i64 a),(110, .int .i64 op),(1,ptr (B.p b)),(0,ptr R)]);co_applyP(av);co_applyP aI rfl;intro c3
 ·have e:op=3:=by simpa using c3
  co_applyP aM [] 15 (nf:=0) mixed;co_applyP(aH);co_applyP aF;intro hnd;co_applyP te (i:=15) rfl (bX (hnd:=hnd) (hm:=u) (hi:=by rw[aX];omega) (hs:=bh));rintro _ _ ⟨rfl,d⟩;refine⟨aj bE, ?_⟩;rw[bC] at d;co_applyP(zo);change _=_/\kn _ _/\_=_/\ ∃J,_;obtain⟨C,A,l⟩:=j bl {x.next with r:=put x.r (a%8).toNat ((x.r (a%8).toNat+x.r (bb%8).toNat)%65536)} (by rw[e];rfl);exact⟨rfl,rfl,l,_,by rw[C,A];exact P _ d (cS x.next _ E _) rfl rfl rfl rfl (by show x.at_+1<=65536;omega) rfl⟩
 intro c3;co_applyP aA (by rfl:kn _ [(13, .int .i64 m),(12, .int .u16 (x.r (bb%8).toNat)),(11, .int .i64 (a%8)),(10, .int .i64 (bb+256*c)),(7, .int .i64 a),(110, .int .i64 op),(1,ptr (B.p b)),(0,ptr R)]);co_applyP(av);co_applyP aI rfl;intro c4
 ·have e:op=4:=by simpa using c4
  co_applyP aM [] 15 (nf:=0) mixed;co_applyP(aH);co_applyP aF;intro hnd;co_applyP te (i:=15) rfl (bX (hnd:=hnd) (hm:=u) (hi:=by rw[aX];omega) (hs:=bh));rintro _ _ ⟨rfl,d⟩;refine⟨aj bE, ?_⟩;rw[bC] at d;co_applyP(zo);change _=_/\kn _ _/\_=_/\ ∃J,_;obtain⟨C,A,l⟩:=j bl {x.next with r:=put x.r (a%8).toNat ((x.r (a%8).toNat-x.r (bb%8).toNat)%65536)} (by rw[e];rfl);exact⟨rfl,rfl,l,_,by rw[C,A];exact P _ d (cS x.next _ E _) rfl rfl rfl rfl (by show x.at_+1<=65536;omega) rfl⟩
 intro c4;co_applyP aA (by rfl:kn _ [(13, .int .i64 m),(12, .int .u16 (x.r (bb%8).toNat)),(11, .int .i64 (a%8)),(10, .int .i64 (bb+256*c)),(7, .int .i64 a),(110, .int .i64 op),(1,ptr (B.p b)),(0,ptr R)]);co_applyP(av);co_applyP aI rfl;intro c5;co_applyP(aP);change Kw ..
 ·have e:op=5:=by simpa using c5
  co_applyP aI rfl;intro hj;co_applyP(aC)
  ·have a':x.r (a%8).toNat=0:=by simpa using hj
   co_applyP osm rfl (hs:=bJ) (hm:=u) (hi:=by rw[aX];omega);intro L3 d;co_applyP(zo);change _=_/\kn _ _/\_=_/\ ∃J,_;obtain⟨C,A,l⟩:=j bl {x.next with at_:=(bb+256*c).toNat} (by rw[e];unfold PS.do;simp[Q,a',PS.next]);exact⟨rfl,rfl,l,_,by rw[C,A];exact P _ d (by rw[<-Int.toNat_of_nonneg (show 0<=bb+256*c by omega)];rfl) rfl rfl rfl rfl (by show (bb+256*c).toNat<=65536;omega) rfl⟩
  intro hj;co_applyP(zo);change _=_/\kn _ _/\_=_/\ ∃J,_;have a': ¬x.r (a%8).toNat=0:=by simpa using hj
  obtain⟨C,A,l⟩:=j bl x.next (by rw[e];unfold PS.do;simp[a',PS.next])
  exact⟨rfl,rfl,l,_,by rw[C,A];exact O⟩
 intro c5;co_applyP aA (by rfl:kn _ [(13, .int .i64 m),(12, .int .u16 (x.r (bb%8).toNat)),(11, .int .i64 (a%8)),(10, .int .i64 (bb+256*c)),(7, .int .i64 a),(110, .int .i64 op),(1,ptr (B.p b)),(0,ptr R)]);co_applyP(av);co_applyP aI rfl;intro c6;co_applyP(aC)
 ·have e:op=6:=by simpa using c6
  co_applyP osm rfl (hs:=bJ) (hm:=u) (hi:=by rw[aX];omega);intro L3 d;co_applyP(zo);change _=_/\kn _ _/\_=_/\ ∃J,_;obtain⟨C,A,l⟩:=j bl {x.next with at_:=(bb+256*c).toNat} (by rw[e];unfold PS.do;simp[Q,PS.next]);exact⟨rfl,rfl,l,_,by rw[C,A];exact P _ d (by rw[<-Int.toNat_of_nonneg (show 0<=bb+256*c by omega)];rfl) rfl rfl rfl rfl (by show (bb+256*c).toNat<=65536;omega) rfl⟩
 intro c6;co_applyP aA (by rfl:kn _ [(13, .int .i64 m),(12, .int .u16 (x.r (bb%8).toNat)),(11, .int .i64 (a%8)),(10, .int .i64 (bb+256*c)),(7, .int .i64 a),(110, .int .i64 op),(1,ptr (B.p b)),(0,ptr R)]);co_applyP(av);change Kw ..;have hm0:0<=m:=bl
 co_applyP aI rfl;intro c7
 ·have e:op=7:=by simpa using c7
  have b':m<64:=by rw[e] at z;simp[Lz] at z;omega
  have hmm:At L1 (B.p b) (15+m.toNat) (.int .u8 (x.m m.toNat)):=ea (zV x.next _ bl);have hmb:0<=x.m m.toNat/\x.m m.toNat<256:=K.m m.toNat bl;co_applyP aM [] 13 (nf:=0) mixed;co_applyP(bQ);co_applyP aF;intro hnd;co_applyP te (i:=13) rfl (bX (hnd:=hnd) (hm:=u) (hi:=by rw[aX];omega) (hs:=bh));rintro _ _ ⟨rfl,d⟩;refine⟨aj bE, ?_⟩;rw[bC,show x.m m.toNat%65536=x.m m.toNat by omega] at d;co_applyP(zo);change _=_/\kn _ _/\_=_/\ ∃J,_;obtain⟨C,A,l⟩:=j bl {x.next with r:=put x.r (a%8).toNat (x.m m.toNat)} (by rw[e];unfold PS.do;simp[hm,b',PS.next]);exact⟨rfl,rfl,l,_,by rw[C,A];exact P _ d (cS x.next _ E _) rfl rfl rfl rfl (by show x.at_+1<=65536;omega) rfl⟩
 intro c7;co_applyP aA (by rfl:kn _ [(13, .int .i64 m),(12, .int .u16 (x.r (bb%8).toNat)),(11, .int .i64 (a%8)),(10, .int .i64 (bb+256*c)),(7, .int .i64 a),(110, .int .i64 op),(1,ptr (B.p b)),(0,ptr R)]);co_applyP(av);co_applyP aI rfl;intro c8
 ·have e:op=8:=by simpa using c8
  have b':m<64:=by rw[e] at z;simp[Lz] at z;omega
  co_applyP aM [] 13 (nf:=0) mixed;co_applyP(bQ);co_applyP aF;intro hnd;co_applyP te (i:=13) rfl (bX (hnd:=hnd) (hm:=u) (hi:=by rw[aX];omega) (hs:=cP));rintro _ _ ⟨rfl,d⟩;refine⟨aj bE, ?_⟩;rw[kU] at d;co_applyP(zo);change _=_/\kn _ _/\_=_/\ ∃J,_;obtain⟨C,A,l⟩:=j bl {x.next with m:=put x.m m.toNat (x.r (a%8).toNat%256)} (by rw[e];unfold PS.do;simp[hm,b',PS.next]);exact⟨rfl,rfl,l,_,by rw[C,A];exact P _ d (zW x.next _ bl _) rfl rfl rfl rfl (by show x.at_+1<=65536;omega) rfl⟩
 intro c8;co_applyP aA (by rfl:kn _ [(13, .int .i64 m),(12, .int .u16 (x.r (bb%8).toNat)),(11, .int .i64 (a%8)),(10, .int .i64 (bb+256*c)),(7, .int .i64 a),(110, .int .i64 op),(1,ptr (B.p b)),(0,ptr R)]);co_applyP(av);change Kw ..;have X': ¬op=1:=by simpa using c1
 have h2': ¬op=2:=by simpa using c2
 have Z': ¬op=3:=by simpa using c3
 have h4': ¬op=4:=by simpa using c4
 have h5': ¬op=5:=by simpa using c5
 have h6': ¬op=6:=by simpa using c6
 have h7': ¬op=7:=by simpa using c7
 have h8': ¬op=8:=by simpa using c8
 have m':op=9:=by simp[Lz] at z;omega
 rw[show (op==9)=true by simp[m']];co_applyP(au);have y':MI (λ_=>False) (λb=>b) (T.ID b x.next):=W.Jq hb U rfl rfl ⟨K.r,K.m⟩ (W.i.fl (b,x) hb) rfl rfl (W.x.un (b,x) hb);have U':B1.p b=B.p b:=by rw[<-t']
 rw[<-U'];co_applyP oc rfl rfl rfl (g2 R B1 _ X L1 b x.next a hN G y' N g' c' D d' hw j' A' R');rintro _ _ _ ⟨rfl,rfl,B4,O'⟩;co_applyP(aR);change∃v,Ko .. =some v/\_;obtain⟨C,A,l⟩:=i' m';exact⟨_,rfl,rfl,by rw[l],B4,by rw[C,A];exact O.trans O'⟩;rintro _ ε9 L9 ⟨rfl,F',J',B9,T'⟩;co_applyP aA F';co_applyP(av);exact xI _ ⟨rfl,rfl,by rw[J'],B9,T'⟩
end Go.Proofs.YtejkelcaljmnoaaGreatDoor
