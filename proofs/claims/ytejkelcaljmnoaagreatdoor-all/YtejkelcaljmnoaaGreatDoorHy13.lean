/- Part 13 of the proof. -/
import Derived.Test.YtejkelcaljmnoaaGreatDoorHy12
import Derived.Laws.IdiomArrays
set_option maxRecDepth 100000
set_option maxHeartbeats 4000000
set_option linter.all false
namespace Go.Proofs.YtejkelcaljmnoaaGreatDoor
open Go.Conc Go.Hx Go.Lo Go.Proofs.Tryz
attribute [local irreducible] EY KO K6 Kw Kc Ku Kd Program.underlying
theorem pM:zeroAt prog 105=some (.pointer none):=bD
theorem uJ:KJ prog 105=some 8:=bD
theorem rZ (W:Wo)(a:Sl)(H:Nat)(g:Hd):(NL W).setIfInBounds 1 (Kj a 1 (W.hs.length+1))=NL {W with ah:=a,hs:=W.hs++[(H,g)]}:=by unfold NL;simp
theorem HS.any.blk {h:HS}{e:TypeId}{sz:Nat}{L:Ka}(hh:h.any e sz L){b:Nat}(hb:h.b=some b): ∃cs,(b,true,Obj.cells cs e)∈L:=by
 unfold HS.any at hh;rw[hb] at hh;obtain⟨cs,a,_⟩:=hh;exact⟨cs,a⟩
theorem Hd.le.mono {h:Hd}{j k:Nat}(hl:h.le j)(a:j<=k):h.le k:=⟨l6 hl.1 (Nat.add_le_add_left a _),l6 hl.2.1 (Nat.add_le_add_left a _),l6 hl.2.2 (Nat.add_le_add_left a _)⟩
theorem pO: ∃n,∀{σ}{F:Kn σ}{Δ:DM F}{I s}(Y:Ka)(ow:Nat->Cl)(W:Wo)(L:Ka)(H:Nat)(h:Hd),(∀s o,(Δ s).New o)->WI Y ow W L->(H,true,Obj.cells (hcs h) 143)∈L->ow H=(0,0)-> ¬W.own H->h.bs.any 5 1 L->h.es.any 51 4 L->h.ps.any 49 15 L->(∀c,h.bs.b=some c\/h.es.b=some c\/h.ps.b=some c->ow c=(4,W.hs.length+1))->h.le 0->W.hs.length<=10000000000000->
 Kb Δ prog I 72 [ptr W.w,ptr H].toArray n s L (λs' v L'=>s=s'/\v= .tuple #[]/\ ∃r k,WI Y r k L'/\k.w=W.w/\k.ps=W.ps/\k.hs.length=W.hs.length+4/\Tu (λc=>c=(0,0)\/c=(4,W.hs.length+1)) ow L r L'):=by
 obtain⟨n1,g1⟩:=C3 140737488351243;obtain⟨n2,g2⟩:=Ay;constructor;intro σ F Δ I s Y ow W L H h U B hH m' u' q' n' r' f' hl y';obtain⟨l',cap,hv,_⟩:=dm B.ha (n:=W.hs.length) bE;have N: ∀{L':Ka},(W.w,true,Obj.cells (NL W) 71)∈L'->At L' W.w 1 (.slice l' W.hs.length cap):=λhm=>⟨true,_,_,_,hm,by rw[<-hv];rfl⟩;have E:=N B.w;have e1:IntKind.i64.wrap ((W.hs.length:Int)+1)=((W.hs.length+1:Nat):Int):=ag
 co_applyP ar 44 func72 ntmps72;co_applyP(aP);rw[e1];co_applyP osm rfl (hs:=bJ) (hm:=hH) (hi:=by show 3<4;decide);intro L1 f;have c':(H,true,Obj.cells (hcs ⟨h.bs,h.es,h.ps,W.hs.length+1⟩) 143)∈L1:=f.self;have C: ∀e,143≠e->Lg L (· =H) e:=λe he=>Lg.one B.fn hH he;have X:Tu (· =(0,0)) ow L ow L1:=f.ch.tu B.fn λb hb=>by
  obtain rfl:b=H:=hb;exact⟨m',_,_,hH,bx⟩
 have y:WI Y ow W L1:=B.mv X (λb o hb hm=>f.ne _ hm λe=>u' (by have e':b=H:=e;rw[<-e'];exact .inl hb)) B.o (λx u=>(B.hi x u).tu X bE) rfl (λx u=>f.ch.keep (C _ bx) (B.pb x u)) (λj x u=>(B.pi j x u).tu X bE bE);have P:=q'.chT f.ch (C _ bx);have Q:=n'.chT f.ch (C _ bx);have O:=r'.chT f.ch (C _ bx);co_applyP(ax);co_applyP oc rfl rfl rfl (g1 L1 H ⟨h.bs,h.es,h.ps,W.hs.length+1⟩ f.fn c' P Q O (l6 hl.1 bx) (l6 hl.2.1 bx) (l6 hl.2.2 bx) bx (by show W.hs.length+1<_;omega));rintro _ _ _ ⟨rfl,rfl,hC,o1,o2,o3⟩;rename_i L2;have T2:Tu (· =(4,W.hs.length+1)) ow L1 ow L2:=hC.tu f.fn λb hb=>⟨f' b hb,by
  rcases hb with hb|hb|hb
  ·exact let ⟨cs,E⟩:=P.blk hb;⟨cs,5,E,bx⟩
  ·exact let ⟨cs,E⟩:=Q.blk hb;⟨cs,51,E,bx⟩
  ·exact let ⟨cs,E⟩:=O.blk hb;⟨cs,49,E,bx⟩⟩
 have D:WI Y ow W L2:=y.tu0 T2 bE (λm hm e=>by simp at e;omega) λj hj=>⟨bE,bE⟩;have p':=hC.keep (Lg.or (P.no f.fn bx) (Lg.or (Q.no f.fn bx) (O.no f.fn bx))) c';have t':NJ ow ⟨h.bs,h.es,h.ps,W.hs.length+1⟩ L2:=⟨o1,o2,o3,f'⟩;have h2:=N D.w;co_applyP(aO);co_applyP bB rfl (kl (U _ _) (hu:=U69) (hs:=lH) (hz:=pM));intro nb L3 d;have A:=D.ha.mono λc hc o ho=>d.sub _ ho;co_applyP oeN rfl (λhnd=>fh (a:=W.ah) (n:=W.hs.length) (xs:=W.hs.map λh=>ptr h.1) (v:=ptr H) (hx:=by rw[hv];rfl) (hnd:=hnd) (hu:=U69) (hs:=lH) (hb:=uJ) (hz:=pM) (hzs:=rfl) (hN:=λcs=>U _ _) (ha:=A) (hn:=bE) (hm:=d.self) (hpl:=rfl) (h8:=bl));rintro _ L4 ⟨a',rfl,T⟩;have M:(W.w,true,Obj.cells (NL W) 71)∈L4:=T.ch.keep (Lg.sl d.fn A bx) (d.sub _ D.w);co_applyP(ay);co_applyP osm rfl (hs:=Dt) (hm:=M) (hi:=by show 1<2;decide) (hp:=bj _ _ _);intro L5 z;rw[rZ W a' H ⟨h.bs,h.es,h.ps,W.hs.length+1⟩] at z;obtain⟨J,S,T3⟩:=D.push ⟨d.fn,d.sub⟩ T z p' m' t' (cD _) (hl.mono bx);co_applyP(bm);co_applyP aU (λj s' Z L'=>s=s'/\ ∃(i:Nat) (r:Nat->Cl) (k:Wo) (G:Nat) (g:Hd),j+i=3/\WI Y r k L'/\k.w=W.w/\k.ps=W.ps/\k.hs.length=W.hs.length+1+i/\(G,g)∈k.hs/\g.m=W.hs.length+1/\g.le i/\Top k g/\Tu (λc=>c=(0,0)\/c=(4,W.hs.length+1)) ow L r L'/\kn Z [(5, .int .i64 (i:Nat)),(4,ptr G),(0,ptr W.w)]) 3
 ·refine⟨rfl,0,J,_,H,⟨h.bs,h.es,h.ps,W.hs.length+1⟩,rfl,S,rfl,rfl,bE,bE,rfl,hl, ?_,((X.trans T2).trans T3).mono (λc hc=>hc.elim id .inl),rfl⟩;intro x u hm;rcases cE.1 u with u|u
  ·have:=(B.hm x u).1;rw[hm] at this;have:W.hs.length+1<=W.hs.length:=this;omega
  ·obtain rfl:=wx.1 u;exact⟨λ_=>cD _,λ_=>cD _,λ_=>cD _⟩
 clear E h2 N;rintro j s' Z L' ⟨rfl,i,r,k,G,g,hj,l,ew,ep,el,hG,K,b',ht,T',he⟩;co_applyP aA he;co_applyP(au);co_applyP aI rfl;intro hc
 ·have j':i<3:=by simp at hc;omega
  have V:=l.hi _ hG;have e2:IntKind.i64.wrap ((i:Int)+1)=((i+1:Nat):Int):=ag
  obtain⟨R,h',d',_⟩:=dm l.ha (n:=k.hs.length) bE;co_applyP(au);co_applyP oc rfl rfl rfl (g2 L' G g U l.fn (l.hb _ hG) V.b V.e V.p (b'.mono bl) bl);rintro _ _ _ ⟨rfl,G',g',rfl,q⟩;rename_i L2;obtain⟨x',y,v',w',X⟩:=l.grow hG ht q;have E:At L2 W.w 1 (.slice R k.hs.length h'):=⟨true,_,_,_,ew▸y.w,by rw[<-d'];rfl⟩;co_applyP(bm);co_applyP bB rfl (kl (U _ _) (hu:=U69) (hs:=lH) (hz:=pM));intro nb L3 d;have A:=y.ha.mono λc hc o ho=>d.sub _ ho;co_applyP oeN rfl (λhnd=>fh (a:=k.ah) (n:=k.hs.length) (xs:=k.hs.map λh=>ptr h.1) (v:=ptr G') (hx:=by rw[d'];rfl) (hnd:=hnd) (hu:=U69) (hs:=lH) (hb:=uJ) (hz:=pM) (hzs:=rfl) (hN:=λcs=>U _ _) (ha:=A) (hn:=bE) (hm:=d.self) (hpl:=rfl) (h8:=bl));rintro _ L4 ⟨a',rfl,T⟩;have M:(W.w,true,Obj.cells (NL k) 71)∈L4:=T.ch.keep (Lg.sl d.fn A bx) (d.sub _ (ew▸y.w));co_applyP(ay);co_applyP osm rfl (hs:=Dt) (hm:=M) (hi:=by show 1<2;decide) (hp:=bj _ _ _);intro L5 z;rw[rZ k a' G' g'] at z;have i':g'.le (i+1):=by
   obtain⟨x1,x2,x3⟩:=b';have y1:=q.b.n;have y2:=q.e.n;have y3:=q.p.n;exact⟨bl,bl,bl⟩
  obtain⟨J,S,T3⟩:=y.push (g:=g') ⟨d.fn,d.sub⟩ T (by rw[ew];exact z) q.g w' v' (by rw[q.m,K];omega) (i'.mono bl);co_applyP(aC);change∃k',k'<_/\_;rw[e2];refine⟨j-1,bl,rfl,i+1,J,_,G',g',bl,S,ew,ep, ?_, ?_, ?_,i',ht.next l q,((T'.trans X).trans T3).mono ?_,rfl⟩
  ·simp;omega
  ·simp
  ·rw[q.m,K]
  ·rintro c ((h|h)|h)
   ·exact h
   ·exact .inr (by rw[h,K])
   ·exact .inl h
 intro hc;co_applyP(zo);change∃v,Ko .. =some v/\_;have j':i=3:=by simp at hc;omega
 subst j';exact⟨_,rfl,rfl,rfl,r,k,l,ew,ep,bl,T'⟩
theorem C6 (k:Nat): ∃n,∀{B}{F:Kn B}{z:DM F}{a s}(A:Ka)(ow:Nat->Cl)(W:Wo)(L:Ka),WI A ow W L->W.hs.length<=k->W.hs.length<=10000000000000->
 Kb z prog a 28 [ptr W.w].toArray n s L (λs' v L'=>s=s'/\v= .bool true/\L=L'):=by
 obtain⟨Q,K⟩:=Aw 140737488351243;constructor;intro B F z a s A ow W L l O H;obtain⟨m,cap,G,u⟩:=dm l.ha (n:=W.hs.length) bE;have R:At L W.w 1 (.slice m W.hs.length cap):=⟨true,_,_,_,l.w,by rw[<-G];rfl⟩;co_applyP ar 24 func28 ntmps28;co_applyP(aO);co_applyP aU (λj s' g L'=>s=s'/\L=L'/\ ∃i:Nat,j+i=k/\i<=W.hs.length/\kn g [(3, .int .i64 (i:Nat)),(0,ptr W.w)]) k
 ·exact⟨rfl,rfl,0,rfl,hX _,rfl⟩
 rintro j s' g L' ⟨rfl,rfl,i,P,N,he⟩;co_applyP aA he;co_applyP(aP);co_applyP aI rfl;intro hc
 ·have D:i<W.hs.length:=by simp at hc;omega
  obtain⟨x,y⟩: ∃x,W.hs[i]? =some x:=⟨_,sy D⟩;have d:=l5 y;have f:=l.hi x d;obtain⟨C,o,I,E⟩:=l.hm x d;obtain⟨b,hb,r,M⟩:=u i (ptr x.1) (by simp[y]);subst r;have J:IntKind.i64.wrap ((i:Int)+1)=((i+1:Nat):Int):=ag
  co_applyP(bf);co_applyP oc rfl rfl rfl (K L x.1 x.2 (l.hb x d) f.b f.e f.p o bl bl bx bl);rintro _ _ _ ⟨rfl,rfl,rfl⟩;co_applyP(bQ);change∃k',k'<_/\_;rw[J];exact⟨j-1,bl,rfl,rfl,i+1,bl,bl,rfl⟩
 intro hc;co_applyP(au);exact xI _ ⟨rfl,rfl,rfl,rfl⟩
theorem jP {b:Type}{l:List b}{j:Nat}{x y:b}(h:y∈l.set j x):y=x\/ ∃i,i≠j/\l[i]? =some y:=by
 obtain⟨i,a⟩:=mx h;rw[OK] at a
 split at a
 ·split at a
  ·exact .inl (gu a).symm
  ·cases a
 ·exact .inr ⟨i,λe=>bl,a⟩
theorem pP {a:Type}{l:List a}{j i:Nat}{x y:a}(h:(l.set j x)[i]? =some y):(i=j/\y=x)\/(i≠j/\l[i]? =some y):=by
 rw[OK] at h
 split at h
 ·split at h
  ·exact .inl ⟨bl,(gu h).symm⟩
  ·cases h
 ·exact .inr ⟨λe=>bl,h⟩
theorem jQ {a b:Type}(f:a->b){l:List a}{j:Nat}{x y:a}(h:l[j]? =some y)(e:f x=f y):(l.set j x).map f=l.map f:=by
 rw[List.map_set,e];apply xt;intro i;rw[OK]
 split
 ·subst_vars
  simp[h];exact(mo.1 h).1
 ·rfl
section
variable {C C':Cl->Prop}{ow ow1 ow':Nat->Cl}{L L1 L2 L3 L' B0:Ka}{W:Wo}{j:Nat}{x:Pl}
theorem Tu.new (T:Tu C ow L ow' L')(d:Nat->Prop)(hn: ∀b,d b-> ∀t∈L,t.1≠b) (c:Cl): ∃a,Tu C ow L a L'/\(∀b,d b->a b=c)/\ ∀b,¬d b->a b=ow' b:=by
 classical
 refine⟨λb=>if d b then c else ow' b,⟨T.fn,λt i j=>⟨(T.s t i j).1, ?_⟩,T.g,T.f⟩,λb hb=>if_pos hb,λb hb=>if_neg hb⟩;exact(if_neg λe=>hn _ e t i rfl).trans (T.s t i j).2
theorem WI.add (h:WI B0 ow W L)(e:Ext L L')(a:Nat->Prop)(hn: ∀b,a b-> ∀t∈L,t.1≠b) (c:Cl): ∃ow',WI B0 ow' W L'/\Tu (λ_=>False) ow L ow' L'/\ ∀b,a b->ow' b=c:=by
 obtain⟨ow',T,d,_⟩:=(Tu.ext (ow:=ow) e).new a hn c;exact⟨ow',h.tu0 T id (λ_ _=>id) λ_ _=>⟨id,id⟩,T,d⟩
theorem WI.ker (h:WI B0 ow W L)(hx:W.ps[j]? =some x){n:Kq}{S' T':St}{G:Ka}(F: ∀t,t∈G↔t∈L/\ ¬Own x.K x.A x.S t.1) (m:Ke x.K n S' G L') (hab:Ab S' T') (d:Nat->Prop) (hn: ∀b,d b-> ∀t∈L,t.1≠b) (ho: ∀b,d b-> ¬Own x.K n S' b) (c:Cl): ∃ow',WI B0 ow' {W with ps:=W.ps.set j {x with A:=n,S:=S',T:=T'}} L'/\Tu (· =(2,j)) ow L ow' L'/\ ∀b,d b->ow' b=c:=by
 have a:=h.pi j x hx;obtain⟨D,B,o⟩:=Tu.of (ow:=ow) (C:=(· =(2,j))) m.fn (Ke.foot F m) a.ok a.k.ownt (2,j);obtain⟨ow',T,E,p⟩:=B.new d hn c;refine⟨ow',h.tu T bE bE (jQ _ hx rfl) (λy g=> ?_) (λi y g=> ?_),T,E⟩
 ·rcases jP g with rfl|⟨i,_,f⟩
  ·exact⟨x,l5 hx,rfl,rfl⟩
  ·exact⟨y,l5 f,rfl,rfl⟩
 ·rcases pP g with ⟨rfl,rfl⟩|⟨l,f⟩
  ·obtain⟨s,z⟩:=a.r.tu T a.or bE;exact⟨m.less λt u=>(by cases u),hab,s,λb hb=>by rw[p b λe=>ho b e hb];exact o b (.inl hb),z⟩
  ·exact(h.pi i y f).tu T (by simp[l]) bE
theorem WI.ref (h:WI B0 ow W L)(hx:W.ps[j]? =some x){m:RB}{l:St}{o:RX}(n:Ref x.R m l o L')(f:K1 (Kv x.R x.B x.U) (Kv x.R m l) L L'): ∃ow',WI B0 ow' {W with ps:=W.ps.set j {x with B:=m,U:=l,X:=o}} L'/\Tu (· =(3,j)) ow L ow' L':=by
 have a:=h.pi j x hx;obtain⟨ow',T,s⟩:=Tu.of (ow:=ow) (C:=(· =(3,j))) n.r.fn f a.or a.r.r.ownt (3,j);refine⟨ow',h.tu T bE bE (jQ _ hx rfl) (λy g=> ?_) (λi y g=> ?_),T⟩
 ·rcases jP g with rfl|⟨i,_,d⟩
  ·exact⟨x,l5 hx,rfl,rfl⟩
  ·exact⟨y,l5 d,rfl,rfl⟩
 ·rcases pP g with ⟨rfl,rfl⟩|⟨e,d⟩
  ·obtain⟨p,u⟩:=a.k.tu T a.ok bE;exact⟨p,a.ab,n,u,λb hb=>s b (.inl hb)⟩
  ·exact(h.pi i y d).tu T bE (by simp[e])
theorem WI.tick (h:WI B0 ow W L)(hx:W.ps[j]? =some x){t':Nat}(u:K4 L x.b (.cells (plc {x with t:=t'}) 145) L'):WI B0 ow {W with ps:=W.ps.set j {x with t:=t'}} L'/\Tu (· =(0,0)) ow L ow L':=by
 have d:=l5 hx;have no: ∀e,145≠e->Lg L (· =x.b) e:=λe he=>Lg.one h.fn (h.pb x d) he;have T:Tu (· =(0,0)) ow L ow L':=u.ch.tu h.fn λb hb=>by
  obtain rfl:b=x.b:=hb;exact⟨h.o _ (.inr ⟨x,d,rfl⟩),_,_,h.pb x d,bx⟩
 refine⟨h.mv T (λb o hb hm=>u.ne _ hm λe=> ?_) h.o (λy f=>(h.hi y f).tu T bE) (jQ _ hx rfl) (λy f=> ?_) (λi y f=> ?_),T⟩
 ·have n:b=x.b:=e;subst n;have a:=h.pb x d;rcases hb with hb|hb|hb|⟨y,f,hb⟩
  ·exact absurd (cY h.fn a (hb▸h.w)) bx
  ·exact absurd (cY h.fn a (h.pa.mem hb)) bx
  ·exact absurd (cY h.fn a (h.ha.mem hb)) bx
  ·exact absurd (cY h.fn a (hb▸h.hb y f)) bx
 ·rcases jP f with rfl|⟨i,m,g⟩
  ·exact u.self
  ·refine u.ne _ (h.pb y (l5 g)) λe=>m ?_;have n:y.b=x.b:=e;have s:=(mo.1 g).1;exact(List.getElem?_inj (l:=W.ps.map (·.b)) (by simpa using s) h.nd).1 (by simp[g,hx,n])
 ·rcases pP f with ⟨rfl,rfl⟩|⟨p,m⟩
  ·have:=(h.pi _ x hx).tu T bE bE;exact⟨this.k,this.ab,this.r,this.ok,this.or⟩
  ·exact(h.pi i y m).tu T bE bE
theorem WI.pushP (h:WI B0 ow W L)(hx:Ext L L1){r:Sl}(p:MM L1 102 W.ap ((W.ps.map λx=>ptr x.b)++[ptr x.b]) r L2)(u:K4 L2 W.w (.cells (NL {W with ap:=r,ps:=W.ps++[x]}) 71) L3)(hb:(x.b,true,Obj.cells (plc x) 145)∈L)(F:ow x.b=(0,0))(G: ¬W.own x.b)(hp:NU ow W.ps.length x L): ∃ow',WI B0 ow' {W with ap:=r,ps:=W.ps++[x]} L3/\Tu (· =(0,0)) ow L ow' L3:=by
 have H:K1 (λb=>W.ap.b=some b\/b=W.w) (λb=>r.b=some b\/b=W.w) L L3:=⟨λt k n=>u.ne t (p.sub t (hx.s t k) λe=>n (.inl e)) λe=>n (.inr e),λb hb=>by
  rcases hb with hb|hb
  ·exact(p.d b hb).imp .inl λn t k=>n t (hx.s t k)
  ·exact .inl (.inr hb)⟩
 have l: ∀b,W.ap.b=some b\/b=W.w->W.own b:=λb hb=> .inl (hb.elim (λe=> .inr (.inl e)) .inl);obtain⟨ow',T,j⟩:=Tu.of (ow:=ow) (C:=(· =(0,0))) u.fn H (λb hb=>h.o b (l b hb)) (λt k hb=>h.blkt t k (l _ hb)) (0,0);have m: ∀e,102≠e->71≠e-> ∀b cs,(b,true,Obj.cells cs e)∈L->(b,true,Obj.cells cs e)∈L3:=λe E D b cs hm=>H.s _ hm λhb=>by
  rcases hb with hb|hb
  ·exact E (cY h.fn (h.pa.mem hb) hm)
  ·exact D (cY h.fn (hb▸h.w) hm)
 refine⟨ow', ?_,T⟩
 exact{
  fn:=u.fn
  w:=u.self
  ha:=h.ha.mono λb hb o j=>by
   have e:=(h.fn _ _ _ _ _ j (h.ha.mem hb)).2;rw[e] at j⊢;exact m 105 bx bx _ _ j
  pa:=by
   have E:=p.ok;have D:(W.w,true,Obj.cells (NL W) 71)∈L2:=p.sub _ (hx.s _ h.w) λe=>absurd (cY h.fn (h.pa.mem e) h.w) bx;rw[l3];exact u.ch.Jr (Lg.one p.fn D bx) E
  pb:=λy g=>by
   rcases cE.1 g with g|g
   ·exact m _ bx bx _ _ (h.pb y g)
   ·obtain rfl:y=x:=by simpa using g
    exact m _ bx bx _ _ hb
  hb:=λy g=>m _ bx bx _ _ (h.hb y g)
  pi:=λi y g=>by
   rw[List.getElem?_append] at g
   split at g
   ·exact(h.pi i y g).tu T bE bE
   ·rename_i J;obtain⟨rfl,rfl⟩:i=W.ps.length/\y=x:=by
     rcases hz:i-W.ps.length with _|z
     ·rw[hz] at g;exact⟨bl,by simpa using g.symm⟩
     ·rw[hz] at g;simp at g
    exact hp.tu T bE bE
  hi:=λy g=>(h.hi y g).tu T bE
  hm:=h.hm
  nd:=by
   rw[l3];refine ss.2 ⟨h.nd,bE,λa I b B e=> ?_⟩;obtain⟨y,g,rfl⟩:=cm.1 I;obtain rfl:b=x.b:=by simpa using B
   exact G (.inr ⟨y,g,e.symm⟩)
  b0:=λv A=>⟨T.f v (h.b0 v A).1 (h.b0 v A).2,(h.b0 v A).2⟩
  o:=λc hc=>by
   rcases hc with (hc|hc|hc|hc)|⟨y,g,rfl⟩
   ·exact j c (.inl (.inr hc))
   ·exact j c (.inl (.inl hc))
   ·exact j c (.inr (h.o c (.inl (.inr (.inr (.inl hc))))))
   ·exact j c (.inr (h.o c (.inl (.inr (.inr (.inr hc))))))
   ·rcases cE.1 g with g|g
    ·exact j _ (.inr (h.o _ (.inr ⟨y,g,rfl⟩)))
    ·obtain rfl:y=x:=by simpa using g
     exact j _ (.inr F)}
end
def HS.of (a:Sl)(sz n:Nat):HS:=⟨a.b,n,n+a.junk.length/sz⟩
theorem HS.J8 (a:Sl)(sz n:Nat):(HS.of a sz n).v=Kj a sz n:=rfl
theorem HS.JJ {a:Sl}{xs:List Value}{e:TypeId}{L:Ka}{sz n:Nat}(h:Kf a xs e L)(hn:xs.length=n*sz)(h0:0<sz):(HS.of a sz n).any e sz L:=by
 unfold HS.any HS.of;simp only;unfold Kf at h;cases hb:a.b with
 |none=>
  rw[hb] at h;simp only;rw[h.1] at hn;rcases Nat.eq_zero_or_pos n with d|d
  ·exact d
  ·have:=Nat.mul_pos d h0;simp at hn;omega
 |some b=>
  rw[hb] at h;refine⟨_,h, ?_,Ot _ _⟩;rw[l7,mb,hn,Nat.add_comm,Nat.add_mul_div_right _ _ h0,Nat.add_comm]
def inr (a:Int):Bool:=decide (0<=a/\a<=2000)
theorem jR {a:Int}(h:inr a=true):((a.toNat:Nat):Int)=a/\a.toNat<=2000:=by
 have:0<=a/\a<=2000:=by simpa [inr] using h
 omega
theorem AB {a:Int}(h: ¬inr a=true):a<0\/2000<a:=by
 simp[inr] at h;omega
theorem HT: ∃k,∀{Fin:Value->World->Prop}{W0:World}{O:Nat}(j:Nat)(s:List Nat)(K:Nat)(A:Kq)(S T:St)(G L:Ka)(eb:Nat->Nat×Nat)(a:Int),Ke K A S G L->KZ eb G->Ab S T->S.now<1152921504606846976->
 Kb (F:=FZ prog Fin) (λs=>Mq (K9 s.2) W0 O) prog true 19 [ptr K, .int .i64 a].toArray k (j+(if inr a then 1 else 0),s) L (λs' v L'=>s'.1=j/\ ∃(ae:Sl) (ws:List Wd) (p:Kq) (S':St),v= .tuple #[Kj ae 4 ws.length, .int .i64 (if inr a then 0 else 3)]/\ws.map Wd.v=(if inr a then St.evs a.toNat T else [])/\Kf ae (MD ws) 51 L'/\(∀g,ae.b=some g-> ∀t∈L,t.1≠g)/\Ab S' (if inr a then St.runs a.toNat T else T)/\Ke K p S' G L'):=by
 obtain⟨k1,D⟩:=Hs;obtain⟨H,z⟩:=Fp;refine⟨_,λ{Fin W0 O} j s K A S T G L eb a o B r C=>aG (inr a=true) (n₁:=k1) (n₂:=H) (λd=> ?_) (λd=> ?_)⟩
 ·obtain⟨E,I⟩:=jR d;simp only[d,if_true];have:=D (Fin:=Fin) (W:=W0) (O:=O) j s K A S T G L eb a.toNat o B r I C;rw[E] at this;refine aJ this ?_;rintro s' v L' ⟨N,told,p,S',rfl,rfl,n,m,x,i⟩;obtain⟨ws,e,_⟩:=jC a.toNat T;rw[e] at x;obtain⟨ae,rfl,y⟩:=rH x;exact⟨rfl,ae,ws,p,S',rfl,e.symm,y,λg l=>i g ws.length _ (by unfold Kj;rw[l]),n,m⟩
 ·simp only[d,if_false,pS];refine aJ (z L (some ⟨K,0,none⟩) a (λ_ _=>trivial) o.fn (AB d)) ?_;rintro s' v L' ⟨rfl,rfl,u⟩;exact⟨rfl,⟨none,[]⟩,[],A,S,rfl,rfl,⟨rfl,rfl⟩,λg l=>(by cases l),r,o.of u.f u.s⟩
theorem HU: ∃n,∀{j}{F:Kn j}{Δ:DM F}{main s}(R:Nat)(B:RB)(U:St)(X:RX)(L:Ka)(a:Int),(∀s o,(Δ s).New o)->Ref R B U X L->U.now<1152921504606846976->X.now<=8000->
 Kb Δ prog main 73 [ptr R, .int .i64 a].toArray n s L (λs' v L'=>s=s'/\ ∃(g:RB) (e:RX) (ae:Sl) (ws:List Wd),v= .tuple #[Kj ae 4 ws.length, .int .i64 (if inr a then 0 else 3)]/\ws.map Wd.v=(if inr a then St.evs a.toNat U else [])/\Kf ae (MD ws) 51 L'/\Ref R g (if inr a then St.runs a.toNat U else U) e L'/\K1 (Kv R B U) (Kv R g (if inr a then St.runs a.toNat U else U)) L L'/\e.now=X.now+(if inr a then a.toNat else 0)):=by
 obtain⟨k1,u⟩:=FP;obtain⟨z,l⟩:=FO;refine⟨_,λ{j F Δ main s} R B U X L a y i hu m=>aG (inr a=true) (n₁:=k1) (n₂:=z) (λb=> ?_) (λb=> ?_)⟩
 ·obtain⟨x,A⟩:=jR b;simp only[b,if_true];have:=u (Δ:=Δ) (main:=main) (s:=s) R B U X L a.toNat y i A hu m;rw[x] at this;refine aJ this ?_;rintro s' v L' ⟨rfl,g,e,rfl,d,k,hw,p⟩;exact⟨rfl,g,e,g.ae,e.ws,rfl,hw,d.r.ev,d,k.f,p⟩
 ·simp only[b,if_false,pS];refine aJ (l L R a (AB b)) ?_;rintro s' v L' ⟨rfl,rfl,rfl⟩;exact⟨rfl,B,X,⟨none,[]⟩,[],rfl,rfl,⟨rfl,rfl⟩,i,K1.refl _ _,rfl⟩
structure Oa (x:Pl):Prop where
 e:x.T=x.U
 n:x.T.now<=x.t
 xn:x.X.now=x.t
 t:x.t<=6000
def Mk (B0:Ka)(ow:Nat->Cl)(W:Wo)(L:Ka)(ts:List Nat)(L':Ka):Prop:= ∃ow' W',WI B0 ow' W' L'/\(∀y∈W'.ps,Oa y)/\W'.w=W.w/\W'.hs.length<=W.hs.length+4/\W'.ps.map (·.t)=ts/\ ∀t∈L,ow t.1=(1,0)->t∈L'/\ow' t.1=(1,0)
def runs? (t:Nat)(a:Int):Bool:=inr a&& !decide (0<a/\6000<(t:Int)+a)
def On (t:Nat)(a:Int):Nat:=if runs? t a then t+a.toNat else t
theorem FY (w:Wd)(x y:Operand):KF prog (eqGuard .eql 51 x y (.agg (Wd.c w).toArray) (.agg (Wd.c w).toArray)) []=some ((),[]):=bD
theorem C7 (base:Option Addr)(n cap:Nat):KF prog (Instr.build 143 [(1, .slice base n cap)].toArray) []=some (.agg #[.slice none 0 0, .slice base n cap, .slice none 0 0, .int .i64 0],[]):=bD
theorem oC {a:Sl}{ws:List Wd}{L:Ka}(h:Kf a (MD ws) 51 L){base:Option Addr}{cap:Nat}(hv:Kj a 4 ws.length= .slice base ws.length cap):WL L base ws:=by
 obtain⟨b,e,d,f⟩:=pr h;rw[hv] at d;cases d;exact f
theorem HV: ∃n,∀{g}{F:Kn g}{e:DM F}{d s}(f:Ka)(ow:Nat->Cl)(W:Wo)(L:Ka)(x:Pl)(a:Int),WI f ow W L->x∈W.ps->x.t<=6000->0<a->a<=2000->6000<(x.t:Int)+a->
 Kb e prog d 41 [ptr W.w,ptr x.b, .int .i64 a].toArray n s L (λs' v L'=>s=s'/\v= .bool true/\L=L'):=by
 constructor;intro g F e d s f ow W L x a l k p h0 j i;have o:At L x.b 2 (.int .i64 (x.t:Nat)):=⟨true,_,_,_,l.pb x k,rfl⟩;have m:IntKind.i64.wrap ((x.t:Int)+a)=(x.t:Int)+a:=ag
 co_applyP ar 91 func41 ntmps41;co_applyP(ax);co_applyP aK (n₂:=0);co_applyP aK;co_applyP ct ([(27, .bool true)]);co_applyP(av)
 ·skip
  rw[show decide (a>0)=true by simp[h0]];co_applyP(bm);rw[m,show decide ((x.t:Int)+a>6000)=true by simp[i]];co_applyP(av);change _=_/\_=_/\kn _ _;refine⟨rfl,rfl, ?_⟩;rw[show decide (a<=2000)=true by simp[j]];rfl
 co_applyP(au);exact xI _ ⟨rfl,rfl,rfl,rfl⟩
theorem r6: ∀{ws e:List Wd},ws.map Wd.v=e.map Wd.v->ws=e
 |[],[],_=>rfl
 |[],_::_,h=>by simp at h
 |_::_,[],h=>by simp at h
 |w::ws,(a,b,c,d)::e,h=>by
  simp only[ix,List.cons.injEq] at h;rw[r6 h.2,jO (w:=w) (a:=a) (b:=b) (c:=c) (d:=d) h.1.symm]
theorem KZ.of {eb:Nat->Nat×Nat}{b G L:Ka}{K:Nat}{A:Kq}{S:St}{F:Ka}(h:KZ eb b)(hb: ∀t∈b,t∈L/\t.2.1=false) (e:Ke K A S F L) (f: ∀t,t∈G↔t∈L/\ ¬Own K A S t.1):KZ eb G:=h.mono λt a=>(f t).2 ⟨(hb t a).1,λd=>by
 have:=(e.ownt t (hb t a).1 d).1;rw[(hb t a).2] at this;cases this⟩
theorem Tu.sl {C:Cl->Prop}{ow d:Nat->Cl}{L L':Ka}{a:Sl}{xs:List Value}{e:TypeId}{c:Cl}(T:Tu C ow L d L')(h:Kf a xs e L)(ho: ∀b,a.b=some b->ow b=c) (hc: ¬C c):Kf a xs e L'/\ ∀b,a.b=some b->d b=c:=
 ⟨h.mono λb hb o hm=>(T.s _ hm (by rw[ho b hb];exact hc)).1,λb hb=>by
  have:=(T.s _ (h.mem hb) (by rw[ho b hb];exact hc)).2;rw[<-ho b hb];exact this⟩
theorem HW: ∃n,∀{Fin:Value->World->Prop}{W0:World}{O:Nat}(nn:Nat)(s:List Nat)(B0:Ka)(eb:Nat->Nat×Nat)(ow:Nat->Cl)(W:Wo)(L:Ka)(j:Nat)(x:Pl)(a:Int),WI B0 ow W L->(∀y∈W.ps,Oa y)->KZ eb B0->W.ps[j]? =some x->N8 a-> ¬(0<a/\a<=2000/\6000<(x.t:Int)+a)->W.hs.length<=10000000000000->
 Kb (F:=FZ prog Fin) (λs=>Mq (K9 s.2) W0 O) prog true 41 [ptr W.w,ptr x.b, .int .i64 a].toArray n (nn+(if inr a then 1 else 0),s) L (λs' v L'=>s'.1=nn/\v= .bool true/\Mk B0 ow W L ((W.ps.map (·.t)).set j (if inr a then x.t+a.toNat else x.t)) L'):=by
 obtain⟨n1,gk⟩:=HT;obtain⟨n2,gr⟩:=HU;obtain⟨n3,gp⟩:=pO;constructor;intro Fin W0 O nn s B0 eb ow W L j x a hW c' C' hx hI l' O';obtain⟨R',Z'⟩:=hI;have hN: ∀(s:Nat×List Nat)(o:Obj),(Mq (K9 s.2) W0 O).New o:=λ_ _=>trivial;have j':=l5 hx;have e':=(mo.1 hx).1;have f:=c' x j';have hp:=hW.pi j x hx;obtain⟨G,H',hG⟩:=hp.k.full;have Z: ∀{L':Ka},(x.b,true,Obj.cells (plc x) 145)∈L'->At L' x.b 0 (ptr x.K)/\At L' x.b 1 (ptr x.R)/\At L' x.b 2 (.int .i64 (x.t:Nat)):=λhm=>⟨⟨true,_,_,_,hm,rfl⟩,⟨true,_,_,_,hm,rfl⟩,⟨true,_,_,_,hm,rfl⟩⟩;obtain⟨a0,a1,a2⟩:=Z (hW.pb x j');have h6:=f.t;co_applyP ar 91 func41 ntmps41;co_applyP(av);co_applyP aK;co_applyP ct ([(27, .bool false),(0,ptr W.w),(1,ptr x.b),(2, .int .i64 a)])
 ·skip
  co_applyP(av);by_cases h0:0<a
  ·rw[show decide (a>0)=true by simp[h0]];co_applyP(bm);by_cases h3:6000<IntKind.i64.wrap ((x.t:Int)+a)
   ·rw[show decide (IntKind.i64.wrap ((x.t:Int)+a)>6000)=true by simp[h3]];co_applyP(av);change _=_/\_=_/\kn _ _;refine⟨rfl,rfl, ?_⟩;have: ¬a<=2000:=λh=>l' ⟨h0,h,by
     have e1:IntKind.i64.wrap ((x.t:Int)+a)=(x.t:Int)+a:=ag
     omega⟩
    rw[show decide (a<=2000)=false by simp;omega];rfl
   ·rw[show decide (IntKind.i64.wrap ((x.t:Int)+a)>6000)=false by simp;omega];co_applyP(av);change _=_/\_=_/\kn _ _;exact⟨rfl,rfl,rfl⟩
  ·rw[show decide (a>0)=false by simp;omega];co_applyP(bQ);change _=_/\_=_/\kn _ _;exact⟨rfl,rfl,rfl⟩
 co_applyP(aO);co_applyP oc rfl rfl rfl (gk nn s x.K x.A x.S x.T G L eb a H' (C'.of hW.b0 hp.k hG) hp.ab (by rw[hp.ab.now];have:=f.n;omega));rintro _ _ _ ⟨I',ae,ws,A',S',rfl,K',i',h',Q',hR⟩;rename_i s1 L1;obtain⟨Y',a',T1,o1⟩:=hW.ker hx hG hR Q' (λb=>ae.b=some b) h' (λb hb=>hR.notown (i'.mem hb) bx) (4,W.hs.length+1);have Y:(W.ps.set j {x with A:=A',S:=S',T:=if inr a then St.runs a.toNat x.T else x.T})[j]? =some {x with A:=A',S:=S',T:=if inr a then St.runs a.toNat x.T else x.T}:=by simp[e']
 have E':=a'.pb _ (l5 Y);obtain⟨b0,b1,b2⟩:=Z (show (x.b,true,Obj.cells (plc x) 145)∈L1 from E');have D':=a'.pi j _ Y;co_applyP(bZ);co_applyP oc rfl rfl rfl (gr x.R x.B x.U x.X L1 a hN D'.r (by have:=f.n;rw[<-f.e];omega) (by have:=f.xn;have:=f.t;omega));rintro _ _ _ ⟨rfl,B',X',v',d,rfl,Q,E,w',M',M⟩;rename_i L2;obtain⟨f',u,T2⟩:=a'.ref Y w' M';obtain⟨I,o2⟩:=T2.sl i' o1 bE;have z':d=ws:=r6 (by rw[Q,K',f.e]);subst z';obtain⟨m,cap,hv,_⟩:=pr I;obtain⟨l,D,g',_⟩:=pr E;have U':d.length<=4000:=by
  have hl:=congrArg List.length Q;rw[ia] at hl;by_cases g:inr a=true
  ·rw[if_pos g] at hl;obtain⟨w3,h3,h4⟩:=jC a.toNat x.U;have:=(jR g).2;rw[h3,ia] at hl;omega
  ·rw[if_neg g] at hl;have W':d.length=0:=hl;omega
 rw[hv,g'];rw[List.set_set] at u;have d':(W.ps.set j {x with A:=A',S:=S',T:=if inr a then St.runs a.toNat x.T else x.T,B:=B',U:=if inr a then St.runs a.toNat x.U else x.U,X:=X'})[j]? =some {x with A:=A',S:=S',T:=if inr a then St.runs a.toNat x.T else x.T,B:=B',U:=if inr a then St.runs a.toNat x.U else x.U,X:=X'}:=by simp[e']
 have C:=u.pb _ (l5 d');replace C:(x.b,true,Obj.cells (plc x) 145)∈L2:=C;obtain⟨c0,c1,c2⟩:=Z C;have N:=T1.trans T2;co_applyP(aC);co_applyP bL (λn' P J=>s1=n'/\(∃p,WI B0 p {W with ps:=W.ps.set j {x with A:=A',S:=S',T:=if inr a then St.runs a.toNat x.T else x.T,B:=B',U:=if inr a then St.runs a.toNat x.U else x.U,X:=X',t:=if inr a then x.t+a.toNat else x.t}} J/\Tu (λc=>(c=(2,j)\/c=(3,j))\/c=(0,0)) ow L p J/\Kf ae (MD d) 51 J/\(∀b,ae.b=some b->p b=(4,W.hs.length+1))/\Kf v' (MD d) 51 J)/\kn P [(7, .slice m d.length cap),(8, .int .i64 (if inr a then 0 else 3)),(9, .slice l d.length D),(10, .int .i64 (if inr a then 0 else 3)),(0,ptr W.w)]);co_applyP(av);co_applyP aI rfl;intro hf
 ·have g:inr a=true:=by
   by_cases g:inr a=true
   ·exact g
   ·simp[g] at hf
  obtain⟨ea,hl⟩:=jR g;have e1:IntKind.i64.wrap ((x.t:Int)+a)=((x.t+a.toNat:Nat):Int):=ag
  co_applyP(aP);rw[e1];co_applyP osm rfl (hs:=bJ) (hm:=C) (hi:=by show 2<3;decide);intro L3 V;obtain⟨z,T3⟩:=u.tick d' (t':=x.t+a.toNat) V;rw[List.set_set] at z;have nt: ∀e,145≠e->Lg L2 (· =x.b) e:=λe he=>Lg.one u.fn C he;co_applyP(zo);change _=_/\(∃p,_)/\kn _ _;refine⟨rfl,⟨f', ?_,N.trans T3,V.ch.Jr (nt _ bx) I,o2,V.ch.Jr (nt _ bx) E⟩,rfl⟩;simp only[g,if_true] at z⊢;exact z
 intro hf;have g: ¬inr a=true:=λg=>by simp[g] at hf
 co_applyP(zo);change _=_/\(∃p,_)/\kn _ _;refine⟨rfl,⟨f', ?_,N.mono λc hc=> .inl hc,I,o2,E⟩,rfl⟩;simp only[g] at u⊢;exact u;rintro n' P L3 ⟨rfl,⟨p,z,T3,q',o3,p'⟩,he⟩;co_applyP aA he;have F':=oC q' hv;have x':=oC p' g';co_applyP(au);rw[show ((if inr a=true then 0 else 3:Int)==(if inr a=true then 0 else 3))=true from beq_self_eq_true _];co_applyP(bQ);rw[show ((d.length:Int)==(d.length:Int))=true from beq_self_eq_true _];co_applyP aU (λk s' b' L'=>s1=s'/\L3=L'/\ ∃i:Nat,k+i=4000/\i<=d.length/\kn b' [(12, .int .i64 (i:Nat)),(11, .bool true),(7, .slice m d.length cap),(9, .slice l d.length D),(0,ptr W.w)]) 4000
 ·exact⟨rfl,rfl,0,rfl,hX _,rfl⟩
 rintro k s' b' L' ⟨rfl,rfl,i,hk,T',he⟩;co_applyP aA he;co_applyP(zo);co_applyP aK;co_applyP ct ([(73, .bool (decide ((i:Int)<(d.length:Int)))),(12, .int .i64 (i:Nat)),(11, .bool true),(7, .slice m d.length cap),(9, .slice l d.length D),(0,ptr W.w)])
 ·skip
  co_applyP(aC);by_cases h:i<d.length
  ·rw[show decide ((i:Int)<(d.length:Int))=true by simp[h]];co_applyP(ax);change _=_/\_=_/\kn _ _;exact⟨rfl,rfl,rfl⟩
  ·rw[show decide ((i:Int)<(d.length:Int))=false by simp;omega];co_applyP(ax);change _=_/\_=_/\kn _ _;exact⟨rfl,rfl,rfl⟩
 co_applyP aI rfl;intro hc
 ·have g:i<d.length:=by simp at hc;omega
  obtain⟨w,hw⟩: ∃w,d[i]? =some w:=⟨_,sy g⟩;obtain⟨g1,V',rfl,m1,z1,x1⟩:=F' i w hw;obtain⟨g2,cs2,rfl,m2,z2,x2⟩:=x' i w hw;have e1:IntKind.i64.wrap ((i:Int)+1)=((i+1:Nat):Int):=ag
  co_applyP(aR);co_applyP tr 3 rfl (aW (i:=i*4) (ht:=xM) (hs:=iZ) (hm:=m1) (hi:=z1)) pI;co_applyP(ax);rw[x1];co_applyP tr 7 rfl (aW (i:=i*4) (ht:=xM) (hs:=iZ) (hm:=m2) (hi:=z2)) pI;rw[x2];co_applyP tr 8 rfl (uI (zS w) (FY w)) pI;co_applyP(aR);change∃k',k'<_/\_;rw[e1];exact⟨k-1,bl,rfl,rfl,i+1,bl,bl,rfl⟩
 intro hc;co_applyP(av);co_applyP oy rfl (aQ (C7 m d.length cap));co_applyP bB rfl (bA (hN _ _));intro H L4 hA;obtain⟨y',J',T4,o4⟩:=z.add ⟨hA.fn,hA.sub⟩ (· =H) (λb hb t ht=>by rw[show b=H from hb];exact hA.new t ht) (0,0);obtain⟨P',o5⟩:=T4.sl q' o3 id;have hH:(H,true,Obj.cells (hcs ⟨.nil,HS.of ae 4 d.length, .nil,0⟩) 143)∈L4:=by
  have:=hA.self;unfold hcs;rw[HS.J8,hv];exact this
 co_applyP oc rfl rfl rfl (gp B0 y' _ L4 H ⟨.nil,HS.of ae 4 d.length, .nil,0⟩ hN J' hH (o4 H rfl) (λho=>by obtain⟨_,_,hm,_⟩:=z.blk ho;exact hA.new _ hm rfl) rfl (HS.JJ P' (jD _) bx) rfl (λc hc=>hc.elim (λe=>(absurd (show (none:Option Nat)=some c from e) λh=>by cases h)) λhc=>hc.elim (o5 c) λe=>(absurd (show (none:Option Nat)=some c from e) λh=>by cases h)) ⟨hX _,by show d.length<=_;omega,hX _⟩ O');rintro _ _ _ ⟨rfl,rfl,G',W5,u',ew,ep,eh,T5⟩;co_applyP(aC);refine xI _ ⟨rfl,I',rfl,G',W5,u',λy hy=> ?_,ew,by rw[eh];exact cD _, ?_,λt ht ho=> ?_⟩
 ·rw[ep] at hy;rcases jP hy with rfl|⟨i,_,g⟩
  ·by_cases g:inr a=true
   ·obtain⟨ea,hl⟩:=jR g;simp only[g,if_true] at M⊢;refine⟨by rw[f.e],l6 (uy _ _) (Nat.add_le_add_right f.n _),by simp only;rw[M,f.xn], ?_⟩;show x.t+a.toNat<=6000;by_cases h0:0<a
    ·have: ¬6000<(x.t:Int)+a:=λh=>l' ⟨h0,bl,h⟩;omega
    ·have:=f.t;omega
   ·simp only[g] at M⊢;exact⟨f.e,f.n,by simp only;rw[M];exact f.xn,f.t⟩
  ·exact c' y (l5 g)
 ·rw[ep,List.map_set]
 ·have n1: ¬((ow t.1=(2,j)\/ow t.1=(3,j))\/ow t.1=(0,0)):=by rw[ho];simp
  obtain⟨h3,r'⟩:=T3.s t ht n1;obtain⟨h4,m'⟩:=T4.s t h3 id;obtain⟨h5,N'⟩:=T5.s t h4 (by rw[m',r',ho];simp);exact⟨h5,by rw[N',m',r',ho]⟩
section
variable {P:Program}{N:Nat}{ε:Env}{L:Ka}{d:Option Tmp}{ty:TypeId}{ps:String}{af:Array Edge}{g:Option (Nat×Bool)}{x y:Operand}{t u:TypeId}
theorem F0 {l:List Int}(hx:ev ε x=some (KU l):=by rfl)(hy:ev ε y=some (KU l):=by rfl):EY P N ε L ⟨d, .binOp .eql t x y u,ty,ps,af,g⟩ (.bool true):=by
 unfold EY;intro a b
 refine cN (λ_=>rfl) λK e=> ?_;rw[b.ev hx,b.ev hy];have f:eqGuard .eql t x y (KU l) (KU l)=pure ():=by unfold eqGuard KU;rfl
 show Kz P (eqGuard .eql t x y (KU l) (KU l)>>=λ_=>binOp .eql t (KU l) (KU l)) K L;rw[f];show K (.bool _);simpa using e
theorem HX {l:List Int}{a:Sl}(h:Kf a (l.map (Value.int .u8)) 5 L)(hx:ev ε x=some (Kj a 1 l.length):=by rfl):EY prog N ε L ⟨d, .convert 44 9 x,ty,ps,af,g⟩ (KU l):=by
 cases hb:a.b with
 |none=>
  have e:=h;unfold Kf at e;rw[hb] at e;have f:l=[]:=by simpa using e.1
  subst f;exact Fq (hx:=by rw[hx];unfold Kj;rw[hb]) U44 U5 U9
 |some b=>
  have hm:=h.mem hb;refine zM (b:=b) (o:=0) (len:=l.length) (hx:=by rw[hx];unfold Kj;rw[hb]) U44 U5 U9 hm bE ?_;apply gm;simp
end
theorem F1 (z:PS)(x y:Operand):KF prog (eqGuard .eql 49 x y (.agg (Ll z).toArray) (.agg (Ll z).toArray)) []=some ((),[]):=bD
theorem wM (x:PS)(e:RE)(h:e.du=0):(KV x e).extract (0+0) (0+0+15)=(Ll x).toArray:=by
 obtain⟨pi,wr,b,a,un,du⟩:=e;obtain rfl:du=0:=h;rfl
theorem C8 (base:Option Addr)(n cap:Nat):KF prog (Instr.build 143 [(2, .slice base n cap)].toArray) []=some (.agg #[.slice none 0 0, .slice none 0 0, .slice base n cap, .int .i64 0],[]):=bD
theorem uK (base:Option Addr)(n cap:Nat):KF prog (Instr.build 143 [(0, .slice base n cap)].toArray) []=some (.agg #[.slice base n cap, .slice none 0 0, .slice none 0 0, .int .i64 0],[]):=bD
theorem Oa.ps {x:Pl}(h:Oa x)(ha:Ab x.S x.T): ∃N:Nat->Nat,x.U.ps=x.S.ps.map λq=>(N q.1,q.2):=by
 obtain⟨N,_,e⟩:=ha.ex;exact⟨N,by rw[<-h.e,e];rfl⟩
theorem Ref.du {R:Nat}{B:RB}{T:St}{X:RX}{L:Ka}(h:Ref R B T X L){q:Nat×PS}(hq:q∈T.ps):(B.e q.1).du=0:=by
 have a:=h.r.du q hq;have b:=(h.t.m.x.idr q hq).1;have d:=h.r.id q hq;rw[if_neg bl] at a;exact a
theorem F2: ∃n,∀{σ}{F:Kn σ}{Δ:DM F}{l s}(B0:Ka)(ow:Nat->Cl)(W:Wo)(L:Ka)(j:Nat)(x:Pl),(∀s o,(Δ s).New o)->WI B0 ow W L->(∀y∈W.ps,Oa y)->W.ps[j]? =some x->W.hs.length<=10000000000000->
 Kb Δ prog l 42 [ptr W.w,ptr x.b].toArray n s L (λs' v L'=>s=s'/\v= .bool true/\Mk B0 ow W L (W.ps.map (·.t)) L'):=by
 obtain⟨n1,gk⟩:=Cw;obtain⟨n3,gp⟩:=pO;constructor;intro σ F Δ l s B0 ow W L j x hN hW J hx j';have z:=l5 hx;have hp:=hW.pi j x hx;obtain⟨N,hU⟩:=(J x z).ps hp.ab;have a0:At L x.b 0 (ptr x.K):=⟨true,_,_,_,hW.pb x z,rfl⟩;co_applyP ar 57 func42 ntmps42;co_applyP(aO);co_applyP oc rfl rfl rfl (gk x.K x.A x.S [] L hN hp.k);rintro _ _ _ ⟨rfl,a,rfl,C,P,hE⟩;rename_i L1;obtain⟨q',g,T1,o1⟩:=hW.add hE (λb=>a.b=some b) (λb hb t m e=>P t m (by rw[hb,<-e])) (4,W.hs.length+1);obtain⟨d,cap,O,f'⟩:=HS.view (HS.JJ C (fI _) bx);rw[HS.J8] at O;replace O:Kj a 15 x.S.ps.length= .slice d x.S.ps.length cap:=O;have f:=g.pi j x hx;obtain⟨u,Q,d',g'⟩:=dm f.r.r.pl (n:=x.U.ps.length) bE;have X:x.U.ps.length=x.S.ps.length:=by rw[hU];simp
 have h8:=hp.k.p8;have b1:At L1 x.b 1 (ptr x.R):=⟨true,_,_,_,g.pb x z,rfl⟩;have b2:At L1 x.R 5 (.slice u x.U.ps.length Q):=by rw[<-d'];exact f.r.r.kat rfl
 rw[O];co_applyP(aH);co_applyP(aC);rw[X,show ((x.S.ps.length:Int)==(x.S.ps.length:Int))=true from beq_self_eq_true _];co_applyP aU (λk s' I L'=>s=s'/\L1=L'/\ ∃i:Nat,k+i=8/\i<=x.S.ps.length/\kn I [(7, .int .i64 (i:Nat)),(6, .bool true),(5, .slice d x.S.ps.length cap),(0,ptr W.w),(1,ptr x.b)]) 8
 ·exact⟨rfl,rfl,0,rfl,hX _,rfl⟩
 rintro k s' I L' ⟨rfl,rfl,i,hk,m',he⟩;co_applyP aA he;co_applyP(zo);co_applyP aK;co_applyP ct ([(30, .bool (decide ((i:Int)<(x.S.ps.length:Int)))),(7, .int .i64 (i:Nat)),(6, .bool true),(5, .slice d x.S.ps.length cap),(0,ptr W.w),(1,ptr x.b)])
 ·skip
  co_applyP(aC);by_cases h:i<x.S.ps.length
  ·rw[show decide ((i:Int)<(x.S.ps.length:Int))=true by simp[h]];co_applyP(ax);change _=_/\_=_/\kn _ _;exact⟨rfl,rfl,rfl⟩
  ·rw[show decide ((i:Int)<(x.S.ps.length:Int))=false by simp;omega];co_applyP(ax);change _=_/\_=_/\kn _ _;exact⟨rfl,rfl,rfl⟩
 co_applyP aI rfl;intro hc
 ·have hi:i<x.S.ps.length:=by simp at hc;omega
  obtain⟨q,hq⟩: ∃q,x.S.ps[i]? =some q:=⟨_,sy hi⟩;have V:x.U.ps[i]? =some (N q.1,q.2):=by rw[hU];simp[hq]
  have M:=l5 V;obtain⟨gb,D,rfl⟩:=f' (by show 0<x.S.ps.length;omega);replace D:a.b=some gb:=D;obtain⟨rb,p',rfl,n'⟩:=g' i (ptr (x.B.p (N q.1))) (by simp[V]);have c':=C.mem D;have G:=f.r.r.p _ M;unfold rpb at G;have e1:IntKind.i64.wrap ((i:Int)+1)=((i+1:Nat):Int):=ag
  co_applyP(aR);co_applyP tr 3 rfl (aW (i:=i*15) (ht:=qD) (hs:=gq) (hm:=c') (hi:=by simp[fI];omega)) pI;co_applyP(bZ);rw[wB hq];co_applyP tr 16 rfl (aW (i:=0+0) (ht:=qD) (hs:=gq) (hm:=G) (hi:=by rw[aX];decide)) pI;rw[wM _ _ (f.r.du M)];co_applyP tr 17 rfl (uI (Fu q.2) (F1 q.2)) pI;co_applyP(aR);change∃k',k'<_/\_;rw[e1];exact⟨k-1,bl,rfl,rfl,i+1,bl,bl,rfl⟩
 intro hc;co_applyP(av);co_applyP oy rfl (aQ (C8 d x.S.ps.length cap));co_applyP bB rfl (bA (hN _ _));intro H L4 E;obtain⟨b',h',T4,o4⟩:=g.add ⟨E.fn,E.sub⟩ (· =H) (λb hb t m=>by rw[show b=H from hb];exact E.new t m) (0,0);obtain⟨l',o5⟩:=T4.sl C o1 id;have hH:(H,true,Obj.cells (hcs ⟨.nil, .nil,HS.of a 15 x.S.ps.length,0⟩) 143)∈L4:=by
  have:=E.self;unfold hcs;rw[HS.J8,O];exact this
 co_applyP oc rfl rfl rfl (gp B0 b' W L4 H ⟨.nil, .nil,HS.of a 15 x.S.ps.length,0⟩ hN h' hH (o4 H rfl) (λZ=>by obtain⟨_,_,hm,_⟩:=g.blk Z;exact E.new _ hm rfl) rfl rfl (HS.JJ l' (fI _) bx) (λc hc=>hc.elim (λe=>(absurd (show (none:Option Nat)=some c from e) λh=>by cases h)) λhc=>hc.elim (λe=>(absurd (show (none:Option Nat)=some c from e) λh=>by cases h)) (o5 c)) ⟨hX _,hX _,by show x.S.ps.length<=_;omega⟩ j');rintro _ _ _ ⟨rfl,rfl,e',W5,a',ew,ep,eh,T5⟩;co_applyP(aC);refine xI _ ⟨rfl,rfl,rfl,e',W5,a',λy hy=>J y (ep▸hy),ew,by rw[eh];exact cD _,by rw[ep],λt m Z=> ?_⟩;obtain⟨h3,Y⟩:=T1.s t m id;obtain⟨h4,T⟩:=T4.s t h3 id;obtain⟨h5,i'⟩:=T5.s t h4 (by rw[T,Y,Z];simp);exact⟨h5,by rw[i',T,Y,Z]⟩
def LJ:Option (Nat×PS)->List Int
 |none=>[]
 |some q=>(List.range 64).map q.2.m
def M7 (r:Option (Nat×PS)):Int:=if r.isSome then 0 else 4
theorem wN (x:PS)(e:RE):(KV x e).extract (0+15) (0+15+64)=(((List.range 64).map x.m).map (Value.int .u8)).toArray:=bD
theorem HY: ∃n,∀{k}{F:Kn k}{i:DM F}{d s}(K:Nat)(A:Kq)(S:St)(Fr L:Ka)(id:Int),(∀s o,(i s).New o)->Ke K A S Fr L->
 Kb i prog d 21 [ptr K, .int .i64 id].toArray n s L (λs' v L'=>s=s'/\ ∃a:Sl,v= .tuple #[Kj a 1 (LJ (S.find id)).length, .int .i64 (M7 (S.find id))]/\Kf a ((LJ (S.find id)).map (Value.int .u8)) 5 L'/\(∀t∈L,a.b≠some t.1)/\Ext L L'):=by
 obtain⟨k1,u⟩:=zK;obtain⟨y,l⟩:=zL;refine⟨_,λ{k F i d s} K A S Fr L id x g=>aG (S.find id=none) (n₁:=k1) (n₂:=y) (λf=> ?_) (λf=> ?_)⟩
 ·refine aJ (u K A S Fr L id g f) ?_;rintro s' v L' ⟨rfl,rfl,rfl⟩;exact⟨rfl,⟨none,[]⟩,by rw[f];rfl,by rw[f];exact⟨rfl,rfl⟩,λt _ e=>(by cases e),g.fn,λ_ h=>h⟩
 ·cases j:S.find id with
  |none=>exact absurd j f
  |some q=>
   refine aJ (l K A S Fr L id q.1 q.2 x g j) ?_;rintro s' v L' ⟨rfl,a,rfl,r,p,m⟩;exact⟨rfl,a,by simp[LJ,M7],by simp only[LJ,kt];exact r,p,m⟩
theorem AD: ∃n,∀{σ}{F:Kn σ}{Δ:DM F}{z s}(B0:Ka)(ow:Nat->Cl)(W:Wo)(L:Ka)(j:Nat)(x:Pl)(id:Int),(∀s o,(Δ s).New o)->WI B0 ow W L->(∀y∈W.ps,Oa y)->W.ps[j]? =some x->W.hs.length<=10000000000000->
 Kb Δ prog z 43 [ptr W.w,ptr x.b, .int .i64 id].toArray n s L (λs' v L'=>s=s'/\v= .bool true/\Mk B0 ow W L (W.ps.map (·.t)) L'):=by
 obtain⟨n1,gk⟩:=HY;obtain⟨n3,gp⟩:=pO;constructor;intro σ F Δ z s B0 ow W L j x id hN hW O hx p';have E:=l5 hx;have hp:=hW.pi j x hx;obtain⟨N,hU⟩:=(O x E).ps hp.ab;have a0:At L x.b 0 (ptr x.K):=⟨true,_,_,_,hW.pb x E,rfl⟩;co_applyP ar 79 func43 ntmps43;co_applyP(bm);co_applyP oc rfl rfl rfl (gk x.K x.A x.S [] L id hN hp.k);rintro _ _ _ ⟨rfl,a,rfl,G,Y,hE⟩;rename_i Q;obtain⟨z',f,T1,o1⟩:=hW.add hE (λb=>a.b=some b) (λb hb t I e=>Y t I (by rw[hb,<-e])) (4,W.hs.length+1);obtain⟨u,cap,V,w'⟩:=HS.view (HS.JJ (sz:=1) (n:=(LJ (x.S.find id)).length) G bE bx);rw[HS.J8] at V;replace V:Kj a 1 (LJ (x.S.find id)).length= .slice u (LJ (x.S.find id)).length cap:=V;have d:=f.pi j x hx;obtain⟨D,Z,g',j'⟩:=dm d.r.r.pl (n:=x.U.ps.length) bE;have h8:x.U.ps.length<=8:=by rw[hU];simp;exact hp.k.p8
 have r':x.U.find id=(x.S.find id).map λq=>(N q.1,q.2):=by
  unfold St.find;rw[hU,List.find?_map];rfl
 have b1:At Q x.b 1 (ptr x.R):=⟨true,_,_,_,f.pb x E,rfl⟩;have b2:At Q x.R 5 (.slice D x.U.ps.length Z):=by rw[<-g'];exact d.r.r.kat rfl
 have x':(LJ (x.S.find id)).length<=64:=by cases x.S.find id<;>simp[LJ]
 co_applyP(aH);co_applyP(ay);co_applyP aU (λk s' M L'=>s=s'/\Q=L'/\ ∃i:Nat,k+i=8/\i<=x.U.ps.length/\kn M [(11, .int .i64 (i:Nat)),(9,KU (LJ ((x.U.ps.take i).find? λq=>(q.2.id:Int)==id))),(10, .int .i64 (M7 ((x.U.ps.take i).find? λq=>(q.2.id:Int)==id))),(7,Kj a 1 (LJ (x.S.find id)).length),(8, .int .i64 (M7 (x.S.find id))),(0,ptr W.w),(1,ptr x.b),(2, .int .i64 id)]) 8
 ·exact⟨rfl,rfl,0,rfl,hX _,rfl⟩
 rintro k s' M L' ⟨rfl,rfl,i,hk,u',he⟩;co_applyP aA he;co_applyP(bQ);co_applyP aI rfl;intro hc
 ·have hi:i<x.U.ps.length:=by simp at hc;omega
  obtain⟨q,hq⟩: ∃q,x.U.ps[i]? =some q:=⟨_,sy hi⟩;have T:=l5 hq;obtain⟨rb,y',rfl,v'⟩:=j' i (ptr (x.B.p q.1)) (by simp[hq]);have C:=d.r.r.p _ T;unfold rpb at C;have t':At Q (x.B.p q.1) 0 (.int .i64 (q.2.id:Nat)):=⟨true,_,_,_,C,rfl⟩;have b':x.U.ps.take (i+1)=x.U.ps.take i++[q]:=by rw[List.take_add_one,hq];rfl
  have e1:IntKind.i64.wrap ((i:Int)+1)=((i+1:Nat):Int):=ag
  co_applyP(zo);co_applyP bL (λc' g X=>s=c'/\Q=X/\kn g [(11, .int .i64 (i:Nat)),(9,KU (LJ ((x.U.ps.take (i+1)).find? λq=>(q.2.id:Int)==id))),(10, .int .i64 (M7 ((x.U.ps.take (i+1)).find? λq=>(q.2.id:Int)==id))),(7,Kj a 1 (LJ (x.S.find id)).length),(8, .int .i64 (M7 (x.S.find id))),(0,ptr W.w),(1,ptr x.b),(2, .int .i64 id)]);co_applyP(aH);co_applyP(av);co_applyP aI rfl;intro hf
  ·have P:(x.U.ps.take (i+1)).find? (λq=>(q.2.id:Int)==id)=some q:=by
    rw[b',tz];cases hr:(x.U.ps.take i).find? λq=>(q.2.id:Int)==id with
    |none=>simp[hf]
    |some r=>
     have h1:=OU hr;have h2:=List.mem_of_mem_take (Ox hr);have h3:r.2.id=q.2.id:=by
      have g1:(r.2.id:Int)=id:=by simpa using h1
      have g2:(q.2.id:Int)=id:=by simpa using hf
      omega
     rw[d.r.t.m.x.idn r h2 q T h3];rfl
   rw[P];co_applyP(bQ);co_applyP oy rfl (zG U94 cP);co_applyP oy rfl (zM (l:=(List.range 64).map q.2.m) (b:=x.B.p q.1) (o:=0+15) (len:=64) (cap:=64) (hx:=by rfl) (ht:=U44) (he:=U5) (hu:=U9) (hm:=C) (hc:=by rw[aX];decide) (hl:=wN _ _));co_applyP(au);change _=_/\_=_/\kn _ _;exact⟨rfl,rfl,rfl⟩
  intro hf;have P:(x.U.ps.take (i+1)).find? (λq=>(q.2.id:Int)==id)=(x.U.ps.take i).find? λq=>(q.2.id:Int)==id:=by
   rw[b',tz];simp[hf]
  rw[P];co_applyP(zo);change _=_/\_=_/\kn _ _;exact⟨rfl,rfl,rfl⟩;rintro c' g X ⟨rfl,rfl,he⟩;co_applyP aA he;co_applyP(au);change∃k',k'<_/\_;rw[e1];exact⟨k-1,bl,rfl,rfl,i+1,bl,bl,rfl⟩
 intro hc;have hi:i=x.U.ps.length:=by simp at hc;omega
 subst hi;have P:(x.U.ps.take x.U.ps.length).find? (λq=>(q.2.id:Int)==id)=(x.S.find id).map λq=>(N q.1,q.2):=by rw[List.take_length];exact r'
 have i':LJ ((x.S.find id).map λq=>(N q.1,q.2))=LJ (x.S.find id):=by cases x.S.find id<;>rfl
 have l':M7 ((x.S.find id).map λq=>(N q.1,q.2))=M7 (x.S.find id):=by cases x.S.find id<;>rfl
 rw[P,i',l'];co_applyP(ax);co_applyP oy rfl (HX G);co_applyP(zo);co_applyP oy rfl (F0);co_applyP(aP);rw[show (M7 (x.S.find id)==M7 (x.S.find id))=true from beq_self_eq_true _];rw[V];co_applyP oy rfl (aQ (uK u (LJ (x.S.find id)).length cap));co_applyP bB rfl (bA (hN _ _));intro H L4 J;obtain⟨f',m',T4,o4⟩:=f.add ⟨J.fn,J.sub⟩ (· =H) (λb hb t I=>by rw[show b=H from hb];exact J.new t I) (0,0);obtain⟨q',o5⟩:=T4.sl G o1 λh=>h;have hH:(H,true,Obj.cells (hcs ⟨HS.of a 1 (LJ (x.S.find id)).length, .nil, .nil,0⟩) 143)∈L4:=by
  have:=J.self;unfold hcs;rw[HS.J8,V];exact this
 co_applyP oc rfl rfl rfl (gp B0 f' W L4 H ⟨HS.of a 1 (LJ (x.S.find id)).length, .nil, .nil,0⟩ hN m' hH (o4 H rfl) (λho=>by obtain⟨_,_,hm,_⟩:=f.blk ho;exact J.new _ hm rfl) (HS.JJ q' bE bx) rfl rfl (λc hc=>hc.elim (o5 c) λhc=>hc.elim (λe=>(absurd (show (none:Option Nat)=some c from e) λh=>by cases h)) λe=>(absurd (show (none:Option Nat)=some c from e) λh=>by cases h)) ⟨by show (LJ (x.S.find id)).length<=_;omega,hX _,hX _⟩ p');rintro _ _ _ ⟨rfl,rfl,h',W5,e',ew,ep,eh,T5⟩;co_applyP(aC);refine xI _ ⟨rfl,rfl,rfl,h',W5,e',λy hy=>O y (ep▸hy),ew,by rw[eh];exact cD _,by rw[ep],λt I ho=> ?_⟩;obtain⟨h3,d'⟩:=T1.s t I λh=>h;obtain⟨h4,a'⟩:=T4.s t h3 λh=>h;obtain⟨h5,n'⟩:=T5.s t h4 (by rw[a',d',ho];simp);exact⟨h5,by rw[n',a',d',ho]⟩
structure MO where
 k:Int
 n:Int
 c:Nat->Int
 bo:Int
 s:List Int
 a:Int
abbrev Mu (o:MO):Array Value:= #[.int .i64 o.k, .int .i64 o.n, .int .i64 (o.c 0), .int .i64 (o.c 1), .int .i64 (o.c 2), .int .i64 o.bo,KU o.s, .int .i64 o.a]
def LQ (c:Nat->Int)(bo:Int)(l:List Int):Bool:=Mv c bo&&Mw l.length
def ern (c:Nat->Int)(bo:Int)(l:List Int):Int:=if LQ c bo l then 0 else if Mv c bo then 2 else 1
theorem uL (o:MO):Value.agg ((Mu o).extract (0+2) (0+2+4))=Ln o.c o.bo:=rfl
theorem C9 (b:Bool):KF prog (binOp .eql 4 (.bool b) (.bool b)) []=some (.bool true,[]):=by cases b<;>kernel_rfl
theorem AE (b:Bool)(x y:Operand):KF prog (eqGuard .eql 4 x y (.bool b) (.bool b)) []=some ((),[]):=by cases b<;>kernel_rfl
theorem F3 (K R:Nat):KF prog (Instr.build 145 [(0,ptr K),(1,ptr R)].toArray) []=some (.agg #[ptr K,ptr R, .int .i64 0],[]):=bD
theorem AF:zeroAt prog 102=some (.pointer none):=bD
theorem Da:KJ prog 102=some 8:=bD
theorem wO (W:Wo)(a:Sl)(x:Pl):(NL W).setIfInBounds 0 (Kj a 1 (W.ps.length+1))=NL {W with ap:=a,ps:=W.ps++[x]}:=by unfold NL;simp
theorem HZ: ∃n,∀{B}{F:Kn B}{x:DM F}{a s}(L:Ka)(c:Nat->Int)(bo:Int)(j cap:Nat)(l:List Int),(∀s o,(x s).New o)->K5 L->NS l->(∀i,i<l.length->At L j (0+i) (.int .u8 (l.getD i 0)))->
 Kb x prog a 29 [Ln c bo, .slice (some ⟨j,0,none⟩) l.length cap].toArray n s L (λs' v L'=>s=s'/\Ext L L'/\ ∃K A S,v= .tuple #[.pointer (if LQ c bo l then some ⟨K,0,none⟩ else none), .int .i64 (ern c bo l)]/\(LQ c bo l=true->Ke K A S L L'/\Ab S (St.fresh c bo l 1))):=by
 obtain⟨k1,G⟩:=Hv;obtain⟨z,D⟩:=Hw;obtain⟨y,C⟩:=Hy;refine⟨_,λ{B F x a s} L c bo j cap l p u E m=>aG (Mv c bo=true) (n₁:=z+y) (n₂:=k1) (λhc=>aG (Mw l.length=true) (n₁:=y) (n₂:=z) (λf=> ?_) (λf=> ?_)|>.more bl) (λhc=> ?_)⟩
 ·refine aJ (C L c bo j 0 l.length cap (λi=>l.getD i 0) p u hc f m) ?_;rintro s' v L' ⟨rfl,K,A,b,rfl,r⟩;have e:LQ c bo l=true:=by unfold LQ;rw[hc,f];rfl
  exact⟨rfl,⟨r.fn,r.fr⟩,K,A,_,by unfold ern;rw[e];rfl,λ_=>⟨r,zP hc f E⟩⟩
 ·have g:Mw l.length=false:=by simpa using f
  refine aJ (D L c bo (some ⟨j,0,none⟩) l.length cap p u hc g) ?_;rintro s' v L' ⟨rfl,rfl,k⟩;have e:LQ c bo l=false:=by unfold LQ;rw[hc,g];rfl
  exact⟨rfl,k,0,⟨0,0, #[],λ_=>⟨none,[]⟩,λ_=>⟨none,[]⟩,0,[],0⟩,St.fresh c bo l 1,by unfold ern;rw[e,hc];rfl,λh=>by rw[e] at h;cases h⟩
 ·have d:Mv c bo=false:=by simpa using hc
  refine aJ (G L c bo _ p u d) ?_;rintro s' v L' ⟨rfl,rfl,k⟩;have e:LQ c bo l=false:=by unfold LQ;rw[d];rfl
  exact⟨rfl,k,0,⟨0,0, #[],λ_=>⟨none,[]⟩,λ_=>⟨none,[]⟩,0,[],0⟩,St.fresh c bo l 1,by unfold ern;rw[e,d];rfl,λh=>by rw[e] at h;cases h⟩
theorem H0: ∃n,∀{p}{F:Kn p}{g:DM F}{a s}(L:Ka)(c:Nat->Int)(bo:Int)(l:List Int),(∀s o,(g s).New o)->K5 L->NS l->
 Kb g prog a 70 [Ln c bo,KU l].toArray n s L (λs' v L'=>s=s'/\Ext L L'/\ ∃R B,v= .tuple #[.pointer (if LQ c bo l then some ⟨R,0,none⟩ else none), .int .i64 (ern c bo l)]/\(LQ c bo l=true->Ref R B (St.fresh c bo l 1) (RX.new l) L'/\ ∀d,Kv R B (St.fresh c bo l 1) d-> ∀t∈L,t.1≠d)):=by
 obtain⟨k1,m⟩:=FR;refine⟨k1,λ{p F g a s} L c bo l u x k=>aJ (m L c bo l u x k) ?_⟩;rintro s' v L' ⟨rfl,j,h⟩;by_cases e:Mv c bo=true/\Mw l.length=true
 ·rw[if_pos e] at h;obtain⟨R,B,rfl,y,r⟩:=h;have f:LQ c bo l=true:=by unfold LQ;rw[e.1,e.2];rfl
  refine⟨rfl,j,R,B,by unfold ern;rw[f];rfl,λ_=>⟨⟨y,(rB (b:=1) e.1 e.2 k).rename λq i=> ?_, ?_,λ_=>rfl,rfl,rfl,cD _⟩,r⟩⟩
  ·rw[mF] at i;obtain rfl:=wx.1 i;rfl
  ·show false=(St.fresh c bo l 1).IX;unfold St.IX St.find;rw[mF];rfl
 ·rw[if_neg e] at h;have f:LQ c bo l=false:=by
   unfold LQ;cases m:Mv c bo<;>cases z:Mw l.length<;>simp_all
  refine⟨rfl,j,0,RB.none,by rw[h];unfold ern;rw[f];rfl,λh=>by rw[f] at h;cases h⟩
theorem wP: ∃n,∀{σ}{F:Kn σ}{Δ:DM F}{T s}(Y:Ka)(ow:Nat->Cl)(W:Wo)(L:Ka)(o:MO),(∀s o,(Δ s).New o)->WI Y ow W L->(∀y∈W.ps,Oa y)->W.hs.length<=10000000000000->NS o.s->o.s.length<=140737488351232->
 Kb Δ prog T 39 [ptr W.w, .agg (Mu o)].toArray n s L (λs' v L'=>s=s'/\v= .bool true/\Mk Y ow W L (if LQ o.c o.bo o.s=true/\W.ps.length<3 then W.ps.map (·.t)++[0] else W.ps.map (·.t)) L'):=by
 obtain⟨n1,gl⟩:=FX;obtain⟨n2,gk⟩:=HZ;obtain⟨n3,gr⟩:=H0;obtain⟨n4,gs⟩:=C5 140737488351240;obtain⟨n5,gp⟩:=pO;constructor;intro σ F Δ T s Y ow W L o G hW Z P' hB hl;co_applyP ar 81 func39 ntmps39;co_applyP(zo);co_applyP bB rfl (bA (G _ _));intro ob L1 r;have M:(ob,true,Obj.cells (Mu o) 29)∈L1:=r.self;have a1:At L1 ob 6 (KU o.s):=⟨true,_,_,_,M,rfl⟩;co_applyP(au);co_applyP oc rfl rfl rfl (gl L1 o.s G hB bl);rintro _ _ _ ⟨rfl,b,rfl,d⟩;rename_i L2;have C:=d.sub _ M;have a2:At L2 ob 6 (KU o.s):=⟨true,_,_,_,C,rfl⟩;have l': ∀i,i<o.s.length->At L2 b (0+i) (.int .u8 (o.s.getD i 0)):=λi hi=>by
  refine⟨true,_,_,_,d.self, ?_⟩;unfold M0;rw[ic,nw,rD (by simpa using hi)];simp[hi,List.getD_eq_getElem?_getD]
 co_applyP(ax);co_applyP aM [] 7 mixed;co_applyP(zo);co_applyP t0 1 rfl (aW (ht:=kq) (hs:=iY) (hm:=C) (hi:=by show 0+2+4<=8;decide)) pN;rw[uL];co_applyP(av);rw[cv];co_applyP tr 6 rfl ((qx U44 cP)) pN;rw[show (Value.slice (some ⟨b,cutAt 0 0 (o.s.length+8) 1,none⟩) ((o.s.length:Int).toNat-0) (o.s.length+8-0))= .slice (some ⟨b,0,none⟩) o.s.length (o.s.length+8) by simp[cutAt]];co_applyP tc 7 rfl rfl rfl (gk L2 o.c o.bo b (o.s.length+8) o.s G d.fn hB l');rintro _ _ _ ⟨rfl,m,K,A,S,rfl,hK⟩;refine⟨aj bE, ?_⟩;rename_i L3;co_applyP to 8 rfl (bk) (aj bE);co_applyP tr 9 rfl (lB) (aj bE);co_applyP tr 10 rfl (lB) (aj bE);co_applyP tr 11 rfl (fX) (aj bE);co_applyP tr 12 rfl (fX) (aj bE);have u:=m.s _ C;have a3:At L3 ob 6 (KU o.s):=⟨true,_,_,_,u,rfl⟩;co_applyP(ax);co_applyP oy rfl (aW (ht:=kq) (hs:=iY) (hm:=u) (hi:=by show 0+2+4<=8;decide));co_applyP(ay);rw[uL];co_applyP oc rfl rfl rfl (gr L3 o.c o.bo o.s G m.f hB);rintro _ _ _ ⟨rfl,l,R,B,rfl,hR⟩;rename_i L4;have d':=l.s _ u;have f':(b,true,Obj.cells (M0 o.s) 5)∈L4:=l.s _ (m.s _ d.self);have a4:At L4 ob 6 (KU o.s):=⟨true,_,_,_,d',rfl⟩;have G':Ext L L4:=⟨l.f,λt g=>l.s _ (m.s _ (d.sub _ (r.sub _ g)))⟩;obtain⟨U',Ta,oa,_⟩:=(Tu.ext (ow:=ow) G').new (· =b) (λc hc t g=>by rw[show c=b from hc];exact d.new t (r.sub t g)) (4,W.hs.length+1);obtain⟨T',Tb,w',u'⟩:=Ta.new (λc=>LQ o.c o.bo o.s=true/\Own K A S c) (λc hc t g e=>(hK hc.1).1.J4 (d.sub _ (r.sub _ g)) (e▸hc.2)) (2,W.ps.length);obtain⟨I,T4,J',b'⟩:=Tb.new (λc=>LQ o.c o.bo o.s=true/\Kv R B (St.fresh o.c o.bo o.s 1) c) (λc hc t g=>(hR hc.1).2 c hc.2 t (m.s _ (d.sub _ (r.sub _ g)))) (3,W.ps.length);have k':WI Y I W L4:=hW.tu0 T4 id (λ_ _=>id) λ_ _=>⟨id,id⟩;have S':I b=(4,W.hs.length+1):=by
  rw[b' b λh=>(hR h.1).2 b h.2 _ (m.s _ d.self) rfl,u' b λh=>(hK h.1).1.J4 d.self h.2];exact oa b rfl
 have O':LQ o.c o.bo o.s=true-> ∀c,Own K A S c->I c=(2,W.ps.length):=λe c hc=>by
  obtain⟨_,hm,_⟩:=(hK e).1.own hc;rw[b' c λh=>(hR e).2 c h.2 _ hm rfl];exact w' c ⟨e,hc⟩
 have E':LQ o.c o.bo o.s=true-> ∀c,Kv R B (St.fresh o.c o.bo o.s 1) c->I c=(3,W.ps.length):=λe c hc=>J' c ⟨e,hc⟩;co_applyP(aP);co_applyP oc rfl rfl rfl (gs L4 o.s b hB bl bx f');rintro _ _ _ ⟨rfl,rfl,rfl⟩;co_applyP(aC);rw[show (ern o.c o.bo o.s==ern o.c o.bo o.s)=true from beq_self_eq_true _];co_applyP(av);co_applyP oy rfl (HD (a:= .bool (LQ o.c o.bo o.s)) (b:= .bool (LQ o.c o.bo o.s)) (AE _ _ _) (C9 _) (hx:=by cases LQ o.c o.bo o.s<;>rfl) (hy:=by cases LQ o.c o.bo o.s<;>rfl));co_applyP(aC);co_applyP oy rfl (aQ (uK (some ⟨b,0,none⟩) (o.s.length+8) (o.s.length+8)));co_applyP bB rfl (bA (G _ _));intro H L5 z;obtain⟨C',n',T5,o5⟩:=k'.add ⟨z.fn,z.sub⟩ (· =H) (λb hb t g=>by rw[show b=H from hb];exact z.new t g) (0,0);have hH:(H,true,Obj.cells (hcs ⟨⟨some b,o.s.length+8,o.s.length+8⟩, .nil, .nil,0⟩) 143)∈L5:=z.self;obtain⟨R',N'⟩:=T5.s _ f' id;co_applyP oc rfl rfl rfl (gp Y C' W L5 H ⟨⟨some b,o.s.length+8,o.s.length+8⟩, .nil, .nil,0⟩ G n' hH (o5 H rfl) (λE=>by obtain⟨_,_,hm,_⟩:=k'.blk E;exact z.new _ hm rfl) ⟨_,R',by unfold M0;simp,cD _⟩ rfl rfl (λc hc=>hc.elim (λe=>by obtain rfl:b=c:=gu e;rw[N'];exact S') λhc=>hc.elim (λe=>(absurd (show (none:Option Nat)=some c from e) λh=>by cases h)) (λe=>(absurd (show (none:Option Nat)=some c from e) λh=>by cases h))) ⟨by show o.s.length+8<=_;omega,hX _,hX _⟩ P');rintro _ _ _ ⟨rfl,rfl,X,J,p,ew,Q,eh,T6⟩;rename_i L6;have hT:Tu (λc=>c=(0,0)\/c=(4,W.hs.length+1)) ow L X L6:=((T4.trans T5).trans T6).mono λc hc=>hc.elim (λh=>h.elim False.elim False.elim) id;have e': ∀t∈L,ow t.1=(1,0)->t∈L6/\X t.1=(1,0):=λt g E=>by
  obtain⟨h1,h2⟩:=hT.s t g (by rw[E];simp);exact⟨h1,h2.trans E⟩
 obtain⟨i',cap,hv,_⟩:=dm p.pa (n:=J.ps.length) bE;rw[Q] at hv;have w6:At L6 W.w 0 (.slice i' W.ps.length cap):=⟨true,_,_,_,ew▸p.w,by rw[<-hv,<-Q];rfl⟩;have g':J.ps.map (·.t)=W.ps.map (·.t):=by rw[Q]
 co_applyP(zo);co_applyP bL (λh' N c'=>s=h'/\Mk Y ow W L (if LQ o.c o.bo o.s=true/\W.ps.length<3 then W.ps.map (·.t)++[0] else W.ps.map (·.t)) c'/\kn N [(10, .bool true)]);co_applyP aK;co_applyP ct ([(66, .bool (LQ o.c o.bo o.s&&decide ((W.ps.length:Int)<3))),(0,ptr W.w),(6, .pointer (if LQ o.c o.bo o.s=true then some (⟨K,0,none⟩:Addr) else none)),(8, .pointer (if LQ o.c o.bo o.s=true then some (⟨R,0,none⟩:Addr) else none)),(10, .bool true)])
 ·skip
  co_applyP(aR);by_cases j:LQ o.c o.bo o.s=true
  ·rw[show (!((if LQ o.c o.bo o.s=true then some (⟨R,0,none⟩:Addr) else none)).isNone)=true by rw[if_pos j];rfl];co_applyP(aO);change _=_/\_=_/\kn _ _;refine⟨rfl,rfl, ?_⟩;rw[show (LQ o.c o.bo o.s&&decide ((W.ps.length:Int)<3))=decide ((W.ps.length:Int)<3) by rw[j];rfl];rfl
  ·rw[show (!((if LQ o.c o.bo o.s=true then some (⟨R,0,none⟩:Addr) else none)).isNone)=false by rw[if_neg j];rfl];co_applyP(aO);change _=_/\_=_/\kn _ _;refine⟨rfl,rfl, ?_⟩;rw[show (LQ o.c o.bo o.s&&decide ((W.ps.length:Int)<3))=false by simp[j]];rfl
 co_applyP aI rfl;intro hc
 ·have U:LQ o.c o.bo o.s=true/\W.ps.length<3:=by
   simp at hc;exact⟨hc.1,bl⟩
  obtain⟨j,h3⟩:=U;obtain⟨H',y'⟩:=((((hK j).1.less (F':=[]) λt g=>(by cases g)).of l.f l.s).tu T5 (O' j) id);obtain⟨Q',p'⟩:=H'.tu T6 y' bE;obtain⟨z',B'⟩:=(hR j).1.tu T5 (E' j) id;obtain⟨t',K'⟩:=z'.tu T6 B' bE;rw[if_pos j,if_pos j];co_applyP(aO);co_applyP oy rfl (aQ (F3 K R));co_applyP bB rfl (bA (G _ _));intro pb L7 D;obtain⟨V',V,T7,o7⟩:=p.add ⟨D.fn,D.sub⟩ (· =pb) (λb hb t g=>by rw[show b=pb from hb];exact D.new t g) (0,0);obtain⟨A',q'⟩:=Q'.tu T7 p' id;obtain⟨D',M'⟩:=t'.tu T7 K' id;co_applyP bB rfl (kl (G _ _) (hu:=underlying68) (hs:=sI) (hz:=AF));intro nb L8 k;have j':=V.pa.mono λc hc o E=>k.sub _ E;co_applyP oeN rfl (λhnd=>fh (a:=J.ap) (n:=W.ps.length) (xs:=J.ps.map λx=>ptr x.b) (v:=ptr pb) (hx:=by rw[hv];rfl) (hnd:=hnd) (hu:=underlying68) (hs:=sI) (hb:=Da) (hz:=AF) (hzs:=rfl) (hN:=λcs=>G _ _) (ha:=j') (hn:=by simp[Q]) (hm:=k.self) (hpl:=rfl) (h8:=bl));rintro _ L9 ⟨a',rfl,hp⟩;have r':(W.w,true,Obj.cells (NL J) 71)∈L9:=hp.ch.keep (Lg.sl k.fn j' bx) (k.sub _ (ew▸V.w));co_applyP(ay);co_applyP osm rfl (hs:=GR) (hm:=r') (hi:=by show 0<2;decide) (hp:=bj _ _ _);intro W' O;rw[show W.ps.length+1=J.ps.length+1 by rw[Q],wO J a' ⟨pb,K,A,S,St.fresh o.c o.bo o.s 1,R,B,St.fresh o.c o.bo o.s 1,RX.new o.s,0⟩] at O;obtain⟨x',v',T8⟩:=V.pushP (x:=⟨pb,K,A,S,St.fresh o.c o.bo o.s 1,R,B,St.fresh o.c o.bo o.s 1,RX.new o.s,0⟩) ⟨k.fn,k.sub⟩ hp (by rw[ew];exact O) D.self (o7 pb rfl) (λE=>by obtain⟨_,_,hm,_⟩:=p.blk E;exact D.new _ hm rfl) (by rw[Q];exact⟨A',(hK j).2,D',q',M'⟩);co_applyP(zo);change _=_/\Mk _ _ _ _ _ _/\kn _ _;refine⟨rfl,⟨x',_,v',λy P=> ?_,ew,by show J.hs.length<=_;omega, ?_,λt g E=> ?_⟩,rfl⟩
  ·rcases cE.1 P with P|P
   ·exact Z y (Q▸P)
   ·obtain rfl:=wx.1 P;exact⟨rfl,by show (St.fresh o.c o.bo o.s 1).now<=0;rw[gJ];exact cD _,rfl,hX _⟩
  ·rw[if_pos ⟨j,h3⟩,l3,g'];rfl
  ·obtain⟨h1,h2⟩:=e' t g E;obtain⟨h3,m'⟩:=T7.s t h1 id;obtain⟨h4,I'⟩:=T8.s t h3 (by rw[m',h2];simp);exact⟨h4,by rw[I',m',h2]⟩
 intro hc;have U: ¬(LQ o.c o.bo o.s=true/\W.ps.length<3):=λ⟨h1,h2⟩=>by
  rw[h1] at hc;simp at hc;omega
 co_applyP(zo);change _=_/\Mk _ _ _ _ _ _/\kn _ _;exact⟨rfl,⟨X,J,p,λy P=>Z y (Q▸P),ew,bl,by rw[if_neg U,g'],e'⟩,rfl⟩;rintro h' N c' ⟨rfl,hw,he⟩;co_applyP aA he;co_applyP(au);exact xI _ ⟨rfl,rfl,rfl,hw⟩
theorem H2: ∃n,∀{Fin:Value->World->Prop}{W0:World}{O:Nat}(k:Nat)(s:List Nat)(g:Ka)(eb:Nat->Nat×Nat)(ow:Nat->Cl)(W:Wo)(L:Ka)(j:Nat)(x:Pl)(a:Int),WI g ow W L->(∀y∈W.ps,Oa y)->KZ eb g->W.ps[j]? =some x->N8 a->W.hs.length<=10000000000000->
 Kb (F:=FZ prog Fin) (λs=>Mq (K9 s.2) W0 O) prog true 41 [ptr W.w,ptr x.b, .int .i64 a].toArray n (k+(if runs? x.t a then 1 else 0),s) L (λs' v L'=>s'.1=k/\v= .bool true/\Mk g ow W L ((W.ps.map (·.t)).set j (On x.t a)) L'):=by
 obtain⟨k1,u⟩:=HV;obtain⟨B,r⟩:=HW;refine⟨_,λ{Fin W0 O} k s g eb ow W L j x a p d l o C m=>aG (0<a/\a<=2000/\6000<(x.t:Int)+a) (n₁:=k1) (n₂:=B) (λhc=> ?_) (λhc=> ?_)⟩
 ·have i:=l5 o;have e:runs? x.t a=false:=by unfold runs?;simp[hc.1,hc.2.2]
  unfold On;simp only[e,if_false,pS];refine aJ (u g ow W L x a p i (d x i).t hc.1 hc.2.1 hc.2.2) ?_;rintro s' v L' ⟨rfl,rfl,rfl⟩;refine⟨rfl,rfl,ow,W,p,d,rfl,Ot _ _, ?_,λt A z=>⟨A,z⟩⟩;rw[<-List.map_set (f:=λx:Pl=>x.t) (a:=x)];exact(jQ _ o rfl).symm
 ·have e:runs? x.t a=inr a:=by
   unfold runs? inr;rw[OR];simp;intro u r;omega
  unfold On;simp only[e];exact r k s g eb ow W L j x a p d l o C hc m
def N6 (ts:List Nat)(o:MO):List Nat:=if o.k=1 then(if LQ o.c o.bo o.s=true/\ts.length<3 then ts++[0] else ts) else if ts.length=0 then ts else if o.k=2 then ts.set (pickN o.n ts.length) (On (ts.getD (pickN o.n ts.length) 0) o.a) else ts
def Ob (ts:List Nat)(o:MO):Nat:=if o.k=2/\ts.length≠0 then(if runs? (ts.getD (pickN o.n ts.length) 0) o.a then 1 else 0) else 0
theorem Db (o:MO):Value.agg ((Mu o).extract 0 (0+8))= .agg (Mu o):=rfl
theorem Mk.pre {k L l L':Ka}{ow g:Nat->Cl}{W:Wo}{j:List Nat}(h:Mk k g W l j L')(T:Tu (λ_=>False) ow L g l):Mk k ow W L j L':=by
 obtain⟨i,n,a,b,c,d,e,f⟩:=h;refine⟨i,n,a,b,c,d,e,λt o m=> ?_⟩;obtain⟨p,r⟩:=T.s t o id;exact f t p (r.trans m)
theorem F4: ∃n,∀{Fin:Value->World->Prop}{W0:World}{O:Nat}(M:Nat)(s:List Nat)(z:Ka)(eb:Nat->Nat×Nat)(ow:Nat->Cl)(W:Wo)(L:Ka)(o:MO),WI z ow W L->(∀y∈W.ps,Oa y)->KZ eb z->W.hs.length<=10000000000000->NS o.s->o.s.length<=140737488351232->N8 o.n->N8 o.a->
 Kb (F:=FZ prog Fin) (λs=>Mq (K9 s.2) W0 O) prog true 27 [ptr W.w, .agg (Mu o)].toArray n (M+Ob (W.ps.map (·.t)) o,s) L (λs' v L'=>s'.1=M/\v= .bool true/\Mk z ow W L (N6 (W.ps.map (·.t)) o) L'):=by
 obtain⟨n1,gc⟩:=wP;obtain⟨n2,U⟩:=H2;obtain⟨n3,gt⟩:=F2;obtain⟨n4,X⟩:=AD;obtain⟨n5,gp⟩:=FT;constructor;intro Fin W0 O M s z eb ow W L o P f R m hB hl hIn Q;have J: ∀(s:Nat×List Nat)(o:Obj),(Mq (K9 s.2) W0 O).New o:=λ_ _=>trivial;co_applyP ar 53 func27 ntmps27;co_applyP(zo);co_applyP bB rfl (bA (J _ _));intro K j B;obtain⟨g,r,D,_⟩:=P.add ⟨B.fn,B.sub⟩ (λ_=>False) (λ_ h=>h.elim) (0,0);have l:(K,true,Obj.cells (Mu o) 29)∈j:=B.self;have a0:At j K 0 (.int .i64 o.k):=⟨true,_,_,_,l,rfl⟩;have a1:At j K 1 (.int .i64 o.n):=⟨true,_,_,_,l,rfl⟩;have a7:At j K 7 (.int .i64 o.a):=⟨true,_,_,_,l,rfl⟩;obtain⟨u,cap,Z,T⟩:=dm r.pa (n:=W.ps.length) bE;have d:(W.w,true,Obj.cells #[.slice u W.ps.length cap,Kj W.ah 1 W.hs.length] 71)∈j:=by rw[<-Z];exact r.w
 have w0:At j W.w 0 (.slice u W.ps.length cap):=⟨true,_,_,_,d,rfl⟩;have e:(W.ps.map (·.t)).length=W.ps.length:=bE
 co_applyP(aO);co_applyP aI rfl;intro C
 ·have H:o.k=1:=by simpa using C
  have A:Ob (W.ps.map (·.t)) o=0:=by unfold Ob;rw[if_neg bl]
  have et:N6 (W.ps.map (·.t)) o=if LQ o.c o.bo o.s=true/\W.ps.length<3 then W.ps.map (·.t)++[0] else W.ps.map (·.t):=by unfold N6;rw[if_pos H,e]
  rw[A,et];co_applyP(ay);co_applyP oy rfl (aW (ht:=Dl) (hs:=tV) (hm:=l) (hi:=by show 0+8<=8;decide));rw[Db];co_applyP oc rfl rfl rfl (gc z g W j o J r f m hB hl);rintro _ _ _ ⟨rfl,rfl,hw⟩;co_applyP(ax);exact xI _ ⟨rfl,rfl,rfl,hw.pre D⟩
 intro C;have H: ¬o.k=1:=by simpa using C
 co_applyP(aP);co_applyP aI rfl;intro h0
 ·have I:W.ps.length=0:=by have h:=eq_of_beq h0;omega
  have A:Ob (W.ps.map (·.t)) o=0:=by unfold Ob;rw[if_neg (by rw[e];omega)]
  have et:N6 (W.ps.map (·.t)) o=W.ps.map (·.t):=by unfold N6;rw[if_neg H,if_pos (by rw[e];exact I)]
  rw[A,et];co_applyP(av);exact xI _ ⟨rfl,rfl,rfl,Mk.pre ⟨g,W,r,f,rfl,Ot _ _,rfl,λt p N=>⟨p,N⟩⟩ D⟩
 intro h0;have I:0<W.ps.length:=by have h:=ne_of_beq_false h0;omega
 have hj:pickN o.n W.ps.length<W.ps.length:=zO _ I;obtain⟨x,G⟩: ∃x,W.ps[pickN o.n W.ps.length]? =some x:=⟨_,sy hj⟩;obtain⟨pb,V,rfl,a'⟩:=T (pickN o.n W.ps.length) (ptr x.b) (by simp[G]);have E:(W.ps.map (·.t)).getD (pickN o.n (W.ps.map (·.t)).length) 0=x.t:=by rw[e];simp[List.getD,G]
 co_applyP(ay);co_applyP aM [(W.w,true,Obj.cells #[.slice (some ⟨pb,0,none⟩) W.ps.length cap,Kj W.ah 1 W.hs.length] 71)] 11 mixed;co_applyP tr 0 rfl bk (aa (by simpa using d));co_applyP tr 1 rfl bI (aa (by simpa using d));co_applyP tr 2 rfl (br (hf:=oQ)) (aa (by simpa using d));co_applyP tr 3 rfl (bT (ht:=xO)) (aa (by simpa using d));co_applyP tr 4 rfl (br (hf:=Bi)) (aa (by simpa using d));co_applyP t0 5 rfl (bT (ht:=dq)) (aa (by simpa using d));co_applyP tr 6 rfl bk (aa (by simpa using d));co_applyP tr 7 rfl bI (aa (by simpa using d));co_applyP tr 8 rfl (br (hf:=oQ)) (aa (by simpa using d));co_applyP t0 9 rfl (bT (ht:=xO)) (aa (by simpa using d));co_applyP tr 10 rfl (eZ (hu:=underlying68)) (aa (by simpa using d));co_applyP tc 11 rfl rfl rfl (gp j o.n W.ps.length hIn I);rintro _ _ _ ⟨rfl,rfl,rfl⟩;refine⟨aj (by simpa using d), ?_⟩;co_applyP to 12 rfl ((gi underlying68 sI)) (aj (by simpa using d));co_applyP to 13 rfl ((bT (ht:=Eo))) (aj (by simpa using d));co_applyP to 14 rfl (fX) (aj (by simpa using d));co_applyP(bf);co_applyP aI rfl;intro S
 ·have i:o.k=2:=by simpa using S
  have A:Ob (W.ps.map (·.t)) o=if runs? x.t o.a then 1 else 0:=by unfold Ob;rw[if_pos ⟨i,by rw[e];omega⟩,E]
  have et:N6 (W.ps.map (·.t)) o=(W.ps.map (·.t)).set (pickN o.n W.ps.length) (On x.t o.a):=by unfold N6;rw[if_neg H,if_neg (by rw[e];omega),if_pos i,E,e]
  rw[A,et];co_applyP(au);co_applyP oc rfl rfl rfl (U M s z eb g W j _ x o.a r f R G Q m);rintro _ _ _ ⟨hs,rfl,hw⟩;co_applyP(ax);exact xI _ ⟨rfl,hs,rfl,hw.pre D⟩
 intro S;have i: ¬o.k=2:=by simpa using S
 have A:Ob (W.ps.map (·.t)) o=0:=by unfold Ob;rw[if_neg (λh=>i h.1)]
 have et:N6 (W.ps.map (·.t)) o=W.ps.map (·.t):=by unfold N6;rw[if_neg H,if_neg (by rw[e];omega),if_neg i]
 rw[A,et];co_applyP(av);co_applyP aI rfl;intro Y;co_applyP(ax)
 ·skip
  co_applyP oc rfl rfl rfl (gt z g W j _ x J r f G m);rintro _ _ _ ⟨rfl,rfl,hw⟩;co_applyP(ax);exact xI _ ⟨rfl,rfl,rfl,hw.pre D⟩
 intro Y;co_applyP(av);co_applyP aI rfl;intro h4;co_applyP(au)
 ·skip
  co_applyP oc rfl rfl rfl (X z g W j _ x o.a J r f G m);rintro _ _ _ ⟨rfl,rfl,hw⟩;co_applyP(ax);exact xI _ ⟨rfl,rfl,rfl,hw.pre D⟩
 intro h4;co_applyP(au);exact xI _ ⟨rfl,rfl,rfl,Mk.pre ⟨g,W,r,f,rfl,Ot _ _,rfl,λt p N=>⟨p,N⟩⟩ D⟩
def Oc (o:MO):List Value:=(Mu o).toList
def Scr (L:Ka)(sb:Option Addr)(os:List MO):Prop:= ∀i o,os[i]? =some o-> ∃(g off:Nat) (fl:Bool) (cs:Array Value) (e:TypeId) (fr:Nat×Nat),sb=some ⟨g,off,none⟩/\(g,fl,Obj.cells cs e fr)∈L/\off+i*8+8<=cs.size/\cs.extract (off+i*8) (off+i*8+8)=Mu o
theorem F5 {cs:Array Value}{a:Nat}{o:MO}(h:cs.extract a (a+8)=Mu o)(hs:a+8<=cs.size){j:Nat}(b:j<8):cs[a+j]? =(Mu o)[j]? :=by
 rw[<-h,Array.getElem?_extract,if_pos bl]
def Oo (L:Ka)(ow:Nat->Cl)(sb:Option Addr)(os:List MO):Prop:= ∀i o,os[i]? =some o-> ∃(g off:Nat) (fl:Bool) (cs:Array Value) (e:TypeId) (fr:Nat×Nat),sb=some ⟨g,off,none⟩/\((g,fl,Obj.cells cs e fr)∈L/\ow g=(1,0))/\off+i*8+8<=cs.size/\cs.extract (off+i*8) (off+i*8+8)=Mu o
theorem Oo.mv {L L':Ka}{ow a:Nat->Cl}{d:Option Addr}{os:List MO}(h:Oo L ow d os)(hs: ∀t∈L,ow t.1=(1,0)->t∈L'/\a t.1=(1,0)):Oo L' a d os:=λi o j=>by
 obtain⟨g,off,k,cs,e,f,l,b,m⟩:=h i o j;exact⟨g,off,k,cs,e,f,l,hs _ b.1 b.2,m⟩
structure OkO (o:MO):Prop where
 b:NS o.s
 l:o.s.length<=140737488351232
 n:N8 o.n
 a:N8 o.a
def Ml:List Nat->List MO->Nat
 |_,[]=>0
 |ts,o::os=>if 4<o.k then Ml ts os else Ob ts o+Ml (N6 ts o) os
theorem H3:KF prog (Instr.build 71 [].toArray) []=some (.agg #[.slice none 0 0, .slice none 0 0],[]):=bD
theorem AG (k:Nat): ∃n,∀{Fin:Value->World->Prop}{W0:World}{O:Nat}(p:Nat)(s:List Nat)(f:Ka)(eb:Nat->Nat×Nat)(L:Ka)(sb:Option Addr)(cap:Nat)(os:List MO),KZ eb f->(∀t∈f,t∈L/\t.2.1=false)->K5 L->Scr L sb os->(∀o∈os,OkO o)->os.length<=k->os.length<=2000000000000->
 Kb (F:=FZ prog Fin) (λs=>Mq (K9 s.2) W0 O) prog true 12 [.slice sb os.length cap, .int .i64 4].toArray n (p+Ml [] os,s) L (λs' v L'=>s'.1=p/\v= .bool true/\K5 L'/\ ∀t∈f,t∈L'):=by
 obtain⟨n1,gs⟩:=F4;obtain⟨n2,gl⟩:=C6 (4*k)
 have i': ∀{Fin:Value->World->Prop}{W0:World}{O:Nat}(p:Nat)(s:List Nat)(f:Ka)(eb:Nat->Nat×Nat)(I:Nat->Cl)(W:Wo)(L:Ka)(o:MO)(w:Nat),W.w=w->WI f I W L->(∀y∈W.ps,Oa y)->KZ eb f->W.hs.length<=10000000000000->OkO o->
  Kb (F:=FZ prog Fin) (λs=>Mq (K9 s.2) W0 O) prog true 27 [ptr w, .agg (Mu o)].toArray n1 (p+Ob (W.ps.map (·.t)) o,s) L (λs' v L'=>s'.1=p/\v= .bool true/\Mk f I W L (N6 (W.ps.map (·.t)) o) L'):=λp s f eb I W L o w e Y Q Z h4 h5=>by
  subst e;exact gs p s f eb I W L o Y Q Z h4 h5.b h5.l h5.n h5.a
 have h': ∀{σ}{F:Kn σ}{Δ:DM F}{main s}(f:Ka)(I:Nat->Cl)(W:Wo)(L:Ka)(w:Nat),W.w=w->WI f I W L->W.hs.length<=4*k->W.hs.length<=10000000000000->
  Kb Δ prog main 28 [ptr w].toArray n2 s L (λs' v L'=>s=s'/\v= .bool true/\L=L'):=λf I W L w e Y Q Z=>by
  subst e;exact gl f I W L Y Q Z
 constructor;intro Fin W0 O p s f eb L sb cap os g' V hF hS e' hk r';have hN: ∀(s:Nat×List Nat)(o:Obj),(Mq (K9 s.2) W0 O).New o:=λ_ _=>trivial;co_applyP ar 38 func12 ntmps12;co_applyP(av);co_applyP oy rfl (aQ H3);co_applyP bB rfl (bA (hN _ _));intro w L1 R
 have d':WI f (λb=>if b=w then(0,0) else(1,0)) ⟨w,⟨none,[]⟩,⟨none,[]⟩,[],[]⟩ L1:=
  {fn:=R.fn,w:=R.self,pa:=⟨rfl,rfl⟩,ha:=⟨rfl,rfl⟩,pb:=λx m=>(by cases m),hb:=λx m=>(by cases m),pi:=λj x m=>(by simp at m),hi:=λx m=>(by cases m),hm:=λx m=>(by cases m),nd:=List.nodup_nil
   b0:=λt N=>⟨R.sub _ (V t N).1,(V t N).2⟩
   o:=λc hc=>by
    rcases hc with (hc|hc|hc|⟨x,m,_⟩)|⟨x,m,_⟩
    ·have c':c=w:=hc;simp[c']
    ·cases hc
    ·cases hc
    ·cases m
    ·cases m}
 co_applyP(aR);co_applyP aU (λj s' S L'=> ∃(i:Nat) (G:List Nat) (A:Nat->Cl) (r:Wo),s'=(p+Ml (r.ps.map (·.t)) (os.drop i),G)/\j+i=k/\i<=os.length/\WI f A r L'/\(∀y∈r.ps,Oa y)/\r.w=w/\r.hs.length<=4*i/\Oo L' A sb os/\kn S [(6, .int .i64 (i:Nat)),(5,ptr w),(0, .slice sb os.length cap),(1, .int .i64 4)]) k
 ·refine⟨0,s,_,_,rfl,rfl,hX _,d',λy hy=>(by cases hy),rfl,cD _,λi o C=> ?_,rfl⟩;obtain⟨g,off,fl,cs,e,fr,Y,Q,Z⟩:=hS i o C;exact⟨g,off,fl,cs,e,fr,Y,⟨R.sub _ Q,if_neg λe=>R.new _ Q e⟩,Z⟩
 rintro j s' S L' ⟨i,G,A,r,rfl,hj,q',E,T,ew,u',P,he⟩;co_applyP aA he;co_applyP(aR);co_applyP aI rfl;intro hc
 ·have C:i<os.length:=by simp at hc;omega
  obtain⟨o,K⟩: ∃o,os[i]? =some o:=⟨_,sy C⟩;obtain⟨ab,off,fl,cs,e0,fr,rfl,⟨hm,_⟩,a',hex⟩:=P i o K;have t':At L' ab (off+i*8) (.int .i64 o.k):=⟨fl,cs,e0,fr,hm,F5 hex a' (j:=0) bx⟩;have b':os.drop i=o::os.drop (i+1):=by
   rw[List.drop_eq_getElem_cons C];congr 1;have:=sy C;rw[K] at this;exact(gu this).symm
  have e1:IntKind.i64.wrap ((i:Int)+1)=((i+1:Nat):Int):=ag
  co_applyP(zo);co_applyP bL (λX H M=>(∃(G:List Nat) (d:Nat->Cl) (u:Wo),X=(p+Ml (u.ps.map (·.t)) (os.drop (i+1)),G)/\WI f d u M/\(∀y∈u.ps,Oa y)/\u.w=w/\u.hs.length<=4*(i+1)/\Oo M d (some ⟨ab,off,none⟩) os)/\kn H [(6, .int .i64 (i:Nat)),(5,ptr w),(0, .slice (some ⟨ab,off,none⟩) os.length cap),(1, .int .i64 4)]);co_applyP(bf);co_applyP aI rfl;intro J
  ·have hg:4<o.k:=by simpa using J
   co_applyP(zo);change (∃G d u,_)/\kn _ _;exact⟨⟨G,A,r,by rw[b',Ml,if_pos hg],E,T,ew,bl,P⟩,rfl⟩
  intro J;have hg: ¬4<o.k:=by simpa using J
  have f':p+Ml (r.ps.map (·.t)) (os.drop i)=p+Ml (N6 (r.ps.map (·.t)) o) (os.drop (i+1))+Ob (r.ps.map (·.t)) o:=by rw[b',Ml,if_neg hg];omega
  rw[f'];co_applyP(aC);co_applyP oy rfl (aW (i:=off+i*8) (ht:=Dl) (hs:=tV) (hm:=hm) (hi:=a'));rw[hex];co_applyP oc rfl rfl rfl (i' (p+Ml (N6 (r.ps.map (·.t)) o) (os.drop (i+1))) G f eb A r L' o w ew E T g' bl (e' o (l5 K)));rintro _ _ _ ⟨l',rfl,d,u,B,z,D,U,m',j'⟩;rename_i s2 L2;co_applyP(av);co_applyP oc rfl rfl rfl (h' f d u L2 w (D.trans ew) B bl bl);rintro _ _ _ ⟨rfl,rfl,rfl⟩;co_applyP(bZ);change (∃G d u,_)/\kn _ _;obtain⟨q1,q2⟩:=s2;refine⟨⟨q2,d,u, ?_,B,z,D.trans ew,bl,P.mv λt N h=>j' t N h⟩,rfl⟩;rw[m'];exact congrArg (·,q2) l';rintro X H M ⟨⟨p',d,u,rfl,B,z,D,U,n'⟩,he⟩;co_applyP aA he;co_applyP(au);change∃k',k'<_/\_;rw[e1];exact⟨j-1,bl,i+1,p',d,u,rfl,bl,bl,B,z,D,U,n',rfl⟩
 intro hc;have C:i=os.length:=by simp at hc;omega
 subst C;co_applyP(au);exact xI _ ⟨rfl,by rw[List.drop_length];rfl,rfl,E.fn,λt N=>(E.b0 t N).1⟩
section
variable {New:Obj->Prop}{N:Nat}{ε:Env}{L:Ka}{d:Option Tmp}{ty:TypeId}{ps:String}{af:Array Edge}{g:Option (Nat×Bool)}{x y:Operand}{P:Program}
theorem AH {a:Act}(ha:Fits N ε a): ∀(l:List (Nat×Operand))(vs:List (Nat×Value)),(l.map λp=>(p.1,ev ε p.2))=(vs.map λp=>(p.1,some p.2))->(l.map λp=>(p.1,a.eval p.2))=vs
 |[],[],_=>rfl
 |[],_::_,h=>by simp at h
 |_::_,[],h=>by simp at h
 |(i,x)::l,(j,v)::vs,h=>by
  simp only[ix,List.cons.injEq,Prod.mk.injEq] at h;obtain⟨⟨rfl,b⟩,d⟩:=h;rw[ix,AH ha l vs d,ha.ev b]
theorem H4 {t e:TypeId}{n sz:Nat}{xs:List (Nat×Operand)}{vs:List (Nat×Value)}{cs:Array Value}{z:Value}(hN:New (.cells cs e))(hx:(xs.map λp=>(p.1,ev ε p.2))=(vs.map λp=>(p.1,some p.2)):=by rfl)(hu:P.underlying t=some (.slice e))(hs:Kd P e=some sz)(hz:zeroAt P e=some z)(hf:Instr.fill (λi=>some (i*sz,sz)) ((Array.range (n*sz)).map (z.cells[· %z.cells.size]!)) vs=some cs)(h0:n*sz≠0)(h24:n*sz<=1000):
 EO P New N ε L ⟨d, .buildSlice t n xs.toArray,ty,ps,af,g⟩ (λr f=> ∃b,(∀t∈L,t.1≠b)/\r= .slice (some ⟨b,0,none⟩) n n/\f=(b,true, .cells cs e)::L):=by
 intro a j;simp only[execOp,OL];rw[AH j xs vs hx];unfold Instr.buildSlice newRow;rw[ak,ak,aT hu];simp only[];rw[ak,bO hs];rw[if_neg bl,if_neg bl,ak,cC hz,ak,bg];simp only[hf,ak];exact cF hN λb hb=>⟨b,hb,rfl,rfl⟩
end
def opz:MO:=⟨0,0,λ_=>0,0,[],0⟩
theorem H5:zeroAt prog 29=some (.agg (Mu opz)):=bD
end Go.Proofs.YtejkelcaljmnoaaGreatDoor
namespace Go.Proofs.YtejkelcaljmnoaaGreatDoor
open Go.ChangeShapes Go.WideShapes Go.WideElems Go.RowKit Go.Conc Go.ConcX Go.Hx Go.Lo Go.Proofs.Tryz
section
variable {H:Type}{enc:TypeId×Value->H}
theorem fN {a:Assume}{C:Checked}{os:Os}{f:FuncId}{fn:Func}{s:ChangeSpec}{k:List PathCond}{b fresh g again:Bool}{X:World->Array Value->Prop}
 (T: ∀(w w':World)(args:Array Value),w.heap=w'.heap->X w args->X w' args)
 (own:ownKnob C.prog.godebug=none) (started:os.Started) (I:C.prog.funcs[f]? =some fn)
 (l: ∃(w:World) (tape:Tape) (i:Input),w.os=os/\(w.forCall tape i).Shaped C.prog/\i.vars=[]/\Input.okWide C.prog (w.forCall tape i) .any w.heap.size f i/\
  ((s.pre enc C.prog fn k b (w.forCall tape i).memory i.args/\X (w.forCall tape i).memory i.args)/\sizedMet enc C.prog fn (OpenSpec.ofChange s) b (w.forCall tape i).memory i.args)/\a.holds C.prog (lone (Frame.enter C.prog f i.args .normal) [] (w.forCall tape i)))
 (runs: ∀(W:World)(base:Nat)(args:Array Value)(J gs:List (DataW H))(d:List MemPlace),W.ShapedOpen C.prog->
  (∀(j:Nat) t v,fn.params[j]? =some t->args[j]? =some v->Value.okWide C.prog W .any base t v)->
  DataW.Whole enc C.prog fn.params.toList s.vars b W args.toList J gs d->X W args->sizedMet enc C.prog fn (OpenSpec.ofChange s) b W args->
  ∃M last o w' t',runNT C.prog (M+1) (solo (G (Frame.enter C.prog f args .normal) []) W) #[]=(.ended o w',t')/\runN C.prog M (solo (G (Frame.enter C.prog f args .normal) []) W)= .next last/\
   step C.prog last= .ended o w'/\Conc.Good C.prog (λv U=>s.post enc C.prog fn b fresh g again W args v U) last o w' t'):
 ReturnsInLeavingWide a C os f .any (λw args=>(s.pre enc C.prog fn k b w args/\X w args)/\sizedMet enc C.prog fn (OpenSpec.ofChange s) b w args) (s.post enc C.prog fn b fresh g again):=by
 refine returnsInLeavingWide_of_good own started l ?_;intro w tape i _ y _ E p r;obtain⟨_,_,_,F,m,_,_,_,_,n⟩:=E;have e:F=fn:=gu (m.symm.trans I);subst e;obtain⟨⟨⟨J,gs,d,hw,hc⟩,Q⟩,L⟩:=p;have u:=DataW.Whole.of_heap (w':=w.forCall tape i) (by rfl) hw;obtain⟨A,B,z,O,D,x⟩:=L;obtain⟨M,last,o,w',t',R,P,N,S⟩:=runs (w.forCall tape i) w.heap.size i.args J gs d y n u (T _ _ _ (by rfl) Q) ⟨A,B,z,O,DataW.Whole.of_heap (w':=w.forCall tape i) (by rfl) D,x⟩;exact⟨M,last,o,w',t',R,P,N,S.mono λv K=>ChangeSpec.post_blind K⟩
variable {w:World}{base n:Nat}{spare:Nat->Bool}{held:Bool}
theorem AI {s:ByteArray}(hs:s.size<=140737488351232): ∃l:List Int,Value.string s=KU l/\NS l/\l.length<=140737488351232:=by
 refine⟨s.data.toList.map λu=>(u.toNat:Int), ?_,λn b=> ?_, ?_⟩
 ·unfold KU;congr 1;obtain⟨⟨a⟩⟩:=s;congr 2;simp[Function.comp_def]
 ·obtain⟨u,_,rfl⟩:=cm.1 b;have:=u.toNat_lt;omega
 ·simpa using hs
def fd (s:String)(t o b:Nat):Field:=⟨s,t,o,false, "", "",b⟩
theorem Dc {cs:List Value}{d:DataW H}{ps:List MemPlace}(h:DataW.trod enc prog w base spare held n 29 cs=some (d,ps))(hw: ∀z∈d.weights prog 29,z<=reachBytes): ∃o:MO,cs=Oc o/\OkO o:=by
 obtain⟨xs,m,_,Y,hl,f,b⟩:=DataW.trod_struct underlying29 h;have e:cs.length=8:=hl.trans bD;have c3:prog.cellsOf 3=1:=bD
 have c9:prog.cellsOf 9=1:=bD
 have p:prog.cellsOf 26=4:=bD
 have r:prog.cellsOf 24=3:=bD
 match cs,e with
 |[v0,v1,v2,v3,v4,v5,v6,v7],_=>
  match xs,f with
  |[y0,y1,y2,y3,y4],_=>
   have g0:=b 0 (fd "Kind" 3 0 0) rfl;have J:=b 1 (fd "N" 3 1 8) rfl;have y:=b 2 (fd "C" 26 2 16) rfl;have F:=b 3 (fd "S" 9 6 48) rfl;have L:=b 4 (fd "A" 3 7 64) rfl;simp only[fd,c3,c9,p,List.drop_zero,List.drop_succ_cons,List.take_succ_cons,List.take_zero,u9,OE] at g0 J y F L;obtain⟨k,D,_,w0⟩:=DataW.trod_int U3 g0;obtain⟨Q,I,_,w1⟩:=DataW.trod_int U3 J;obtain⟨s,u,O,_⟩:=DataW.trod_string U9 F;obtain⟨a,B,_,w4⟩:=DataW.trod_int U3 L;obtain⟨X,m2,_,_,_,j,x⟩:=DataW.trod_struct underlying26 y
   match X,j with
   |[z0,z1],_=>
    have f0:=x 0 (fd "Slices" 24 0 0) rfl;have f1:=x 1 (fd "Boost" 3 3 24) rfl;simp only[fd,c3,r,List.drop_zero,List.drop_succ_cons,List.take_succ_cons,List.take_zero,u9,OE] at f0 f1;obtain⟨R,K,_,_⟩:=DataW.trod_int U3 f1;obtain⟨u0,u1,u2,m3,_,V,a1,P⟩:=trod_array3 underlying24 c3 f0;obtain⟨q0,M,_,_⟩:=DataW.trod_int U3 V;obtain⟨Z,G,_,_⟩:=DataW.trod_int U3 a1;obtain⟨W,E,_,_⟩:=DataW.trod_int U3 P;obtain rfl:d= .agg ([y0,y1,y2,y3,y4].map (·.1)):=(Prod.mk.inj Y).1;have U:s.size<=140737488351232:=by
     refine hw s.size ?_;have T:y3.1= .lit (.string s.data.toList):=by rw[O]
     unfold DataW.weights;rw[underlying29];simp[DataW.weightsEach,T,DataW.weights]
    obtain⟨l,el,hb,g⟩:=AI U;simp only[List.cons.injEq,and_true] at D I u B K M G E;refine⟨⟨k,Q,λi=>if i=0 then q0 else if i=1 then Z else W,R,l,a⟩, ?_,hb,g,zQ w1,zQ w4⟩;rw[D,I,u,B,K,M,G,E,el];rfl
theorem kG {P:Program}{e:TypeId}: ∀{l:List (DataW H)}{d:DataW H},d∈l-> ∀z∈d.weights P e,z∈DataW.weightsAll P e l
 |[],_,h=>by cases h
 |x::l,d,h=>λz a=>by
  unfold DataW.weightsAll;rcases gn.1 h with rfl|h
  ·exact nx _ a
  ·exact rv _ (kG h z a)
theorem AJ {r:Reach}{b0:Nat}{v:Value}{d:DataW H}{ps:List MemPlace}(K:Value.okWide prog w r b0 22 v)(hd:DataW.Trod enc prog w base spare held 22 v d ps)(hw: ∀z∈d.weights prog 22,z<=reachBytes):
 ∃(b:Option Addr) (cap:Nat) (os:List MO),v= .slice b os.length cap/\os.length<=1954687338610/\(∀o∈os,OkO o)/\Scr (Mc w) b os:=by
 obtain⟨a,len,cap,rfl⟩:=okWide_slice U22 K;obtain⟨n,h⟩:=hd;have L:prog.cellsOf 29=8:=bD
 have M:prog.bytesOf 29=72:=bD
 rcases Go.Deep.open_slice U22 h with ⟨N,_⟩|⟨J,A,B,m,n',D,Pl,N,_,h2,h3,h4,Y,S⟩
 ·obtain⟨rfl,rfl,rfl⟩:a=none/\len=0/\cap=0:=by simpa [Value.cells] using N
  exact⟨none,0,[],rfl,bE,λo x=>(by cases x),λi o s=>by simp at s⟩
 ·obtain⟨rfl,rfl,rfl⟩:a=some J/\len=A/\cap=B:=by simpa [Value.cells] using N
  have hm:len<=m:=by rw[h4];split<;>omega
  obtain rfl:d= .slice ((List.range len).map D) ((List.range (m-len)).map λj=>D (len+j)):=(Prod.mk.inj Y).1;have W:DataW.weights prog 22 (.slice ((List.range len).map D) ((List.range (m-len)).map λj=>D (len+j)):DataW H)=(((List.range len).map D).length+((List.range (m-len)).map λj=>D (len+j)).length)*prog.bytesOf 29::(DataW.weightsAll prog 29 ((List.range len).map D)++DataW.weightsAll prog 29 ((List.range (m-len)).map λj=>D (len+j))):=by
   rw[DataW.weights,U22]
  rw[W] at hw;have u:=hw _ eT;rw[M] at u;simp only[ia,List.length_range] at u;have hr:reachBytes=140737488351232:=rfl;have p: ∀i,i<len-> ∃o:MO,w.cells? base (J.add (i*8)) 8=some (Oc o)/\OkO o:=λi s=>by
   obtain⟨cs,P,T⟩:=S i bl;rw[L] at P;obtain⟨o,rfl,x⟩:=Dc T λz U=>hw z (dc _ (nx _ (kG (cm.2 ⟨i,OV.2 s,rfl⟩) z U)));exact⟨o,P,x⟩
  have k: ∀i o,w.cells? base (J.add (i*8)) 8=some (Oc o)-> ∀j,j<8->w.cell? ((J.add (i*8)).add j)=(Oc o)[j]? :=λi o hc j F=>by
   unfold World.cells? at hc
   split at hc
   ·exact mapM_some_get hc j j (by simp[F])
   ·cases hc
  obtain⟨g,off,sp⟩:=J;have O:0<len->sp=none:=λh0=>by
   obtain⟨o,hc,_⟩:=p 0 h0;have f:=k 0 o hc 0 bx;have X:((⟨g,off,sp⟩:Addr).add (0*8)).add 0=⟨g,off,sp⟩:=rfl;rw[X] at f;unfold World.cell? at f
   split at f
   ·split at f
    ·cases f
    ·rename_i V;simpa using V
   ·cases f
  classical
  refine⟨some ⟨g,off,sp⟩,cap,(List.range len).map λi=>if s:i<len then Classical.choose (p i s) else opz,bE,by simp;omega,λo x=> ?_,λi o s=> ?_⟩
  ·obtain⟨i,s,rfl⟩:=cm.1 x;have E:=OV.1 s;rw[dif_pos E];exact(Classical.choose_spec (p i E)).2
  ·have y:i<len:=by simpa using (mo.1 s).1
   have x:Classical.choose (p i y)=o:=by simpa [y] using s
   have hc:=(Classical.choose_spec (p i y)).1;rw[x] at hc;obtain rfl:=O bl;have G: ∀j,j<8->w.cell? ⟨g,off+i*8+j,none⟩=(Mu o)[j]? :=λj F=>by
    have f:=k i o hc j F;have e2:((⟨g,off,none⟩:Addr).add (i*8)).add j=⟨g,off+i*8+j,none⟩:=by unfold Addr.add;split<;>split<;>simp_all
    rw[e2] at f;rw[f];unfold Oc;rw[Array.getElem?_toList]
   have h0:=G 0 bx;unfold World.cell? at h0
   split at h0
   ·rename_i cs e R Q;have C: ∀j,j<8->cs[off+i*8+j]? =(Oc o)[j]? :=λj F=>by
     have f:=G j F;unfold World.cell? at f;simp only[Q] at f;unfold Oc;rw[Array.getElem?_toList];simpa using f
    have I:off+i*8+8<=cs.size:=by
     have Z:cs[off+i*8+7]? =some (.int .i64 o.a):=C 7 bx;have:=(ib.1 Z).1;omega
    exact⟨g,off,false,cs,e,R,rfl,j6 Q,I,tM (l:=Oc o) rfl C I⟩
   ·cases h0
end
end Go.Proofs.YtejkelcaljmnoaaGreatDoor
namespace Go.Proofs.YtejkelcaljmnoaaGreatDoor
open Go.Conc Go.Hx Go.Lo Go.Proofs.Tryz
attribute [local irreducible] EY KO K6 Kw Kc Ku Kd Program.underlying
def NK (k a:Int):MO:=⟨k,0,λ_=>0,0,[],a⟩
theorem F6 (k:Int):KF prog (Instr.build 29 [(0, .int .i64 k)].toArray) []=some (.agg (Mu (NK k 0)),[]):=bD
theorem Dd (k a:Int):KF prog (Instr.build 29 [(0, .int .i64 k),(4, .int .i64 a)].toArray) []=some (.agg (Mu (NK k a)),[]):=bD
theorem uM {a:Int}(h:0<=a/\a<100):N8 a:=by unfold N8;omega
theorem F7 (k:Int){a:Int}(h:N8 a):OkO (NK k a):=⟨λn b=>(by cases b),hX _,uM (a:=0) bx,h⟩
def exS:List Int:=[9,1,0,0,5,0,3,0,9,2,0,0,9,0,0,0]
def exN:MO:=⟨1,0,λ_=>5,50,exS,0⟩
def Oq:List MO:=[exN,NK 3 0,NK 2 4,NK 3 0,NK 2 4,NK 3 0,NK 4 1,NK 4 3]
theorem F8: ∀{i:Nat}{o:MO},Oq[i]? =some o->0+i*8+8<=(Oq.flatMap Oc).toArray.size/\(Oq.flatMap Oc).toArray.extract (0+i*8) (0+i*8+8)=Mu o
 |0,_,h=>by cases h;exact⟨of_decide_eq_true bD,bD⟩
 |1,_,h=>by cases h;exact⟨of_decide_eq_true bD,bD⟩
 |2,_,h=>by cases h;exact⟨of_decide_eq_true bD,bD⟩
 |3,_,h=>by cases h;exact⟨of_decide_eq_true bD,bD⟩
 |4,_,h=>by cases h;exact⟨of_decide_eq_true bD,bD⟩
 |5,_,h=>by cases h;exact⟨of_decide_eq_true bD,bD⟩
 |6,_,h=>by cases h;exact⟨of_decide_eq_true bD,bD⟩
 |7,_,h=>by cases h;exact⟨of_decide_eq_true bD,bD⟩
 |n+8,_,h=>by simp[Oq] at h
def exV:List (Nat×Value):=[(0, .agg (Mu exN)),(1, .agg (Mu (NK 3 0))),(2, .agg (Mu (NK 2 4))),(3, .agg (Mu (NK 3 0))),(4, .agg (Mu (NK 2 4))),(5, .agg (Mu (NK 3 0))),(6, .agg (Mu (NK 4 1))),(7, .agg (Mu (NK 4 3)))]
theorem IC:KF prog (Instr.build 29 [(0, .int .i64 1),(2,Ln (λ_=>5) 50),(3, .string {data:= #[9,1,0,0,5,0,3,0,9,2,0,0,9,0,0,0]})].toArray) []=some (.agg (Mu exN),[]):=bD
theorem De:Instr.fill (λi=>some (i*8,8)) ((Array.range (8*8)).map ((Value.agg (Mu opz)).cells[· %(Value.agg (Mu opz)).cells.size]!)) exV=some (Oq.flatMap Oc).toArray:=bD
theorem H6: ∀o∈Oq,OkO o:=by
 have h:OkO exN:=⟨λn d=>(by
  have: ∀n∈exS,0<=n/\n<256:=bx
  exact this n d),bx,uM (a:=0) bx,uM (a:=0) bx⟩
 intro o b;simp only[Oq,gn,Oz,or_false] at b;rcases b with rfl|rfl|rfl|rfl|rfl|rfl|rfl|rfl
 ·exact h
 all_goals exact F7 _ (uM bx)
theorem wQ: ∃n,∀{Fin:Value->World->Prop}{W0:World}{O:Nat}(e:Nat)(s:List Nat)(d:Ka)(eb:Nat->Nat×Nat)(L:Ka),KZ eb d->(∀t∈d,t∈L/\t.2.1=false)->K5 L->
 Kb (F:=FZ prog Fin) (λs=>Mq (K9 s.2) W0 O) prog true 22 [.int .i64 4].toArray n (e+Ml [] Oq,s) L (λs' v L'=>s'.1=e/\v= .bool true/\K5 L'/\ ∀t∈d,t∈L'):=by
 obtain⟨z,gc⟩:=AA;obtain⟨y,r⟩:=AG 8;constructor;intro Fin W0 O e s d eb L f a x;have p: ∀(s:Nat×List Nat)(o:Obj),(Mq (K9 s.2) W0 O).New o:=λ_ _=>trivial;co_applyP ar 19 func22 ntmps22;co_applyP(aR);co_applyP ocm rfl rfl rfl (gc L p x);rintro _ _ _ ⟨rfl,rfl,u⟩;co_applyP(zo);co_applyP oy rfl (aQ IC);co_applyP oy rfl (aQ (F6 3));co_applyP oy rfl (aQ (Dd 2 4));co_applyP oy rfl (aQ (F6 3));co_applyP oy rfl (aQ (Dd 2 4));co_applyP oy rfl (aQ (F6 3));co_applyP oy rfl (aQ (Dd 4 1));co_applyP oy rfl (aQ (Dd 4 3));co_applyP oe rfl (H4 (n:=8) (sz:=8) (vs:=exV) (cs:=(Oq.flatMap Oc).toArray) (p _ _) (hu:=U22) (hs:=tV) (hz:=H5) (hf:=De) (h0:=bx) (h24:=bx));rintro _ _ ⟨b,hb,rfl,rfl⟩;co_applyP(au);co_applyP lC;intro g;co_applyP oc rfl rfl rfl (r e s d eb _ (some ⟨b,0,none⟩) 8 Oq f (λt m=>⟨dc _ (u.s _ (a t m).1),(a t m).2⟩) g (λi o h=>⟨b,0,true,_,_,_,rfl,eT,F8 h⟩) H6 bx bx);rintro _ _ _ ⟨l,rfl,k,j⟩;co_applyP(ax);exact xI _ ⟨rfl,l,rfl,k,j⟩
theorem H7 (k:Nat): ∃n,∀{Fin:Value->World->Prop}{W0:World}{O:Nat}(a:Ka)(eb:Nat->Nat×Nat)(l:Option Addr)(cap:Nat)(os:List MO),KZ eb a->(∀t∈a,t.2.1=false)->K5 a->Scr a l os->(∀o∈os,OkO o)->os.length<=k->os.length<=1954687338610->
 Kb (F:=FZ prog Fin) (λs=>Mq (K9 s.2) W0 O) prog true 7 [.slice l os.length cap].toArray n (Ml [] os+Ml [] Oq,[]) a (λs' v L'=>s'.1=0/\v= .bool true):=by
 obtain⟨L,ge⟩:=wQ;obtain⟨K,x⟩:=AG k;constructor;intro Fin W0 O a eb l cap os b f H I r E M;co_applyP ar 10 func7 ntmps7;co_applyP(av);co_applyP oc rfl rfl rfl (ge (Ml [] os) [] a eb a b (λt d=>⟨d,f t d⟩) H);rintro _ _ _ ⟨z,rfl,m,j⟩;rename_i s1 J;obtain⟨D,A⟩:=s1;obtain rfl:D=0+Ml [] os:=by rw[ic];exact z
 co_applyP(aC);co_applyP oc rfl rfl rfl (x 0 A a eb J l cap os b (λt d=>⟨j t d,f t d⟩) m (λi o h=>(I i o h).elim λg ⟨off,B,cs,e,u,G,C,y⟩=>⟨g,off,B,cs,e,u,G,j _ C,y⟩) r E bl);rintro _ _ _ ⟨p,rfl,_,_⟩;co_applyP(av);exact xI _ ⟨rfl,p,rfl⟩
end Go.Proofs.YtejkelcaljmnoaaGreatDoor
