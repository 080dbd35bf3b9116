/- Part 6 of the proof. -/
import Derived.Test.YtejkelcaljmnoaaGreatDoorHy05
set_option maxRecDepth 100000
set_option maxHeartbeats 4000000
set_option linter.all false
namespace Go.Proofs.YtejkelcaljmnoaaGreatDoor
open Go.Conc Go.Hx Go.Lo Tryz
attribute [local irreducible] EY KO K6 Kw Kc Ku Kd Program.underlying
section
variable {K:Nat}{A:Kq}{S:St}{F G L L':Ka}
theorem Ke.off (h:Ke K A S F L){b:Nat}{o:Obj}(x:K≠b)(hp: ∀q∈S.ps,q.1≠b) (ha: ∀i,(A.a i).b≠some b) (hy: ∀i,(A.y i).b≠some b) (hw:A.wt≠b) (z:A.g≠b) (hF: ∀t∈F,t.1≠b) (u:K4 L b o L'):Ke K A S F L':=by
 have arr: ∀(a:Sl)(xs:List Value)(e:TypeId),a.b≠some b->Kf a xs e L->Kf a xs e L':=λa xs e r ha=>by
  refine ha.mono λc hc o m=>u.ne _ m ?_;show c≠b;rintro rfl;exact r hc
 exact{h with
  fn:=u.fn
  k:=u.ne _ h.k x
  g:=u.ne _ h.g z
  p:=λq j=>u.ne _ (h.p q j) (hp q j)
  pa:=arr _ _ _ (ha 0) h.pa
  rw:=λl s=>arr _ _ _ (ha _) (h.rw l s)
  ya:=λi n=>arr _ _ _ (hy i) (h.ya i n)
  w:=u.ne _ h.w hw
  wa:=λe he=>arr _ _ _ (ha _) (h.wa e he)
  al:=λi c hc=>by obtain⟨xs,d⟩:=h.al i c hc;exact⟨xs,u.ne _ d (by rintro rfl;exact ha i hc)⟩
  yl:=λi c hc=>by obtain⟨xs,d⟩:=h.yl i c hc;exact⟨xs,u.ne _ d (by rintro rfl;exact hy i hc)⟩
  fr:=λt f=>u.ne _ (h.fr t f) (hF t f)}
theorem Ke.aside (h:Ke K A S (G++F) L){b:Nat}{z z':PS}(hm:pb b z∈G)(hF: ∀t∈F,t.1≠b) (u:K4 L b (.cells (Kg z') 99) L'):Ke K A S ((pb b z'::G.filter λt=> !decide (t.1=b))++F) L':=by
 have a:=h.fd (pb b z) (nx _ hm);have d:=h.fr (pb b z) (nx _ hm);have i:Ke K A S ((G.filter λt=> !decide (t.1=b))++F) L:=h.less λt e=>by
  rcases cE.1 e with h|h
  ·exact nx _ (l4.1 h).1
  ·exact rv _ h
 have j:=i.off (b:=b) (ft a.1) (λq f=>ft (a.2.1 q f)) a.2.2.1 a.2.2.2.1 (ft a.2.2.2.2) (h.fn.ne h.g d (aB bx)) (λt e=>by
  rcases cE.1 e with h|h
  ·have:=(l4.1 h).2;simpa using this
  ·exact hF t h) u
 exact j.beside u.self a.2.1
end
def St.r0 (S:St)(b:Nat)(v:Int):St:=match S.get b with
 |some z=>S.ID b (z.r0 v)
 |none=>S
theorem dK {S:St}{id:Int}{q:Nat×PS}(h:S.find id=some q):q∈S.ps/\(q.2.id:Int)=id:=by
 unfold St.find at h;exact⟨Ox h,by simpa using OU h⟩
theorem Ke.r0 {K:Nat}{A:Kq}{S:St}{F G L L':Ka}(h:Ke K A S (G++F) L){b:Nat}{z:PS}{v:Int}(hz:(b,z)∈S.ps\/(pb b z∈G/\z.st=6))(hF: ∀t∈F,t.1≠b) (u:K4 L b (.cells (Kg (z.r0 v)) 99) L'): ∃a,Lv b (S.r0 b v) a/\Ke K A (S.r0 b v) (a++F) L':=by
 rcases hz with hz|⟨hz,d⟩
 ·have e:S.r0 b v=S.ID b (z.r0 v):=by unfold St.r0;rw[aY h.pn hz]
  rw[e];exact⟨G, .inl ⟨_,ai hz⟩,h.ID hz u⟩
 ·have f:=h.fd (pb b z) (nx _ hz);have e:S.r0 b v=S:=by unfold St.r0;rw[gD λr g=>ft (f.2.1 r g)]
  rw[e];exact⟨_, .inr ⟨z.r0 v,eT,d⟩,h.aside hz hF u⟩
theorem Lv.at {K:Nat}{A:Kq}{S:St}{F G L:Ka}(h:Ke K A S (G++F) L){b:Nat}(hs:Lv b S G): ∃z,pb b z∈L/\((b,z)∈S.ps\/(pb b z∈G/\z.st=6)):=by
 rcases hs with ⟨z,a⟩|⟨z,a,d⟩
 ·exact⟨z,h.p _ a, .inl a⟩
 ·exact⟨z,h.fr _ (nx _ a), .inr ⟨a,d⟩⟩
theorem EX: ∃n,∀{f}{F:Kn f}{e:DM F}{a s}(K:Nat)(A:Kq)(S:St)(Fr L:Ka)(eb:Nat->Nat×Nat)(b:Nat)(x:PS)(ch:Value),Ke K A S Fr L->KZ eb Fr->Inv S->(b,x)∈S.ps->S.find (x.r 0)=none->
 Kb e prog a 133 [ptr K,ptr b,ch].toArray n s L (λs' v L'=>s=s'/\L=L'/\v=LZ eb 6):=by
 obtain⟨z,p⟩:=jY;constructor;intro f F e a s K A S Fr L eb b x ch d l u hb k;have j:0<=x.r 0/\x.r 0<65536:=(u.wf _ hb).r 0 bl;have m:IntKind.i64.wrap (x.r 0)=x.r 0:=ag
 have o:At L b 7 (.int .u16 (x.r 0)):=d.pat hb (bu x (i:=0) bl);have y:=(l.mono d.fr).g 6 bx bx;co_applyP ar 37 func133 ntmps133;co_applyP(bZ);simp only[m];co_applyP oc rfl rfl rfl (p K A S Fr L (x.r 0) d);rintro _ _ _ ⟨rfl,rfl,rfl⟩;rw[k];co_applyP(ay);co_applyP aK (n₂:=0);co_applyP(aH);co_applyP(ax);exact xI _ ⟨rfl,rfl,rfl,rfl⟩
theorem EZ: ∃n,∀{j}{F:Kn j}{f:DM F}{a s}(K:Nat)(A:Kq)(S:St)(Fr L:Ka)(eb:Nat->Nat×Nat)(b:Nat)(x:PS)(ch:Value)(c:Nat)(y:PS),Ke K A S Fr L->KZ eb Fr->Inv S->(b,x)∈S.ps->S.find (x.r 0)=some (c,y)->y.st=6->
 Kb f prog a 133 [ptr K,ptr b,ch].toArray n s L (λs' v L'=>s=s'/\L=L'/\v=LZ eb 6):=by
 obtain⟨D,z⟩:=jY;constructor;intro j F f a s K A S Fr L eb b x ch c y d o B hb e l;have k:0<=x.r 0/\x.r 0<65536:=(B.wf _ hb).r 0 bl;have p:IntKind.i64.wrap (x.r 0)=x.r 0:=ag
 have u:At L b 7 (.int .u16 (x.r 0)):=d.pat hb (bu x (i:=0) bl);have C:=(o.mono d.fr).g 6 bx bx;have hc:=(dK e).1;have m:At L c 2 (.int .i64 (y.st:Nat)):=d.pat hc (i:=2) rfl;co_applyP ar 37 func133 ntmps133;co_applyP(bZ);simp only[p];co_applyP oc rfl rfl rfl (z K A S Fr L (x.r 0) d);rintro _ _ _ ⟨rfl,rfl,rfl⟩;rw[e];co_applyP(ay);co_applyP aK (n₂:=0);co_applyP(bZ);change Kw ..;rw[l];co_applyP(aC);exact xI _ ⟨rfl,rfl,rfl,rfl⟩
theorem E0: ∃n,∀{p:KC}{Sh:Loc->Prop}{E Dn:Nat}{PostB:World->Prop}{Aft:Goroutine->World->Prop}{W:World}{O:Nat}{G0:List (Nat×Obj)}{vs:List Value}(K:Nat)(A:Kq)(S:St)(Fr L:Ka)(eb:Nat->Nat×Nat)(b:Nat)(x:PS)(c:Nat)(y:PS),(∀s,NewK (Kx prog p Sh E Dn PostB Aft W O G0 s))->Ke K A S Fr L->KZ eb Fr->Inv S->(b,x)∈S.ps->S.find (x.r 0)=some (c,y)->y.st≠6->
 Kb (Kx prog p Sh E Dn PostB Aft W O G0) prog false 133 [ptr K,ptr b, .chan (some E)].toArray n (LK S.now 4 y.id 65280::vs) L (λs' v L'=>vs=s'/\v= .nilIface/\ ∃T G,Lv b ((S.fin c y 65280).r0 b 0) G/\Ke K T ((S.fin c y 65280).r0 b 0) (G++Fr) L'):=by
 obtain⟨Z,P⟩:=jY;obtain⟨X,C⟩:=yZ;constructor;intro p Sh E Dn PostB Aft W O G0 vs K A S Fr L eb b x c y Q e I o hb m U;have u:0<=x.r 0/\x.r 0<65536:=(o.wf _ hb).r 0 bl;have M:IntKind.i64.wrap (x.r 0)=x.r 0:=ag
 have N:At L b 7 (.int .u16 (x.r 0)):=e.pat hb (bu x (i:=0) bl);have hc:=(dK m).1;have D:At L c 2 (.int .i64 (y.st:Nat)):=e.pat hc (i:=2) rfl;have R:((y.st:Int)==6)=false:=ao
 have g: ∀t∈Fr,t.1≠b:=λt F=>(e.fd t F).2.1 _ hb;co_applyP ar 37 func133 ntmps133;co_applyP(bZ);simp only[M];co_applyP oc rfl rfl rfl (P K A S Fr L (x.r 0) e);rintro _ _ _ ⟨rfl,rfl,rfl⟩;rw[m];co_applyP(aH);change Kw ..;rw[R];co_applyP(aC);co_applyP oc rfl rfl rfl (C K A S Fr L eb c y 65280 Q e I o hc);rintro _ _ _ ⟨rfl,rfl,J,G,a,d⟩;co_applyP(aR);rename_i V;obtain⟨z,l,B⟩:=Lv.at d (a _ hb);co_applyP osm rfl (hs:=bh) (hm:=l) (hi:=by first|decide|(rw[bq];omega)|(rw[bP];omega));intro Y f;rw[eG] at f;obtain⟨H,k,j⟩:=d.r0 B g f;co_applyP(au);exact xI _ ⟨rfl,rfl,rfl,J,H,k,j⟩
def St.IZ (S:St)(b:Nat)(x:PS):Option Nat×St:=if x.file (x.r 0)=(0,0) then(some 3,S) else(none,(S.shut b (x.r 0).toNat).r0 b 0)
theorem BZ: ∃n,∀{p}{F:Kn p}{m:DM F}{a s}(K:Nat)(A:Kq)(S:St)(Fr L:Ka)(eb:Nat->Nat×Nat)(b:Nat)(x:PS),(∀cs,(m s).New (.cells cs 96))->Ke K A S Fr L->KZ eb Fr->Inv S->(b,x)∈S.ps->x.file (x.r 0)=(0,0)->
 Kb m prog a 137 [ptr K,ptr b].toArray n s L (λs' v L'=>s=s'/\v=LZ eb 3/\Ke K A S Fr L'):=by
 obtain⟨I,g0⟩:=lT;obtain⟨H,B⟩:=jm;constructor;intro p F m a s K A S Fr L eb b x o l y C hb u;have e:0<=x.r 0/\x.r 0<65536:=(C.wf _ hb).r 0 bl;have z:At L b 7 (.int .u16 (x.r 0)):=l.pat hb (bu x (i:=0) bl);co_applyP ar 27 func137 ntmps137;co_applyP(bZ);co_applyP aK (n₂:=0);co_applyP(ax);co_applyP ocm rfl rfl rfl (g0 K A S Fr L b x (x.r 0) o l hb e);rintro _ _ _ ⟨rfl,rfl,f,k⟩;rename_i D;co_applyP oc rfl rfl rfl (B D (x.file (x.r 0)) o);rintro _ _ _ ⟨rfl,rfl,j⟩;co_applyP(zo);change Kw ..;rename_i E;have d:=(l.of f k).ext j;have G:=(y.mono d.fr).g 3 bx bx;rw[decide_eq_true u];co_applyP(aC);exact xI _ ⟨rfl,rfl,rfl,d⟩
theorem Ca: ∃n,∀{J}{F:Kn J}{G:DM F}{a s}(K:Nat)(A:Kq)(S:St)(Fr L:Ka)(eb:Nat->Nat×Nat)(b:Nat)(x:PS),(∀s,NewK (G s))->Ke K A S Fr L->KZ eb Fr->Inv S->(b,x)∈S.ps->S.out b->x.file (x.r 0)≠(0,0)->
 Kb G prog a 137 [ptr K,ptr b].toArray n s L (λs' v L'=>s=s'/\v= .nilIface/\ ∃V,Ke K V ((S.shut b (x.r 0).toNat).r0 b 0) Fr L'):=by
 obtain⟨n0,g0⟩:=lT;obtain⟨n1,T⟩:=jm;obtain⟨X,O⟩:=yX;constructor;intro J F G a s K A S Fr L eb b x C D P E hb j H;have l:0<=x.r 0/\x.r 0<65536:=(E.wf _ hb).r 0 bl;have R:At L b 7 (.int .u16 (x.r 0)):=D.pat hb (bu x (i:=0) bl);have W:x.r 0<6:=by
  refine ti λh=>H ?_;unfold PS.file;rw[if_neg h]
 have Q:IntKind.i64.wrap (x.r 0)=((x.r 0).toNat:Nat):=ag
 co_applyP ar 27 func137 ntmps137;co_applyP(aH);co_applyP(zo);co_applyP ocm rfl rfl rfl (g0 K A S Fr L b x (x.r 0) (C _).k D hb l);rintro _ _ _ ⟨rfl,rfl,y,B⟩;rename_i U;co_applyP oc rfl rfl rfl (T U (x.file (x.r 0)) (C _).k);rintro _ _ _ ⟨rfl,rfl,z⟩;co_applyP(zo);change Kw ..;rename_i M;have u:=(D.of y B).ext z;rw[decide_eq_false H];co_applyP(aR);rw[Q];co_applyP oc rfl rfl rfl (O K A S Fr M eb b x (x.r 0).toNat C u P E hb j bl);rintro _ _ _ ⟨rfl,rfl,N,e⟩;co_applyP(aR);rename_i Z;have I:=E.shut hb j (x.r 0).toNat;have d:=I.m b _ j (ai hb);co_applyP osm rfl (hs:=bh) (hm:=e.p _ d) (hi:=by first|decide|(rw[bq];omega)|(rw[bP];omega));intro Y f;rw[eG] at f;have o:=e.ID d f;co_applyP(au);refine xI _ ⟨rfl,rfl,rfl,N, ?_⟩;unfold St.r0;rw[aY I.i.g.pn d];exact o
theorem Cb: ∃n,∀{l}{F:Kn l}{d:DM F}{a s}(K:Nat)(A:Kq)(S:St)(Fr L:Ka)(eb:Nat->Nat×Nat)(b:Nat)(x:PS),(∀s,NewK (d s))->Ke K A S Fr L->KZ eb Fr->Inv S->(b,x)∈S.ps->S.out b->
 Kb d prog a 137 [ptr K,ptr b].toArray n s L (λs' v L'=>s=s'/\v=Ok eb (S.IZ b x).1/\ ∃C,Ke K C (S.IZ b x).2 Fr L'):=by
 obtain⟨y,g0⟩:=BZ;obtain⟨u,B⟩:=Ca;refine⟨y+u,λ{l F d a s} K A S Fr L eb b x g i f j hb m=>aG (x.file (x.r 0)=(0,0)) (λh=> ?_) λh=> ?_⟩
 ·have e:S.IZ b x=(some 3,S):=by unfold St.IZ;rw[if_pos h]
  rw[e];exact aJ (g0 K A S Fr L eb b x (g _).k i f j hb h) λs' v L' ⟨z,p,o⟩=>⟨z,p,A,o⟩
 ·have e:S.IZ b x=(none,(S.shut b (x.r 0).toNat).r0 b 0):=by unfold St.IZ;rw[if_neg h]
  rw[e];exact B K A S Fr L eb b x g i f j hb m h
theorem Cc (xs:List Nat)(b:Nat):decide (0<=idx xs b)=decide (b∈xs):=by
 unfold idx;cases h:xs.findIdx? (· ==b) with
 |none=>
  have:=wb.1 h;have a:b∉xs:=λhm=>by simpa using this b hm
  simp[a]
 |some i=>
  obtain⟨d,f,_⟩:=OG.1 h;have hm:b∈xs:=by
   have e:xs[i]=b:=by simpa using f
   rw[<-e];exact List.getElem_mem d
  simp[hm]
theorem s4: ∃n,∀{f}{F:Kn f}{e:DM F}{d s}(L:Ka)(a:Sl)(xs:List Nat)(b:Nat),xs.length<=8->Kf a (xs.map ptr) 93 L->(∀c∈xs,∃x,pb c x∈L)->(∃x,pb b x∈L)->
 Kb e prog d 153 [Ky a xs.length,ptr b].toArray n s L (λs' v L'=>s=s'/\L=L'/\v= .bool (decide (b∈xs))):=by
 obtain⟨k,j⟩:=uc;constructor;intro f F e d s L a xs b i g hc hb;co_applyP ar 9 func153 ntmps153;co_applyP(aC);co_applyP oc rfl rfl rfl (j L a xs b i g hc hb);rintro _ _ _ ⟨rfl,rfl,rfl⟩;co_applyP(av);exact xI _ ⟨rfl,rfl,rfl,by rw[<-Cc]⟩
def PS.IQ (x:PS)(use most:Nat):Option Nat:=if(x.file (x.r 0)).2≠use then some 3 else if x.r 2=0\/(most:Int)<x.r 2 then some 9 else if 64<x.r 1+x.r 2 then some 8 else none
theorem ml: ∃n,∀{H}{F:Kn H}{G:DM F}{j s}(K:Nat)(A:Kq)(S:St)(Fr L:Ka)(eb:Nat->Nat×Nat)(b:Nat)(x:PS)(use a:Nat),(∀cs,(G s).New (.cells cs 96))->Ke K A S Fr L->KZ eb Fr->Inv S->(b,x)∈S.ps->
 Kb G prog j 152 [ptr b, .int .i64 (use:Nat), .int .i64 (a:Nat)].toArray n s L (λs' v L'=>s=s'/\v=Ok eb (x.IQ use a)/\Ext L L'):=by
 obtain⟨V,g0⟩:=lT;constructor;intro H F G j s K A S Fr L eb b x use a Q m B E hb;have o:0<=x.r 0/\x.r 0<65536:=(E.wf _ hb).r 0 bl;have I:0<=x.r 1/\x.r 1<65536:=(E.wf _ hb).r 1 bl;have J:0<=x.r 2/\x.r 2<65536:=(E.wf _ hb).r 2 bl;have O:At L b 7 (.int .u16 (x.r 0)):=m.pat hb (bu x (i:=0) bl);have M:At L b 8 (.int .u16 (x.r 1)):=m.pat hb (bu x (i:=1) bl);have T:At L b 9 (.int .u16 (x.r 2)):=m.pat hb (bu x (i:=2) bl);have w1:IntKind.i64.wrap (x.r 1)=x.r 1:=ag
 have w2:IntKind.i64.wrap (x.r 2)=x.r 2:=ag
 have w3:IntKind.i64.wrap (x.r 1+x.r 2)=x.r 1+x.r 2:=ag
 co_applyP ar 51 func152 ntmps152;co_applyP(aH);co_applyP(aH);co_applyP(ay);simp only[w1,w2];co_applyP ocm rfl rfl rfl (g0 K A S Fr L b x (x.r 0) Q m hb o);rintro _ _ _ ⟨rfl,rfl,u,C⟩;co_applyP(au);change Kw ..;rename_i U;have e:Ext L U:=⟨u,C⟩;have l:=m.ext e;have R:=(B.mono l.fr).g 3 bx bx;have P:=(B.mono l.fr).g 8 bx bx;have N:=(B.mono l.fr).g 9 bx bx;co_applyP aI rfl;intro D;co_applyP(au);change∃v,Ko .. =some v/\_
 ·have d:(x.file (x.r 0)).2≠use:=by simp at D;omega
  exact⟨_,rfl,rfl,by unfold PS.IQ;rw[if_pos d];rfl,e⟩
 intro D;have d: ¬(x.file (x.r 0)).2≠use:=by simp at D;omega
 co_applyP cr (x.r 2=0);intro h0
 ·have y:(x.r 2==0)=true:=by simp[h0]
  co_applyP(av);rw[y];co_applyP(bZ);exact xI _ ⟨rfl,rfl,by unfold PS.IQ;rw[if_neg d,if_pos (.inl h0)];rfl,e⟩
 intro h0;have y:(x.r 2==0)=false:=by simp[h0]
 co_applyP(av);rw[y];co_applyP(aC);co_applyP aI rfl;intro z;co_applyP(au);change∃v,Ko .. =some v/\_
 ·have f:(a:Int)<x.r 2:=by simpa using z
  exact⟨_,rfl,rfl,by unfold PS.IQ;rw[if_neg d,if_pos (.inr f)];rfl,e⟩
 intro z;co_applyP(aR);change Kw ..;have f: ¬(x.r 2=0\/(a:Int)<x.r 2):=λh=>h.elim h0 λh=>by simp at z;omega
 simp only[w3];co_applyP aI rfl;intro p;co_applyP(au);change∃v,Ko .. =some v/\_
 ·have k:64<x.r 1+x.r 2:=by simpa using p
  exact⟨_,rfl,rfl,by unfold PS.IQ;rw[if_neg d,if_neg f,if_pos k];rfl,e⟩
 intro p;co_applyP(au);change∃v,Ko .. =some v/\_;have k: ¬64<x.r 1+x.r 2:=by simpa using p
 exact⟨_,rfl,rfl,by unfold PS.IQ;rw[if_neg d,if_neg f,if_neg k];rfl,e⟩
end Go.Proofs.YtejkelcaljmnoaaGreatDoor
namespace Go.Lo
open Go.Conc Go.Hx
section
variable {P:Program}{New:Obj->Prop}{N:Nat}{ε:Env}{L:Ka}{d:Option Tmp}{ty:TypeId}{ps:String}{af:Array Edge}{g:Option (Nat×Bool)}
theorem Hh {x o:Operand}{t y et:TypeId}{r clock i c:Nat}{k:Nat×Nat}{v:Value}{l:LW}(hnd:(L.map (·.1)).Nodup)(H:M5 P y)(hu:P.underlying t=some (.map y et))(hm:(r,true,K8 l clock)∈L)(hl:lk k l 0=some (i,v))(hc:l[i]? =some (k,v,c))(hx:ev ε x=some (.map (some r)):=by rfl)(hi:ev ε o=some (kv k):=by rfl):
 EO P New N ε L ⟨d, .mapEntry t x o,ty,ps,af,g⟩ (λr' p=>r'= .tuple #[v, .int .i64 (c:Nat)]/\K4 L r (K8 l clock) p):=by
 intro a u;obtain⟨n,s⟩:=mx hm;show KI P New (Instr.mapEntry t (a.eval x) (a.eval o)>>=λv=>pure (Next.value v)) _ L;rw[u.ev hx,u.ev hi,ak];unfold Instr.mapEntry;rw[ak,aT hu];simp only[ak];refine eM hm rfl ?_;simp only[K8,ak];refine bU (K:=(· =())) (λ_ _=> ?_) _ (aZ (H.ck _ _ _) rfl);refine bU (K:=(· =lk k l 0)) (λ_ e=> ?_) _ (eg H l rfl);subst e;rw[hl];have m:((((l.map Mn).toArray[i]?).map (·.key)).getD (kv k))=kv k:=by simp[hc,Mn]
 have f:((((l.map Mn).toArray[i]?).map (·.born)).getD 0)=c:=by simp[hc,Mn]
 simp only[ak,m,f];have z:Instr.keyThatStays (kv k) (kv k)=pure (kv k):=by
  unfold Instr.keyThatStays;have:Instr.sameBits 10000 (kv k) (kv k)=true:=by simp[Instr.sameBits]
  rw[this];rfl
 rw[z,bg];have he:(l.map Mn).toArray.modify i (λe=>{e with key:=kv k})=(l.map Mn).toArray:=by
  apply gm;simp only[Array.toList_modify];apply xt;intro j;simp only[List.getElem?_modify,sE];by_cases e:i=j
  ·subst e;simp[hc,Mn]
  ·cases l[j]? with
   |none=>rfl
   |some e'=>simp[e]
 rw[he];refine dw s rfl rfl ?_;rw[bg,bg];have b:((((l.map Mn).toArray[i]?).map (λx=>((x.born:Nat):Int))).getD 0)=(c:Nat):=by simp[hc,Mn]
 refine⟨?_,cO hnd s⟩;rw[b];rfl
theorem Hi {x f:Operand}{t o et:TypeId}{r clock:Nat}{k:Nat×Nat}{z:Value}{l:LW}(hnd:(L.map (·.1)).Nodup)(H:M5 P o)(hu:P.underlying t=some (.map o et))(hz:zeroAt P et=some z)(hm:(r,true,K8 l clock)∈L)(hl:lk k l 0=none)(hx:ev ε x=some (.map (some r)):=by rfl)(hi:ev ε f=some (kv k):=by rfl):
 EO P New N ε L ⟨d, .mapEntry t x f,ty,ps,af,g⟩ (λr' i=>r'= .tuple #[z, .int .i64 (clock:Nat)]/\K4 L r (K8 (l++[(k,z,clock)]) (clock+1)) i):=by
 intro a m;obtain⟨n,j⟩:=mx hm;show KI P New (Instr.mapEntry t (a.eval x) (a.eval f)>>=λv=>pure (Next.value v)) _ L;rw[m.ev hx,m.ev hi,ak];unfold Instr.mapEntry;rw[ak,aT hu];simp only[ak];refine eM hm rfl ?_;simp only[K8,ak];refine bU (K:=(· =())) (λ_ _=> ?_) _ (aZ (H.ck _ _ _) rfl);refine bU (K:=(· =lk k l 0)) (λ_ e=> ?_) _ (eg H l rfl);subst e;rw[hl];simp only[ak];refine bU (K:=(· =z)) (λb e=> ?_) _ (by rw[iq hz]);obtain rfl:b=z:=e;refine dw j rfl rfl ?_;rw[bg,bg];refine⟨rfl, ?_⟩;have he:(l.map Mn).toArray.push ⟨kv k,b,clock⟩=((l++[(k,b,clock)]).map Mn).toArray:=by apply gm;simp[Mn]
 rw[he];exact cO hnd j
theorem Hj {x i y:Operand}{t:TypeId}{r clock c:Nat}{k:Nat×Nat}{v v0:Value}{l1 l2:LW}(hnd:(L.map (·.1)).Nodup)(hm:(r,true,K8 (l1++(k,v0,c)::l2) clock)∈L)(hc: ∀e∈l1,e.2.2≠c) (hx:ev ε x=some (.map (some r)):=by rfl) (hi:ev ε i=some (.int .i64 (c:Nat)):=by rfl) (hy:ev ε y=some v:=by rfl):
 EO P New N ε L ⟨d, .entryStore t x i y,ty,ps,af,g⟩ (λr' l=>r'=undef/\K4 L r (K8 (l1++(k,v,c)::l2) clock) l):=by
 intro a f;obtain⟨n,o⟩:=mx hm;show KI P New (Instr.entryStore t (a.eval x) (a.eval i) (a.eval y)>>=λ_=>pure Next.skip) _ L;rw[f.ev hx,f.ev hi,f.ev hy,ak];unfold Instr.entryStore;simp only[ak];refine eM hm rfl ?_;simp only[K8,ak];have s:((l1++(k,v0,c)::l2).map Mn).toArray.findIdx? (λe=>(e.born:Int)==(c:Int))=some l1.length:=by
  rw[List.findIdx?_toArray,l3,List.findIdx?_append,wb.2 (by
   intro e he;obtain⟨p,b,rfl⟩:=cm.1 he;have:=hc p b;simp[Mn];omega)]
  simp[O0,Mn]
 refine bU (K:=(· =(c:Int))) (λ_ e=> ?_) _ (by exact rfl);subst e;rw[s];refine dw o rfl rfl ?_;refine⟨trivial, ?_⟩;have he:((l1++(k,v0,c)::l2).map Mn).toArray.modify l1.length (λe=>{e with val:=v})=((l1++(k,v,c)::l2).map Mn).toArray:=by
  apply gm;simp only[Array.toList_modify];apply xt;intro j;simp only[List.getElem?_modify,sE];by_cases e:l1.length=j
  ·subst e;simp[Mn]
  ·simp only[if_neg e];rcases Nat.lt_or_gt_of_ne (ft e) with h|h
   ·rw[rD h,rD h];simp
   ·rw[Oy bl,Oy bl];obtain⟨m,hm⟩: ∃m,j-l1.length=m+1:=⟨j-l1.length-1,bl⟩;rw[hm];simp
 rw[he];exact cO hnd o
end
end Go.Lo
namespace Go.Proofs.YtejkelcaljmnoaaGreatDoor
open Go.Conc Go.Hx Go.Lo Tryz
attribute [local irreducible] EY KO K6 Kw Kc Ku Kd Program.underlying
def KT (b:Nat)(k:Nat×Nat)(l:Wt):Wt:=if∀e∈l,e.1≠k then l++[(k,[b])] else l.map λe=>if e.1=k then(k,e.2++[b]) else e
def St.IN (S:St)(b:Nat)(k:Nat×Nat):St:=S.I8 (KT b k S.wt)
def St.Jf (S:St)(b:Nat)(x:PS)(use most:Nat):Option Nat×St:=match x.IQ use most with
 |some i=>(some i,S)
 |none=>
  let S2:=(S.IN b (x.file (x.r 0))).look (x.file (x.r 0)).1
  (none,if b∈S2.rowAt (x.file (x.r 0)) then(match S2.get b with
   |some z=>S2.IT b z use
   |none=>S2) else S2)
theorem gG {b:Nat}{k:Nat×Nat}{l1 l2:Wt}{xs:List Nat}(h1: ∀e∈l1,e.1≠k) (h2: ∀e∈l2,e.1≠k):KT b k (l1++(k,xs)::l2)=l1++(k,xs++[b])::l2:=by
 unfold KT;rw[if_neg (λh=>h (k,xs) bE rfl)];rw[l3,ix,if_pos rfl];have e: ∀l:Wt,(∀e∈l,e.1≠k)->l.map (λe=>if e.1=k then(k,e.2++[b]) else e)=l:=λl h=>by
  conv=>rhs;rw[<-List.map_id l]
  apply k0;intro e he;rw[if_neg (h e he)];rfl
 rw[e l1 h1,e l2 h2]
theorem eU {b:Nat}{k:Nat×Nat}{l:Wt}(h: ∀e∈l,e.1≠k):KT b k l=l++[(k,[b])]:=by unfold KT;rw[if_pos h]
theorem Inv.IN {S:St}{b:Nat}{x:PS}{k:Nat×Nat}(h:Inv S)(hb:(b,x)∈S.ps)(ho:S.out b)(ha:NQ x k)(s:KX k):Inv (S.IN b k):=by
 by_cases o: ∀e∈S.wt,e.1≠k
 ·have e:(S.IN b k).wt=S.wt++[(k,[b])]:=eU o;have cs: ∀d∈(S.IN b k).wt,d∈S.wt\/d=(k,[b]):=λd he=>by rw[e] at he;simpa using he
  exact{
   g:=⟨h.g.pn,h.g.p8,h.g.lv,h.g.rn,h.g.rm,h.g.rr⟩
   wf:=h.wf,fl:=h.fl,y8:=h.y8,yb:=h.yb
   kn:=by
    rw[e,l3];refine ss.2 ⟨h.kn,bE,λa i c hc=> ?_⟩;simp at hc;subst hc;rintro rfl;obtain⟨d,m,y⟩:=cm.1 i;exact o d m y
   ne:=λd he=>(cs d he).elim (h.ne d) λe=>by subst e;simp
   nd:=λd he=>(cs d he).elim (h.nd d) λe=>by subst e;simp
   ke:=λd he=>(cs d he).elim (h.ke d) λe=>by subst e;exact s
   rm:=λd he c hc=>(cs d he).elim (λf=>h.rm d f c hc) λe=>by subst e;simp at hc;subst hc;exact⟨x,hb,ha⟩}
 ·have r:k∈S.wt.map (·.1):=ti λp=>o λe he B=>p (cm.2 ⟨e,he,B⟩);obtain⟨C,n,A,l,z,u⟩:=cu h.kn r;have e:(S.IN b k).wt=C++(k,n++[b])::A:=by show KT b k S.wt=_;rw[l,gG z u]
  have j:(k,n)∈S.wt:=by rw[l];simp
  have cs: ∀d∈(S.IN b k).wt,d∈S.wt\/d=(k,n++[b]):=λd he=>by
   rw[e] at he;rcases cE.1 he with f|f
   ·exact .inl (by rw[l];simp[f])
   ·rcases gn.1 f with f|f
    ·exact .inr f
    ·exact .inl (by rw[l];simp[f])
  exact{
   g:=⟨h.g.pn,h.g.p8,h.g.lv,h.g.rn,h.g.rm,h.g.rr⟩
   wf:=h.wf,fl:=h.fl,y8:=h.y8,yb:=h.yb
   kn:=by
    have:=h.kn;rw[l] at this;rw[e];simpa using this
   ne:=λd he=>(cs d he).elim (h.ne d) λe=>by subst e;simp
   nd:=λd he=>(cs d he).elim (h.nd d) λe=>by
    subst e;refine ss.2 ⟨h.nd _ j,bE,λa i c hc=> ?_⟩;simp at hc;subst hc;rintro rfl;exact ho _ j i
   ke:=λd he=>(cs d he).elim (h.ke d) λe=>by subst e;exact s
   rm:=λd he c hc=>(cs d he).elim (λf=>h.rm d f c hc) λe=>by
    subst e;rcases cE.1 hc with f|f
    ·exact h.rm _ j c f
    ·simp at f;subst f;exact⟨x,hb,ha⟩}
theorem Hk: ∃n,∀{j}{F:Kn j}{f:DM F}{d s}(K:Nat)(A:Kq)(S:St)(Fr L:Ka)(eb:Nat->Nat×Nat)(b:Nat)(x:PS)(use a i:Nat),(∀cs,(f s).New (.cells cs 96))->Ke K A S Fr L->KZ eb Fr->Inv S->(b,x)∈S.ps->x.IQ use a=some i->
 Kb f prog d 138 [ptr K,ptr b, .int .i64 (use:Nat), .int .i64 (a:Nat)].toArray n s L (λs' v L'=>s=s'/\v=LZ eb i/\Ke K A S Fr L'):=by
 obtain⟨o,g0⟩:=ml;constructor;intro j F f d s K A S Fr L eb b x use a i l g k m hb hc;co_applyP ar 53 func138 ntmps138;co_applyP(ax);co_applyP aK (n₂:=0);co_applyP(av);co_applyP oc rfl rfl rfl (g0 K A S Fr L eb b x use a l g k m hb);rintro _ _ _ ⟨rfl,rfl,e⟩;rw[hc];co_applyP(av);co_applyP oy rfl (dN (v:=LZ eb i) (c:=false) (hv:= .inr ⟨_,_,rfl,rfl⟩) (hu:=underlying168));co_applyP(aR);exact xI _ ⟨rfl,rfl,rfl,g.ext e⟩
theorem Ke.joinW1 {K:Nat}{A:Kq}{S:St}{F L M L':Ka}(m:Ke K A S F L)(N:Inv S){b:Nat}{k:Nat×Nat}{l1 l2:Wt}{xs s u:List Nat}{x:Nat}{j:Sl}(hwt:S.wt=l1++(k,xs)::l2)(h1: ∀e∈l1,e.1≠k) (h2: ∀e∈l2,e.1≠k) (f:A.born=s++x::u) (I:l1.length=s.length) (hp:Ap1 L (A.a (slot k)) xs b j M) (B:K4 M A.wt (K8 (Kk A l1 s++(k,Ky j (xs.length+1),x)::Kk A l2 u) A.clock) L'):Ke K (A.I8 k j A.born A.clock) (S.IN b k) F L':=by
 have H:(k,xs)∈S.wt:=by rw[hwt];simp
 have E:MH k:=(N.ke _ H).key;have g: ∀e∈S.wt,e.1≠k->slot e.1≠slot k:=λe he r h=>r (lV (N.ke e he).key E h);have z: ∀(l:Wt)(D:List Nat),(∀e∈l,e∈S.wt/\e.1≠k)->Kk (A.I8 k j A.born A.clock) l D=Kk A l D:=λl D h=>eD λe he=>by
  have:=g e (h e he).1 (h e he).2;simp[Kq.I8,put,this]
 have p: ∀e∈l1,e∈S.wt/\e.1≠k:=λe he=>⟨by rw[hwt];simp[he],h1 e he⟩;have n: ∀e∈l2,e∈S.wt/\e.1≠k:=λe he=>⟨by rw[hwt];simp[he],h2 e he⟩;have R:S.IN b k=S.I8 (l1++(k,xs++[b])::l2):=by unfold St.IN;rw[hwt,gG h1 h2]
 have y: ∀c,(A.a (slot k)).b=some c->c≠A.wt:=λc hc e=>by
  obtain⟨T,C⟩:=m.al _ _ hc;rw[e] at C;exact absurd (m.fn _ _ _ _ _ C m.w).2 (by simp[Le])
 have J:(A.a (slot k)).b≠some A.wt:=λe=>y _ e rfl;have r: ∀c,j.b=some c->c≠A.wt:=λc hc e=>by
  rcases hp.d c hc with h|h
  ·exact y c h e
  ·exact h _ m.w e.symm
 rw[R];refine m.JF B.fn (λt G W Q=>B.ne _ (hp.sub _ G Q) W) ?_ (by rw[m.wl,hwt];simp) m.bn m.bc ?_ (λc hc=>⟨_,B.ne _ (hp.ok.mem hc) (r c hc)⟩) (λc hc=> ?_)
 ·have:=B.self;have V:Kk (A.I8 k j A.born A.clock) (l1++(k,xs++[b])::l2) A.born=Kk A l1 s++(k,Ky j (xs.length+1),x)::Kk A l2 u:=by
   conv=>lhs;rw[f]
   rw[<-f,f,cH _ I];show Kk (A.I8 k j (s++x::u) A.clock) l1 s++(k,Ky ((A.I8 k j (s++x::u) A.clock).a (slot k)) (xs++[b]).length,x)::Kk (A.I8 k j (s++x::u) A.clock) l2 u=_;rw[<-f,z _ _ p,z _ _ n];have U:(A.I8 k j A.born A.clock).a (slot k)=j:=by simp[Kq.I8,put]
   rw[U];simp
  rw[V];exact this
 ·intro e he;rcases cE.1 he with h|h
  ·exact .inr ⟨(p e h).1,g e (p e h).1 (p e h).2⟩
  ·rcases gn.1 h with rfl|h
   ·exact .inl ⟨rfl,hp.ok.mono λc hc o O=>B.ne _ O (r c hc)⟩
   ·exact .inr ⟨(n e h).1,g e (n e h).1 (n e h).2⟩
 ·rcases hp.d c hc with h|h
  ·exact .inl h
  ·refine .inr ⟨λi P=> ?_,λt G=>h t (m.fr t G)⟩;obtain⟨T,C⟩:=m.al i c P;exact h _ C rfl
theorem Ke.joinW0 {K:Nat}{A:Kq}{S:St}{F L L0 D L':Ka}(l:Ke K A S F L)(O:Inv S){b:Nat}{k:Nat×Nat}{j:Sl}{z:Value}(N:KX k)(hn: ∀e∈S.wt,e.1≠k) (m:K4 L A.wt (K8 (Kk A S.wt A.born++[(k,z,A.clock)]) (A.clock+1)) L0) (hp:Ap1 L0 ⟨none,[]⟩ [] b j D) (r:K4 D A.wt (K8 (Kk A S.wt A.born++[(k,Ky j 1,A.clock)]) (A.clock+1)) L'):Ke K (A.I8 k j (A.born++[A.clock]) (A.clock+1)) (S.IN b k) F L':=by
 have g: ∀e∈S.wt,slot e.1≠slot k:=λe he h=>hn e he (lV (O.ke e he).key N.key h);have I:S.IN b k=S.I8 (S.wt++[(k,[b])]):=by unfold St.IN;rw[eU hn]
 have f: ∀c,j.b=some c-> ∀t∈L,t.1≠c:=λc hc t p e=>by
  rcases hp.d c hc with h|h
  ·cases h
  ·by_cases B:t.1=A.wt
   ·exact h _ m.self (by rw[<-B];exact e)
   ·exact h _ (m.ne _ p B) e
 have n: ∀c,j.b=some c->c≠A.wt:=λc hc e=>f c hc _ l.w e.symm;rw[I];refine l.JF r.fn (λt p C P=>r.ne _ (hp.sub _ (m.ne _ p C) bE) C) ?_ (by simp[l.wl]) ?_ ?_ ?_ (λc hc=>⟨_,r.ne _ (hp.ok.mem hc) (n c hc)⟩) (λc hc=> ?_)
 ·have M:Kk (A.I8 k j (A.born++[A.clock]) (A.clock+1)) (S.wt++[(k,[b])]) (A.born++[A.clock])=Kk A S.wt A.born++[(k,Ky j 1,A.clock)]:=by
   rw[cH _ l.wl.symm];have J:Kk (A.I8 k j (A.born++[A.clock]) (A.clock+1)) S.wt A.born=Kk A S.wt A.born:=eD λe he=>by
    have:=g e he;simp[Kq.I8,put,this]
   rw[J];congr 1;show [(k,Ky ((A.I8 k j (A.born++[A.clock]) (A.clock+1)).a (slot k)) 1,A.clock)]=_;have H:(A.I8 k j (A.born++[A.clock]) (A.clock+1)).a (slot k)=j:=by simp[Kq.I8,put]
   rw[H]
  rw[M];exact r.self
 ·refine ss.2 ⟨l.bn,bE,λx u y s=> ?_⟩;have:=l.bc x u;simp at s;omega
 ·intro x u;rcases cE.1 u with h|h
  ·have:=l.bc x h;omega
  ·simp at h;omega
 ·intro e he;rcases cE.1 he with h|h
  ·exact .inr ⟨h,g e h⟩
  ·simp at h;subst h;exact .inl ⟨rfl,hp.ok.mono λc hc o E=>r.ne _ E (n c hc)⟩
 ·refine .inr ⟨λi G=> ?_,λt p=>f c hc t (l.fr t p)⟩;obtain⟨Q,s⟩:=l.al i c G;exact f c hc _ s rfl
theorem ky {A:Kq}{l:Wt}{bs:List Nat}{e:(Nat×Nat)×Value×Nat}(h:e∈Kk A l bs):e.2.2∈bs:=by
 unfold Kk at h;obtain⟨p,a,rfl⟩:=cm.1 h;exact(List.of_mem_zip a).2
theorem Hl: ∃n,∀{σ}{F:Kn σ}{Δ:DM F}{i' s}(K:Nat)(A:Kq)(S:St)(Fr L:Ka)(eb:Nat->Nat×Nat)(b:Nat)(x:PS)(use O:Nat)(k:Nat×Nat),(∀s,NewK (Δ s))->Ke K A S Fr L->KZ eb Fr->Inv S->(b,x)∈S.ps->S.out b->x.IQ use O=none->k=x.file (x.r 0)->KX k->NQ x k->
 Kb Δ prog i' 138 [ptr K,ptr b, .int .i64 (use:Nat), .int .i64 (O:Nat)].toArray n s L (λs' v L'=>s=s'/\v= .nilIface/\ ∃A',Ke K A' (if b∈((S.IN b k).look k.1).rowAt k then(match ((S.IN b k).look k.1).get b with
  |some z=>((S.IN b k).look k.1).IT b z use
  |none=>((S.IN b k).look k.1)) else((S.IN b k).look k.1)) Fr L'):=by
 obtain⟨n0,g0⟩:=ml;obtain⟨n1,g1⟩:=lT;obtain⟨n2,g2⟩:=yW;obtain⟨n3,g3⟩:=s4;obtain⟨n4,g4⟩:=lP;constructor;intro σ F Δ i' s K A S Fr L eb b x use O k hN hR hE hI hb ho hc hk E' D';have K':0<=x.r 0/\x.r 0<65536:=(hI.wf _ hb).r 0 bl;have F':=hI.IN hb ho D' E';have H:=F'.look k.1;have Q':b∈S.ps.map (·.1):=cm.2 ⟨_,hb,rfl⟩;co_applyP ar 53 func138 ntmps138;co_applyP(aO);co_applyP oc rfl rfl rfl (g0 K A S Fr L eb b x use O (hN _).k hR hE hI hb);rintro _ _ _ ⟨rfl,rfl,S'⟩;rename_i L1;rw[hc];have k':=hR.ext S';have V':At L1 b 7 (.int .u16 (x.r 0)):=k'.pat hb (bu x (i:=0) bl);co_applyP(av);co_applyP oy rfl (dN (v:= .nilIface) (c:=true) (hv:= .inl ⟨rfl,rfl⟩) (hu:=underlying168));co_applyP(bf);co_applyP ocm rfl rfl rfl (g1 K A S Fr L1 b x (x.r 0) (hN _).k k' hb K');rintro _ _ _ ⟨rfl,rfl,I',R'⟩;rename_i L2;rw[<-hk];have O':=k'.of I' R';co_applyP bB rfl (eN (z:=KE (0,0)) ((hN _).k _));intro T L3 g';co_applyP oeN rfl (λhnd=>fA (hs:=bw) (vs:=[.int .i64 k.1, .int .i64 k.2]) (hnd:=hnd) (hm:=g'.self) (hi:=cD _));rintro _ L4 ⟨rfl,q'⟩;co_applyP(zo);change Kw ..;have j:=O'.fresh (L':=L4) (b:=T) (o:= .cells (KE k).cells 96) ⟨q'.fn,λt G=>q'.ne _ (g'.sub _ G) (g'.new _ G)⟩ g'.new q'.self;have Q:=j.w;rw[cJ] at Q;have d:=j.fr _ eT;have l: ∀(L:Ka),kb K (Lj A S)∈L->(T,true,Obj.cells (KE k).cells 96)∈L-> ∀t∈[kb K (Lj A S),(T,true,Obj.cells (KE k).cells 96)],t∈L:=λL h1 h2 t G=>by
  simp only[gn,Oz,or_false] at G;rcases G with rfl|rfl
  ·exact h1
  ·exact h2
 have Y':At [kb K (Lj A S),(T,true,Obj.cells (KE k).cells 96)] K 15 (.map (some A.wt)):=⟨true,_,_,_,eT,rfl⟩;have x':(T,true,Obj.cells (KE k).cells 96)∈[kb K (Lj A S),(T,true,Obj.cells (KE k).cells 96)]:=bE
 have E:K≠A.wt:=j.fn.ne j.k j.w (by simp[Le]);have D:T≠A.wt:=(j.fd _ eT).2.2.2.2;co_applyP bL (λt' Y m'=>s=t'/\kn Y [(0,ptr K),(1,ptr b),(2, .int .i64 (use:Nat)),(10,ptr T)]/\ ∃A5,Ke K A5 (S.IN b k) ((T,true,Obj.cells (KE k).cells 96)::Fr) m');co_applyP cr (∀e∈S.wt,e.1≠k);intro hn
 ·have X:=jh (i:=0) (dT (A:=A) (bs:=A.born) hn);co_applyP aM [kb K (Lj A S),(T,true,Obj.cells (KE k).cells 96)] 6 (nf:=0) mixed;co_applyP tr 0 rfl bk (aa (l _ j.k d));co_applyP tr 1 rfl bI (aa (l _ j.k d));co_applyP tr 2 rfl (br (hf:=lI)) (aa (l _ j.k d));co_applyP tr 3 rfl (bT (ht:=sJ)) (aa (l _ j.k d));co_applyP tr 5 rfl bk (aa (l _ j.k d));co_applyP tr 4 rfl (aW (ht:=bV) (hs:=bw) (hm:=x') (hi:=cD _)) (aa (l _ j.k d));co_applyP te (i:=6) rfl (kl ((hN _).r _) (hx:=rfl) (hu:=U91) (hs:=dA) (hz:=jd));rintro _ _ ⟨nb,P,rfl,rfl⟩;refine⟨aj (l _ (dc _ j.k) (dc _ d)), ?_⟩;have u:=cT (o:= .cells #[ptr b] 93) j.fn P;have C:=j.add u;co_applyP aF;intro hnd;co_applyP te (i:=7) rfl (Hi (k:=k) (hnd:=hnd) eR underlying110 ji (hm:=u.sub _ Q) (hl:=X));rintro _ _ ⟨rfl,m⟩;refine⟨aj (l _ (m.ne _ C.k E) (m.ne _ (u.sub _ d) D)), ?_⟩;rename_i L6;co_applyP tr 8 rfl (lB) (aj (l _ (m.ne _ C.k E) (m.ne _ (u.sub _ d) D)));co_applyP tr 10 rfl (lB) (aj (l _ (m.ne _ C.k E) (m.ne _ (u.sub _ d) D)));co_applyP aF;intro b';have C':nb≠A.wt:=λe=>P _ Q e.symm;co_applyP te (i:=9) rfl (ud (a:=⟨none,[]⟩) (xs:=[]) (c:=b) (hnd:=b') (hN:=(hN _).r) (ha:=⟨rfl,rfl⟩) (h8:=bE) (hnb:=m.ne _ u.self C'));rintro _ _ ⟨a',rfl,R⟩;refine⟨aj (l _ (R.sub _ (m.ne _ C.k E) bE) (R.sub _ (m.ne _ (u.sub _ d) D) bE)), ?_⟩;rename_i L7;co_applyP aF;intro U;co_applyP te (i:=11) rfl (Hj (l1:=Kk A S.wt A.born) (l2:=[]) (k:=k) (v0:= .slice none 0 0) (c:=A.clock) (hnd:=U) (hm:=R.sub _ m.self bE) (hc:=λe he=>OA (j.bc _ (ky he))));rintro _ _ ⟨rfl,M⟩;refine⟨aj (l _ (M.ne _ (R.sub _ (m.ne _ C.k E) bE) E) (M.ne _ (R.sub _ (m.ne _ (u.sub _ d) D) bE) D)), ?_⟩;co_applyP(zo);change _=_/\kn _ _/\ ∃A5,_;exact⟨rfl,rfl,_,C.joinW0 hI E' hn m R M⟩
 intro hn;have p':k∈S.wt.map (·.1):=ti λn'=>hn λe he e1=>n' (cm.2 ⟨e,he,e1⟩);obtain⟨V,xs,l2,I,e',B'⟩:=cu hI.kn p';have J:(k,xs)∈S.wt:=by rw[I];simp
 obtain⟨b1,c0,b2,N,l'⟩: ∃b1 c0 b2,A.born=b1++c0::b2/\V.length=b1.length:=by
  have hl:=j.wl;rw[I] at hl;simp at hl;refine⟨A.born.take V.length,A.born[V.length]'bl,A.born.drop (V.length+1),bE,ao⟩
 have W:Kk A S.wt A.born=Kk A V b1++(k,Ky (A.a (slot k)) xs.length,c0)::Kk A l2 b2:=by
  rw[I,N,cH A l'];rfl
 have Z:=mg j.wl I e';have P':(Kk A S.wt A.born)[V.length]? =some (k,Ky (A.a (slot k)) xs.length,c0):=by
  rw[W,<-dS A l'];simp
 have J': ∀e∈Kk A V b1,e.2.2≠c0:=λe he=>by
  have h1:=ky he;have h2:=j.bn;rw[N] at h2;exact(ss.1 h2).2.2 _ h1 c0 bE
 have j': ∀{c:Nat}{fl:Bool}{o:Obj},(c,fl,o)∈L4->(∀c',o≠Obj.cells c' 93)->(A.a (slot k)).b≠some c:=λhm ho hc=>by
  obtain⟨ys,hy⟩:=j.al _ _ hc;exact ho _ (j.fn _ _ _ _ _ hm hy).2
 have w':=j' j.k λc=>aB bx;have z':=j' d λc=>aB bx;have M':=j' Q λc=>by simp[K8]
 co_applyP aM [kb K (Lj A S),(T,true,Obj.cells (KE k).cells 96)] 6 (nf:=0) mixed;co_applyP tr 0 rfl bk (aa (l _ j.k d));co_applyP tr 1 rfl bI (aa (l _ j.k d));co_applyP tr 2 rfl (br (hf:=lI)) (aa (l _ j.k d));co_applyP tr 3 rfl (bT (ht:=sJ)) (aa (l _ j.k d));co_applyP tr 5 rfl bk (aa (l _ j.k d));co_applyP tr 4 rfl (aW (ht:=bV) (hs:=bw) (hm:=x') (hi:=cD _)) (aa (l _ j.k d));co_applyP te (i:=6) rfl (kl ((hN _).r _) (hx:=rfl) (hu:=U91) (hs:=dA) (hz:=jd));rintro _ _ ⟨nb,P,rfl,rfl⟩;refine⟨aj (l _ (dc _ j.k) (dc _ d)), ?_⟩;have u:=cT (o:= .cells #[ptr b] 93) j.fn P;have C:=j.add u;co_applyP aF;intro hnd;co_applyP te (i:=7) rfl (Hh (k:=k) (hnd:=hnd) eR underlying110 (hm:=u.sub _ Q) (hl:=Z) (hc:=P'));rintro _ _ ⟨rfl,m⟩;refine⟨aj (l _ (m.ne _ C.k E) (m.ne _ (u.sub _ d) D)), ?_⟩;rename_i L6;have d':=upd_same C.fn (u.sub _ Q) m;have B:=C.ext d';co_applyP tr 8 rfl (lB) (aj (l _ (m.ne _ C.k E) (m.ne _ (u.sub _ d) D)));co_applyP tr 10 rfl (lB) (aj (l _ (m.ne _ C.k E) (m.ne _ (u.sub _ d) D)));co_applyP aF;intro b';have T':=hI.w.rl _ J;co_applyP te (i:=9) rfl (ud (a:=A.a (slot k)) (xs:=xs) (c:=b) (hnd:=b') (hN:=(hN _).r) (ha:=B.wa _ J) (h8:=by simp at T';omega) (hnb:=d'.s _ u.self));rintro _ _ ⟨a',rfl,R⟩;refine⟨aj (l _ (R.sub _ B.k w') (R.sub _ (d'.s _ (u.sub _ d)) z')), ?_⟩;rename_i L7;co_applyP aF;intro U;co_applyP te (i:=11) rfl (Hj (l1:=Kk A V b1) (l2:=Kk A l2 b2) (k:=k) (v0:=Ky (A.a (slot k)) xs.length) (c:=c0) (hnd:=U) (hm:=by rw[<-W];exact R.sub _ m.self M') (hc:=J'));rintro _ _ ⟨rfl,M⟩;refine⟨aj (l _ (M.ne _ (R.sub _ B.k w') E) (M.ne _ (R.sub _ (d'.s _ (u.sub _ d)) z') D)), ?_⟩;co_applyP(zo);change _=_/\kn _ _/\ ∃A5,_;exact⟨rfl,rfl,_,B.joinW1 hI I e' B' N l' R M⟩;rintro _ U' L5 ⟨rfl,N',A5,C⟩;co_applyP aA N';have Z':At L5 T 0 (.int .i64 (k.1:Nat)):=⟨true,_,_,_,C.fr _ eT,rfl⟩;co_applyP(av);co_applyP oc rfl rfl rfl (g2 K A5 _ _ L5 eb k.1 hN C (hE.mono λt G=>dc _ G) F');rintro _ _ _ ⟨rfl,rfl,A6,B⟩;co_applyP(zo);change Kw ..;rename_i L6;generalize hS2:(S.IN b k).look k.1=S2 at*;obtain⟨z,hz⟩: ∃z,(b,z)∈S2.ps:=by
  have:b∈S2.ps.map (·.1):=by rw[H.f];exact Q'
  obtain⟨q,hq,rfl⟩:=cm.1 this;exact⟨q.2,hq⟩
 have f':=H.i.g.lv _ hz;have y':=aY H.i.g.pn hz;have v':=B.w;rw[cJ] at v';have h':=B.fr _ eT;have hk6:At L6 K 15 (.map (some A6.wt)):=B.kat rfl;co_applyP bL (λt' Y m'=>s=t'/\kn Y []/\ ∃A7,Ke K A7 (if b∈S2.rowAt k then(match S2.get b with|some z=>S2.IT b z use|none=>S2) else S2) Fr m');co_applyP cr (∀e∈S2.wt,e.1≠k);intro hn
 ·have X:=jh (i:=0) (dT (A:=A6) (bs:=A6.born) hn);co_applyP(zo);co_applyP aM [] 7 mixed;co_applyP(av);co_applyP tr 6 rfl bk pN;co_applyP t0 4 rfl (aW (ht:=bV) (hs:=bw) (hm:=h') (hi:=cD _)) pN;co_applyP t0 5 rfl (qP (k:=k) eR underlying110 ji v') pN;rw[X];co_applyP tc 7 rfl rfl rfl (g3 L6 ⟨none,[]⟩ [] b bE ⟨rfl,rfl⟩ (λc hc=>by simp at hc) ⟨z,B.p _ hz⟩);rintro _ _ _ ⟨rfl,rfl,rfl⟩;refine⟨aj bE, ?_⟩;co_applyP(zo);change Kw ..;rw[show decide (b∈([]:List Nat))=false by simp];co_applyP(ay);change _=_/\kn _ _/\ ∃A7,_;exact⟨rfl,rfl,A6,by rw[iE hn,if_neg bE];exact B.less λt G=>dc _ G⟩
 intro hn;have p':k∈S2.wt.map (·.1):=ti λn'=>hn λe he e1=>n' (cm.2 ⟨e,he,e1⟩);obtain⟨V,xs,l2,I,e',B'⟩:=cu H.i.kn p';have J:(k,xs)∈S2.wt:=by rw[I];simp
 have Z:=mg B.wl I e';have G':=dr H.i.kn J;co_applyP(zo);co_applyP aM [] 7 mixed;co_applyP(av);co_applyP tr 6 rfl bk pN;co_applyP t0 4 rfl (aW (ht:=bV) (hs:=bw) (hm:=h') (hi:=cD _)) pN;co_applyP t0 5 rfl (qP (k:=k) eR underlying110 ji v') pN;rw[Z];co_applyP tc 7 rfl rfl rfl (g3 L6 (A6.a (slot k)) xs b (H.i.w.rl _ J) (B.wa _ J) (λc hc=>by obtain⟨y,hy⟩:=H.i.w.rm _ J c hc;exact⟨y,B.p _ hy⟩) ⟨z,B.p _ hz⟩);rintro _ _ _ ⟨rfl,rfl,rfl⟩;refine⟨aj bE, ?_⟩;co_applyP(zo);co_applyP aI rfl;intro hm;co_applyP(av)
 ·have u':b∈xs:=by simpa using hm
  co_applyP oc rfl rfl rfl (g4 K A6 S2 _ L6 b z use B hz f' (H.i.g.r8 f') (H.i.g.ex f') (λe he=>cU e.1 f'));rintro _ _ _ ⟨rfl,rfl,A7,W',r'⟩;co_applyP(zo);change _=_/\kn _ _/\ ∃A7,_;exact⟨rfl,rfl,A7,by rw[G',if_pos u',y'];exact r'.less λt G=>dc _ G⟩
 intro hm;co_applyP(zo);change _=_/\kn _ _/\ ∃A7,_;have u': ¬b∈xs:=by simpa using hm
 exact⟨rfl,rfl,A6,by rw[G',if_neg u'];exact B.less λt G=>dc _ G⟩;rintro _ X' L7 ⟨rfl,H',A7,r'⟩;co_applyP aA H';co_applyP(av);exact xI _ ⟨rfl,rfl,rfl,A7,r'⟩
theorem ey {x:PS}{use a:Nat}(h:x.IQ use a=none):(x.file (x.r 0)).2=use/\x.r 2<=a/\x.r 1+x.r 2<=64:=by
 unfold PS.IQ at h
 split at h
 ·cases h
 ·rename_i b
  split at h
  ·cases h
  ·rename_i d
   split at h
   ·cases h
   ·rename_i e;exact⟨bl,bl,bl⟩
theorem Inv.Ju {S:St}{b:Nat}{x:PS}(h:Inv S)(hb:(b,x)∈S.ps)(n:Int):x.file n=(0,0)\/KX (x.file n):=by
 unfold PS.file
 split
 ·by_cases h0:n<0
  ·have:n.toNat=0:=bl
   rw[this];exact h.fl _ hb 0 bl
  ·exact h.fl _ hb _ bl
 ·exact .inl rfl
theorem DX: ∃n,∀{u}{F:Kn u}{l:DM F}{d s}(K:Nat)(A:Kq)(S:St)(Fr L:Ka)(eb:Nat->Nat×Nat)(b:Nat)(x:PS)(use a:Nat),(∀s,NewK (l s))->Ke K A S Fr L->KZ eb Fr->Inv S->(b,x)∈S.ps->S.out b->x.st=1->use=4\/use=5->(use=5->a<=8)->
 Kb l prog d 138 [ptr K,ptr b, .int .i64 (use:Nat), .int .i64 (a:Nat)].toArray n s L (λs' v L'=>s=s'/\v=Ok eb (S.Jf b x use a).1/\ ∃M,Ke K M (S.Jf b x use a).2 Fr L'):=by
 obtain⟨H,g0⟩:=Hk;obtain⟨G,J⟩:=Hl;refine⟨H+G,λ{u F l d s} K A S Fr L eb b x use a o p m j hb y g hu hm=>aG (x.IQ use a≠none) (λh=> ?_) λh=> ?_⟩
 ·cases hc:x.IQ use a with
  |none=>exact absurd hc h
  |some i=>
   have e:S.Jf b x use a=(some i,S):=by unfold St.Jf;rw[hc]
   rw[e];exact aJ (g0 K A S Fr L eb b x use a i (o _).k p m j hb hc) λs' v L' ⟨I,D,B⟩=>⟨I,D,A,B⟩
 ·have hc:x.IQ use a=none:=ti h;obtain⟨f,c2,c3⟩:=ey hc;have E:KX (x.file (x.r 0)):=(j.Ju hb _).resolve_left λe=>by rw[e] at f;simp only at f;omega
  have e:S.Jf b x use a=(none,if b∈((S.IN b (x.file (x.r 0))).look (x.file (x.r 0)).1).rowAt (x.file (x.r 0)) then(match ((S.IN b (x.file (x.r 0))).look (x.file (x.r 0)).1).get b with
   |some z=>((S.IN b (x.file (x.r 0))).look (x.file (x.r 0)).1).IT b z use
   |none=>((S.IN b (x.file (x.r 0))).look (x.file (x.r 0)).1)) else((S.IN b (x.file (x.r 0))).look (x.file (x.r 0)).1)):=by unfold St.Jf;rw[hc]<;>rfl
  rw[e];exact J K A S Fr L eb b x use a _ o p m j hb y hc rfl E ⟨rfl,c3,λC=>by rw[C] at f;have:=hm f.symm;omega, .inl g⟩
theorem mm:zeroAt prog 3=some (.int .i64 0):=bD
theorem jv:KJ prog 3=some 8:=bD
structure ApI (L:Ka)(a:Sl)(zs:List Value)(a':Sl)(L':Ka):Prop where
 ok:Kf a' zs 3 L'
 fn:K5 L'
 sub: ∀t∈L,a.b≠some t.1->t∈L'
 d: ∀b,a'.b=some b->a.b=some b\/ ∀t∈L,t.1≠b
section
variable {New:Obj->Prop}{N:Nat}{ε:Env}{L:Ka}{d:Option Tmp}{ty:TypeId}{ps:String}{af:Array Edge}{g:Option (Nat×Bool)}{x y:Operand}
theorem Cd {a:Sl}{xs:List Value}(ha:Kf a xs 3 L):Reads prog L 1 xs.length (Ky a xs.length) xs.toArray:=by
 cases d:a.b with
 |none=>
  unfold Kf at ha;rw[d] at ha;obtain rfl:xs=[]:=ha.1;have e:Ky a 0= .slice none 0 0:=by unfold Ky;rw[d]
  show Reads prog L 1 0 (Ky a 0) #[];rw[e];exact dx
 |some b=>
  have hm:=ha.mem d;have e:Ky a xs.length= .slice (some ⟨b,0,none⟩) xs.length (xs.length+a.junk.length):=by unfold Ky;rw[d]
  rw[e];have:=bR (P:=prog) (sz:=1) (n:=xs.length) (len:=xs.length) (cap:=xs.length+a.junk.length) (o:=0) hm bE;have f:(xs++a.junk).take xs.length=xs:=by rw[sA bE];exact sD bE
  simpa [f] using this
theorem Hm {a:Sl}{xs ys:List Value}{yb:Option Addr}{C:Nat}(hx:ev ε x=some (Ky a xs.length):=by rfl)(hy:ev ε y=some (.slice yb ys.length C):=by rfl)(hnd:(L.map (·.1)).Nodup)(hN: ∀cs,New (.cells cs 3)) (ha:Kf a xs 3 L) (hr:Reads prog L 1 ys.length (.slice yb ys.length C) ys.toArray) (hpl:ys.all Km=true) (h8:xs.length<=1000) (h8':ys.length<=1000):
 EO prog New N ε L ⟨d, .call ⟨.builtin .append, #[x,y], #[54,54]⟩,ty,ps,af,g⟩ (λr L'=> ∃s,r=Ky s (xs++ys).length/\ApI L a (xs++ys) s L'):=by
 have o:=Cd ha
 have grow: ∀(i:Nat),(∃k,Ky a xs.length= .slice k xs.length i)->i<xs.length+ys.length->
  EO prog New N ε L ⟨d, .call ⟨.builtin .append, #[x,y], #[54,54]⟩,ty,ps,af,g⟩ (λr L'=> ∃s,r=Ky s (xs++ys).length/\ApI L a (xs++ys) s L'):=by
  rintro i ⟨k,hb⟩ hc;rw[hb] at o hx;intro ac j;refine bS ?_ _ _ (nv (by_:=7) (New:=New) hx hy (bz hnd) U54 U54 bJ jv mm o hr hc bl hN ac j);intro r L' q;cases r<;>try exact q.elim
  ·obtain⟨b,cap,K,z,rfl,m⟩:=q;rw[eP rfl] at m;refine⟨⟨some b,List.replicate (cap-(xs.length+ys.length)) (.int .i64 0)⟩, ?_, ?_,m.fn,λt p _=>m.sub t p,λB l=> .inr ?_⟩
   ·unfold Ky;simp;omega
   ·have G:xs.toArray++ys.toArray++(List.replicate (cap-(xs.length+ys.length)) (Value.int .i64 0)).toArray=((xs++ys)++List.replicate (cap-(xs.length+ys.length)) (Value.int .i64 0)).toArray:=by
     apply gm;simp
    rw[G] at m;exact m.self
   ·obtain rfl:b=B:=by simpa using l
    exact m.new
  ·obtain⟨b,cap,_,_,e,_⟩:=q;cases e
 cases f:a.b with
 |none=>
  have z:=ha;unfold Kf at z;rw[f] at z;obtain⟨F,J⟩:=z;obtain rfl:xs=[]:=F;have n:Ky a 0= .slice none 0 0:=by unfold Ky;rw[f]
  by_cases h0:0<ys.length
  ·exact grow 0 ⟨none,n⟩ (by simpa using h0)
  ·obtain rfl:ys=[]:=OI.1 bl;intro ac j;rw[km,n] at hx;refine bS ?_ _ _ (sX (New:=New) hx hy U54 U54 bJ hr ac j);intro r L' q;cases r<;>try exact q.elim
   ·obtain⟨rfl,rfl⟩:=q;exact⟨a,n.symm,ha,bz hnd,λt p _=>p,λb hb=>by rw[f] at hb;cases hb⟩
   ·exact absurd q.1 (by simp[undef])
 |some b=>
  have hm:=ha.mem f;have n:Ky a xs.length= .slice (some ⟨b,0,none⟩) xs.length (xs.length+a.junk.length):=by unfold Ky;rw[f]
  by_cases I:ys.length<=a.junk.length
  ·intro ac j;rw[n] at hx;refine bS ?_ _ _ (lE (New:=New) hx hy hnd U54 U54 bJ hr bl hm ao (by simpa using hpl) ac j);intro r L' q;cases r<;>try exact q.elim
   ·obtain⟨rfl,u⟩:=q;have D:KP (xs++a.junk).toArray (0+xs.length*1) ys.toArray.toList=((xs++ys)++a.junk.drop ys.length).toArray:=by
     rw[bY _ _ _ ao];have H:(xs++a.junk).drop (xs.length+ys.length)=a.junk.drop ys.length:=by
      rw[O1];simp
     have E:(xs++a.junk).take xs.length=xs:=by rw[sA bE];exact sD bE
     simp[H,E]
    rw[D] at u;refine⟨⟨some b,a.junk.drop ys.length⟩, ?_,u.self,u.fn,λt p A=>u.ne t p λe=>A (by rw[f,e]),λB l=> .inl (by rw[f];exact l)⟩;unfold Ky;simp;omega
   ·exact absurd q.1 (by simp[undef])
  ·exact grow (xs.length+a.junk.length) ⟨_,n⟩ bl
end
def St.I0 (S:St)(p:Nat):Bool:= !S.IM (p,4)&& !S.IM (p,5)
def St.unused (S:St):Nat:=match (List.range' 1 4).find? S.I0 with
 |some p=>p
 |none=>0
theorem vJ {S:St}{i:Nat}(h1:1<=i)(a:i<5)(hn: ∀j,1<=j->j<i->S.I0 j=false) (hi:S.I0 i=true):S.unused=i:=by
 unfold St.unused;have e:(List.range' 1 4).find? S.I0=some i:=by
  show [1,2,3,4].find? S.I0=some i;have:i=1\/i=2\/i=3\/i=4:=bl
  rcases this with rfl|rfl|rfl|rfl
  ·simp[ON,hi]
  ·simp[ON,hi,hn 1 bl bl]
  ·simp[ON,hi,hn 1 bl bl,hn 2 bl bl]
  ·simp[ON,hi,hn 1 bl bl,hn 2 bl bl,hn 3 bl bl]
 rw[e]
theorem kz {S:St}(hn: ∀j,1<=j->j<5->S.I0 j=false):S.unused=0:=by
 unfold St.unused;have e:(List.range' 1 4).find? S.I0=none:=by
  show [1,2,3,4].find? S.I0=none;simp[ON,hn 1 bl bl,hn 2 bl bl,hn 3 bl bl,hn 4 bl bl]
 rw[e]
theorem nI (S:St):S.unused<5:=by
 unfold St.unused
 split
 ·rename_i p h;have:=Ox h;simp[List.mem_range'] at this;omega
 ·omega
theorem mq: ∃n,∀{P}{F:Kn P}{M:DM F}{k s}(K:Nat)(A:Kq)(S:St)(Fr L:Ka),(∀s cs,(M s).New (.cells cs 96))->Ke K A S Fr L->
 Kb M prog k 150 [ptr K].toArray n s L (λs' v L'=>s=s'/\v= .int .i64 (S.unused:Nat)/\Ext L L'):=by
 obtain⟨U,y⟩:=jj;constructor;intro P F M k s K A S Fr L z O;co_applyP ar 21 func150 ntmps150;co_applyP(aO);co_applyP aU (λc s' m L'=>s'=s/\Ext L L'/\ ∃i:Nat,1<=i/\i<=5/\c+i=5/\(∀j,1<=j->j<i->S.I0 j=false)/\kn m [(0,ptr K),(3, .int .i64 (i:Nat))]) 4
 ·exact⟨rfl,⟨O.fn,λ_ h=>h⟩,1,bl,bl,rfl,λj N T=>bl,rfl⟩
 rintro c s' m L' ⟨rfl,x,i,D,R,hc,H,he⟩;co_applyP aA he;have d:=O.ext x;have Q:IntKind.i64.wrap ((i:Int)+1)=((i+1:Nat):Int):=by simp[IntKind.wrap_i64];omega
 co_applyP(au);co_applyP aI rfl;intro l
 ·have E:i<5:=by simp at l;omega
  co_applyP(zo);co_applyP bL (λu g p=>s'=u/\kn g [(0,ptr K),(3, .int .i64 (i:Nat))]/\Ext L p/\S.I0 i=false);co_applyP cr (S.IM (i,4)=true);intro C
  ·skip
   co_applyP(av);co_applyP oy rfl (aQ (dG _ _));co_applyP oc rfl rfl rfl (y K A S Fr L' (i,4) (z _) d);rintro _ _ _ ⟨rfl,rfl,a⟩;co_applyP(ay);rw[C];co_applyP(bm);change _=_/\kn _ _/\_/\_;exact⟨rfl,rfl,x.trans a,by unfold St.I0;rw[C];rfl⟩
  intro C;have f:S.IM (i,4)=false:=by simpa using C
  co_applyP cr (S.IM (i,5)=true);intro B
  ·skip
   co_applyP(av);co_applyP oy rfl (aQ (dG _ _));co_applyP oc rfl rfl rfl (y K A S Fr L' (i,4) (z _) d);rintro _ _ _ ⟨rfl,rfl,a⟩;co_applyP(ay);rename_i J;rw[f];co_applyP(ay);co_applyP oy rfl (aQ (dG _ _));co_applyP oc rfl rfl rfl (y K A S Fr J (i,5) (z _) (d.ext a));rintro _ _ _ ⟨rfl,rfl,b⟩;rw[B];co_applyP(au);change _=_/\kn _ _/\_/\_;exact⟨rfl,rfl,x.trans (a.trans b),by unfold St.I0;rw[f,B];rfl⟩
  intro B;have r:S.IM (i,5)=false:=by simpa using B
  co_applyP(av);co_applyP oy rfl (aQ (dG _ _));co_applyP oc rfl rfl rfl (y K A S Fr L' (i,4) (z _) d);rintro _ _ _ ⟨rfl,rfl,a⟩;co_applyP(ay);rename_i J;rw[f];co_applyP(ay);co_applyP oy rfl (aQ (dG _ _));co_applyP oc rfl rfl rfl (y K A S Fr J (i,5) (z _) (d.ext a));rintro _ _ _ ⟨rfl,rfl,b⟩;rw[r];co_applyP(bm);exact xI _ ⟨rfl,rfl,by rw[vJ D E H (by unfold St.I0;rw[f,r];rfl)],x.trans (a.trans b)⟩;rintro u g p ⟨rfl,I,b,G⟩;co_applyP aA I;co_applyP(au);change∃k',k'<_/\_;refine⟨c-1,bl,rfl,b,i+1,bl,bl,bl,λj N T=> ?_,by rw[<-Q];rfl⟩;by_cases e:j=i
  ·rw[e];exact G
  ·exact H j N bl
 intro l;co_applyP(au);change∃v,Ko .. =some v/\_;have o:i=5:=by simp at l;omega
 subst o;exact⟨_,rfl,rfl,by rw[kz H];rfl,x⟩
structure K7 {R:World->World->Prop}{D:World->World->Array Event->Prop}(Δ:Ma R D):Prop extends NewK Δ where
 n: ∀cs,Δ.New (.cells cs 3)
abbrev Mr (l:List Nat):List Value:=l.map λ(i:Nat)=>Value.int .i64 (i:Nat)
def PS.IS (x:PS)(n:Nat):List Nat:=(List.range n).filter λi=>decide (x.f i=(0,0))
theorem um {x:PS}{i:Nat}(h:x.f i=(0,0)):x.IS (i+1)=x.IS i++[i]:=by
 unfold PS.IS;rw[O4,O3];simp[h]
theorem o9 {x:PS}{i:Nat}(h: ¬x.f i=(0,0)):x.IS (i+1)=x.IS i:=by
 unfold PS.IS;rw[O4,O3];simp[h]
theorem nJ (x:PS)(n:Nat):(x.IS n).length<=n:=by
 unfold PS.IS;have:=O5 (λi=>decide (x.f i=(0,0))) (List.range n);simpa using this
theorem s5: ∃n,∀{σ}{F:Kn σ}{Δ:DM F}{y s}(L:Ka)(b:Nat)(x:PS),(∀s,K7 (Δ s))->K5 L->pb b x∈L->
 Kb Δ prog y 151 [ptr b].toArray n s L (λs' v L'=>s=s'/\ ∃a,v=Ky a (Mr (x.IS 6)).length/\Kf a (Mr (x.IS 6)) 3 L'/\(∀t∈L,a.b≠some t.1)/\Ext L L'):=by
 obtain⟨n1,g1⟩:=jm;constructor;intro σ F Δ y s L b x J hF hb;co_applyP ar 22 func151 ntmps151;co_applyP(bf);co_applyP oy rfl (aW (ht:=xR) (hs:=xQ) (hm:=hb) (hi:=by rw[bq];omega));co_applyP(ax);rw[show (0+79:Nat)=79 from rfl,show (79+12:Nat)=91 from rfl,iG];co_applyP aU (λc s' E L'=>s'=s/\Ext L L'/\ ∃i a,i<=6/\c+i=6/\Kf a (Mr (x.IS i)) 3 L'/\(∀t∈L,a.b≠some t.1)/\kn E [(0,ptr b),(9,Lm x.f),(10, .int .i64 (i:Nat)),(3,Ky a (Mr (x.IS i)).length)]) 6
 ·exact⟨rfl,⟨hF,λ_ h=>h⟩,0,⟨none,[]⟩,bl,rfl,⟨rfl,rfl⟩,λt j=>bE,rfl⟩
 rintro c s' E L' ⟨rfl,O,i,a,R,hc,X,m,he⟩;co_applyP aA he;have ei:IntKind.i64.wrap ((i:Int)+1)=((i+1:Nat):Int):=by simp[IntKind.wrap_i64];omega
 have b':=nJ x i;co_applyP(ax);co_applyP aK;co_applyP aI rfl;intro B
 ·have V:i<6:=by simp at B;omega
  co_applyP(zo);co_applyP bL (λH u C=>s'=H/\Ext L C/\ ∃r,Kf r (Mr (x.IS (i+1))) 3 C/\(∀t∈L,r.b≠some t.1)/\kn u [(0,ptr b),(9,Lm x.f),(10, .int .i64 (i:Nat)),(3,Ky r (Mr (x.IS (i+1))).length)]);co_applyP(ax);co_applyP oy rfl (yY (DV x.f V));co_applyP bB rfl (eN (z:=KE (0,0)) ((J _).k _));intro nb L1 D;co_applyP(zo);co_applyP oeN rfl (λhnd=>fA (hs:=bw) (vs:=[.int .i64 (x.f i).1, .int .i64 (x.f i).2]) (hnd:=hnd) (hm:=D.self) (hi:=cD _));rintro _ L2 ⟨rfl,A⟩;co_applyP(ay);have U:Ext L' L2:=⟨A.fn,λt j=>A.ne _ (D.sub _ j) (D.new _ j)⟩;co_applyP oy rfl (aW (ht:=bV) (hs:=bw) (hm:=A.self) (hi:=cD _));co_applyP oc rfl rfl rfl (g1 L2 (x.f i) (J _).k);rintro _ _ _ ⟨rfl,rfl,Z⟩;co_applyP(zo);change Kw ..;rename_i L3;have g:=U.trans Z;have I:=X.mono λc hc o Q=>g.s _ Q;co_applyP aI rfl;intro N;co_applyP(ax)
  ·have l:x.f i=(0,0):=by simpa using N
   co_applyP bB rfl (kl ((J _).n _) (hu:=U54) (hs:=bJ) (hz:=mm));intro W L4 p;have hr:Reads prog L4 1 [Value.int .i64 (i:Nat)].length (.slice (some ⟨W,0,none⟩) [Value.int .i64 (i:Nat)].length 1) [Value.int .i64 (i:Nat)].toArray:=by
    have:=bR (P:=prog) (sz:=1) (n:=1) (len:=1) (cap:=1) (o:=0) p.self bE;simpa using this
   co_applyP oeN rfl (λhnd=>Hm (a:=a) (xs:=Mr (x.IS i)) (ys:=[Value.int .i64 (i:Nat)]) (hnd:=hnd) (hN:=(J _).n) (ha:=I.mono λc hc o Q=>p.sub _ Q) (hr:=hr) (hpl:=rfl) (h8:=ao) (h8':=bE));rintro _ L5 ⟨r,rfl,M⟩;co_applyP(ay);change _=_/\_/\ ∃r,_/\_/\kn _ _;have ef:Mr (x.IS (i+1))=Mr (x.IS i)++[Value.int .i64 (i:Nat)]:=by rw[um l];simp
   refine⟨rfl,⟨M.fn,λt j=>M.sub _ (p.sub _ (g.s _ (O.s _ j))) (m t j)⟩,r,by rw[ef];exact M.ok,λt j e=> ?_,by rw[ef];rfl⟩;rcases M.d _ e with h|h
   ·exact m t j h
   ·exact h _ (p.sub _ (g.s _ (O.s _ j))) rfl
  intro N;co_applyP(zo);change _=_/\_/\ ∃r,_/\_/\kn _ _;have l: ¬x.f i=(0,0):=by simpa using N
  exact⟨rfl,O.trans g,a,by rw[o9 l];exact I,m,by rw[o9 l];rfl⟩;rintro H u C ⟨rfl,Y,r,S,G,T⟩;co_applyP aA T;co_applyP(av);change∃k',k'<_/\_;exact⟨c-1,bl,rfl,Y,i+1,r,bl,bl,S,G,by rw[<-ei];rfl⟩
 intro B;co_applyP(aC);change∃v,Ko .. =some v/\_;have K:i=6:=by simp at B;omega
 subst K;exact⟨_,rfl,rfl,a,rfl,X,m,O⟩
def PS.piped (x:PS)(u i j:Nat):PS:={x with f:=put (put x.f i (u,4)) j (u,5),r:=put (put x.r 0 i) 1 j}
def St.I4 (S:St)(b:Nat)(x:PS):Option Nat×St:=if S.unused=0 then(some 4,S) else match x.IS 6 with
 |i::j::_=>(none,(S.IY S.unused []).ID b (x.piped S.unused i j))
 |_=>(some 4,S)
theorem E1: ∃n,∀{u}{F:Kn u}{m:DM F}{d s}(K:Nat)(A:Kq)(S:St)(Fr L:Ka)(eb:Nat->Nat×Nat)(b:Nat)(x:PS),(∀s,K7 (m s))->Ke K A S Fr L->KZ eb Fr->(b,x)∈S.ps->S.unused=0->
 Kb m prog d 136 [ptr K,ptr b].toArray n s L (λs' v L'=>s=s'/\v=LZ eb 4/\Ke K A S Fr L'):=by
 obtain⟨I,g0⟩:=mq;obtain⟨G,B⟩:=s5;constructor;intro u F m d s K A S Fr L eb b x o r y hb hu;co_applyP ar 60 func136 ntmps136;co_applyP(au);co_applyP oc rfl rfl rfl (g0 K A S Fr L (λs=>(o s).k) r);rintro _ _ _ ⟨rfl,rfl,i⟩;co_applyP(zo);rename_i C;have j:=r.ext i;co_applyP oc rfl rfl rfl (B C b x o i.f (j.p _ hb));rintro _ _ _ ⟨rfl,a,rfl,H,z,l⟩;co_applyP(ax);co_applyP aK (n₂:=0);co_applyP aK;rename_i D;have e:=j.ext l;have E:=(y.mono e.fr).g 4 bx bx;rw[hu];co_applyP(aH);exact xI _ ⟨rfl,rfl,rfl,e⟩
theorem E2: ∃n,∀{y}{F:Kn y}{m:DM F}{d s}(K:Nat)(A:Kq)(S:St)(Fr L:Ka)(eb:Nat->Nat×Nat)(b:Nat)(x:PS),(∀s,K7 (m s))->Ke K A S Fr L->KZ eb Fr->(b,x)∈S.ps->S.unused≠0->(x.IS 6).length<2->
 Kb m prog d 136 [ptr K,ptr b].toArray n s L (λs' v L'=>s=s'/\v=LZ eb 4/\Ke K A S Fr L'):=by
 obtain⟨P,g0⟩:=mq;obtain⟨O,I⟩:=s5;constructor;intro y F m d s K A S Fr L eb b x r u C hb hu B;have G:((S.unused:Int)==0)=false:=ao
 co_applyP ar 60 func136 ntmps136;co_applyP(au);co_applyP oc rfl rfl rfl (g0 K A S Fr L (λs=>(r s).k) u);rintro _ _ _ ⟨rfl,rfl,i⟩;co_applyP(zo);rename_i J;have j:=u.ext i;co_applyP oc rfl rfl rfl (I J b x r i.f (j.p _ hb));rintro _ _ _ ⟨rfl,a,rfl,D,H,l⟩;co_applyP(ax);co_applyP aK (n₂:=0);co_applyP aK;rename_i M;have e:=j.ext l;have N:=(C.mono e.fr).g 4 bx bx;obtain⟨o,cap,z,E⟩:=bH D;rw[z];co_applyP(av);rw[G];co_applyP(au);change Kw ..;have el:decide (((Mr (x.IS 6)).length:Int)<2)=true:=ao
 rw[el];co_applyP(aC);exact xI _ ⟨rfl,rfl,rfl,e⟩
theorem E3: ∃n,∀{σ}{F:Kn σ}{Δ:DM F}{C s}(K:Nat)(A:Kq)(S:St)(Fr L:Ka)(eb:Nat->Nat×Nat)(b:Nat)(x:PS)(i j:Nat)(l:List Nat),(∀s,K7 (Δ s))->Ke K A S Fr L->(b,x)∈S.ps->S.unused≠0->x.IS 6=i::j::l->i<6->j<6->
 Kb Δ prog C 136 [ptr K,ptr b].toArray n s L (λs' v L'=>s=s'/\v= .nilIface/\ ∃A',Ke K A' ((S.IY S.unused []).ID b (x.piped S.unused i j)) Fr L'):=by
 obtain⟨n0,g0⟩:=mq;obtain⟨n1,g1⟩:=s5;constructor;intro σ F Δ C s K A S Fr L eb b x i j l hN hR hb hu g k' l';have eu:((S.unused:Int)==0)=false:=ao
 have U:=nI S;co_applyP ar 60 func136 ntmps136;co_applyP(au);co_applyP oc rfl rfl rfl (g0 K A S Fr L (λs=>(hN s).k) hR);rintro _ _ _ ⟨rfl,rfl,a'⟩;co_applyP(zo);rename_i L1;have P:=hR.ext a';co_applyP oc rfl rfl rfl (g1 L1 b x hN a'.f (P.p _ hb));rintro _ _ _ ⟨rfl,a,rfl,ha,r',j'⟩;co_applyP(av);co_applyP aK;rename_i L2;have e:=P.ext j';obtain⟨p',cap,hv,Z⟩:=bH ha;obtain⟨q,R,I,y'⟩:=Z 0 (.int .i64 (i:Nat)) (by rw[g];rfl);obtain⟨q',z,_,B'⟩:=Z 1 (.int .i64 (j:Nat)) (by rw[g];rfl);obtain rfl:q=q':=by rw[R] at z;exact gu z
 have m:(Mr (x.IS 6)).length=l.length+2:=by rw[g];simp
 rw[hv,I];co_applyP(av);rw[eu];co_applyP(au);change Kw ..;have el:decide (((Mr (x.IS 6)).length:Int)<2)=false:=by rw[m];simp;omega
 rw[el];co_applyP(aO);co_applyP osm rfl (hs:=gj) (hm:=e.k) (hi:=by first|decide|(rw[bq];omega)|(rw[bP];omega));intro L3 o;have i': ∃cs,(q,true,Obj.cells cs 3)∈L2/\cs[0]? =some (.int .i64 (i:Nat))/\cs[1]? =some (.int .i64 (j:Nat)):=by
  refine⟨_,ha.mem R, ?_, ?_⟩
  ·rw[g];rfl
  ·rw[g];rfl
 obtain⟨cq,J,u,B⟩:=i';have n':q≠K:=e.fn.ne J e.k (aB bx);have c':q≠b:=e.fn.ne J (e.p _ hb) (aB bx);have Q:Ke K (A.IY S.unused ⟨none,[]⟩) (S.IY S.unused []) Fr L3:=by
  refine e.setBytes U o.fn ?_ (λt ht h1 h2=>o.ne _ ht h1) ⟨rfl,rfl⟩ (λc hc=>by cases hc);show (K,true,Obj.cells (Ks _) 115)∈L3;have:=o.self;rw[oZ _ U] at this;rw[sY];exact this
 have d:(b,x)∈(S.IY S.unused []).ps:=hb;have V:=o.ne _ J n';have t':At L3 q 0 (.int .i64 (i:Nat)):=⟨true,_,_,_,V,u⟩;have u':(0:Int)<((Mr (x.IS 6)).length:Nat):=by rw[m];omega
 have v':(1:Int)<((Mr (x.IS 6)).length:Nat):=by rw[m];omega
 co_applyP(ay);co_applyP aM [] 9 (nf:=0) mixed;co_applyP(au);co_applyP tr 6 rfl bI pN;co_applyP(zo);co_applyP tr 5 rfl (aQ (dG _ _)) pN;co_applyP tr 8 rfl ((cW underlying97 bw)) pN;have eo: ∀j:Nat,79+j*2=79+2*j:=λj=>by omega
 co_applyP aF;intro W;co_applyP te (i:=9) rfl (fA (hs:=bw) (vs:=[.int .i64 ((S.unused,4):Nat×Nat).1, .int .i64 ((S.unused,4):Nat×Nat).2]) (hnd:=W) (hm:=Q.p _ d) (hi:=by rw[bq];simp;omega));rintro _ _ ⟨rfl,G⟩;refine⟨aj bE, ?_⟩;rename_i L4;rw[eo,sV x k' (S.unused,4)] at G;have M:=Q.ID d (x':={x with f:=put x.f i (S.unused,4)}) G;have T:(b,{x with f:=put x.f i (S.unused,4)})∈((S.IY S.unused []).ID b {x with f:=put x.f i (S.unused,4)}).ps:=ai d;have b':=G.ne _ V c';have w':At L4 q 1 (.int .i64 (j:Nat)):=⟨true,_,_,_,b',B⟩;co_applyP(ay);co_applyP aM [] 9 (nf:=0) mixed;co_applyP(au);co_applyP tr 6 rfl bI pN;co_applyP(zo);co_applyP tr 5 rfl (aQ (dG _ _)) pN;co_applyP tr 8 rfl ((cW underlying97 bw)) pN;co_applyP aF;intro N;co_applyP te (i:=9) rfl (fA (hs:=bw) (vs:=[.int .i64 ((S.unused,5):Nat×Nat).1, .int .i64 ((S.unused,5):Nat×Nat).2]) (hnd:=N) (hm:=M.p _ T) (hi:=by rw[bq];simp;omega));rintro _ _ ⟨rfl,D⟩;refine⟨aj bE, ?_⟩;rename_i L5;rw[eo,sV _ l' (S.unused,5)] at D;have E:=M.ID T (x':={x with f:=put (put x.f i (S.unused,4)) j (S.unused,5)}) D;rw[bd] at E;have f':(b,{x with f:=put (put x.f i (S.unused,4)) j (S.unused,5)})∈((S.IY S.unused []).ID b {x with f:=put (put x.f i (S.unused,4)) j (S.unused,5)}).ps:=ai d;have g':=D.ne _ b' c';have C':At L5 q 0 (.int .i64 (i:Nat)):=⟨true,_,_,_,g',u⟩;have z':At L5 q 1 (.int .i64 (j:Nat)):=⟨true,_,_,_,g',B⟩;have wi:IntKind.u16.wrap ((i:Nat):Int)=((i:Nat):Int):=by rw[bC];omega
 have wj:IntKind.u16.wrap ((j:Nat):Int)=((j:Nat):Int):=by rw[bC];omega
 co_applyP(ay);co_applyP aM [] 14 (nf:=0) mixed;co_applyP(dE);co_applyP tr 15 rfl bI pN;co_applyP(ay);rw[wi,wj];co_applyP aF;intro Y;co_applyP te (i:=14) rfl (bX (hnd:=Y) (hm:=E.p _ f') (hi:=by rw[bq];omega) (hs:=bh));rintro _ _ ⟨rfl,h'⟩;refine⟨aj bE, ?_⟩;rename_i L6;have p7: ∀(y:PS)(v:Int),(Kg y).setIfInBounds 7 (.int .u16 v)=Kg {y with r:=put y.r 0 v}:=λy v=>dR y (i:=0) bl v;have p8: ∀(y:PS)(v:Int),(Kg y).setIfInBounds 8 (.int .u16 v)=Kg {y with r:=put y.r 1 v}:=λy v=>dR y (i:=1) bl v;have e':K4 L5 b (.cells (Kg {x with f:=put (put x.f i (S.unused,4)) j (S.unused,5),r:=put x.r 0 i}) 99) L6:=by
  have:=h';simp only[p7] at this;exact this
 have H:=E.ID f' e';rw[bd] at H;co_applyP to 18 rfl ((cW U47 bh)) (aj bE);co_applyP aF;intro d';co_applyP te (i:=19) rfl (bX (hnd:=d') (hm:=H.p _ (ai d)) (hi:=by rw[bq];omega) (hs:=bh));rintro _ _ ⟨rfl,m'⟩;refine⟨aj bE, ?_⟩;rename_i L7;have O:K4 L6 b (.cells (Kg (x.piped S.unused i j)) 99) L7:=by
  have:=m';simp only[p8] at this;exact this
 have X:=H.ID (ai d) O;rw[bd] at X;co_applyP(au);exact xI _ ⟨rfl,rfl,rfl,_,X⟩
def St.taken (S:St)(c:Nat)(y:PS):St:={S.IP (S.ps++[(c,{y with id:=S.last+1})]) with last:=S.last+1}
def St.Jw (S:St)(c:Nat)(y:PS):St:=(S.taken c y).IV c {y with id:=S.last+1}
theorem vK (k:KS)(v:Nat):(Ks k).setIfInBounds 6 (.int .i64 (v:Nat))=Ks {k with last:=v}:=rfl
theorem vL (A:Kq)(S:St)(a:Sl)(ps':List (Nat×PS))(ls:Nat):Ks (Lj (A.I6 0 a) {S.IP ps' with last:=ls})=Ks {Lj A S with procs:=Ky a ps'.length,last:=ls}:=by
 unfold Ks Lj Kq.I6 put St.IP;simp
theorem DY: ∃n,∀{σ}{F:Kn σ}{Δ:DM F}{z s}(K:Nat)(A:Kq)(S:St)(Fr L:Ka)(c:Nat)(y:PS),(∀cs,(Δ s).New (.cells cs 93))->Ke K A S (pb c y::Fr) L->(∀t∈Fr,t.1≠c)->S.ps.length<8->S.last<4611686018427387904->y.lv<3->(S.rows y.lv).length<=8->
 Kb Δ prog z 48 [ptr K,ptr c].toArray n s L (λs' v L'=>s=s'/\v= .tuple #[]/\ ∃A',Ke K A' (S.Jw c y) Fr L'):=by
 obtain⟨n1,g1⟩:=lO;constructor;intro σ F Δ z s K A S Fr L c y R N hF h8 hl J h';have w1:IntKind.i64.wrap ((S.last:Int)+1)=((S.last+1:Nat):Int):=ag
 have U:At L K 6 (.int .i64 (S.last:Nat)):=N.kat rfl;have f': ∀q∈S.ps,c≠q.1:=(N.fd _ eT).2.1;co_applyP ar 32 func48 ntmps48;co_applyP(aO);rw[w1];co_applyP osm rfl (hs:=bJ) (hm:=N.k) (hi:=by first|decide|(rw[bq];omega)|(rw[bP];omega));intro W H;rw[vK] at H;have C:Ke K A {S with last:=S.last+1} (pb c y::Fr) W:=N.JM rfl rfl rfl rfl rfl rfl H;have O:At W K 6 (.int .i64 ((S.last+1:Nat):Nat)):=C.kat rfl;co_applyP(aP);co_applyP osm rfl (hs:=bJ) (hm:=C.fr _ eT) (hi:=by first|decide|(rw[bq];omega)|(rw[bP];omega));intro E j';have x:K4 W c (.cells (Kg {y with id:=S.last+1}) 99) E:=by rw[<-BB];exact j'
 have d':Ke K A {S with last:=S.last+1} ((pb c {y with id:=S.last+1}::([pb c y].filter λt=> !decide (t.1=c)))++Fr) E:=Ke.aside (G:=[pb c y]) (F:=Fr) C eT hF x;have B:pb c {y with id:=S.last+1}∈E:=x.self;have g:Ke K A {S with last:=S.last+1} Fr E:=d'.less λt r=>by simp[r]
 have h5:At E K 5 (Ky (A.a 0) (S.ps.map (·.1)).length):=by rw[ia];exact g.kat rfl
 co_applyP(aO);co_applyP bB rfl (kl (R _) (hx:=rfl) (hu:=U91) (hs:=dA) (hz:=jd));intro nb L3 m;have f:=g.add m;have b':(S.ps.map λq=>ptr q.1)=(S.ps.map (·.1)).map ptr:=by rw[kt];rfl
 have i':Kf (A.a 0) ((S.ps.map (·.1)).map ptr) 93 L3:=by rw[<-b'];exact f.pa
 co_applyP oeN rfl (λhnd=>ud (a:=A.a 0) (xs:=S.ps.map (·.1)) (c:=c) (hnd:=hnd) (hN:=R) (ha:=i') (h8:=ao) (hnb:=m.self));rintro _ L4 ⟨a',rfl,l⟩;co_applyP(ay);have D: ∀{b:Nat}{fl:Bool}{o:Obj},(b,fl,o)∈L3->(∀c',o≠Obj.cells c' 93)->(A.a 0).b≠some b:=λhm X hc=>by
  obtain⟨ys,hy⟩:=f.al _ _ hc;exact X _ (f.fn _ _ _ _ _ hm hy).2
 have I:=D f.k λc=>aB bx;have T:=D (m.sub _ B) λc=>aB bx;co_applyP oeN rfl (λhnd=>bX (hs:=gx) (hnd:=hnd) (hm:=l.sub _ f.k I) (hi:=by rw[bP];omega) (hp:=fD _ _));rintro _ L5 ⟨rfl,j⟩;co_applyP(av);have V:c≠K:=g.fn.ne B g.k (aB bx);have Y:=j.ne _ (l.sub _ (m.sub _ B) T) V;have Z:Ke K (A.I6 0 a') (S.taken c y) Fr L5:=by
  refine Ke.IP (S:={S with last:=S.last+1}) f (ps':=S.ps++[(c,{y with id:=S.last+1})]) (ls:=S.last+1) j.fn ?_ (λt r P h2=>j.ne _ (l.sub _ r h2) P) ?_ ?_ ?_ ao ?_ ?_
  ·show (K,true,Obj.cells (Ks _) 115)∈L5;have:=j.self;rw[lZ] at this;rw[vL];have el:(S.ps++[(c,{y with id:=S.last+1})]).length=(S.ps.map (·.1)).length+1:=bE
   rw[el];exact this
  ·have e2:((S.ps++[(c,{y with id:=S.last+1})]).map λ(q:Nat×PS)=>ptr q.1)=((S.ps.map (·.1))++[c]).map ptr:=bE
   rw[e2];refine l.ok.mono λd hd o X=>j.ne _ X λe=> ?_;have P:=l.ok.mem hd;have e':d=K:=e;rw[e'] at P;exact aB bx (l.fn _ _ _ _ _ P (l.sub _ f.k I)).2
  ·intro q M;rcases cE.1 M with h|h
   ·exact j.ne _ (l.sub _ (f.p q h) (D (f.p q h) λc=>aB bx)) (f.fn.ne (f.p q h) f.k (aB bx))
   ·simp at h;subst h;exact Y
  ·rw[l3];refine ss.2 ⟨f.pn,bE,λu hu v hv=> ?_⟩;simp at hv;subst hv;rintro rfl;obtain⟨q,M,e⟩:=cm.1 hu;exact f' q M e.symm
  ·intro t r q M;rcases cE.1 M with h|h
   ·exact(f.fd t r).2.1 q h
   ·simp at h;subst h;exact hF t r
  ·intro d hd;rcases l.d d hd with h|h
   ·exact .inl h
   ·refine .inr ⟨λi Q=> ?_,λt r=>h t (f.fr t r)⟩;obtain⟨ys,hy⟩:=f.al i d Q;exact h _ hy rfl
 have k':(c,{y with id:=S.last+1})∈(S.taken c y).ps:=rv _ eT;co_applyP oc rfl rfl rfl (g1 K _ _ Fr L5 c {y with id:=S.last+1} R Z k' J h' (λe he=>cU e.1 J));rintro _ _ _ ⟨rfl,rfl,A6,l',g'⟩;co_applyP(zo);exact xI _ ⟨rfl,rfl,rfl,A6,g'⟩
def PS.copy (x:PS):PS:=⟨0,x.id,0,0,x.at_,0,0,x.r,x.m,x.f,0⟩
def regv (r:Nat->Int):Value:= .agg #[.int .u16 (r 0), .int .u16 (r 1), .int .u16 (r 2), .int .u16 (r 3), .int .u16 (r 4), .int .u16 (r 5), .int .u16 (r 6), .int .u16 (r 7)]
def memv (m:Nat->Int):Value:= .agg ((List.range 64).map λi=>Value.int .u8 (m i)).toArray
def headv (par at_:Int)(r:Nat->Int):Value:= .agg #[.int .i64 0, .int .i64 par, .int .i64 0, .int .i64 0, .int .i64 at_, .int .i64 0, .int .i64 0, .int .u16 (r 0), .int .u16 (r 1), .int .u16 (r 2), .int .u16 (r 3), .int .u16 (r 4), .int .u16 (r 5), .int .u16 (r 6), .int .u16 (r 7)]
theorem vM (x:PS):Value.agg ((Kg x).extract 7 15)=regv x.r:=by rfl
theorem qU (x:PS):Value.agg ((Kg x).extract 15 79)=memv x.m:=by
 have h:=DU x (i:=0) (n:=64) bl;have a:(Kg x).extract 15 79=((x.Jn 0 64).map λv=>Value.int .u8 v).toArray:=h;rw[a];unfold memv PS.Jn;rw[kt];congr 2
theorem Hn (par at_:Int)(r:Nat->Int):KF prog (Instr.build 49 [(1, .int .i64 par),(4, .int .i64 at_),(7,regv r)].toArray) []=some (headv par at_ r,[]):=bD
theorem Ho (x:PS):KF prog (Instr.build 99 [(0,headv (x.id:Nat) (x.at_:Nat) x.r),(1,memv x.m),(2,Lm x.f)].toArray) []=some (.agg (Kg x.copy),[]):=bD
def St.Jt (S:St)(b:Nat)(x:PS)(c:Nat):St:=(S.Jw c (x.copy.r0 0)).ID b (x.r0 (((S.last+1:Nat):Int)%65536))
theorem E4: ∃n,∀{k}{F:Kn k}{j:DM F}{a s}(K:Nat)(A:Kq)(S:St)(Fr L:Ka)(eb:Nat->Nat×Nat)(b:Nat),Ke K A S Fr L->KZ eb Fr->8<=S.ps.length->
 Kb j prog a 131 [ptr K,ptr b].toArray n s L (λs' v L'=>s=s'/\L=L'/\v=LZ eb 4):=by
 constructor;intro k F j a s K A S Fr L eb b e m r;obtain⟨d,cap,f,i⟩:=bH e.pa;simp only[ia] at f;have p:At L K 5 (.slice d S.ps.length cap):=by rw[<-f];exact e.kat rfl
 have o:=(m.mono e.fr).g 4 bx bx;have l:decide ((8:Int)<=(S.ps.length:Nat))=true:=ao
 co_applyP ar 58 func131 ntmps131;co_applyP(ax);co_applyP aK (n₂:=0);co_applyP(aO);change Kw ..;rw[l];co_applyP(aC);exact xI _ ⟨rfl,rfl,rfl,rfl⟩
theorem E5: ∃n,∀{Y}{F:Kn Y}{E:DM F}{f s}(K:Nat)(A:Kq)(S:St)(Fr L:Ka)(b:Nat)(x:PS),(∀cs,(E s).New (.cells cs 93))->(∀cs,(E s).New (.cells cs 99))->Ke K A S Fr L->Inv S->(b,x)∈S.ps->S.ps.length<8->S.last<4611686018427387904->
 Kb E prog f 131 [ptr K,ptr b].toArray n s L (λs' v L'=>s=s'/\v= .nilIface/\ ∃A' c,(∀q∈S.ps,c≠q.1)/\Ke K A' (S.Jt b x c) Fr L'):=by
 obtain⟨n1,g1⟩:=DY;constructor;intro Y F E f s K A S Fr L b x hN O d hI hb h8 Q;obtain⟨C,cap,T,V⟩:=bH d.pa;simp only[ia] at T;have h5:At L K 5 (.slice C S.ps.length cap):=by rw[<-T];exact d.kat rfl
 have e8:decide ((8:Int)<=(S.ps.length:Nat))=false:=ao
 have a':At L b 0 (.int .i64 (x.id:Nat)):=d.pat hb (i:=0) rfl;have b':At L b 4 (.int .i64 (x.at_:Nat)):=d.pat hb (i:=4) rfl;co_applyP ar 58 func131 ntmps131;co_applyP(bZ);change Kw ..;rw[e8];co_applyP(ax);co_applyP aM [] 25 (nf:=0) mixed;co_applyP(dE);co_applyP tr 16 rfl bk pN;co_applyP(ay);co_applyP tr 20 rfl bk pN;co_applyP(ay);co_applyP t0 14 rfl (aW (ht:=Ds) (hs:=xL) (hm:=d.p _ hb) (hi:=by rw[bq];omega)) pN;co_applyP t0 19 rfl (aW (ht:=Dw) (hs:=Dv) (hm:=d.p _ hb) (hi:=by rw[bq];omega)) pN;co_applyP t0 23 rfl (aW (ht:=xR) (hs:=xQ) (hm:=d.p _ hb) (hi:=by rw[bq];omega)) pN;rw[show (0+0+7+8:Nat)=15 from rfl,show (0+0+7:Nat)=7 from rfl,vM,show (0+15+64:Nat)=79 from rfl,qU,show (0+79+12:Nat)=91 from rfl,iG];co_applyP tr 15 rfl (aQ (Hn _ _ _)) pN;co_applyP tr 24 rfl (aQ (Ho x)) pN;co_applyP lD (i:=25) rfl (bA (O _));intro c X P;refine⟨aj bE, ?_⟩;co_applyP to 26 rfl (fX) (aj bE);have a:Add L c (.cells (Kg x.copy) 99) X:=P;have k:Ke K A S (pb c x.copy::Fr) X:=d.fresh ⟨a.fn,a.sub⟩ a.new a.self;have r: ∀q∈S.ps,c≠q.1:=(k.fd _ eT).2.1;have D: ∀t∈Fr,t.1≠c:=λt m=>a.new t (d.fr t m)
 co_applyP(aR);co_applyP osm rfl (hs:=bh) (hm:=k.fr _ eT) (hi:=by first|decide|(rw[bq];omega)|(rw[bP];omega));intro I o;rw[eG] at o;have J:Ke K A S ((pb c (x.copy.r0 0)::([pb c x.copy].filter λt=> !decide (t.1=c)))++Fr) I:=Ke.aside (G:=[pb c x.copy]) (F:=Fr) k eT D o;have B:Ke K A S (pb c (x.copy.r0 0)::Fr) I:=J.less λt m=>by
  rcases gn.1 m with rfl|h
  ·simp
  ·simp[h]
 co_applyP(av);co_applyP oc rfl rfl rfl (g1 K A S Fr I c (x.copy.r0 0) hN B D h8 Q (by show 0<3;omega) (hI.g.r8 (l:=0) bl));rintro _ _ _ ⟨rfl,rfl,Z,j⟩;co_applyP(zo);co_applyP aK;rename_i W;have M:b≠c:=λe=>r _ hb e.symm;have y:(b,x)∈(S.Jw c (x.copy.r0 0)).ps:=bK (nx _ hb) M;have N:(c,{x.copy.r0 0 with id:=S.last+1,st:=1,used:=0})∈(S.Jw c (x.copy.r0 0)).ps:=ai (rv _ eT);have U:At W c 0 (.int .i64 ((S.last+1:Nat):Nat)):=j.pat N (i:=0) rfl;have wl:IntKind.u16.wrap (((S.last+1:Nat):Nat):Int)=((S.last+1:Nat):Int)%65536:=bC _;co_applyP aM [] 11 (nf:=0) mixed;co_applyP(bf);rw[wl];co_applyP aF;intro z;co_applyP te (i:=11) rfl (bX (hnd:=z) (hm:=j.p _ y) (hi:=by rw[bq];omega) (hs:=bh));rintro _ _ ⟨rfl,R⟩;refine⟨aj bE, ?_⟩;rename_i L4;have u:K4 W b (.cells (Kg (x.r0 (((S.last+1:Nat):Int)%65536))) 99) L4:=by rw[<-eG];exact R
 have H:=j.ID y u;co_applyP(au);exact xI _ ⟨rfl,rfl,rfl,Z,c,r,H⟩
end Go.Proofs.YtejkelcaljmnoaaGreatDoor
namespace Go.Lo
open Go.Conc Go.Hx
section
variable {σ:Type}{F:Kn σ}(Δ: ∀s,Ma (F.R s) (F.D s)) (P:Program) (main:Bool) (fn:FuncId) (N:Nat)
def NW (ops:Array Oper)(Q:σ->Exit->Env->Ka->Prop)(nf:Nat)(L0:Ka)(e:Nat)(fuel:Nat)(ls:Array Bool)(s:σ)(ε:Env)(L:Ka):Prop:=
 ∀a,Fits N ε a->Down ops ls-> ∀w,(Δ s).Own L w->LA F P main fn ops (λls s w=> ∃L,(Δ s).Own L w/\(ls.getD e true=false-> ∀t∈L0,t∈L)) (up Δ (upE N Q)) nf fuel ls s a w
end
section
variable {σ:Type}{F:Kn σ}{Δ: ∀s,Ma (F.R s) (F.D s)} {P:Program} {main:Bool} {fn:FuncId} {N:Nat} {Q:σ->Exit->Env->Ka->Prop} {s:σ} {ε:Env} {L:Ka} {ops:Array Oper} {nf:Nat} {e:Nat} {fuel:Nat} {ls:Array Bool}
theorem s7 {id:Nat}(e:Nat){nf:Nat}(hm:P.follows .mixedOrders=true:=by first|rfl|kernel_rfl)(h:NW Δ P main fn N ops Q nf L e ops.size (Array.replicate ops.size false) s ε L):Kw Δ P main fn N (.region id ops true) (ops.size*(nf+3)+1+1) s Q ε L:=by
 intro a i w f;exact ly (S:=λg j w=> ∃L',(Δ j).Own L' w/\(g.getD e true=false-> ∀t∈L,t∈L')) (Δ s).ld hm λd b=>h a i lx _ ((Δ s).draw ((Δ s).rely f b)).1
theorem lt {i:Nat}{d:Option Tmp}{k:Op}{A:TypeId}{ps:String}{af:Array Edge}{g:Option (Nat×Bool)}{v:Value}(ho:ops[i]? =some ⟨d,k,A,ps,af,g⟩)(hy:EY P N ε L ⟨d,k,A,ps,af,g⟩ v)
 (hs:Region.noSelect ops=true:=by kernel_rfl) (hf:Region.free .any ops ls i=true:=by kernel_rfl) (hr:(Region.ready .any ops ls).contains i=true:=by kernel_rfl) (u:i≠e:=by decide) (hh:Nc ops ops.size e i=true:=by kernel_rfl) (hw:Kr ops N ε g=some true:=by rfl) (hd:KG N d=true:=by rfl)
 (h:NW Δ P main fn N ops Q nf L e fuel (ls.setIfInBounds i true) s (KY d v ε) L):NW Δ P main fn N ops Q nf L e (fuel+1) ls s ε L:=by
 intro a m x w z;have n:i∈Region.ready .any ops ls:=by simpa using hr
 refine jW (λ_ s _ _ ⟨L,G,E⟩ r=>⟨L,(Δ s).rely G r,E⟩) lz ho hs hf hr x (λls s w=> ?_) (λl p f j=> .inl ⟨m.wanted hw,λH ⟨y,o,B⟩=> ?_⟩) ⟨L,z,λ_ t C=>C⟩ (h _ (m.put hd v) (x.step n) w z)
 ·refine exists_congr λy=>and_congr_right λ_=> ?_;rw[getD_set_ne true u]
 ·have b: ∀t∈L,t∈y:=by
   refine B ?_;cases he:l.getD e true with
   |false=>rfl
   |true=>
    have:=p.hangs _ _ _ hh he;rw[oN this] at f;cases f
  obtain⟨F,D⟩:=oK (Δ j) o ((hy a m).mono b);exact⟨F,(Δ j).dd ((Δ j).gr H) λe he=>D e (mem_listed he)⟩
theorem lc {i:Nat}{d:Option Tmp}{k:Op}{B:TypeId}{ps:String}{af:Array Edge}{g:Option (Nat×Bool)}{f:FuncId}{args:Array Operand}{b:Array TypeId}{vs:List Value}{Post:σ->Value->Ka->Prop}{L0:Ka}(ho:ops[i]? =some ⟨d,k,B,ps,af,g⟩)(n:k= .call {callee:= .value (.func f),args,argTypes:=b})(ha:args.toList.map (ev ε)=vs.map some)(hcall:Kb Δ P main f vs.toArray nf s L Post)
 (hr:Region.ready .any ops ls=[i]:=by kernel_rfl) (o:Region.ready .any ops (ls.setIfInBounds i true)=[]:=by kernel_rfl) (hle:(ls.setIfInBounds i true).getD e true=true:=by first|rfl|decide) (hw:Kr ops N ε g=some true:=by rfl) (hd:KG N d=true:=by rfl)
 (h: ∀s' v L',Post s' v L'->Q s' .normal (KY d v ε) L'):NW Δ P main fn N ops Q nf L0 e (fuel+1) ls s ε L:=by
 intro a m C w A;have z:args.map a.eval=vs.toArray:=by
  apply gm;simp only[Array.toList_map];have: ∀(l:List Operand)(vs:List Value),l.map (ev ε)=vs.map some->l.map a.eval=vs:=by
   intro l
   induction l with
   |nil=>intro vs h;cases vs<;>simp_all
   |cons x l ih=>
    intro vs h;cases vs with
    |nil=>simp at h
    |cons v vs=>
     simp only[ix,List.cons.injEq] at h⊢;exact⟨m.ev h.1,ih vs h.2⟩
  exact this _ _ ha
 refine iS hr bE λj y=> ?_;obtain rfl:j=i:=by simpa using y
 have hc:=hcall w A;rw[<-z] at hc;refine .inr ⟨_,f,args,b,_,ho,m.wanted hw,n,hc,λs' v D ⟨L',r,u⟩=>⟨⟨L',r,λp=> ?_⟩,nh o ⟨L',r,_,m.put hd v,h s' v L' u⟩ _⟩⟩;rw[hle] at p;cases p
end
end Go.Lo
namespace Go.Proofs.YtejkelcaljmnoaaGreatDoor
open Go.Conc Go.Hx Go.Lo Tryz
attribute [local irreducible] EY KO K6 Kw Kc Ku Kd Program.underlying
def St.I9 (S:St)(b:Nat)(x:PS)(n:Int):List Value:=
 if n=0 then [LK S.now 4 x.id (x.r 0)]
 else if n=3 then(match S.find (x.r 0) with
  |some q=>if q.2.st=6 then [] else [LK S.now 4 q.2.id 65280]
  |none=>[])
 else if n=11 then [LK S.now 3 x.id (x.r 0%256)] else []
def St.IW (S:St)(b:Nat)(x:PS)(n:Int):Option Nat:=
 if n=0 then none else if n=1 then(if 8<=S.ps.length then some 4 else none)
 else if n=2 then(S.Jd b x).1
 else if n=3 then(match S.find (x.r 0) with
  |some q=>if q.2.st=6 then some 6 else none
  |none=>some 6)
 else if n=4 then none else if n=5 then none else if n=6 then none
 else if n=7 then(S.I4 b x).1 else if n=8 then(S.IZ b x).1
 else if n=9 then(S.Jf b x 4 64).1 else if n=10 then(S.Jf b x 5 8).1
 else if n=11 then none else some 9
def St.IK (S:St)(b:Nat)(x:PS)(n:Int)(c:Nat):St:=
 if n=0 then S.fin b x (x.r 0) else if n=1 then(if 8<=S.ps.length then S else S.Jt b x c)
 else if n=2 then(S.Jd b x).2
 else if n=3 then(match S.find (x.r 0) with
  |some q=>if q.2.st=6 then S else(S.fin q.1 q.2 65280).r0 b 0
  |none=>S)
 else if n=4 then S.I7 b x else if n=5 then S.Jo b x else if n=6 then S.ID b (x.r0 ((x.id:Int)%65536))
 else if n=7 then(S.I4 b x).2 else if n=8 then(S.IZ b x).2
 else if n=9 then(S.Jf b x 4 64).2 else if n=10 then(S.Jf b x 5 8).2
 else if n=11 then S.ID b (x.r0 0) else S
structure Kt (S:St)(b:Nat)(x:PS):Prop where
 i:Inv S
 m:(b,x)∈S.ps
 s:x.st=1
 o:S.out b
 n:S.now<4611686018427387904
 l:S.last<4611686018427387904
theorem Ce: ∃n,∀{p:KC}{Sh:Loc->Prop}{E Dn:Nat}{PostB:World->Prop}{Aft:Goroutine->World->Prop}{W:World}{O:Nat}{G0:List (Nat×Obj)}{vs:List Value}(K:Nat)(A:Kq)(S:St)(Fr L:Ka)(eb:Nat->Nat×Nat)(b:Nat)(x:PS),(∀s,K7 (Kx prog p Sh E Dn PostB Aft W O G0 s))->Ke K A S Fr L->KZ eb Fr->Kt S b x->
 Kb (Kx prog p Sh E Dn PostB Aft W O G0) prog false 112 [ptr K,ptr b, .int .u8 0, .chan (some E)].toArray n (LK S.now 4 x.id (x.r 0)::vs) L (λs' v L'=>vs=s'/\v= .nilIface/\ ∃z G,Lv b (S.fin b x (x.r 0)) G/\Ke K z (S.fin b x (x.r 0)) (G++Fr) L'):=by
 obtain⟨B,g0⟩:=yZ;constructor;intro p Sh E Dn PostB Aft W O G0 vs K A S Fr L eb b x y e k hu;have f:=hu.i;have hb:=hu.m;have g:0<=x.r 0/\x.r 0<65536:=(f.wf _ hb).r 0 bl;have o:IntKind.i64.wrap (x.r 0)=x.r 0:=ag
 have u:At L b 7 (.int .u16 (x.r 0)):=e.pat hb (bu x (i:=0) bl);have j:At L b 0 (.int .i64 (x.id:Nat)):=e.pat hb (i:=0) rfl;co_applyP ar 106 func112 ntmps112;co_applyP(aH);co_applyP(bm);simp only[o];co_applyP oc rfl rfl rfl (g0 K A S Fr L eb b x (x.r 0) (λs=>(y s).toNewK) e k f hb);rintro _ _ _ ⟨rfl,rfl,l,G,a,d⟩;co_applyP(au);exact xI _ ⟨rfl,rfl,rfl,l,G,a _ hb,d⟩
theorem zb: ∃n,∀{p:KC}{Sh:Loc->Prop}{E Dn:Nat}{PostB:World->Prop}{Aft:Goroutine->World->Prop}{W:World}{O:Nat}{G0:List (Nat×Obj)}{vs:List Value}(K:Nat)(A:Kq)(S:St)(Fr L:Ka)(eb:Nat->Nat×Nat)(b:Nat)(x:PS),(∀s,K7 (Kx prog p Sh E Dn PostB Aft W O G0 s))->Ke K A S Fr L->KZ eb Fr->Kt S b x->8<=S.ps.length->
 Kb (Kx prog p Sh E Dn PostB Aft W O G0) prog false 112 [ptr K,ptr b, .int .u8 1, .chan (some E)].toArray n (vs) L (λs' v L'=>vs=s'/\v=LZ eb 4/\Ke K A S Fr L'):=by
 obtain⟨o,g0⟩:=E4;constructor;intro p Sh E Dn PostB Aft W O G0 vs K A S Fr L eb b x u a f hu j;have k:=hu.i;have hb:=hu.m;have d:0<=x.r 0/\x.r 0<65536:=(k.wf _ hb).r 0 bl;have l:IntKind.i64.wrap (x.r 0)=x.r 0:=ag
 have g:At L b 7 (.int .u16 (x.r 0)):=a.pat hb (bu x (i:=0) bl);have e:At L b 0 (.int .i64 (x.id:Nat)):=a.pat hb (i:=0) rfl;co_applyP ar 106 func112 ntmps112;co_applyP(ax);co_applyP aK (n₂:=0);co_applyP(aH);co_applyP(ay);co_applyP oc rfl rfl rfl (g0 K A S Fr L eb b a f j);rintro _ _ _ ⟨rfl,rfl,rfl⟩;co_applyP(ax);exact xI _ ⟨rfl,rfl,rfl,a⟩
theorem zc: ∃n,∀{p:KC}{Sh:Loc->Prop}{E Dn:Nat}{PostB:World->Prop}{Aft:Goroutine->World->Prop}{W:World}{O:Nat}{G0:List (Nat×Obj)}{vs:List Value}(K:Nat)(A:Kq)(S:St)(Fr L:Ka)(eb:Nat->Nat×Nat)(b:Nat)(x:PS),(∀s,K7 (Kx prog p Sh E Dn PostB Aft W O G0 s))->Ke K A S Fr L->KZ eb Fr->Kt S b x->S.ps.length<8->
 Kb (Kx prog p Sh E Dn PostB Aft W O G0) prog false 112 [ptr K,ptr b, .int .u8 1, .chan (some E)].toArray n (vs) L (λs' v L'=>vs=s'/\v= .nilIface/\ ∃y c,(∀q∈S.ps,c≠q.1)/\Ke K y (S.Jt b x c) Fr L'):=by
 obtain⟨C,g0⟩:=E5;constructor;intro p Sh E Dn PostB Aft W O G0 vs K A S Fr L eb b x e d z hu u;have f:=hu.i;have hb:=hu.m;have g:0<=x.r 0/\x.r 0<65536:=(f.wf _ hb).r 0 bl;have B:IntKind.i64.wrap (x.r 0)=x.r 0:=ag
 have o:At L b 7 (.int .u16 (x.r 0)):=d.pat hb (bu x (i:=0) bl);have j:At L b 0 (.int .i64 (x.id:Nat)):=d.pat hb (i:=0) rfl;co_applyP ar 106 func112 ntmps112;co_applyP(ax);co_applyP aK (n₂:=0);co_applyP(aH);co_applyP(ay);co_applyP oc rfl rfl rfl (g0 K A S Fr L b x (e _).r (e _).p d f hb u hu.l);rintro _ _ _ ⟨rfl,rfl,k,c,hc,a⟩;co_applyP(ax);exact xI _ ⟨rfl,rfl,rfl,k,c,hc,a⟩
theorem Cf: ∃n,∀{p:KC}{Sh:Loc->Prop}{E Dn:Nat}{PostB:World->Prop}{Aft:Goroutine->World->Prop}{W:World}{O:Nat}{G0:List (Nat×Obj)}{vs:List Value}(K:Nat)(A:Kq)(S:St)(Fr L:Ka)(eb:Nat->Nat×Nat)(b:Nat)(x:PS),(∀s,K7 (Kx prog p Sh E Dn PostB Aft W O G0 s))->Ke K A S Fr L->KZ eb Fr->Kt S b x->
 Kb (Kx prog p Sh E Dn PostB Aft W O G0) prog false 112 [ptr K,ptr b, .int .u8 2, .chan (some E)].toArray n (vs) L (λs' v L'=>vs=s'/\v=Ok eb (S.Jd b x).1/\ ∃u,Ke K u (S.Jd b x).2 Fr L'):=by
 obtain⟨z,g0⟩:=EW;constructor;intro p Sh E Dn PostB Aft W O G0 vs K A S Fr L eb b x o d j hu;have e:=hu.i;have hb:=hu.m;have f:0<=x.r 0/\x.r 0<65536:=(e.wf _ hb).r 0 bl;have y:IntKind.i64.wrap (x.r 0)=x.r 0:=ag
 have l:At L b 7 (.int .u16 (x.r 0)):=d.pat hb (bu x (i:=0) bl);have g:At L b 0 (.int .i64 (x.id:Nat)):=d.pat hb (i:=0) rfl;co_applyP ar 106 func112 ntmps112;co_applyP(ax);co_applyP aK (n₂:=0);co_applyP(aH);co_applyP(aR);co_applyP oc rfl rfl rfl (g0 K A S Fr L eb b x (o _).r d j e hb (by have:=hu.s;omega));rintro _ _ _ ⟨rfl,rfl,k,a⟩;co_applyP(ax);exact xI _ ⟨rfl,rfl,rfl,k,a⟩
theorem zd: ∃n,∀{p:KC}{Sh:Loc->Prop}{E Dn:Nat}{PostB:World->Prop}{Aft:Goroutine->World->Prop}{W:World}{O:Nat}{G0:List (Nat×Obj)}{vs:List Value}(K:Nat)(A:Kq)(S:St)(Fr L:Ka)(eb:Nat->Nat×Nat)(b:Nat)(x:PS),(∀s,K7 (Kx prog p Sh E Dn PostB Aft W O G0 s))->Ke K A S Fr L->KZ eb Fr->Kt S b x->S.find (x.r 0)=none->
 Kb (Kx prog p Sh E Dn PostB Aft W O G0) prog false 112 [ptr K,ptr b, .int .u8 3, .chan (some E)].toArray n (vs) L (λs' v L'=>vs=s'/\v=LZ eb 6/\Ke K A S Fr L'):=by
 obtain⟨o,g0⟩:=EX;constructor;intro p Sh E Dn PostB Aft W O G0 vs K A S Fr L eb b x u a j hu f;have d:=hu.i;have hb:=hu.m;have e:0<=x.r 0/\x.r 0<65536:=(d.wf _ hb).r 0 bl;have l:IntKind.i64.wrap (x.r 0)=x.r 0:=ag
 have k:At L b 7 (.int .u16 (x.r 0)):=a.pat hb (bu x (i:=0) bl);have g:At L b 0 (.int .i64 (x.id:Nat)):=a.pat hb (i:=0) rfl;co_applyP ar 106 func112 ntmps112;co_applyP(ax);co_applyP aK (n₂:=0);co_applyP(aH);co_applyP(bQ);co_applyP oc rfl rfl rfl (g0 K A S Fr L eb b x _ a j d hb f);rintro _ _ _ ⟨rfl,rfl,rfl⟩;co_applyP(ax);exact xI _ ⟨rfl,rfl,rfl,a⟩
theorem ze: ∃n,∀{p:KC}{Sh:Loc->Prop}{E Dn:Nat}{PostB:World->Prop}{Aft:Goroutine->World->Prop}{W:World}{O:Nat}{G0:List (Nat×Obj)}{vs:List Value}(K:Nat)(A:Kq)(S:St)(Fr L:Ka)(eb:Nat->Nat×Nat)(b:Nat)(x:PS)(c:Nat)(y:PS),(∀s,K7 (Kx prog p Sh E Dn PostB Aft W O G0 s))->Ke K A S Fr L->KZ eb Fr->Kt S b x->S.find (x.r 0)=some (c,y)->y.st=6->
 Kb (Kx prog p Sh E Dn PostB Aft W O G0) prog false 112 [ptr K,ptr b, .int .u8 3, .chan (some E)].toArray n (vs) L (λs' v L'=>vs=s'/\v=LZ eb 6/\Ke K A S Fr L'):=by
 obtain⟨u,g0⟩:=EZ;constructor;intro p Sh E Dn PostB Aft W O G0 vs K A S Fr L eb b x c y z a k hu g f;have d:=hu.i;have hb:=hu.m;have e:0<=x.r 0/\x.r 0<65536:=(d.wf _ hb).r 0 bl;have o:IntKind.i64.wrap (x.r 0)=x.r 0:=ag
 have l:At L b 7 (.int .u16 (x.r 0)):=a.pat hb (bu x (i:=0) bl);have j:At L b 0 (.int .i64 (x.id:Nat)):=a.pat hb (i:=0) rfl;co_applyP ar 106 func112 ntmps112;co_applyP(ax);co_applyP aK (n₂:=0);co_applyP(aH);co_applyP(bQ);co_applyP oc rfl rfl rfl (g0 K A S Fr L eb b x _ c y a k d hb g f);rintro _ _ _ ⟨rfl,rfl,rfl⟩;co_applyP(ax);exact xI _ ⟨rfl,rfl,rfl,a⟩
theorem zf: ∃n,∀{p:KC}{Sh:Loc->Prop}{E Dn:Nat}{PostB:World->Prop}{Aft:Goroutine->World->Prop}{W:World}{O:Nat}{G0:List (Nat×Obj)}{vs:List Value}(K:Nat)(A:Kq)(S:St)(Fr L:Ka)(eb:Nat->Nat×Nat)(b:Nat)(x:PS)(c:Nat)(y:PS),(∀s,K7 (Kx prog p Sh E Dn PostB Aft W O G0 s))->Ke K A S Fr L->KZ eb Fr->Kt S b x->S.find (x.r 0)=some (c,y)->y.st≠6->
 Kb (Kx prog p Sh E Dn PostB Aft W O G0) prog false 112 [ptr K,ptr b, .int .u8 3, .chan (some E)].toArray n (LK S.now 4 y.id 65280::vs) L (λs' v L'=>vs=s'/\v= .nilIface/\ ∃C G,Lv b ((S.fin c y 65280).r0 b 0) G/\Ke K C ((S.fin c y 65280).r0 b 0) (G++Fr) L'):=by
 obtain⟨F,g0⟩:=E0;constructor;intro p Sh E Dn PostB Aft W O G0 vs K A S Fr L eb b x c y B e o hu k j;have f:=hu.i;have hb:=hu.m;have g:0<=x.r 0/\x.r 0<65536:=(f.wf _ hb).r 0 bl;have D:IntKind.i64.wrap (x.r 0)=x.r 0:=ag
 have z:At L b 7 (.int .u16 (x.r 0)):=e.pat hb (bu x (i:=0) bl);have l:At L b 0 (.int .i64 (x.id:Nat)):=e.pat hb (i:=0) rfl;co_applyP ar 106 func112 ntmps112;co_applyP(ax);co_applyP aK (n₂:=0);co_applyP(aH);co_applyP(bQ);co_applyP oc rfl rfl rfl (g0 K A S Fr L eb b x c y (λs=>(B s).toNewK) e o f hb k j);rintro _ _ _ ⟨rfl,rfl,u,G,d,a⟩;co_applyP(ax);exact xI _ ⟨rfl,rfl,rfl,u,G,d,a⟩
theorem Cg: ∃n,∀{p:KC}{Sh:Loc->Prop}{E Dn:Nat}{PostB:World->Prop}{Aft:Goroutine->World->Prop}{W:World}{O:Nat}{G0:List (Nat×Obj)}{vs:List Value}(K:Nat)(A:Kq)(S:St)(Fr L:Ka)(eb:Nat->Nat×Nat)(b:Nat)(x:PS),(∀s,K7 (Kx prog p Sh E Dn PostB Aft W O G0 s))->Ke K A S Fr L->KZ eb Fr->Kt S b x->
 Kb (Kx prog p Sh E Dn PostB Aft W O G0) prog false 112 [ptr K,ptr b, .int .u8 4, .chan (some E)].toArray n (vs) L (λs' v L'=>vs=s'/\v= .nilIface/\ ∃l,Ke K l (S.I7 b x) Fr L'):=by
 obtain⟨y,g0⟩:=BX;constructor;intro p Sh E Dn PostB Aft W O G0 vs K A S Fr L eb b x z d o hu;have e:=hu.i;have hb:=hu.m;have f:0<=x.r 0/\x.r 0<65536:=(e.wf _ hb).r 0 bl;have u:IntKind.i64.wrap (x.r 0)=x.r 0:=ag
 have k:At L b 7 (.int .u16 (x.r 0)):=d.pat hb (bu x (i:=0) bl);have g:At L b 0 (.int .i64 (x.id:Nat)):=d.pat hb (i:=0) rfl;co_applyP ar 106 func112 ntmps112;co_applyP(aH);co_applyP(aH);co_applyP(aC);co_applyP oc rfl rfl rfl (g0 K A S Fr L b x d e hb hu.n);rintro _ _ _ ⟨rfl,rfl,j,a⟩;co_applyP(au);exact xI _ ⟨rfl,rfl,rfl,j,a⟩
theorem Ci: ∃n,∀{p:KC}{Sh:Loc->Prop}{E Dn:Nat}{PostB:World->Prop}{Aft:Goroutine->World->Prop}{W:World}{O:Nat}{G0:List (Nat×Obj)}{vs:List Value}(K:Nat)(A:Kq)(S:St)(Fr L:Ka)(eb:Nat->Nat×Nat)(b:Nat)(x:PS),(∀s,K7 (Kx prog p Sh E Dn PostB Aft W O G0 s))->Ke K A S Fr L->KZ eb Fr->Kt S b x->
 Kb (Kx prog p Sh E Dn PostB Aft W O G0) prog false 112 [ptr K,ptr b, .int .u8 5, .chan (some E)].toArray n (vs) L (λs' v L'=>vs=s'/\v= .nilIface/\ ∃o,Ke K o (S.Jo b x) Fr L'):=by
 obtain⟨z,g0⟩:=BY;constructor;intro p Sh E Dn PostB Aft W O G0 vs K A S Fr L eb b x l d u hu;have e:=hu.i;have hb:=hu.m;have f:0<=x.r 0/\x.r 0<65536:=(e.wf _ hb).r 0 bl;have y:IntKind.i64.wrap (x.r 0)=x.r 0:=ag
 have k:At L b 7 (.int .u16 (x.r 0)):=d.pat hb (bu x (i:=0) bl);have g:At L b 0 (.int .i64 (x.id:Nat)):=d.pat hb (i:=0) rfl;co_applyP ar 106 func112 ntmps112;co_applyP(aH);co_applyP(aH);co_applyP(bf);co_applyP oc rfl rfl rfl (g0 K A S Fr L b x (l _).r d e hb);rintro _ _ _ ⟨rfl,rfl,j,a⟩;co_applyP(au);exact xI _ ⟨rfl,rfl,rfl,j,a⟩
theorem Cj: ∃n,∀{p:KC}{Sh:Loc->Prop}{E Dn:Nat}{PostB:World->Prop}{Aft:Goroutine->World->Prop}{W:World}{O:Nat}{G0:List (Nat×Obj)}{vs:List Value}(K:Nat)(A:Kq)(S:St)(Fr L:Ka)(eb:Nat->Nat×Nat)(b:Nat)(x:PS),(∀s,K7 (Kx prog p Sh E Dn PostB Aft W O G0 s))->Ke K A S Fr L->KZ eb Fr->Kt S b x->
 Kb (Kx prog p Sh E Dn PostB Aft W O G0) prog false 112 [ptr K,ptr b, .int .u8 6, .chan (some E)].toArray n (vs) L (λs' v L'=>vs=s'/\v= .nilIface/\Ke K A (S.ID b (x.r0 ((x.id:Int)%65536))) Fr L'):=by
 constructor;intro p Sh E Dn PostB Aft W O G0 vs K A S Fr L eb b x y d o hu;have k:=hu.i;have hb:=hu.m;have f:0<=x.r 0/\x.r 0<65536:=(k.wf _ hb).r 0 bl;have u:IntKind.i64.wrap (x.r 0)=x.r 0:=ag
 have j:At L b 7 (.int .u16 (x.r 0)):=d.pat hb (bu x (i:=0) bl);have g:At L b 0 (.int .i64 (x.id:Nat)):=d.pat hb (i:=0) rfl;co_applyP ar 106 func112 ntmps112;co_applyP(aH);co_applyP(aH);co_applyP(bQ);co_applyP aM [] 11 (nf:=0) mixed;co_applyP(bf);rw[bC];co_applyP aF;intro hnd;co_applyP te (i:=11) rfl (bX (hnd:=hnd) (hm:=d.p _ hb) (hi:=by rw[bq];omega) (hs:=bh));rintro _ _ ⟨rfl,e⟩;refine⟨aj bE, ?_⟩;rename_i l;have a:K4 L b (.cells (Kg (x.r0 ((x.id:Int)%65536))) 99) l:=by rw[<-eG];exact e
 co_applyP(au);exact xI _ ⟨rfl,rfl,rfl,d.ID hb a⟩
theorem zg: ∃n,∀{p:KC}{Sh:Loc->Prop}{E Dn:Nat}{PostB:World->Prop}{Aft:Goroutine->World->Prop}{W:World}{O:Nat}{G0:List (Nat×Obj)}{vs:List Value}(K:Nat)(A:Kq)(S:St)(Fr L:Ka)(eb:Nat->Nat×Nat)(b:Nat)(x:PS),(∀s,K7 (Kx prog p Sh E Dn PostB Aft W O G0 s))->Ke K A S Fr L->KZ eb Fr->Kt S b x->S.unused=0->
 Kb (Kx prog p Sh E Dn PostB Aft W O G0) prog false 112 [ptr K,ptr b, .int .u8 7, .chan (some E)].toArray n (vs) L (λs' v L'=>vs=s'/\v=LZ eb 4/\Ke K A S Fr L'):=by
 obtain⟨u,g0⟩:=E1;constructor;intro p Sh E Dn PostB Aft W O G0 vs K A S Fr L eb b x k d g hu h0;have l:=hu.i;have hb:=hu.m;have e:0<=x.r 0/\x.r 0<65536:=(l.wf _ hb).r 0 bl;have o:IntKind.i64.wrap (x.r 0)=x.r 0:=ag
 have j:At L b 7 (.int .u16 (x.r 0)):=d.pat hb (bu x (i:=0) bl);have f:At L b 0 (.int .i64 (x.id:Nat)):=d.pat hb (i:=0) rfl;co_applyP ar 106 func112 ntmps112;co_applyP(ax);co_applyP aK (n₂:=0);co_applyP(aH);co_applyP(aH);co_applyP(aH);co_applyP(ay);co_applyP oc rfl rfl rfl (g0 K A S Fr L eb b x k d g hb h0);rintro _ _ _ ⟨rfl,rfl,a⟩;co_applyP(ax);exact xI _ ⟨rfl,rfl,rfl,a⟩
theorem zh: ∃n,∀{p:KC}{Sh:Loc->Prop}{E Dn:Nat}{PostB:World->Prop}{Aft:Goroutine->World->Prop}{W:World}{O:Nat}{G0:List (Nat×Obj)}{vs:List Value}(K:Nat)(A:Kq)(S:St)(Fr L:Ka)(eb:Nat->Nat×Nat)(b:Nat)(x:PS),(∀s,K7 (Kx prog p Sh E Dn PostB Aft W O G0 s))->Ke K A S Fr L->KZ eb Fr->Kt S b x->S.unused≠0->(x.IS 6).length<2->
 Kb (Kx prog p Sh E Dn PostB Aft W O G0) prog false 112 [ptr K,ptr b, .int .u8 7, .chan (some E)].toArray n (vs) L (λs' v L'=>vs=s'/\v=LZ eb 4/\Ke K A S Fr L'):=by
 obtain⟨y,g0⟩:=E2;constructor;intro p Sh E Dn PostB Aft W O G0 vs K A S Fr L eb b x l d j hu h0 g;have o:=hu.i;have hb:=hu.m;have e:0<=x.r 0/\x.r 0<65536:=(o.wf _ hb).r 0 bl;have u:IntKind.i64.wrap (x.r 0)=x.r 0:=ag
 have k:At L b 7 (.int .u16 (x.r 0)):=d.pat hb (bu x (i:=0) bl);have f:At L b 0 (.int .i64 (x.id:Nat)):=d.pat hb (i:=0) rfl;co_applyP ar 106 func112 ntmps112;co_applyP(ax);co_applyP aK (n₂:=0);co_applyP(aH);co_applyP(aH);co_applyP(aH);co_applyP(ay);co_applyP oc rfl rfl rfl (g0 K A S Fr L eb b x l d j hb h0 g);rintro _ _ _ ⟨rfl,rfl,a⟩;co_applyP(ax);exact xI _ ⟨rfl,rfl,rfl,a⟩
theorem zk: ∃n,∀{p:KC}{Sh:Loc->Prop}{E Dn:Nat}{PostB:World->Prop}{Aft:Goroutine->World->Prop}{W:World}{O:Nat}{G0:List (Nat×Obj)}{vs:List Value}(K:Nat)(A:Kq)(S:St)(Fr L:Ka)(eb:Nat->Nat×Nat)(b:Nat)(x:PS)(i j:Nat)(l:List Nat),(∀s,K7 (Kx prog p Sh E Dn PostB Aft W O G0 s))->Ke K A S Fr L->KZ eb Fr->Kt S b x->S.unused≠0->x.IS 6=i::j::l->i<6->j<6->
 Kb (Kx prog p Sh E Dn PostB Aft W O G0) prog false 112 [ptr K,ptr b, .int .u8 7, .chan (some E)].toArray n (vs) L (λs' v L'=>vs=s'/\v= .nilIface/\ ∃C,Ke K C ((S.IY S.unused []).ID b (x.piped S.unused i j)) Fr L'):=by
 obtain⟨G,g0⟩:=E3;constructor;intro p Sh E Dn PostB Aft W O G0 vs K A S Fr L eb b x i j l z d D hu h0 k f u;have B:=hu.i;have hb:=hu.m;have e:0<=x.r 0/\x.r 0<65536:=(B.wf _ hb).r 0 bl;have F:IntKind.i64.wrap (x.r 0)=x.r 0:=ag
 have y:At L b 7 (.int .u16 (x.r 0)):=d.pat hb (bu x (i:=0) bl);have g:At L b 0 (.int .i64 (x.id:Nat)):=d.pat hb (i:=0) rfl;co_applyP ar 106 func112 ntmps112;co_applyP(ax);co_applyP aK (n₂:=0);co_applyP(aH);co_applyP(aH);co_applyP(aH);co_applyP(ay);co_applyP oc rfl rfl rfl (g0 K A S Fr L eb b x i j l z d hb h0 k f u);rintro _ _ _ ⟨rfl,rfl,o,a⟩;co_applyP(ax);exact xI _ ⟨rfl,rfl,rfl,o,a⟩
theorem Ck: ∃n,∀{p:KC}{Sh:Loc->Prop}{E Dn:Nat}{PostB:World->Prop}{Aft:Goroutine->World->Prop}{W:World}{O:Nat}{G0:List (Nat×Obj)}{vs:List Value}(K:Nat)(A:Kq)(S:St)(Fr L:Ka)(eb:Nat->Nat×Nat)(b:Nat)(x:PS),(∀s,K7 (Kx prog p Sh E Dn PostB Aft W O G0 s))->Ke K A S Fr L->KZ eb Fr->Kt S b x->
 Kb (Kx prog p Sh E Dn PostB Aft W O G0) prog false 112 [ptr K,ptr b, .int .u8 8, .chan (some E)].toArray n (vs) L (λs' v L'=>vs=s'/\v=Ok eb (S.IZ b x).1/\ ∃y,Ke K y (S.IZ b x).2 Fr L'):=by
 obtain⟨B,g0⟩:=Cb;constructor;intro p Sh E Dn PostB Aft W O G0 vs K A S Fr L eb b x u d j hu;have e:=hu.i;have hb:=hu.m;have f:0<=x.r 0/\x.r 0<65536:=(e.wf _ hb).r 0 bl;have z:IntKind.i64.wrap (x.r 0)=x.r 0:=ag
 have l:At L b 7 (.int .u16 (x.r 0)):=d.pat hb (bu x (i:=0) bl);have g:At L b 0 (.int .i64 (x.id:Nat)):=d.pat hb (i:=0) rfl;co_applyP ar 106 func112 ntmps112;co_applyP(ax);co_applyP aK (n₂:=0);co_applyP(aH);co_applyP(aH);co_applyP(aH);co_applyP(aR);co_applyP oc rfl rfl rfl (g0 K A S Fr L eb b x (λs=>(u s).toNewK) d j e hb hu.o);rintro _ _ _ ⟨rfl,rfl,k,a⟩;co_applyP(ax);exact xI _ ⟨rfl,rfl,rfl,k,a⟩
theorem Cm: ∃n,∀{p:KC}{Sh:Loc->Prop}{E Dn:Nat}{PostB:World->Prop}{Aft:Goroutine->World->Prop}{W:World}{O:Nat}{G0:List (Nat×Obj)}{vs:List Value}(K:Nat)(A:Kq)(S:St)(Fr L:Ka)(eb:Nat->Nat×Nat)(b:Nat)(x:PS),(∀s,K7 (Kx prog p Sh E Dn PostB Aft W O G0 s))->Ke K A S Fr L->KZ eb Fr->Kt S b x->
 Kb (Kx prog p Sh E Dn PostB Aft W O G0) prog false 112 [ptr K,ptr b, .int .u8 9, .chan (some E)].toArray n (vs) L (λs' v L'=>vs=s'/\v=Ok eb (S.Jf b x 4 64).1/\ ∃y,Ke K y (S.Jf b x 4 64).2 Fr L'):=by
 obtain⟨B,g0⟩:=DX;constructor;intro p Sh E Dn PostB Aft W O G0 vs K A S Fr L eb b x u d j hu;have e:=hu.i;have hb:=hu.m;have f:0<=x.r 0/\x.r 0<65536:=(e.wf _ hb).r 0 bl;have z:IntKind.i64.wrap (x.r 0)=x.r 0:=ag
 have l:At L b 7 (.int .u16 (x.r 0)):=d.pat hb (bu x (i:=0) bl);have g:At L b 0 (.int .i64 (x.id:Nat)):=d.pat hb (i:=0) rfl;co_applyP ar 106 func112 ntmps112;co_applyP(ax);co_applyP aK (n₂:=0);co_applyP(aH);co_applyP(aH);co_applyP(aH);co_applyP(bZ);co_applyP oc rfl rfl rfl (g0 K A S Fr L eb b x 4 64 (λs=>(u s).toNewK) d j e hb hu.o hu.s (.inl rfl) bl);rintro _ _ _ ⟨rfl,rfl,k,a⟩;co_applyP(ax);exact xI _ ⟨rfl,rfl,rfl,k,a⟩
theorem zl: ∃n,∀{p:KC}{Sh:Loc->Prop}{E Dn:Nat}{PostB:World->Prop}{Aft:Goroutine->World->Prop}{W:World}{O:Nat}{G0:List (Nat×Obj)}{vs:List Value}(K:Nat)(A:Kq)(S:St)(Fr L:Ka)(eb:Nat->Nat×Nat)(b:Nat)(x:PS),(∀s,K7 (Kx prog p Sh E Dn PostB Aft W O G0 s))->Ke K A S Fr L->KZ eb Fr->Kt S b x->
 Kb (Kx prog p Sh E Dn PostB Aft W O G0) prog false 112 [ptr K,ptr b, .int .u8 10, .chan (some E)].toArray n (vs) L (λs' v L'=>vs=s'/\v=Ok eb (S.Jf b x 5 8).1/\ ∃y,Ke K y (S.Jf b x 5 8).2 Fr L'):=by
 obtain⟨B,g0⟩:=DX;constructor;intro p Sh E Dn PostB Aft W O G0 vs K A S Fr L eb b x u d j hu;have e:=hu.i;have hb:=hu.m;have f:0<=x.r 0/\x.r 0<65536:=(e.wf _ hb).r 0 bl;have z:IntKind.i64.wrap (x.r 0)=x.r 0:=ag
 have l:At L b 7 (.int .u16 (x.r 0)):=d.pat hb (bu x (i:=0) bl);have g:At L b 0 (.int .i64 (x.id:Nat)):=d.pat hb (i:=0) rfl;co_applyP ar 106 func112 ntmps112;co_applyP(ax);co_applyP aK (n₂:=0);co_applyP(aH);co_applyP(aH);co_applyP(aH);co_applyP(aH);co_applyP(ay);co_applyP oc rfl rfl rfl (g0 K A S Fr L eb b x 5 8 (λs=>(u s).toNewK) d j e hb hu.o hu.s (.inr rfl) bl);rintro _ _ _ ⟨rfl,rfl,k,a⟩;co_applyP(ax);exact xI _ ⟨rfl,rfl,rfl,k,a⟩
theorem zm: ∃n,∀{p:KC}{Sh:Loc->Prop}{E Dn:Nat}{PostB:World->Prop}{Aft:Goroutine->World->Prop}{W:World}{O:Nat}{G0:List (Nat×Obj)}{vs:List Value}(K:Nat)(A:Kq)(S:St)(Fr L:Ka)(eb:Nat->Nat×Nat)(b:Nat)(x:PS),(∀s,K7 (Kx prog p Sh E Dn PostB Aft W O G0 s))->Ke K A S Fr L->KZ eb Fr->Kt S b x->
 Kb (Kx prog p Sh E Dn PostB Aft W O G0) prog false 112 [ptr K,ptr b, .int .u8 11, .chan (some E)].toArray n (LK S.now 3 x.id (x.r 0%256)::vs) L (λs' v L'=>vs=s'/\v= .nilIface/\Ke K A (S.ID b (x.r0 0)) Fr L'):=by
 obtain⟨u,g0⟩:=o8;constructor;intro p Sh E Dn PostB Aft W O G0 vs K A S Fr L eb b x y d l hu;have k:=hu.i;have hb:=hu.m;have e:0<=x.r 0/\x.r 0<65536:=(k.wf _ hb).r 0 bl;have o:IntKind.i64.wrap (x.r 0)=x.r 0:=ag
 have j:At L b 7 (.int .u16 (x.r 0)):=d.pat hb (bu x (i:=0) bl);have g:At L b 0 (.int .i64 (x.id:Nat)):=d.pat hb (i:=0) rfl;co_applyP ar 106 func112 ntmps112;co_applyP(aH);co_applyP(aH);co_applyP(aH);co_applyP(aH);co_applyP(aO);co_applyP aK;have w8:IntKind.u8.wrap (x.r 0)=x.r 0%256:=kU _;have f:IntKind.i64.wrap (x.r 0%256)=x.r 0%256:=by simp[IntKind.wrap_i64];omega
 co_applyP s7 15 mixed;co_applyP lt (i:=0) rfl bk;co_applyP lt (i:=1) rfl bk;co_applyP lt (i:=2) rfl bk;co_applyP lt (i:=3) rfl bI;co_applyP lt (i:=4) rfl (br (hf:=cQ));co_applyP lt (i:=5) rfl (br (hf:=fR));co_applyP lt (i:=6) rfl (bT (ht:=dq));co_applyP lt (i:=7) rfl bk;co_applyP lt (i:=8) rfl bI;co_applyP lt (i:=9) rfl (br (hf:=cQ));co_applyP lt (i:=10) rfl (br (hf:=kO));co_applyP lt (i:=11) rfl (cW U47 bh);co_applyP lt (i:=12) rfl (bT (ht:=Dm));co_applyP lt (i:=13) rfl (xB (hs:=U32) (ht:=U5));co_applyP lt (i:=14) rfl (xB (hs:=U5) (ht:=U3));rw[w8,f];co_applyP lc (i:=15) rfl rfl rfl (g0 K A S Fr L 3 x.id (x.r 0%256) d);rintro _ _ _ ⟨rfl,rfl,rfl⟩;co_applyP(aC);co_applyP osm rfl (hs:=bh) (hm:=d.p _ hb) (hi:=by first|decide|(rw[bq];omega)|(rw[bP];omega));intro z a;rw[eG] at a;co_applyP(au);exact xI _ ⟨rfl,rfl,rfl,d.ID hb a⟩
theorem zn: ∃n,∀{p:KC}{Sh:Loc->Prop}{E Dn:Nat}{PostB:World->Prop}{Aft:Goroutine->World->Prop}{W:World}{O:Nat}{G0:List (Nat×Obj)}{vs:List Value}(K:Nat)(A:Kq)(S:St)(Fr L:Ka)(eb:Nat->Nat×Nat)(b:Nat)(x:PS)(m:Int),(∀s,K7 (Kx prog p Sh E Dn PostB Aft W O G0 s))->Ke K A S Fr L->KZ eb Fr->Kt S b x->(∀i:Int,0<=i->i<12->m≠i)->
 Kb (Kx prog p Sh E Dn PostB Aft W O G0) prog false 112 [ptr K,ptr b, .int .u8 m, .chan (some E)].toArray n (vs) L (λs' v L'=>vs=s'/\v=LZ eb 9/\Ke K A S Fr L'):=by
 constructor;intro p Sh E Dn PostB Aft W O G0 vs K A S Fr L eb b x m u a f hu hm;have k:=hu.i;have hb:=hu.m;have d:0<=x.r 0/\x.r 0<65536:=(k.wf _ hb).r 0 bl;have o:IntKind.i64.wrap (x.r 0)=x.r 0:=ag
 have j:At L b 7 (.int .u16 (x.r 0)):=a.pat hb (bu x (i:=0) bl);have e:At L b 0 (.int .i64 (x.id:Nat)):=a.pat hb (i:=0) rfl;co_applyP ar 106 func112 ntmps112;co_applyP(ax);co_applyP aK (n₂:=0);co_applyP(aO);change Kw ..;have l:=(f.mono a.fr).g 9 bx bx;rw[show (m==0)=false by simpa using hm 0 bl bl];co_applyP(au);change Kw ..;rw[show (m==1)=false by simpa using hm 1 bl bl];co_applyP(au);change Kw ..;rw[show (m==2)=false by simpa using hm 2 bl bl];co_applyP(au);change Kw ..;rw[show (m==3)=false by simpa using hm 3 bl bl];co_applyP(au);change Kw ..;rw[show (m==4)=false by simpa using hm 4 bl bl];co_applyP(au);change Kw ..;rw[show (m==5)=false by simpa using hm 5 bl bl];co_applyP(au);change Kw ..;rw[show (m==6)=false by simpa using hm 6 bl bl];co_applyP(au);change Kw ..;rw[show (m==7)=false by simpa using hm 7 bl bl];co_applyP(au);change Kw ..;rw[show (m==8)=false by simpa using hm 8 bl bl];co_applyP(au);change Kw ..;rw[show (m==9)=false by simpa using hm 9 bl bl];co_applyP(au);change Kw ..;rw[show (m==10)=false by simpa using hm 10 bl bl];co_applyP(au);change Kw ..;rw[show (m==11)=false by simpa using hm 11 bl bl];co_applyP(au)
 co_applyP(zo);exact xI _ ⟨rfl,rfl,rfl,a⟩
section
variable {S:St}{b:Nat}{x:PS}
theorem dU (h:b∈S.ps.map (·.1)): ∃z,(b,z)∈S.ps:=by
 obtain⟨q,a,rfl⟩:=cm.1 h;exact⟨q.2,a⟩
theorem fp {S:St}{b:Nat}{x:PS}(h:(b,x)∈S.ps):b∈S.ps.map (·.1):=cm.2 ⟨_,h,rfl⟩
theorem nK (S:St)(c:Nat)(y:PS)(s:Nat):(S.IT c y s).ps.map (·.1)=S.ps.map (·.1):=aV S c _
theorem E6 (S:St)(c:Nat)(v:Int):(S.r0 c v).ps.map (·.1)=S.ps.map (·.1):=by
 unfold St.r0
 split
 ·exact aV S c _
 ·rfl
theorem Cn (hb:(b,x)∈S.ps)(hs:x.st=1): ∃z,(b,z)∈(S.Jd b x).2.ps:=by
 unfold St.Jd
 split
 ·simp only
  split
  ·rename_i i k;obtain⟨q,a,_,f⟩:=di k;unfold St.take;rw[a];refine⟨_,ai (y:=x) ?_⟩;show (b,x)∈S.ps.eraseIdx i;obtain⟨j,g⟩:=mx hb;have d:j≠i:=λe=>by
    subst e;rw[g] at a;simp at a;rw[<-a] at f;simp only at f;omega
   rw[G2];exact⟨j,d,g⟩
  ·exact⟨_,ai hb⟩
 ·exact⟨x,hb⟩
theorem zp (hb:(b,x)∈S.ps): ∃z,(b,z)∈(S.I7 b x).ps:=by
 apply dU;unfold St.I7
 split
 ·rw[aV];exact fp hb
 ·rw[nK,aV];exact fp hb
theorem zq (hb:(b,x)∈S.ps): ∃z,(b,z)∈(S.Jo b x).ps:=⟨_,ai (S:=S) hb⟩
theorem zr (a:Inv S)(hb:(b,x)∈S.ps)(ho:S.out b): ∃z,(b,z)∈(S.IZ b x).2.ps:=by
 unfold St.IZ
 split
 ·exact⟨x,hb⟩
 ·apply dU;rw[E6,(a.shut hb ho _).f,aV];exact fp hb
theorem zt (k:Inv S)(hb:(b,x)∈S.ps)(ho:S.out b)(hs:x.st=1){use a:Nat}(hu:use=4\/use=5)(hm:use=5->a<=8): ∃z,(b,z)∈(S.Jf b x use a).2.ps:=by
 unfold St.Jf;cases hc:x.IQ use a with
 |some i=>exact⟨x,hb⟩
 |none=>
  obtain⟨d,c2,c3⟩:=ey hc;have m:KX (x.file (x.r 0)):=(k.Ju hb _).resolve_left λe=>by rw[e] at d;simp only at d;omega
  have g:=k.IN hb ho ⟨rfl,c3,λl=>by rw[l] at d;have:=hm d.symm;omega, .inl hs⟩ m;have j:=(g.look (x.file (x.r 0)).1).f;apply dU;simp only
  split
  ·split
   ·rw[nK,j];exact fp hb
   ·rw[j];exact fp hb
  ·rw[j];exact fp hb
theorem Co (hb:(b,x)∈S.ps)(c:Nat): ∃z,(b,z)∈(S.Jt b x c).ps:=by
 apply dU;unfold St.Jt;rw[aV];show b∈((S.taken c (x.copy.r0 0)).ID c _).ps.map (·.1);rw[aV];show b∈(S.ps++[(c,_)]).map (λq:Nat×PS=>q.1);rw[l3];exact nx _ (fp hb)
end
theorem uo: ∃n,∀{p:KC}{Sh:Loc->Prop}{E Dn:Nat}{PostB:World->Prop}{Aft:Goroutine->World->Prop}{W:World}{O:Nat}{G0:List (Nat×Obj)}{vs:List Value}(K:Nat)(A:Kq)(S:St)(Fr L:Ka)(eb:Nat->Nat×Nat)(b:Nat)(x:PS)(m:Int),(∀s,K7 (Kx prog p Sh E Dn PostB Aft W O G0 s))->Ke K A S Fr L->KZ eb Fr->Kt S b x->
 Kb (Kx prog p Sh E Dn PostB Aft W O G0) prog false 112 [ptr K,ptr b, .int .u8 m, .chan (some E)].toArray n (S.I9 b x m++vs) L (λs' v L'=>vs=s'/\v=Ok eb (S.IW b x m)/\ ∃F G c,(∀q∈S.ps,c≠q.1)/\Lv b (S.IK b x m c) G/\Ke K F (S.IK b x m c) (G++Fr) L'):=by
 obtain⟨n0,g0⟩:=Ce;obtain⟨f',C'⟩:=zb;obtain⟨x',k'⟩:=zc;obtain⟨n2,g2⟩:=Cf;obtain⟨n',l'⟩:=zd;obtain⟨j',D'⟩:=ze;obtain⟨e',w'⟩:=zf;obtain⟨n4,g4⟩:=Cg;obtain⟨n5,g5⟩:=Ci;obtain⟨n6,g6⟩:=Cj;obtain⟨v',m'⟩:=zg;obtain⟨E',p'⟩:=zh;obtain⟨t',y'⟩:=zk;obtain⟨n8,g8⟩:=Ck;obtain⟨n9,g9⟩:=Cm;obtain⟨r',B'⟩:=zl;obtain⟨g',d'⟩:=zm;obtain⟨i',h'⟩:=zn;refine⟨n0+(f'+(x'+(n2+(n'+(j'+(e'+(n4+(n5+(n6+(v'+(E'+(t'+(n8+(n9+(r'+(g'+i')))))))))))))))),λ{p Sh E Dn PostB Aft W O G0 vs} K A S Fr L eb b x m C u B hu=> ?_⟩;have hK: ∀q∈S.ps,K≠q.1:=λq hq=>u.fn.ne u.k (u.p q hq) (aB bx);have hb:=hu.m
 have a: ∀{n:Nat}{e:Option Nat}{J:St},S.I9 b x m=[]->S.IW b x m=e->(∀c,S.IK b x m c=J)->(∃z,(b,z)∈J.ps)->
  Kb (Kx prog p Sh E Dn PostB Aft W O G0) prog false 112 [ptr K,ptr b, .int .u8 m, .chan (some E)].toArray n vs L (λs' v L'=>vs=s'/\v=Ok eb e/\ ∃F,Ke K F J Fr L')->
  Kb (Kx prog p Sh E Dn PostB Aft W O G0) prog false 112 [ptr K,ptr b, .int .u8 m, .chan (some E)].toArray n (S.I9 b x m++vs) L (λs' v L'=>vs=s'/\v=Ok eb (S.IW b x m)/\ ∃F G c,(∀q∈S.ps,c≠q.1)/\Lv b (S.IK b x m c) G/\Ke K F (S.IK b x m c) (G++Fr) L'):=by
  intro n e J h1 N U h4 h;rw[h1,N];exact aJ h λs' v L' ⟨g,f,F,d⟩=>⟨g,f,F,[],K,hK,by rw[U];exact .inl h4,by rw[U];exact d⟩
 refine aG (m=0) (λh=> ?_) λh0=> ?_
 ·subst h;exact aJ (g0 K A S Fr L eb b x C u B hu) λs' v L' ⟨g,f,F,G,d,V⟩=>⟨g,f,F,G,K,hK,d,V⟩
 refine aG (m=1/\8<=S.ps.length) (λh=> ?_) λh1=> ?_
 ·obtain⟨rfl,M⟩:=h;exact a (e:=some 4) (J:=S) rfl (by simp[St.IW,M]) (λc=>by simp[St.IK,M]) ⟨x,hb⟩ (aJ (C' K A S Fr L eb b x C u B hu M) λs' v L' ⟨g,f,d⟩=>⟨g,f,A,d⟩)
 refine aG (m=1) (λh=> ?_) λa'=> ?_
 ·subst h;have M: ¬8<=S.ps.length:=λh=>h1 ⟨rfl,h⟩;refine aJ (k' K A S Fr L eb b x C u B hu bl) λs' v L' ⟨g,f,F,c,d,V⟩=>⟨g,by simp[St.IW,M];exact f,F,[],c,d, ?_, ?_⟩
  ·simp[St.IK,M];exact .inl (Co hb c)
  ·simp[St.IK,M];exact V
 refine aG (m=2) (λh=> ?_) λN=> ?_
 ·subst h;exact a rfl rfl (λc=>rfl) (Cn hb hu.s) (g2 K A S Fr L eb b x C u B hu)
 refine aG (m=3/\S.find (x.r 0)=none) (λh=> ?_) λb'=> ?_
 ·obtain⟨rfl,D⟩:=h;exact a (by simp[St.I9,D]) (e:=some 6) (by simp[St.IW,D]) (J:=S) (λc=>by simp[St.IK,D]) ⟨x,hb⟩ (aJ (l' K A S Fr L eb b x C u B hu D) λs' v L' ⟨g,f,d⟩=>⟨g,f,A,d⟩)
 refine aG (m=3/\ ∃q,S.find (x.r 0)=some q/\q.2.st=6) (λh=> ?_) λu'=> ?_
 ·obtain⟨rfl,⟨c,y⟩,D,z'⟩:=h;have H:y.st=6:=z';exact a (by simp[St.I9,D,H]) (e:=some 6) (by simp[St.IW,D,H]) (J:=S) (λc=>by simp[St.IK,D,H]) ⟨x,hb⟩ (aJ (D' K A S Fr L eb b x c y C u B hu D H) λs' v L' ⟨g,f,d⟩=>⟨g,f,A,d⟩)
 refine aG (m=3) (λh=> ?_) λU=> ?_
 ·subst h;obtain⟨⟨c,y⟩,D⟩: ∃q,S.find (x.r 0)=some q:=by
   cases D:S.find (x.r 0) with
   |none=>exact absurd ⟨rfl,D⟩ b'
   |some q=>exact⟨q,rfl⟩
  have H: ¬y.st=6:=λh=>u' ⟨rfl,_,D,h⟩;have e1:S.I9 b x 3=[LK S.now 4 y.id 65280]:=by simp[St.I9,D,H]
  have e2:S.IW b x 3=none:=by simp[St.IW,D,H]
  have e3: ∀c',S.IK b x 3 c'=(S.fin c y 65280).r0 b 0:=λc'=>by simp[St.IK,D,H]
  rw[e1,e2];exact aJ (w' K A S Fr L eb b x c y C u B hu D H) λs' v L' ⟨g,f,F,G,d,V⟩=>⟨g,f,F,G,K,hK,by rw[e3];exact d,by rw[e3];exact V⟩
 refine aG (m=4) (λh=> ?_) λh4=> ?_
 ·subst h;exact a (e:=none) rfl rfl (λc=>rfl) (zp hb) (g4 K A S Fr L eb b x C u B hu)
 refine aG (m=5) (λh=> ?_) λh5=> ?_
 ·subst h;exact a (e:=none) rfl rfl (λc=>rfl) (zq hb) (g5 K A S Fr L eb b x C u B hu)
 refine aG (m=6) (λh=> ?_) λH=> ?_
 ·subst h;exact a (e:=none) rfl rfl (λc=>rfl) ⟨_,ai hb⟩ (aJ (g6 K A S Fr L eb b x C u B hu) λs' v L' ⟨g,f,d⟩=>⟨g,f,A,d⟩)
 refine aG (m=7/\S.unused=0) (λh=> ?_) λY=> ?_
 ·obtain⟨rfl,T⟩:=h;have e:S.I4 b x=(some 4,S):=by unfold St.I4;rw[if_pos T]
  exact a (e:=some 4) rfl (by show (S.I4 b x).1=_;rw[e]) (J:=S) (λc=>by show (S.I4 b x).2=_;rw[e]) ⟨x,hb⟩ (aJ (m' K A S Fr L eb b x C u B hu T) λs' v L' ⟨g,f,d⟩=>⟨g,f,A,d⟩)
 refine aG (m=7/\(x.IS 6).length<2) (λh=> ?_) λq'=> ?_
 ·obtain⟨rfl,T⟩:=h;have I:S.unused≠0:=λh=>Y ⟨rfl,h⟩;have e:S.I4 b x=(some 4,S):=by
   unfold St.I4;rw[if_neg I];cases P:x.IS 6 with
   |nil=>rfl
   |cons i l=>
    cases l with
    |nil=>rfl
    |cons j l=>rw[P] at T;simp at T;omega
  exact a (e:=some 4) rfl (by show (S.I4 b x).1=_;rw[e]) (J:=S) (λc=>by show (S.I4 b x).2=_;rw[e]) ⟨x,hb⟩ (aJ (p' K A S Fr L eb b x C u B hu I T) λs' v L' ⟨g,f,d⟩=>⟨g,f,A,d⟩)
 refine aG (m=7) (λh=> ?_) λh7=> ?_
 ·subst h;have I:S.unused≠0:=λh=>Y ⟨rfl,h⟩;have N: ¬(x.IS 6).length<2:=λh=>q' ⟨rfl,h⟩;obtain⟨i,j,l,P⟩: ∃i j l,x.IS 6=i::j::l:=by
   cases P:x.IS 6 with
   |nil=>rw[P] at N;simp at N
   |cons i l=>
    cases l with
    |nil=>rw[P] at N;simp at N
    |cons j l=>exact⟨i,j,l,rfl⟩
  have Z: ∀i∈x.IS 6,i<6:=λi hi=>by
   unfold PS.IS at hi;simpa using (l4.1 hi).1
  have e:S.I4 b x=(none,(S.IY S.unused []).ID b (x.piped S.unused i j)):=by unfold St.I4;rw[if_neg I,P]
  exact a (e:=none) rfl (by show (S.I4 b x).1=_;rw[e]) (J:=(S.IY S.unused []).ID b (x.piped S.unused i j)) (λc=>by show (S.I4 b x).2=_;rw[e]) ⟨_,ai (S:=S.IY S.unused []) hb⟩ (y' K A S Fr L eb b x i j l C u B hu I P (Z i (by rw[P];simp)) (Z j (by rw[P];simp)))
 refine aG (m=8) (λh=> ?_) λM=> ?_
 ·subst h;exact a rfl rfl (λc=>rfl) (zr hu.i hb hu.o) (g8 K A S Fr L eb b x C u B hu)
 refine aG (m=9) (λh=> ?_) λh9=> ?_
 ·subst h;exact a rfl rfl (λc=>rfl) (zt hu.i hb hu.o hu.s (.inl rfl) bl) (g9 K A S Fr L eb b x C u B hu)
 refine aG (m=10) (λh=> ?_) λX=> ?_
 ·subst h;exact a rfl rfl (λc=>rfl) (zt hu.i hb hu.o hu.s (.inr rfl) bl) (B' K A S Fr L eb b x C u B hu)
 refine aG (m=11) (λh=> ?_) λR=> ?_
 ·subst h;exact aJ (d' K A S Fr L eb b x C u B hu) λs' v L' ⟨g,f,d⟩=>⟨g,f,A,[],K,hK, .inl ⟨_,ai hb⟩,d⟩
 ·have Q: ¬m=1:=a';refine a (e:=some 9) (J:=S) (by simp[St.I9,h0,U,R]) (by simp[St.IW,h0,Q,N,U,h4,h5,H,h7,M,h9,X,R]) (λc=>by simp[St.IK,h0,Q,N,U,h4,h5,H,h7,M,h9,X,R]) ⟨x,hb⟩ (aJ (h' K A S Fr L eb b x m C u B hu λi G' F'=> ?_) λs' v L' ⟨g,f,d⟩=>⟨g,f,A,d⟩);omega
theorem E7: ∃n,∀{p:KC}{Sh:Loc->Prop}{E Dn:Nat}{PostB:World->Prop}{Aft:Goroutine->World->Prop}{W:World}{O:Nat}{G0:List (Nat×Obj)}{vs:List Value}(K:Nat)(A:Kq)(S:St)(Fr L:Ka)(eb:Nat->Nat×Nat)(b:Nat)(x:PS)(m:Int),(∀s,K7 (Kx prog p Sh E Dn PostB Aft W O G0 s))->Ke K A S Fr L->KZ eb Fr->Kt S b x->S.IW b x m=none->
 Kb (Kx prog p Sh E Dn PostB Aft W O G0) prog false 95 [ptr K,ptr b, .int .u8 m, .chan (some E)].toArray n (S.I9 b x m++vs) L (λs' v L'=>vs=s'/\v= .nilIface/\ ∃o G c,(∀q∈S.ps,c≠q.1)/\Lv b (S.IK b x m c) G/\Ke K o (S.IK b x m c) (G++Fr) L'):=by
 obtain⟨u,g0⟩:=uo;obtain⟨r,j⟩:=yI;constructor;intro p Sh E Dn PostB Aft W O G0 vs K A S Fr L eb b x m k l g hu f;co_applyP ar 17 func95 ntmps95;co_applyP(aP);co_applyP oc rfl rfl rfl (g0 K A S Fr L eb b x m k l g hu);rintro _ _ _ ⟨rfl,rfl,i,G,c,hc,d,a⟩;rename_i e;rw[f];co_applyP oc rfl rfl rfl (j e _);rintro _ _ _ ⟨rfl,rfl,rfl⟩;co_applyP(ax);exact xI _ ⟨rfl,rfl,rfl,i,G,c,hc,d,a⟩
theorem E8: ∃n,∀{p:KC}{Sh:Loc->Prop}{E Dn:Nat}{PostB:World->Prop}{Aft:Goroutine->World->Prop}{W:World}{O:Nat}{G0:List (Nat×Obj)}{vs:List Value}(K:Nat)(A:Kq)(S:St)(Fr L:Ka)(eb:Nat->Nat×Nat)(b:Nat)(x:PS)(m:Int)(i:Nat),(∀s,K7 (Kx prog p Sh E Dn PostB Aft W O G0 s))->Ke K A S Fr L->KZ eb Fr->Kt S b x->S.IW b x m=some i->
 Kb (Kx prog p Sh E Dn PostB Aft W O G0) prog false 95 [ptr K,ptr b, .int .u8 m, .chan (some E)].toArray n (S.I9 b x m++vs) L (λs' v L'=>vs=s'/\ ∃r,v= .iface 180 (ptr r)/\At L' r 1 (LZ eb i)/\ ∃z G c,(∀q∈S.ps,c≠q.1)/\Lv b (S.IK b x m c) G/\Ke K z (S.IK b x m c) (G++Fr) L'):=by
 obtain⟨C,g0⟩:=uo;obtain⟨B,u⟩:=qO;constructor;intro p Sh E Dn PostB Aft W O G0 vs K A S Fr L eb b x m i g y l hu k;co_applyP ar 17 func95 ntmps95;co_applyP(aP);co_applyP oc rfl rfl rfl (g0 K A S Fr L eb b x m g y l hu);rintro _ _ _ ⟨rfl,rfl,o,G,c,hc,f,e⟩;rename_i j;rw[k];co_applyP oc rfl rfl rfl (u j _ (eb i) (g _).d);rintro _ _ _ ⟨rfl,r,rfl,a⟩;co_applyP(ax);exact xI _ ⟨rfl,rfl,r,rfl,⟨true,_,_,_,a.self,rfl⟩,o,G,c,hc,f,e.add a⟩
theorem E9 {A:Kq}{S:St}{K:Nat}{F L:Ka}(a:Ke K A S F L){i:Nat}(hi:i<S.pn):A.gc.extract (4*i) (4*i+4)= #[.int .u8 (S.pg i 0), .int .u8 (S.pg i 1), .int .u8 (S.pg i 2), .int .u8 (S.pg i 3)]/\4*i+4<=A.gc.size:=by
 have h0:=a.gv i 0 hi bl;have d:=a.gv i 1 hi bl;have l:=a.gv i 2 hi bl;have m:=a.gv i 3 hi bl;obtain⟨n,e⟩:=ib.1 m;obtain⟨_,f⟩:=ib.1 h0;obtain⟨_,k⟩:=ib.1 d;obtain⟨_,g⟩:=ib.1 l;refine⟨?_,bl⟩;apply Array.ext
 ·simp;omega
 ·intro j o b;simp at b;simp only[Array.getElem_extract];have:j=0\/j=1\/j=2\/j=3:=bl
  rcases this with rfl|rfl|rfl|rfl
  ·simpa using f
  ·simpa using k
  ·simpa using g
  ·simpa using e
theorem Fa: ∃n,∀{f}{F:Kn f}{e:DM F}{a s}(K:Nat)(A:Kq)(S:St)(Fr L:Ka)(eb:Nat->Nat×Nat)(b:Nat)(x:PS)(ch:Value),Ke K A S Fr L->KZ eb Fr->(b,x)∈S.ps->S.pn<=x.at_->
 Kb e prog a 85 [ptr K,ptr b,ch].toArray n s L (λs' v L'=>s=s'/\L=L'/\v=LZ eb 0):=by
 constructor;intro f F e a s K A S Fr L eb b x ch d j hb o;have k:At L b 4 (.int .i64 (x.at_:Nat)):=d.pat hb (i:=4) rfl;have m:At L K 4 (.slice (some ⟨A.g,0,none⟩) S.pn A.gcap):=d.kat rfl;have p:=(j.mono d.fr).g 0 bx bx;have l:decide ((S.pn:Int)<=(x.at_:Int))=true:=ao
 co_applyP ar 52 func85 ntmps85;co_applyP(ax);co_applyP aK (n₂:=0);co_applyP(dE);change Kw ..;rw[l];co_applyP(aC);exact xI _ ⟨rfl,rfl,rfl,rfl⟩
def PS.next (x:PS):PS:={x with at_:=x.at_+1}
theorem Kt.ID {S:St}{b:Nat}{x x':PS}(h:Kt S b x)(hs:x'.st=x.st)(hl:x'.lv=x.lv)(hr:x'.r=x.r)(hf:x'.f=x.f)(hm:x'.m=x.m):Kt (S.ID b x') b x':=
 ⟨h.i.alike h.m hs hl hr hf hm,ai h.m,hs.trans h.s,h.o,h.n,h.l⟩
theorem Cp: ∃n,∀{p:KC}{Sh:Loc->Prop}{E Dn:Nat}{PostB:World->Prop}{Aft:Goroutine->World->Prop}{W:World}{O:Nat}{G0:List (Nat×Obj)}{vs:List Value}(K:Nat)(A:Kq)(S:St)(Fr L:Ka)(eb:Nat->Nat×Nat)(b:Nat)(x:PS),(∀s,K7 (Kx prog p Sh E Dn PostB Aft W O G0 s))->Ke K A S Fr L->KZ eb Fr->Kt S b x->x.at_<S.pn->S.pn<=256->S.pg x.at_ 0=9->(S.ID b x.next).IW b x.next (S.pg x.at_ 1)=none->
 Kb (Kx prog p Sh E Dn PostB Aft W O G0) prog false 85 [ptr K,ptr b, .chan (some E)].toArray n ((S.ID b x.next).I9 b x.next (S.pg x.at_ 1)++vs) L (λs' v L'=>vs=s'/\v= .nilIface/\ ∃A' G c,(∀q∈S.ps,c≠q.1)/\Lv b ((S.ID b x.next).IK b x.next (S.pg x.at_ 1) c) G/\Ke K A' ((S.ID b x.next).IK b x.next (S.pg x.at_ 1) c) (G++Fr) L'):=by
 obtain⟨n0,g0⟩:=E7;constructor;intro p Sh E Dn PostB Aft W O G0 vs K A S Fr L eb b x Y l hE hu hp a' h9 hV;have hb:=hu.m;have d':At L b 4 (.int .i64 (x.at_:Nat)):=l.pat hb (i:=4) rfl;have f':At L K 4 (.slice (some ⟨A.g,0,none⟩) S.pn A.gcap):=l.kat rfl;have e1:decide ((S.pn:Int)<=(x.at_:Int))=false:=ao
 obtain⟨H,c'⟩:=E9 l hp;have a: ∀t∈[kb K (Lj A S),pb b x,(A.g,true,Obj.cells A.gc 158)],t∈L:=λt f=>by
  simp only[gn,Oz,or_false] at f;rcases f with rfl|rfl|rfl
  ·exact l.k
  ·exact l.p _ hb
  ·exact l.g
 have V:At [kb K (Lj A S),pb b x,(A.g,true,Obj.cells A.gc 158)] b 4 (.int .i64 (x.at_:Nat)):=⟨true,_,_,_,dc _ eT,rfl⟩;have X:At [kb K (Lj A S),pb b x,(A.g,true,Obj.cells A.gc 158)] K 4 (.slice (some ⟨A.g,0,none⟩) S.pn A.gcap):=⟨true,_,_,_,eT,rfl⟩;have M:(A.g,true,Obj.cells A.gc 158)∈[kb K (Lj A S),pb b x,(A.g,true,Obj.cells A.gc 158)]:=dc _ (dc _ eT);have eo:x.at_*4=4*x.at_:=bl
 have b':((x.at_:Nat):Int)<(S.pn:Nat):=bl
 co_applyP ar 52 func85 ntmps85;co_applyP(aH);co_applyP(ax);change Kw ..;rw[e1];co_applyP(ax);co_applyP aM [kb K (Lj A S),pb b x,(A.g,true,Obj.cells A.gc 158)] 11 (nf:=0) mixed;co_applyP tr 0 rfl bk (aa a);co_applyP tr 1 rfl bI (aa a);co_applyP tr 2 rfl (br (hf:=jb)) (aa a);co_applyP tr 3 rfl (bT (ht:=oR)) (aa a);co_applyP tr 4 rfl bk (aa a);co_applyP tr 5 rfl bI (aa a);co_applyP tr 6 rfl (br (hf:=cQ)) (aa a);co_applyP tr 7 rfl (br (hf:=gS)) (aa a);co_applyP tr 8 rfl (bT (ht:=dq)) (aa a);co_applyP tr 9 rfl (gi vt dz) (aa a);co_applyP tr 10 rfl (aW (ht:=iC) (hs:=dz) (hm:=M) (hi:=bl)) (aa a);co_applyP lD (i:=11) rfl (eN (z:=NC 0 0 0 0) ((Y _).i _));intro C L1 d;refine⟨aj λt f=>d.sub _ (a t f), ?_⟩;co_applyP aF;intro y;co_applyP te (i:=12) rfl (fA (hs:=dz) (vs:=[.int .u8 (S.pg x.at_ 0), .int .u8 (S.pg x.at_ 1), .int .u8 (S.pg x.at_ 2), .int .u8 (S.pg x.at_ 3)]) (hy:=by rw[eo,H];rfl) (hnd:=y) (hm:=d.self) (hi:=cD _));rintro _ _ ⟨rfl,j⟩;refine⟨aj λt f=>j.ne _ (d.sub _ (a t f)) (d.new _ (a t f)), ?_⟩;rename_i F;have o:=l.of j.fn λt f=>j.ne _ (d.sub _ f) (d.new _ f);have r:(C,true,Obj.cells #[.int .u8 (S.pg x.at_ 0), .int .u8 (S.pg x.at_ 1), .int .u8 (S.pg x.at_ 2), .int .u8 (S.pg x.at_ 3)] 158)∈F:=j.self;have R:At F C 0 (.int .u8 (S.pg x.at_ 0)):=⟨true,_,_,_,r,rfl⟩;have u:C≠b:=λe=>d.new _ (l.p _ hb) e.symm;have e9:(S.pg x.at_ 0==9)=true:=by simp[h9]
 have w1:IntKind.i64.wrap ((x.at_:Int)+1)=((x.at_+1:Nat):Int):=ag
 have T:At F b 4 (.int .i64 (x.at_:Nat)):=o.pat hb (i:=4) rfl;co_applyP(zo);co_applyP aK (n₂:=0);co_applyP(au);change Kw ..;rw[e9];co_applyP(bf);rw[w1];co_applyP osm rfl (hs:=bJ) (hm:=o.p _ hb) (hi:=by first|decide|(rw[bq];omega)|(rw[bP];omega));intro U B;have I:=o.ID (x':=x.next) hb (by unfold PS.next;rw[<-tX];exact B);have Z:At U C 1 (.int .u8 (S.pg x.at_ 1)):=⟨true,_,_,_,B.ne _ r u,rfl⟩;have P:Kt (S.ID b x.next) b x.next:=hu.ID rfl rfl rfl rfl rfl
 have Q: ∀c,(∀q∈(S.ID b x.next).ps,c≠q.1)-> ∀q∈S.ps,c≠q.1:=λc h q hq e=>by
  have:q.1∈(S.ID b x.next).ps.map (·.1):=by rw[aV];exact cm.2 ⟨q,hq,rfl⟩
  obtain⟨q',N,e'⟩:=cm.1 this;exact h q' N (by rw[e,<-e'])
 co_applyP(aR);co_applyP oc rfl rfl rfl (g0 K A _ Fr U eb b x.next (S.pg x.at_ 1) Y I hE P hV);rintro _ _ _ ⟨rfl,rfl,A4,G,c,hc,J,D⟩;co_applyP(ax);exact xI _ ⟨rfl,rfl,rfl,A4,G,c,Q c hc,J,D⟩
theorem Cq: ∃n,∀{p:KC}{Sh:Loc->Prop}{E Dn:Nat}{PostB:World->Prop}{Aft:Goroutine->World->Prop}{W:World}{O:Nat}{G0:List (Nat×Obj)}{vs:List Value}(K:Nat)(A:Kq)(S:St)(Fr L:Ka)(eb:Nat->Nat×Nat)(b:Nat)(x:PS)(i:Nat),(∀s,K7 (Kx prog p Sh E Dn PostB Aft W O G0 s))->Ke K A S Fr L->KZ eb Fr->Kt S b x->x.at_<S.pn->S.pn<=256->S.pg x.at_ 0=9->(S.ID b x.next).IW b x.next (S.pg x.at_ 1)=some i->
 Kb (Kx prog p Sh E Dn PostB Aft W O G0) prog false 85 [ptr K,ptr b, .chan (some E)].toArray n ((S.ID b x.next).I9 b x.next (S.pg x.at_ 1)++vs) L (λs' v L'=>vs=s'/\ ∃r,v= .iface 180 (ptr r)/\At L' r 1 (LZ eb i)/\ ∃A' G c,(∀q∈S.ps,c≠q.1)/\Lv b ((S.ID b x.next).IK b x.next (S.pg x.at_ 1) c) G/\Ke K A' ((S.ID b x.next).IK b x.next (S.pg x.at_ 1) c) (G++Fr) L'):=by
 obtain⟨n0,g0⟩:=E8;constructor;intro p Sh E Dn PostB Aft W O G0 vs K A S Fr L eb b x i hN l hE hu hp T h9 hV;have hb:=hu.m;have d':At L b 4 (.int .i64 (x.at_:Nat)):=l.pat hb (i:=4) rfl;have f':At L K 4 (.slice (some ⟨A.g,0,none⟩) S.pn A.gcap):=l.kat rfl;have e1:decide ((S.pn:Int)<=(x.at_:Int))=false:=ao
 obtain⟨H,c'⟩:=E9 l hp;have a: ∀t∈[kb K (Lj A S),pb b x,(A.g,true,Obj.cells A.gc 158)],t∈L:=λt f=>by
  simp only[gn,Oz,or_false] at f;rcases f with rfl|rfl|rfl
  ·exact l.k
  ·exact l.p _ hb
  ·exact l.g
 have V:At [kb K (Lj A S),pb b x,(A.g,true,Obj.cells A.gc 158)] b 4 (.int .i64 (x.at_:Nat)):=⟨true,_,_,_,dc _ eT,rfl⟩;have Z:At [kb K (Lj A S),pb b x,(A.g,true,Obj.cells A.gc 158)] K 4 (.slice (some ⟨A.g,0,none⟩) S.pn A.gcap):=⟨true,_,_,_,eT,rfl⟩;have N:(A.g,true,Obj.cells A.gc 158)∈[kb K (Lj A S),pb b x,(A.g,true,Obj.cells A.gc 158)]:=dc _ (dc _ eT);have eo:x.at_*4=4*x.at_:=bl
 have b':((x.at_:Nat):Int)<(S.pn:Nat):=bl
 co_applyP ar 52 func85 ntmps85;co_applyP(aH);co_applyP(ax);change Kw ..;rw[e1];co_applyP(ax);co_applyP aM [kb K (Lj A S),pb b x,(A.g,true,Obj.cells A.gc 158)] 11 (nf:=0) mixed;co_applyP tr 0 rfl bk (aa a);co_applyP tr 1 rfl bI (aa a);co_applyP tr 2 rfl (br (hf:=jb)) (aa a);co_applyP tr 3 rfl (bT (ht:=oR)) (aa a);co_applyP tr 4 rfl bk (aa a);co_applyP tr 5 rfl bI (aa a);co_applyP tr 6 rfl (br (hf:=cQ)) (aa a);co_applyP tr 7 rfl (br (hf:=gS)) (aa a);co_applyP tr 8 rfl (bT (ht:=dq)) (aa a);co_applyP tr 9 rfl (gi vt dz) (aa a);co_applyP tr 10 rfl (aW (ht:=iC) (hs:=dz) (hm:=N) (hi:=bl)) (aa a);co_applyP lD (i:=11) rfl (eN (z:=NC 0 0 0 0) ((hN _).i _));intro D L1 d;refine⟨aj λt f=>d.sub _ (a t f), ?_⟩;co_applyP aF;intro C;co_applyP te (i:=12) rfl (fA (hs:=dz) (vs:=[.int .u8 (S.pg x.at_ 0), .int .u8 (S.pg x.at_ 1), .int .u8 (S.pg x.at_ 2), .int .u8 (S.pg x.at_ 3)]) (hy:=by rw[eo,H];rfl) (hnd:=C) (hm:=d.self) (hi:=cD _));rintro _ _ ⟨rfl,j⟩;refine⟨aj λt f=>j.ne _ (d.sub _ (a t f)) (d.new _ (a t f)), ?_⟩;rename_i J;have o:=l.of j.fn λt f=>j.ne _ (d.sub _ f) (d.new _ f);have y:(D,true,Obj.cells #[.int .u8 (S.pg x.at_ 0), .int .u8 (S.pg x.at_ 1), .int .u8 (S.pg x.at_ 2), .int .u8 (S.pg x.at_ 3)] 158)∈J:=j.self;have X:At J D 0 (.int .u8 (S.pg x.at_ 0)):=⟨true,_,_,_,y,rfl⟩;have B:D≠b:=λe=>d.new _ (l.p _ hb) e.symm;have e9:(S.pg x.at_ 0==9)=true:=by simp[h9]
 have w1:IntKind.i64.wrap ((x.at_:Int)+1)=((x.at_+1:Nat):Int):=ag
 have U:At J b 4 (.int .i64 (x.at_:Nat)):=o.pat hb (i:=4) rfl;co_applyP(zo);co_applyP aK (n₂:=0);co_applyP(au);change Kw ..;rw[e9];co_applyP(bf);rw[w1];co_applyP osm rfl (hs:=bJ) (hm:=o.p _ hb) (hi:=by first|decide|(rw[bq];omega)|(rw[bP];omega));intro Y u;have M:=o.ID (x':=x.next) hb (by unfold PS.next;rw[<-tX];exact u);have a':At Y D 1 (.int .u8 (S.pg x.at_ 1)):=⟨true,_,_,_,u.ne _ y B,rfl⟩;have I:Kt (S.ID b x.next) b x.next:=hu.ID rfl rfl rfl rfl rfl
 have Q: ∀c,(∀q∈(S.ID b x.next).ps,c≠q.1)-> ∀q∈S.ps,c≠q.1:=λc h q hq e=>by
  have:q.1∈(S.ID b x.next).ps.map (·.1):=by rw[aV];exact cm.2 ⟨q,hq,rfl⟩
  obtain⟨q',R,e'⟩:=cm.1 this;exact h q' R (by rw[e,<-e'])
 co_applyP(aR);co_applyP oc rfl rfl rfl (g0 K A _ Fr Y eb b x.next (S.pg x.at_ 1) i hN M hE I hV);rintro _ _ _ ⟨rfl,r,rfl,hr,A4,G,c,hc,P,F⟩;co_applyP(ax);exact xI _ ⟨rfl,rfl,r,rfl,hr,A4,G,c,Q c hc,P,F⟩
theorem Fc: ∃n,∀{V}{F:Kn V}{O:DM F}{r s}(K:Nat)(A:Kq)(S:St)(Fr L:Ka)(eb:Nat->Nat×Nat)(b:Nat)(x:PS)(ch:Value),(∀cs,(O s).New (.cells cs 158))->Ke K A S Fr L->KZ eb Fr->Inv S->(b,x)∈S.ps->x.at_<S.pn->S.pn<=256->S.pg x.at_ 0≠9->(∀j,j<4->0<=S.pg x.at_ j/\S.pg x.at_ j<256)->
 Kb O prog r 85 [ptr K,ptr b,ch].toArray n s L (λs' v L'=>s=s'/\match x.do (S.pg x.at_ 0) (S.pg x.at_ 1) (S.pg x.at_ 2) (S.pg x.at_ 3) with
  | .ok x'=>v= .nilIface/\Ke K A (S.ID b x') Fr L'
  | .error e=>v=NO (LZ eb 0) (LZ eb 1) (LZ eb 10) e/\Ke K A S Fr L'):=by
 obtain⟨n0,g0⟩:=It;constructor;intro V F O r s K A S Fr L eb b x ch l o M hI hb W U h9 u;have b':At L b 4 (.int .i64 (x.at_:Nat)):=o.pat hb (i:=4) rfl;have c':At L K 4 (.slice (some ⟨A.g,0,none⟩) S.pn A.gcap):=o.kat rfl;have e1:decide ((S.pn:Int)<=(x.at_:Int))=false:=ao
 obtain⟨G,a'⟩:=E9 o W;have a: ∀t∈[kb K (Lj A S),pb b x,(A.g,true,Obj.cells A.gc 158)],t∈L:=λt f=>by
  simp only[gn,Oz,or_false] at f;rcases f with rfl|rfl|rfl
  ·exact o.k
  ·exact o.p _ hb
  ·exact o.g
 have Q:At [kb K (Lj A S),pb b x,(A.g,true,Obj.cells A.gc 158)] b 4 (.int .i64 (x.at_:Nat)):=⟨true,_,_,_,dc _ eT,rfl⟩;have T:At [kb K (Lj A S),pb b x,(A.g,true,Obj.cells A.gc 158)] K 4 (.slice (some ⟨A.g,0,none⟩) S.pn A.gcap):=⟨true,_,_,_,eT,rfl⟩;have N:(A.g,true,Obj.cells A.gc 158)∈[kb K (Lj A S),pb b x,(A.g,true,Obj.cells A.gc 158)]:=dc _ (dc _ eT);have Y:x.at_*4=4*x.at_:=bl
 have Z:((x.at_:Nat):Int)<(S.pn:Nat):=bl
 co_applyP ar 52 func85 ntmps85;co_applyP(aH);co_applyP(ax);change Kw ..;rw[e1];co_applyP(ax);co_applyP aM [kb K (Lj A S),pb b x,(A.g,true,Obj.cells A.gc 158)] 11 (nf:=0) mixed;co_applyP tr 0 rfl bk (aa a);co_applyP tr 1 rfl bI (aa a);co_applyP tr 2 rfl (br (hf:=jb)) (aa a);co_applyP tr 3 rfl (bT (ht:=oR)) (aa a);co_applyP tr 4 rfl bk (aa a);co_applyP tr 5 rfl bI (aa a);co_applyP tr 6 rfl (br (hf:=cQ)) (aa a);co_applyP tr 7 rfl (br (hf:=gS)) (aa a);co_applyP tr 8 rfl (bT (ht:=dq)) (aa a);co_applyP tr 9 rfl (gi vt dz) (aa a);co_applyP tr 10 rfl (aW (ht:=iC) (hs:=dz) (hm:=N) (hi:=bl)) (aa a);co_applyP lD (i:=11) rfl (eN (z:=NC 0 0 0 0) (l _));intro I L1 d;refine⟨aj λt f=>d.sub _ (a t f), ?_⟩;co_applyP aF;intro D;co_applyP te (i:=12) rfl (fA (hs:=dz) (vs:=[.int .u8 (S.pg x.at_ 0), .int .u8 (S.pg x.at_ 1), .int .u8 (S.pg x.at_ 2), .int .u8 (S.pg x.at_ 3)]) (hy:=by rw[Y,G];rfl) (hnd:=D) (hm:=d.self) (hi:=cD _));rintro _ _ ⟨rfl,m⟩;refine⟨aj λt f=>m.ne _ (d.sub _ (a t f)) (d.new _ (a t f)), ?_⟩;rename_i E;have J:=o.of m.fn λt f=>m.ne _ (d.sub _ f) (d.new _ f);have C:(I,true,Obj.cells #[.int .u8 (S.pg x.at_ 0), .int .u8 (S.pg x.at_ 1), .int .u8 (S.pg x.at_ 2), .int .u8 (S.pg x.at_ 3)] 158)∈E:=m.self;have P:At E I 0 (.int .u8 (S.pg x.at_ 0)):=⟨true,_,_,_,C,rfl⟩;have R:I≠b:=λe=>d.new _ (o.p _ hb) e.symm;have X:(S.pg x.at_ 0==9)=false:=by simp[h9]
 have H: ∀i∈[0,1,10],∃fl cs ty fr,(i,fl,Obj.cells cs ty fr)∈Fr/\cs[0]? =some (NO (LZ eb 0) (LZ eb 1) (LZ eb 10) i):=λi B=>by
  simp only[gn,Oz,or_false] at B;rcases B with rfl|rfl|rfl
  ·exact M.g 0 bx bx
  ·exact M.g 1 bx bx
  ·exact M.g 10 bx bx
 co_applyP(aR);change Kw ..;rw[X];co_applyP(av);co_applyP oy rfl (aW (ht:=iC) (hs:=dz) (hm:=C) (hi:=cD _));co_applyP oc rfl rfl rfl (g0 K A S Fr E b x (S.pg x.at_ 0) (S.pg x.at_ 1) (S.pg x.at_ 2) (S.pg x.at_ 3) (LZ eb 0) (LZ eb 1) (LZ eb 10) l J hb (hI.wf _ hb) bl (u 1 bl) (u 2 bl) (u 3 bl) H ⟨_,_,rfl⟩);rintro _ _ _ ⟨rfl,y⟩;co_applyP(ax);exact xI _ ⟨rfl,rfl,y⟩
def St.Js (S:St):St:=S.IF (S.ps.map (·.1))
def St.Jk (S:St):Prop:=0<S.now/\((S.now:Nat):Int).tmod S.bo=0
instance (S:St):Decidable S.Jk:=inferInstanceAs (Decidable (_/\_))
def St.Jm (S:St):St:=if S.Jk then(S.IU (S.ps.map (·.1))).IG 2 else S
def St.lead (S:St):St:=S.Js.Jm
structure Fix (S S':St):Prop where
 sl:S'.sl=S.sl
 bo:S'.bo=S.bo
 pn:S'.pn=S.pn
 pg:S'.pg=S.pg
 now:S'.now=S.now
theorem Fix.refl (S:St):Fix S S:=⟨rfl,rfl,rfl,rfl,rfl⟩
theorem Fix.trans {S T U:St}(h:Fix S T)(k:Fix T U):Fix S U:=⟨k.sl.trans h.sl,k.bo.trans h.bo,k.pn.trans h.pn,k.pg.trans h.pg,k.now.trans h.now⟩
theorem eK: ∀(bs:List Nat)(S:St),Fix S (S.IF bs)
 |[],S=>Fix.refl S
 |b::bs,S=>by
  unfold St.IF;refine Fix.trans ?_ (eK bs _)
  split
  ·split
   ·exact⟨rfl,rfl,rfl,rfl,rfl⟩
   ·exact Fix.refl S
  ·exact Fix.refl S
theorem nL: ∀(bs:List Nat)(S:St),Fix S (S.IU bs)
 |[],S=>Fix.refl S
 |b::bs,S=>by
  unfold St.IU;refine Fix.trans ?_ (nL bs _)
  split
  ·split
   ·exact⟨rfl,rfl,rfl,rfl,rfl⟩
   ·exact Fix.refl S
  ·exact Fix.refl S
theorem vN (S:St):Fix S S.Jm:=by
 unfold St.Jm
 split
 ·exact(nL _ S).trans ⟨rfl,rfl,rfl,rfl,rfl⟩
 ·exact Fix.refl S
theorem cj (S:St):Fix S S.lead:=(eK _ S).trans (vN _)
def St.doR (S:St)(x:PS):Except Nat PS:=x.do (S.pg x.at_ 0) (S.pg x.at_ 1) (S.pg x.at_ 2) (S.pg x.at_ 3)
def St.Jv (S:St)(b:Nat)(x:PS):List Value:=if S.pn<=x.at_ then [LK S.now 4 x.id 65281] else if S.pg x.at_ 0=9 then(S.ID b x.next).I9 b x.next (S.pg x.at_ 1) else match S.doR x with
 | .ok _=>[]
 | .error _=>[LK S.now 4 x.id 65281]
def St.I2 (S:St)(b:Nat)(x:PS)(c:Nat):St:=if S.pn<=x.at_ then S.fin b x 65281 else if S.pg x.at_ 0=9 then(match (S.ID b x.next).IW b x.next (S.pg x.at_ 1) with
 |some i=>((S.ID b x.next).IK b x.next (S.pg x.at_ 1) c).r0 b (KB i)
 |none=>(S.ID b x.next).IK b x.next (S.pg x.at_ 1) c) else match S.doR x with
 | .ok x'=>S.ID b x'
 | .error _=>S.fin b x 65281
def PS.more (z:PS):PS:={z with used:=z.used+1}
def St.after (S:St)(b:Nat):St:=match S.get b with
 |some z=>if z.st=1 then(S.ID b z.more).JD b z.more else S.ID b z.more
 |none=>S
theorem Fe: ∃n,∀{p:KC}{Sh:Loc->Prop}{E Dn:Nat}{PostB:World->Prop}{Aft:Goroutine->World->Prop}{W:World}{O:Nat}{G0:List (Nat×Obj)}{vs:List Value}(K:Nat)(A:Kq)(S:St)(Fr L:Ka)(eb:Nat->Nat×Nat),(∀s,K7 (Kx prog p Sh E Dn PostB Aft W O G0 s))->Ke K A S Fr L->KZ eb Fr->Inv S->S.bo≠0->S.lead.first=none->
 Kb (Kx prog p Sh E Dn PostB Aft W O G0) prog false 63 [ptr K, .chan (some E)].toArray n (LK S.lead.now 2 0 0::vs) L (λs' v L'=>vs=s'/\v= .tuple #[]/\ ∃d,Ke K d S.lead Fr L'):=by
 obtain⟨n0,g0⟩:=gB;obtain⟨n1,P⟩:=uf;obtain⟨X,I⟩:=ub;obtain⟨Z,J⟩:=o8;constructor;intro p Sh E Dn PostB Aft W O G0 vs K A S Fr L eb D R Y U o G;co_applyP ar 75 func63 ntmps63;co_applyP(ay);co_applyP oc rfl rfl rfl (g0 K A S Fr L (D _).r R U.g);rintro _ _ _ ⟨rfl,rfl,x,B,k,N,b⟩;co_applyP(zo);change Kw ..;rename_i z;have F:(S.IF (S.ps.map (·.1))).bo≠0:=by rw[show (S.IF (S.ps.map (·.1))).bo=S.bo from(eK _ S).bo];exact o
 have H:At z K 16 (.int .i64 ((S.IF (S.ps.map (·.1))).now:Nat)):=b.kat rfl;have Q:At z K 3 (.int .i64 (S.IF (S.ps.map (·.1))).bo):=b.kat rfl;co_applyP bL (λu e m=>(LK S.lead.now 2 0 0::vs)=u/\kn e [(0,ptr K),(1, .chan (some E))]/\ ∃d,Ke K d S.lead Fr m);co_applyP cr (0<(S.IF (S.ps.map (·.1))).now);intro h0
 ·have j:decide ((0:Int)<((S.IF (S.ps.map (·.1))).now:Nat))=true:=ao
  co_applyP cr ((((S.IF (S.ps.map (·.1))).now:Nat):Int).tmod (S.IF (S.ps.map (·.1))).bo=0);intro hm
  ·have i:S.lead=((S.IF (S.ps.map (·.1))).IU ((S.IF (S.ps.map (·.1))).ps.map (·.1))).IG 2:=by unfold St.lead St.Jm;rw[if_pos (show S.Js.Jk from⟨h0,hm⟩)];rfl
   co_applyP(aO);rw[j];co_applyP(bQ);change Kw ..;rw[hm];co_applyP(ax);co_applyP oc rfl rfl rfl (P K k _ Fr z (D _).r b (λl V=>x.r8 V));rintro _ _ _ ⟨rfl,rfl,f,T,a⟩;co_applyP(zo);change _=_/\kn _ _/\ ∃d,_;exact⟨rfl,rfl,f,by rw[i];exact a⟩
  intro hm;have i:S.lead=S.IF (S.ps.map (·.1)):=by unfold St.lead St.Jm;rw[if_neg (λh=>hm h.2)];rfl
  have em:((((S.IF (S.ps.map (·.1))).now:Nat):Int).tmod (S.IF (S.ps.map (·.1))).bo==0)=false:=by simp[hm]
  co_applyP(aO);rw[j];co_applyP(bQ);change Kw ..;rw[em];co_applyP(ay);change _=_/\kn _ _/\ ∃d,_;exact⟨rfl,rfl,k,by rw[i];exact b⟩
 intro h0;have j:decide ((0:Int)<((S.IF (S.ps.map (·.1))).now:Nat))=false:=ao
 have i:S.lead=S.IF (S.ps.map (·.1)):=by unfold St.lead St.Jm;rw[if_neg (λh=>h0 h.1)];rfl
 co_applyP(aO);rw[j];co_applyP(aH);change _=_/\kn _ _/\ ∃d,_;exact⟨rfl,rfl,k,by rw[i];exact b⟩;rintro _ M C ⟨rfl,y,f,a⟩;co_applyP aA y;co_applyP(av);co_applyP oc rfl rfl rfl (I K f _ Fr C a);rintro _ _ _ ⟨rfl,rfl,rfl⟩;rw[G];co_applyP(ay);co_applyP aK (n₂:=0);co_applyP(aO);co_applyP oc rfl rfl rfl (J K f _ Fr C 2 0 0 a);rintro _ _ _ ⟨rfl,rfl,rfl⟩;co_applyP(ay);exact xI _ ⟨rfl,rfl,rfl,f,a⟩
theorem nM {S:St}{b:Nat}{x:PS}{m:Int}{i:Nat}(h:S.IW b x m=some i):(∀c,S.IK b x m c=S)/\i<11/\i≠2:=by
 unfold St.IW at h;unfold St.IK;by_cases h0:m=0
 ·simp[h0] at h
 by_cases l:m=1
 ·subst l;simp at h;obtain⟨g,rfl⟩:=h;simp[g]
 by_cases s:m=2
 ·subst s;simp at h;unfold St.Jd at*
  split at h
  ·simp at h
  ·rename_i hc;simp at h;subst h;simp[hc]
 by_cases u:m=3
 ·subst u;simp at h;cases f:S.find (x.r 0) with
  |none=>rw[f] at h;simp at h;subst h;simp
  |some q=>
   rw[f] at h;simp at h;obtain⟨e,rfl⟩:=h;simp[e]
 by_cases p:m=4
 ·simp[p] at h
 by_cases k:m=5
 ·simp[k] at h
 by_cases e:m=6
 ·simp[e] at h
 by_cases n:m=7
 ·subst n;simp at h;unfold St.I4 at*
  split at h
  ·rename_i hu;simp at h;subst h;simp[hu]
  ·rename_i hu;simp only[hu,if_false]
   split at h
   ·simp at h
   ·rename_i f;simp at h;subst h;refine⟨λc=> ?_,bl,bl⟩;simp
 by_cases g:m=8
 ·subst g;simp at h;unfold St.IZ at*
  split at h
  ·rename_i f;simp at h;subst h;simp[f]
  ·simp at h
 by_cases o:m=9
 ·subst o;simp at h;unfold St.Jf at*;cases hc:x.IQ 4 64 with
  |none=>rw[hc] at h;simp at h
  |some j=>
   rw[hc] at h;simp at h;subst h;refine⟨λc=>bE, ?_⟩;unfold PS.IQ at hc
   split at hc
   ·simp at hc;omega
   ·split at hc
    ·simp at hc;omega
    ·split at hc
     ·simp at hc;omega
     ·cases hc
 by_cases d:m=10
 ·subst d;simp at h;unfold St.Jf at*;cases hc:x.IQ 5 8 with
  |none=>rw[hc] at h;simp at h
  |some j=>
   rw[hc] at h;simp at h;subst h;refine⟨λc=>bE, ?_⟩;unfold PS.IQ at hc
   split at hc
   ·simp at hc;omega
   ·split at hc
    ·simp at hc;omega
    ·split at hc
     ·simp at hc;omega
     ·cases hc
 by_cases a:m=11
 ·simp[a] at h
 ·simp[h0,l,s,u,p,k,e,n,g,o,d,a] at h;subst h;simp[h0,l,s,u,p,k,e,n,g,o,d,a]
theorem Cs (eb:Nat->Nat×Nat)(e:Nat): ∃d,NO (LZ eb 0) (LZ eb 1) (LZ eb 10) e= .iface 255 (Mm d):=by
 unfold NO
 split
 ·exact⟨_,rfl⟩
 ·exact⟨_,rfl⟩
 ·exact⟨_,rfl⟩
theorem Ff: ∃n,∀{p:KC}{Sh:Loc->Prop}{E Dn:Nat}{PostB:World->Prop}{Aft:Goroutine->World->Prop}{W:World}{O:Nat}{G0:List (Nat×Obj)}{vs:List Value}(K:Nat)(A:Kq)(S:St)(Fr L:Ka)(eb:Nat->Nat×Nat)(b:Nat)(x:PS),(∀s,K7 (Kx prog p Sh E Dn PostB Aft W O G0 s))->Ke K A S Fr L->KZ eb Fr->Inv S->S.bo≠0->S.lead.first=some b->Kt S.lead b x->S.pn<=256->(∀i,i<S.pn-> ∀j,j<4->0<=S.pg i j/\S.pg i j<256)->(∀c,(∀q∈S.lead.ps,c≠q.1)->Inv (S.lead.I2 b x c)/\ ∀z,(b,z)∈(S.lead.I2 b x c).ps->z.used<4611686018427387904)->
 Kb (Kx prog p Sh E Dn PostB Aft W O G0) prog false 63 [ptr K, .chan (some E)].toArray n (LK S.lead.now 1 x.id x.at_::(S.lead.Jv b x++vs)) L (λs' v L'=>vs=s'/\v= .tuple #[]/\ ∃D c,(∀q∈S.lead.ps,c≠q.1)/\Ke K D ((S.lead.I2 b x c).after b) Fr L'):=by
 obtain⟨n0,g0⟩:=gB;obtain⟨n1,g1⟩:=uf;obtain⟨n2,g2⟩:=ub;obtain⟨n3,g3⟩:=o8;obtain⟨n4,g4⟩:=Fa;obtain⟨n5,g5⟩:=Cp;obtain⟨n6,g6⟩:=Cq;obtain⟨n7,g7⟩:=Fc;obtain⟨n8,g8⟩:=y7;obtain⟨n9,g9⟩:=y9;obtain⟨X',v'⟩:=za;obtain⟨S',B'⟩:=EK;constructor;intro p Sh E Dn PostB Aft W O G0 vs K A S Fr L eb b x Z hR hE hI J' hf hu z' D' q';have h':=cj S;co_applyP ar 75 func63 ntmps63;co_applyP(ay);co_applyP oc rfl rfl rfl (g0 K A S Fr L (Z _).r hR hI.g);rintro _ _ _ ⟨rfl,rfl,E',M',A1,Y',J⟩;co_applyP(zo);change Kw ..;rename_i L1;have N':(S.IF (S.ps.map (·.1))).bo≠0:=by rw[show (S.IF (S.ps.map (·.1))).bo=S.bo from(eK _ S).bo];exact J'
 have O':At L1 K 16 (.int .i64 ((S.IF (S.ps.map (·.1))).now:Nat)):=J.kat rfl;have T':At L1 K 3 (.int .i64 (S.IF (S.ps.map (·.1))).bo):=J.kat rfl;co_applyP bL (λi' Q g'=>(LK S.lead.now 1 x.id x.at_::(S.lead.Jv b x++vs))=i'/\kn Q [(0,ptr K),(1, .chan (some E))]/\ ∃D,Ke K D S.lead Fr g');co_applyP cr (0<(S.IF (S.ps.map (·.1))).now);intro h0
 ·have e0:decide ((0:Int)<((S.IF (S.ps.map (·.1))).now:Nat))=true:=ao
  co_applyP cr ((((S.IF (S.ps.map (·.1))).now:Nat):Int).tmod (S.IF (S.ps.map (·.1))).bo=0);intro hm
  ·have hB:S.lead=((S.IF (S.ps.map (·.1))).IU ((S.IF (S.ps.map (·.1))).ps.map (·.1))).IG 2:=by unfold St.lead St.Jm;rw[if_pos (show S.Js.Jk from⟨h0,hm⟩)];rfl
   co_applyP(aO);rw[e0];co_applyP(bQ);change Kw ..;rw[hm];co_applyP(ax);co_applyP oc rfl rfl rfl (g1 K A1 _ Fr L1 (Z _).r J (λl hl=>E'.r8 hl));rintro _ _ _ ⟨rfl,rfl,F,U',f⟩;co_applyP(zo);change _=_/\kn _ _/\ ∃D,_;exact⟨rfl,rfl,F,by rw[hB];exact f⟩
  intro hm;have hB:S.lead=S.IF (S.ps.map (·.1)):=by unfold St.lead St.Jm;rw[if_neg (λh=>hm h.2)];rfl
  have em:((((S.IF (S.ps.map (·.1))).now:Nat):Int).tmod (S.IF (S.ps.map (·.1))).bo==0)=false:=by simp[hm]
  co_applyP(aO);rw[e0];co_applyP(bQ);change Kw ..;rw[em];co_applyP(ay);change _=_/\kn _ _/\ ∃D,_;exact⟨rfl,rfl,A1,by rw[hB];exact J⟩
 intro h0;have e0:decide ((0:Int)<((S.IF (S.ps.map (·.1))).now:Nat))=false:=ao
 have hB:S.lead=S.IF (S.ps.map (·.1)):=by unfold St.lead St.Jm;rw[if_neg (λh=>h0 h.1)];rfl
 co_applyP(aO);rw[e0];co_applyP(aH);change _=_/\kn _ _/\ ∃D,_;exact⟨rfl,rfl,A1,by rw[hB];exact J⟩;rintro _ W' V ⟨rfl,K',F,f⟩;co_applyP aA K';have hb:=hu.m;have P':At V b 0 (.int .i64 (x.id:Nat)):=f.pat hb (i:=0) rfl;have Z':At V b 4 (.int .i64 (x.at_:Nat)):=f.pat hb (i:=4) rfl;have l': ∀q∈S.lead.ps,K≠q.1:=λq hq=>f.fn.ne f.k (f.p q hq) (aB bx);have G': ∀t∈Fr,t.1≠b:=λt N=>(f.fd t N).2.1 _ hb;generalize hT:S.lead=T at*;co_applyP(av);co_applyP oc rfl rfl rfl (g2 K F _ Fr V f);rintro _ _ _ ⟨rfl,rfl,rfl⟩;rw[hf];co_applyP(bm);co_applyP aK;co_applyP s7 12 mixed;co_applyP lt (i:=0) rfl bk;co_applyP lt (i:=1) rfl bk;co_applyP lt (i:=2) rfl bk;co_applyP lt (i:=3) rfl bI;co_applyP lt (i:=4) rfl (br (hf:=cQ));co_applyP lt (i:=5) rfl (br (hf:=fR));co_applyP lt (i:=6) rfl (bT (ht:=dq));co_applyP lt (i:=7) rfl bk;co_applyP lt (i:=8) rfl bI;co_applyP lt (i:=9) rfl (br (hf:=cQ));co_applyP lt (i:=10) rfl (br (hf:=gS));co_applyP lt (i:=11) rfl (bT (ht:=dq));co_applyP lc (i:=12) rfl rfl rfl (g3 K F _ Fr V 1 x.id x.at_ f);rintro _ _ _ ⟨rfl,rfl,rfl⟩;co_applyP bL (λi' Q g'=>vs=i'/\kn Q [(0,ptr K),(1, .chan (some E)),(4,ptr b)]/\ ∃D G c,(∀q∈T.ps,c≠q.1)/\Lv b (T.I2 b x c) G/\Ke K D (T.I2 b x c) (G++Fr) g');co_applyP cr (T.pn<=x.at_);intro U
 ·have eE:T.Jv b x=[LK T.now 4 x.id 65281]:=by unfold St.Jv;rw[if_pos U]
  have B: ∀c,T.I2 b x c=T.fin b x 65281:=λc=>by unfold St.I2;rw[if_pos U]
  rw[eE];co_applyP(aC);co_applyP oc rfl rfl rfl (g4 K F T Fr V eb b x _ f hE hb U);rintro _ _ _ ⟨rfl,rfl,rfl⟩;co_applyP(zo);co_applyP oc rfl rfl rfl (v' K F T Fr V eb b x (eb 0) (λs=>(Z s).toNewK) f hE hu.i hb);rintro _ _ _ ⟨rfl,rfl,X,G,P,a⟩;co_applyP(zo);change _=_/\kn _ _/\ ∃D G c,_;exact⟨rfl,rfl,X,G,K,l',by rw[B];exact P _ hb,by rw[B];exact a⟩
 intro U;have M:x.at_<T.pn:=bl
 have C:T.pn<=256:=by rw[h'.pn];exact z'
 have d': ∀j,j<4->0<=T.pg x.at_ j/\T.pg x.at_ j<256:=λj hj=>by rw[h'.pg];exact D' _ (by rw[<-h'.pn];exact M) j hj
 co_applyP cr (T.pg x.at_ 0=9);intro H
 ·have eE:T.Jv b x=(T.ID b x.next).I9 b x.next (T.pg x.at_ 1):=by unfold St.Jv;rw[if_neg U,if_pos H]
  rw[eE];co_applyP cr ((T.ID b x.next).IW b x.next (T.pg x.at_ 1)=none);intro hV
  ·have B: ∀c,T.I2 b x c=(T.ID b x.next).IK b x.next (T.pg x.at_ 1) c:=λc=>by unfold St.I2;rw[if_neg U,if_pos H,hV]
   co_applyP(aC);co_applyP oc rfl rfl rfl (g5 K F T Fr V eb b x Z f hE hu M C H hV);rintro _ _ _ ⟨rfl,rfl,X,G,c,hc,b',a⟩;co_applyP(zo);rename_i L3;co_applyP oc rfl rfl rfl (g8 L3 K b _);rintro _ _ _ ⟨rfl,rfl,rfl⟩;co_applyP(zo);change _=_/\kn _ _/\ ∃D G c,_;exact⟨rfl,rfl,X,G,c,hc,by rw[B];exact b',by rw[B];exact a⟩
  intro hV;obtain⟨i,f'⟩: ∃i,(T.ID b x.next).IW b x.next (T.pg x.at_ 1)=some i:=by
   cases h:(T.ID b x.next).IW b x.next (T.pg x.at_ 1) with
   |none=>exact absurd h hV
   |some i=>exact⟨i,rfl⟩
  obtain⟨R,p',w'⟩:=nM f';have k':(b,x.next)∈(T.ID b x.next).ps:=ai hb;have B: ∀c,T.I2 b x c=(T.ID b x.next).ID b (x.next.r0 (KB i)):=λc=>by
   unfold St.I2;rw[if_neg U,if_pos H,f'];simp only[R];unfold St.r0;rw[aY (by rw[aV];exact hu.i.g.pn) k']
  co_applyP(aC);co_applyP oc rfl rfl rfl (g6 K F T Fr V eb b x i Z f hE hu M C H f');rintro _ _ _ ⟨rfl,r,rfl,hr,X,G,c,hc,b',a⟩;co_applyP(zo);rename_i L3;rw[R] at a;co_applyP oc rfl rfl rfl (g9 K X _ _ L3 eb b x.next r i _ (Z _).toNewK a (hE.mono λt N=>rv _ N) k' hr p' w');rintro _ _ _ ⟨rfl,rfl,I⟩;co_applyP(zo);change _=_/\kn _ _/\ ∃D G c,_;exact⟨rfl,rfl,X,G,c,hc,by rw[B];exact .inl ⟨_,ai k'⟩,by rw[B];exact I⟩
 intro H;co_applyP cr (∃x',T.doR x= .ok x');intro Y
 ·obtain⟨x',y⟩:=Y;have eE:T.Jv b x=[]:=by unfold St.Jv;rw[if_neg U,if_neg H,y]
  have B: ∀c,T.I2 b x c=T.ID b x':=λc=>by unfold St.I2;rw[if_neg U,if_neg H,y]
  rw[eE];co_applyP(aC);co_applyP oc rfl rfl rfl (g7 K F T Fr V eb b x _ (Z _).i f hE hu.i hb M C H d');rintro _ _ _ ⟨rfl,u⟩;rename_i v3 L3;rw[show x.do (T.pg x.at_ 0) (T.pg x.at_ 1) (T.pg x.at_ 2) (T.pg x.at_ 3)= .ok x' from y] at u;obtain⟨rfl,a⟩:=u;co_applyP(zo);co_applyP oc rfl rfl rfl (g8 L3 K b _);rintro _ _ _ ⟨rfl,rfl,rfl⟩;co_applyP(zo);change _=_/\kn _ _/\ ∃D G c,_;exact⟨rfl,rfl,F,[],K,l',by rw[B];exact .inl ⟨_,ai hb⟩,by rw[B];exact a⟩
 intro Y;obtain⟨e,y⟩: ∃e,T.doR x= .error e:=by
  cases h:T.doR x with
  |ok x'=>exact absurd ⟨x',h⟩ Y
  |error e=>exact⟨e,rfl⟩
 obtain⟨d,y'⟩:=Cs eb e;have eE:T.Jv b x=[LK T.now 4 x.id 65281]:=by unfold St.Jv;rw[if_neg U,if_neg H,y]
 have B: ∀c,T.I2 b x c=T.fin b x 65281:=λc=>by unfold St.I2;rw[if_neg U,if_neg H,y]
 rw[eE];co_applyP(aC);co_applyP oc rfl rfl rfl (g7 K F T Fr V eb b x _ (Z _).i f hE hu.i hb M C H d');rintro _ _ _ ⟨rfl,u⟩;rename_i v3 L3;rw[show x.do (T.pg x.at_ 0) (T.pg x.at_ 1) (T.pg x.at_ 2) (T.pg x.at_ 3)= .error e from y] at u;obtain⟨rfl,a⟩:=u;rw[y'];co_applyP(zo);co_applyP oc rfl rfl rfl (v' K F T Fr L3 eb b x d (λs=>(Z s).toNewK) a hE hu.i hb);rintro _ _ _ ⟨rfl,rfl,A4,G,P,I⟩;co_applyP(zo);change _=_/\kn _ _/\ ∃D G c,_;exact⟨rfl,rfl,A4,G,K,l',by rw[B];exact P _ hb,by rw[B];exact I⟩;rintro _ ε3 L3 ⟨rfl,H',X,G,c,hc,b',a⟩;co_applyP aA H';obtain⟨n',I'⟩:=q' c hc;obtain⟨z,j',hz⟩:=Lv.at a b';have V':At L3 b 6 (.int .i64 (z.used:Nat)):=⟨true,_,_,_,j',rfl⟩;co_applyP(aP);co_applyP osm rfl (hs:=bJ) (hm:=j') (hi:=by first|decide|(rw[bq];omega)|(rw[bP];omega));intro L4 a';have Q':At L4 b 2 (.int .i64 (z.st:Nat)):=⟨true,_,_,_,a'.self,by rw[m0 bx];rfl⟩;have c':(b,z)∈(T.I2 b x c).ps->Ke K X ((T.I2 b x c).ID b z.more) (G++Fr) L4:=λo=>by
  have hw:=I' z o;have w1:IntKind.i64.wrap ((z.used:Int)+1)=((z.used+1:Nat):Int):=ag
  rw[w1] at a';exact a.ID (x':=z.more) o (by unfold PS.more;rw[<-vy];exact a')
 co_applyP(bm);co_applyP aI rfl;intro h1;co_applyP(ax)
 ·have e':z.st=1:=by simp at h1;omega
  have o:(b,z)∈(T.I2 b x c).ps:=hz.elim id λh=>by omega
  have I:=c' o;have m':=n'.g.Jq (x':=z.more) o rfl rfl;have t':(b,z.more)∈((T.I2 b x c).ID b z.more).ps:=ai o;have u':=m'.lv _ t';co_applyP oc rfl rfl rfl (B' K X _ _ L4 b z.more (Z _).r I t' u' (λl hl=>m'.r8 hl) (m'.ex u') (λe he l hl=>cU e.1 hl));rintro _ _ _ ⟨rfl,rfl,A5,R',C'⟩;co_applyP(zo);refine xI _ ⟨rfl,rfl,rfl,A5,c,hc, ?_⟩;unfold St.after;rw[aY n'.g.pn o];simp only[e',if_true];exact C'.less λt N=>rv _ N
 intro h1;co_applyP(zo);change∃v,Ko .. =some v/\_;have e': ¬z.st=1:=by simp at h1;omega
 refine⟨_,rfl,rfl,rfl,X,c,hc, ?_⟩;unfold St.after;rcases hz with o|⟨o,h6⟩
 ·rw[aY n'.g.pn o];simp only[e',if_false];exact(c' o).less λt N=>rv _ N
 ·have Y:=a.fd (pb b z) (nx _ o);rw[gD λr hr=>ft (Y.2.1 r hr)];have r':=a.less (F':=Fr) λt N=>rv _ N;exact r'.off (b:=b) (ft Y.1) (λq hq=>ft (Y.2.1 q hq)) Y.2.2.1 Y.2.2.2.1 (ft Y.2.2.2.2) (a.fn.ne a.g j' (aB bx)) G' a'
end Go.Proofs.YtejkelcaljmnoaaGreatDoor
